/-
  Contract: isMaya of the program.
-/
import Derived.Test.YtpokehnjpakgcaaUnMath
import Derived.Test.YtpokehnjpakgcaaCB
namespace Go.Proofs.Ytpokehnjpakgcaa
open Go.RowKit

set_option maxRecDepth 100000 in
set_option maxHeartbeats 2000000 in
theorem isMaya_any (A : Option Addr) (c : Nat) (m : List Int) (w : World) (hl : m.length ≤ 1048576) (hc : Cells w A m) :
    Calls Try.prog 31 #[.slice A m.length c] w fun e w' => e = .returned (.bool (moB m)) ∧ w = w' := by
  by_cases h1 : 60 < m.length
  · rw [show moB m = false by simp [moB]; omega]
    go_enter Try.func31, Try.ntmps31
    go_wp2
    go_ret
    exact ⟨rfl, rfl⟩
  have hmod : (m.length : Int).tmod 2 = ((m.length % 2 : Nat) : Int) := rfl
  by_cases h2 : m.length % 2 = 0
  · rw [h2] at hmod
    have hdiv : (m.length : Int).tdiv 2 = ((m.length / 2 : Nat) : Int) := rfl
    obtain ⟨h, hh⟩ : ∃ h, h = m.length / 2 := ⟨_, rfl⟩
    rw [← hh] at hdiv
    have HH := hid hh
    have H2 := hid h2
    have h60 : m.length ≤ 60 := by omega
    have hh30 : h ≤ 30 := by omega
    have hwh : IntKind.i64.wrap (h : Int) = h := IntWalk.i64_in _ (by omega)
    have hwh2 : wrap64 (h : Int) = h := IntWalk.wrap64_in _ (by omega)
    clear h1 h2 hh
    go_enter Try.func31, Try.ntmps31
    go_wp2_with fail
    go_loop [16] (fun i => ∃ k : Nat, k ≤ m.length ∧ i = .int .i64 k ∧ ∀ j, j < k → okM m j = true) (fun i => m.length - (intOf i).toNat)
    case atStart => exact ⟨0, Nat.zero_le _, rfl, fun j hj => by omega⟩
    case round =>
      obtain ⟨k, hk, rfl, hok⟩ := hrel
      have HOK := hid hok
      clear hok
      by_cases hlt : k < m.length
      · obtain ⟨b, o, rfl, hcc⟩ := hc (by omega)
        have hck := hcc k hlt
        obtain ⟨x, hx⟩ : ∃ x, x = m.getD k 0 := ⟨_, rfl⟩
        rw [← hx] at hck
        have NO : okM m k = false → moB m = false := moB_no hlt
        have YES : okM m k = true → ∀ j, j < k + 1 → okM m j = true := fun h j hj => by
          rcases Nat.lt_or_ge j k with h1 | h1
          · exact HOK.out j h1
          · rw [show j = k by omega]; exact h
        have DEF : okM m k = (decide (-30 ≤ x) && (decide (x < 30) && ((decide (k = 0) || decide (x < m.getD (k - 1) 0)) && (decide (k < h) == decide (0 ≤ x))))) := by rw [hx, HH.out]; rfl
        have HN := hid NO
        have HY := hid YES
        have HD := hid DEF
        clear NO YES DEF hx
        by_cases g3 : k = 0
        · have hck0 : w.cell? ⟨b, o, none⟩ = some (.int .i64 x) := by rw [g3] at hck; simpa using hck
          clear hcc hc hck
          subst g3
          by_cases g1 : x < -30
          · go_wp2_with fail
            go_ret
            exact ⟨ret_bool (HN.out (by cases e : okM m 0 with | false => rfl | true => (rw [HD.out] at e; simp at e; omega))).symm, rfl⟩
          by_cases g2 : 30 ≤ x
          · go_wp2_with fail
            go_ret
            exact ⟨ret_bool (HN.out (by cases e : okM m 0 with | false => rfl | true => (rw [HD.out] at e; simp at e; omega))).symm, rfl⟩
          by_cases c1 : 0 < h
          · by_cases c2 : 0 ≤ x
            · go_wp2_with fail
              go_round
              case rel => exact ⟨1, by omega, by first | rfl | go_num, fun j hj => HY.out (by rw [HD.out]; simp; omega) j (by omega)⟩
              case measure => simp [intOf]; omega
            · go_wp2_with fail
              go_ret
              exact ⟨ret_bool (HN.out (by cases e : okM m 0 with | false => rfl | true => (rw [HD.out] at e; simp at e; omega))).symm, rfl⟩
          · by_cases c2 : 0 ≤ x
            · go_wp2_with fail
              go_ret
              exact ⟨ret_bool (HN.out (by cases e : okM m 0 with | false => rfl | true => (rw [HD.out] at e; simp at e; omega))).symm, rfl⟩
            · go_wp2_with fail
              go_round
              case rel => exact ⟨1, by omega, by first | rfl | go_num, fun j hj => HY.out (by rw [HD.out]; simp; omega) j (by omega)⟩
              case measure => simp [intOf]; omega
        have hcp := hcc (k - 1) (by omega)
        have hw1 : IntKind.i64.wrap ((k : Int) - 1) = ((k - 1 : Nat) : Int) := by rw [IntWalk.i64_in _ (by omega)]; omega
        obtain ⟨k1, hk1⟩ : ∃ k1, k1 = k - 1 := ⟨_, rfl⟩
        have HD2 := hid (HD.out.trans (by rw [← hk1]))
        rw [← hk1] at hcp hw1
        have hk1l : k1 < m.length := by omega
        have hk0 : 0 < k := by omega
        obtain ⟨y, hy⟩ : ∃ y, y = m.getD k1 0 := ⟨_, rfl⟩
        have HD := hid (HD2.out.trans (by rw [← hy]))
        rw [← hy] at hcp
        clear hy hk1 HD2 hcc hc g3
        by_cases g1 : x < -30
        · go_wp2_with fail
          go_ret
          exact ⟨ret_bool (HN.out (by cases e : okM m k with | false => rfl | true => (rw [HD.out] at e; simp at e; omega))).symm, rfl⟩
        by_cases g2 : 30 ≤ x
        · go_wp2_with fail
          go_ret
          exact ⟨ret_bool (HN.out (by cases e : okM m k with | false => rfl | true => (rw [HD.out] at e; simp at e; omega))).symm, rfl⟩
        by_cases g4 : x < y
        · by_cases c1 : k < h
          · by_cases c2 : 0 ≤ x
            · go_wp2_with fail
              go_round
              case rel => exact ⟨k + 1, by omega, by go_num, HY.out (by rw [HD.out]; simp; omega)⟩
              case measure => simp [intOf]; omega
            · go_wp2_with fail
              go_ret
              exact ⟨ret_bool (HN.out (by cases e : okM m k with | false => rfl | true => (rw [HD.out] at e; simp at e; omega))).symm, rfl⟩
          · by_cases c2 : 0 ≤ x
            · go_wp2_with fail
              go_ret
              exact ⟨ret_bool (HN.out (by cases e : okM m k with | false => rfl | true => (rw [HD.out] at e; simp at e; omega))).symm, rfl⟩
            · go_wp2_with fail
              go_round
              case rel => exact ⟨k + 1, by omega, by go_num, HY.out (by rw [HD.out]; simp; omega)⟩
              case measure => simp [intOf]; omega
        · go_wp2_with fail
          go_ret
          exact ⟨ret_bool (HN.out (by cases e : okM m k with | false => rfl | true => (rw [HD.out] at e; simp at e; omega))).symm, rfl⟩
      · have hke : k = m.length := by omega
        subst hke
        have hyes : moB m = true := by
          simp only [moB, Bool.and_eq_true, decide_eq_true_eq, List.all_eq_true, List.mem_range]
          exact ⟨h60, H2.out, fun j hj => HOK.out j hj⟩
        have HYE := hid hyes; clear hyes
        go_wp2_with fail
        go_ret
        exact ⟨ret_bool HYE.out.symm, rfl⟩
  · have h2' : m.length % 2 = 1 := by omega
    rw [show moB m = false by simp [moB, h2']]
    rw [h2'] at hmod
    clear h2 h2'
    go_enter Try.func31, Try.ntmps31
    go_wp2
    go_ret
    exact ⟨rfl, rfl⟩
end Go.Proofs.Ytpokehnjpakgcaa
