/-
  Several texts in one.
-/
import Derived.Test.YtelfapheigobeaaR05
import Derived.Test.YtelfapheigobeaaCB
/-
  The beads of Maya's numbers, as the program pushes them.
-/
namespace Go.Proofs.Ytelfapheigobeaa
open Go.RowKit

def upG (m : List Int) (n k : Nat) : List Int := (upTo k).filter fun a => decide (a - (n : Int) ∉ m)
theorem upG_yes {m : List Int} {n k : Nat} (h : ¬ ((k : Int) - n) ∈ m) : upG m n (k + 1) = upG m n k ++ [(k : Int)] := by
  unfold upG; rw [upTo_succ, List.filter_append]; congr 1; simp [h]
theorem upG_no {m : List Int} {n k : Nat} (h : ((k : Int) - n) ∈ m) : upG m n (k + 1) = upG m n k := by
  unfold upG; rw [upTo_succ, List.filter_append]; simp [h]
theorem upG_len (m : List Int) (n k : Nat) : (upG m n k).length ≤ k := by
  have := List.length_filter_le (fun a => decide (a - (n : Int) ∉ m)) (upTo k)
  rw [upTo_len] at this; exact this
theorem upTo_below (n : Nat) : upTo n = (below n).reverse.map fun x => x + (n : Int) := by
  apply List.ext_getElem
  · simp [upTo_len, below]
  · intro i h1 h2
    have e : (upTo n).getD i 0 = i := fnRow_get _ _ _ (by rw [upTo_len] at h1; exact h1)
    rw [getD_in h1] at e
    rw [e, List.getElem_map, List.getElem_reverse]
    rw [upTo_len] at h1
    simp [below]; omega
theorem upG_end (m : List Int) (n : Nat) : upG m n n = (gaps m n).reverse.map fun x => x + (n : Int) := by
  unfold upG gaps
  rw [upTo_below, List.filter_map, List.filter_reverse]
  congr 2
  apply List.filter_congr
  intro x _
  simp only [Function.comp]
  rw [show x + (n : Int) - n = x by omega]
def posU (n : Int) (pre : List (Int × Int)) : List Int := pre.filterMap fun x => if 0 ≤ x.2 then some (wrap64 (x.2 + n)) else none
theorem posU_hit (n : Int) (pre : List (Int × Int)) {x : Int × Int} (h : 0 ≤ x.2) : posU n (pre ++ [x]) = posU n pre ++ [wrap64 (x.2 + n)] := by simp [posU, h]
theorem posU_miss (n : Int) (pre : List (Int × Int)) {x : Int × Int} (h : ¬ 0 ≤ x.2) : posU n (pre ++ [x]) = posU n pre := by simp [posU, h]
theorem posU_len (n : Int) (pre : List (Int × Int)) : (posU n pre).length ≤ pre.length := List.length_filterMap_le _ _
theorem posU_drop {m : List Int} (M : MO m) (n : Nat) (hn : n ≤ 30) : ∀ k, k ≤ m.length → posU n (upto (bk m) k) = ((posPart (m.drop (m.length - k))).reverse.map fun x => x + (n : Int))
  | 0, _ => by simp [upto, posU, posPart]
  | k + 1, hk => by
    have ih := posU_drop M n hn k (by omega)
    have hlt : m.length - 1 - k < m.length := by omega
    have hb : bk m k = (((m.length - 1 - k : Nat) : Int), m[m.length - 1 - k]) := by unfold bk; rw [getD_in hlt]
    have hd : m.drop (m.length - (k + 1)) = m[m.length - 1 - k] :: m.drop (m.length - k) := by
      rw [show m.length - (k + 1) = m.length - 1 - k by omega, List.drop_eq_getElem_cons hlt, show m.length - 1 - k + 1 = m.length - k by omega]
    rw [upto_succ, hd]
    have hx := M.lo _ (List.getElem_mem hlt)
    by_cases h : 0 ≤ m[m.length - 1 - k]
    · rw [posU_hit n _ (by rw [hb]; exact h), ih, hb]
      have e : posPart (m[m.length - 1 - k] :: m.drop (m.length - k)) = m[m.length - 1 - k] :: posPart (m.drop (m.length - k)) := by simp [posPart, h]
      rw [e, List.reverse_cons, List.map_append]
      congr 1
      show [wrap64 (m[m.length - 1 - k] + (n : Int))] = [m[m.length - 1 - k] + (n : Int)]
      rw [IntWalk.wrap64_in _ (by omega)]
    · rw [posU_miss n _ (by rw [hb]; exact h), ih]
      have e : posPart (m[m.length - 1 - k] :: m.drop (m.length - k)) = posPart (m.drop (m.length - k)) := by simp [posPart, h]
      rw [e]
theorem beads_pushed {m : List Int} (M : MO m) : upG m (mn m) (mn m) ++ posU (mn m) (upto (bk m) m.length) = beadsM m := by
  rw [upG_end, posU_drop M _ (mn_le M) _ (Nat.le_refl _), Nat.sub_self, List.drop_zero]
  unfold beadsM hold
  rw [List.reverse_append, List.map_append]
theorem MO_last {m : List Int} (M : MO m) (h : 0 < m.length) : m.getD (m.length - 1) 0 = -(mn m : Int) ∧ 0 < mn m := by
  have := M.sign (m.length - 1) (by omega)
  have := M.even
  have h2 : ¬ 0 ≤ m.getD (m.length - 1) 0 := fun e => by have := (M.sign (m.length - 1) (by omega)).2 e; omega
  unfold mn; omega
theorem un_nil : unF [] = [] ∧ unOk [] = true := by
  have h : MO [] := ⟨by simp, by simp, List.Pairwise.nil, by simp, by simp⟩
  have h2 : unOut [] = [] := rfl
  have : unOk [] = true := by
    unfold unOk; rw [moB_iff.2 h, h2]; rfl
  exact ⟨by rw [unF_yes this]; exact h2, this⟩
end Go.Proofs.Ytelfapheigobeaa
/-
  Contract: isMaya of the program.
-/
namespace Go.Proofs.Ytelfapheigobeaa
open Go.RowKit

set_option maxRecDepth 100000 in
set_option maxHeartbeats 2000000 in
theorem isMaya_any (A : Option Addr) (c : Nat) (m : List Int) (w : World) (hl : m.length ≤ 1048576) (hc : Cells w A m) :
    Calls Try.prog 29 #[.slice A m.length c] w fun e w' => e = .returned (.bool (moB m)) ∧ w = w' := by
  by_cases h1 : 60 < m.length
  · rw [show moB m = false by simp [moB]; omega]
    go_enter Try.func29, Try.ntmps29
    go_wp2
    go_ret
    exact ⟨rfl, rfl⟩
  have hmod : (m.length : Int).tmod 2 = ((m.length % 2 : Nat) : Int) := rfl
  by_cases h2 : m.length % 2 = 0
  · rw [h2] at hmod
    have hdiv : (m.length : Int).tdiv 2 = ((m.length / 2 : Nat) : Int) := rfl
    obtain ⟨h, hh⟩ : ∃ h, h = m.length / 2 := ⟨_, rfl⟩
    rw [← hh] at hdiv
    have HH := hid hh
    have H2 := hid h2
    have h60 : m.length ≤ 60 := by omega
    have hh30 : h ≤ 30 := by omega
    have hwh : IntKind.i64.wrap (h : Int) = h := IntWalk.i64_in _ (by omega)
    have hwh2 : wrap64 (h : Int) = h := IntWalk.wrap64_in _ (by omega)
    clear h1 h2 hh
    go_enter Try.func29, Try.ntmps29
    go_wp2_with fail
    go_loop [16] (fun i => ∃ k : Nat, k ≤ m.length ∧ i = .int .i64 k ∧ ∀ j, j < k → okM m j = true) (fun i => m.length - (intOf i).toNat)
    case atStart => exact ⟨0, Nat.zero_le _, rfl, fun j hj => by omega⟩
    case round =>
      obtain ⟨k, hk, rfl, hok⟩ := hrel
      have HOK := hid hok
      clear hok
      by_cases hlt : k < m.length
      · obtain ⟨b, o, rfl, hcc⟩ := hc (by omega)
        have hck := hcc k hlt
        obtain ⟨x, hx⟩ : ∃ x, x = m.getD k 0 := ⟨_, rfl⟩
        rw [← hx] at hck
        have NO : okM m k = false → moB m = false := moB_no hlt
        have YES : okM m k = true → ∀ j, j < k + 1 → okM m j = true := fun h j hj => by
          rcases Nat.lt_or_ge j k with h1 | h1
          · exact HOK.out j h1
          · rw [show j = k by omega]; exact h
        have DEF : okM m k = (decide (-30 ≤ x) && (decide (x < 30) && ((decide (k = 0) || decide (x < m.getD (k - 1) 0)) && (decide (k < h) == decide (0 ≤ x))))) := by rw [hx, HH.out]; rfl
        have HN := hid NO
        have HY := hid YES
        have HD := hid DEF
        clear NO YES DEF hx
        by_cases g3 : k = 0
        · have hck0 : w.cell? ⟨b, o, none⟩ = some (.int .i64 x) := by rw [g3] at hck; simpa using hck
          clear hcc hc hck
          subst g3
          by_cases g1 : x < -30
          · go_wp2_with fail
            go_ret
            exact ⟨ret_bool (HN.out (by cases e : okM m 0 with | false => rfl | true => (rw [HD.out] at e; simp at e; omega))).symm, rfl⟩
          by_cases g2 : 30 ≤ x
          · go_wp2_with fail
            go_ret
            exact ⟨ret_bool (HN.out (by cases e : okM m 0 with | false => rfl | true => (rw [HD.out] at e; simp at e; omega))).symm, rfl⟩
          by_cases c1 : 0 < h
          · by_cases c2 : 0 ≤ x
            · go_wp2_with fail
              go_round
              case rel => exact ⟨1, by omega, by first | rfl | go_num, fun j hj => HY.out (by rw [HD.out]; simp; omega) j (by omega)⟩
              case measure => simp [intOf]; omega
            · go_wp2_with fail
              go_ret
              exact ⟨ret_bool (HN.out (by cases e : okM m 0 with | false => rfl | true => (rw [HD.out] at e; simp at e; omega))).symm, rfl⟩
          · by_cases c2 : 0 ≤ x
            · go_wp2_with fail
              go_ret
              exact ⟨ret_bool (HN.out (by cases e : okM m 0 with | false => rfl | true => (rw [HD.out] at e; simp at e; omega))).symm, rfl⟩
            · go_wp2_with fail
              go_round
              case rel => exact ⟨1, by omega, by first | rfl | go_num, fun j hj => HY.out (by rw [HD.out]; simp; omega) j (by omega)⟩
              case measure => simp [intOf]; omega
        have hcp := hcc (k - 1) (by omega)
        have hw1 : IntKind.i64.wrap ((k : Int) - 1) = ((k - 1 : Nat) : Int) := by rw [IntWalk.i64_in _ (by omega)]; omega
        obtain ⟨k1, hk1⟩ : ∃ k1, k1 = k - 1 := ⟨_, rfl⟩
        have HD2 := hid (HD.out.trans (by rw [← hk1]))
        rw [← hk1] at hcp hw1
        have hk1l : k1 < m.length := by omega
        have hk0 : 0 < k := by omega
        obtain ⟨y, hy⟩ : ∃ y, y = m.getD k1 0 := ⟨_, rfl⟩
        have HD := hid (HD2.out.trans (by rw [← hy]))
        rw [← hy] at hcp
        clear hy hk1 HD2 hcc hc g3
        by_cases g1 : x < -30
        · go_wp2_with fail
          go_ret
          exact ⟨ret_bool (HN.out (by cases e : okM m k with | false => rfl | true => (rw [HD.out] at e; simp at e; omega))).symm, rfl⟩
        by_cases g2 : 30 ≤ x
        · go_wp2_with fail
          go_ret
          exact ⟨ret_bool (HN.out (by cases e : okM m k with | false => rfl | true => (rw [HD.out] at e; simp at e; omega))).symm, rfl⟩
        by_cases g4 : x < y
        · by_cases c1 : k < h
          · by_cases c2 : 0 ≤ x
            · go_wp2_with fail
              go_round
              case rel => exact ⟨k + 1, by omega, by go_num, HY.out (by rw [HD.out]; simp; omega)⟩
              case measure => simp [intOf]; omega
            · go_wp2_with fail
              go_ret
              exact ⟨ret_bool (HN.out (by cases e : okM m k with | false => rfl | true => (rw [HD.out] at e; simp at e; omega))).symm, rfl⟩
          · by_cases c2 : 0 ≤ x
            · go_wp2_with fail
              go_ret
              exact ⟨ret_bool (HN.out (by cases e : okM m k with | false => rfl | true => (rw [HD.out] at e; simp at e; omega))).symm, rfl⟩
            · go_wp2_with fail
              go_round
              case rel => exact ⟨k + 1, by omega, by go_num, HY.out (by rw [HD.out]; simp; omega)⟩
              case measure => simp [intOf]; omega
        · go_wp2_with fail
          go_ret
          exact ⟨ret_bool (HN.out (by cases e : okM m k with | false => rfl | true => (rw [HD.out] at e; simp at e; omega))).symm, rfl⟩
      · have hke : k = m.length := by omega
        subst hke
        have hyes : moB m = true := by
          simp only [moB, Bool.and_eq_true, decide_eq_true_eq, List.all_eq_true, List.mem_range]
          exact ⟨h60, H2.out, fun j hj => HOK.out j hj⟩
        have HYE := hid hyes; clear hyes
        go_wp2_with fail
        go_ret
        exact ⟨ret_bool HYE.out.symm, rfl⟩
  · have h2' : m.length % 2 = 1 := by omega
    rw [show moB m = false by simp [moB, h2']]
    rw [h2'] at hmod
    clear h2 h2'
    go_enter Try.func29, Try.ntmps29
    go_wp2
    go_ret
    exact ⟨rfl, rfl⟩
end Go.Proofs.Ytelfapheigobeaa
