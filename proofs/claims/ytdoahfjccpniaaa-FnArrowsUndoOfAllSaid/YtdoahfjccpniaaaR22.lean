/-
  Several texts in one.
-/
import Derived.Test.YtdoahfjccpniaaaR15
import Derived.Test.YtdoahfjccpniaaaR20
import Derived.Test.YtdoahfjccpniaaaCB
/-
  Contract: rows without cells left out.
-/
namespace Go.Proofs.Ytdoahfjccpniaaa
open Go.RowKit

set_option maxHeartbeats 400000 in
theorem stripZ_any (g c : Nat) (B : Nat) (ys : List Int) (K : Nat) (w : World) (hlen : ys.length ≤ 100) (hK : K ≤ ys.length) (hz0 : ∀ j, K ≤ j → j < ys.length → ys.getD j 0 = 0) (hK0 : 0 < K → ys.getD (K - 1) 0 ≠ 0) (ho : Own w B (some ⟨g, 0, none⟩) c ys) :
    Calls Try.prog 73 #[.slice (some ⟨g, 0, none⟩) ys.length c] w fun e w' => e = .returned (.slice (some ⟨g, 0, none⟩) K c) ∧ Own w B (some ⟨g, 0, none⟩) c (ys.take K) ∧ w = w' := by
  have HZ0 := hid hz0
  have HK0 := hid hK0
  have hcap : ys.length ≤ c := by
    rcases ho.2 with ⟨hv, _⟩ | ⟨g', cap, cur, hv, _, _, hn, _⟩
    · simp at hv
    · have : c = cap := by injection hv
      omega
  clear hz0 hK0
  go_enter Try.func73, Try.ntmps73
  go_wp2_with fail
  go_loop [3] (fun i => ∃ m : Nat, m ≤ ys.length ∧ i = .int .i64 m ∧ Hid (∀ j, m ≤ j → j < ys.length → ys.getD j 0 = 0)) (fun i => (intOf i).toNat)
  case atStart => exact ⟨ys.length, Nat.le_refl _, rfl, hid fun j h1 h2 => by omega⟩
  case round =>
    obtain ⟨m, hm, rfl, HZ⟩ := hrel
    by_cases hgo : 0 < m ∧ ys.getD (m - 1) 0 = 0
    · obtain ⟨hm0, hz⟩ := hgo
      have hcell := own_get ho (k := m - 1) (by omega)
      rw [hz] at hcell
      have hek : ((m : Int) - 1).toNat = m - 1 := by omega
      have HZ2 := hid hz
      clear hz
      go_wp2_with fail
      go_round
      case rel =>
        refine ⟨m - 1, by omega, by go_num, hid fun j h1 h2 => ?_⟩
        by_cases h : m ≤ j
        · exact HZ.out j h h2
        · have : j = m - 1 := by omega
          subst this; exact HZ2.out
      case measure => simp [intOf]; omega
    · have hmK : m = K := by
        rcases Nat.lt_trichotomy m K with h | h | h
        · exact absurd (HZ.out (K - 1) (by omega) (by omega)) (HK0.out (by omega))
        · exact h
        · exact absurd ⟨by omega, HZ0.out (m - 1) (by omega) (by omega)⟩ hgo
      subst hmK
      have how := own_prefix ho m hm
      by_cases hm0 : 0 < m
      · have hz : ys.getD (m - 1) 0 ≠ 0 := fun h => hgo ⟨hm0, h⟩
        have hcell := own_get ho (k := m - 1) (by omega)
        have hek : ((m : Int) - 1).toNat = m - 1 := by omega
        obtain ⟨x, hx⟩ : ∃ x, x = ys.getD (m - 1) 0 := ⟨_, rfl⟩
        rw [← hx] at hcell hz
        have hx0 : (x == 0) = false := beq_eq_false_iff_ne.2 hz
        have HO := hid how
        clear hx how hgo
        go_wp2_with fail
        go_ret
        exact ⟨rfl, HO.out, rfl⟩
      · have e0 : m = 0 := by omega
        subst e0
        have HO := hid how
        clear how hgo
        go_wp2_with fail
        go_ret
        exact ⟨rfl, HO.out, rfl⟩
end Go.Proofs.Ytdoahfjccpniaaa
/-
  Whether a list has a number: slices.Contains at []int and at firstHooks, the model's l1Has.
-/
namespace Go.Proofs.Ytdoahfjccpniaaa
open Go.RowKit

set_option maxHeartbeats 400000 in
theorem Index2_any (A : Option Addr) (xs : List Int) (c : Nat) (n : Int) (w : World) (hl : xs.length ≤ 1048576) (hc : Cells w A xs) :
    Calls Try.prog 51 #[.slice A xs.length c, .int .i64 n] w fun e w' => (∃ i : Int, e = .returned (.int .i64 i) ∧ (0 ≤ i ↔ n ∈ xs)) ∧ w = w' := by
  go_enter Try.func51, Try.ntmps51
  go_wp2
  go_loop [5, 8] (fun _ i => ∃ k : Nat, k ≤ xs.length ∧ i = .int .i64 k ∧ Hid (∀ j, j < k → xs.getD j 0 ≠ n)) (fun _ i => xs.length - (intOf i).toNat)
  case atStart => exact ⟨0, Nat.zero_le _, rfl, hid fun j hj => by omega⟩
  case round =>
    obtain ⟨k, hk, rfl, HN⟩ := hrel
    by_cases hlt : k < xs.length
    · obtain ⟨b, o, rfl, hcc⟩ := hc (by omega)
      have hck := hcc k hlt
      clear hcc hc
      have hmem : xs.getD k 0 ∈ xs := by rw [List.getD_eq_getElem?_getD, List.getElem?_eq_getElem hlt]; exact List.getElem_mem hlt
      obtain ⟨x, hx⟩ : ∃ x, x = xs.getD k 0 := ⟨_, rfl⟩
      rw [← hx] at hck hmem
      have HX := hid hx; clear hx
      by_cases he : n = x
      · have HM := hid hmem
        have heb : (n == x) = true := beq_iff_eq.2 he
        have HE := hid he; clear he hmem
        go_wp2
        go_ret
        exact ⟨⟨_, rfl, fun _ => HE.out ▸ HM.out, fun _ => by omega⟩, rfl⟩
      · have heb : (n == x) = false := beq_eq_false_iff_ne.2 he
        have HE := hid he; clear he hmem
        go_wp2
        go_round
        case rel =>
          refine ⟨k + 1, by omega, by go_num, hid fun j hj => ?_⟩
          by_cases h : j < k
          · exact HN.out j h
          · have : j = k := by omega
            subst this; rw [← HX.out]; exact fun e => HE.out e.symm
        case measure => simp [intOf]; omega
    · go_wp2
      go_ret
      refine ⟨⟨_, rfl, fun h => absurd h (by omega), fun hm => ?_⟩, rfl⟩
      exfalso
      obtain ⟨j, hj, e⟩ := List.getElem_of_mem hm
      refine HN.out j (by omega) ?_
      rw [List.getD_eq_getElem?_getD, List.getElem?_eq_getElem hj]
      exact e
theorem Contains2_any (A : Option Addr) (xs : List Int) (c : Nat) (n : Int) (w : World) (hl : xs.length ≤ 1048576) (hc : Cells w A xs) :
    Calls Try.prog 44 #[.slice A xs.length c, .int .i64 n] w fun e w' => e = .returned (.bool (decide (n ∈ xs))) ∧ w = w' := by
  go_enter Try.func44, Try.ntmps44
  go_wp2_with (go_at_call 51; refine (Index2_any _ _ _ _ _ hl hc).mono ?_; rintro e w' ⟨⟨i, rfl, hi⟩, rfl⟩)
  go_ret
  exact ⟨ret_bool (by simp), rfl⟩
theorem Contains2_b (A : Option Addr) (xs : List Int) (c : Nat) (n : Int) (w : World) (hl : xs.length ≤ 1048576) (hc : Cells w A xs) (b : Bool) (h : decide (n ∈ xs) = b) :
    Calls Try.prog 44 #[.slice A xs.length c, .int .i64 n] w fun e w' => e = .returned (.bool b) ∧ w = w' := by
  subst h; exact Contains2_any A xs c n w hl hc
/-- Whether n - s is among the hooks, or n is at most s. -/
def hbB (xs : List Int) (n s : Int) : Bool := decide (n ≤ s) || decide (n - s ∈ xs)
end Go.Proofs.Ytdoahfjccpniaaa
