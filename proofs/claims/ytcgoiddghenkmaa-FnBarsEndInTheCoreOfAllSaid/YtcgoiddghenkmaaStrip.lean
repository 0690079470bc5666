/-
  Contract: rows without cells left out.
-/
import Derived.Test.YtcgoiddghenkmaaOwnCopy
import Derived.Test.YtcgoiddghenkmaaAddable
namespace Go.Proofs.Ytcgoiddghenkmaa
open Go.RowKit

set_option maxHeartbeats 400000 in
theorem stripZ_any (g c : Nat) (B : Nat) (ys : List Int) (K : Nat) (w : World) (hlen : ys.length ≤ 100) (hK : K ≤ ys.length) (hz0 : ∀ j, K ≤ j → j < ys.length → ys.getD j 0 = 0) (hK0 : 0 < K → ys.getD (K - 1) 0 ≠ 0) (ho : Own w B (some ⟨g, 0, none⟩) c ys) :
    Calls Try.prog 41 #[.slice (some ⟨g, 0, none⟩) ys.length c] w fun e w' => e = .returned (.slice (some ⟨g, 0, none⟩) K c) ∧ Own w B (some ⟨g, 0, none⟩) c (ys.take K) ∧ w = w' := by
  have HZ0 := hid hz0
  have HK0 := hid hK0
  have hcap : ys.length ≤ c := by
    rcases ho.2 with ⟨hv, _⟩ | ⟨g', cap, cur, hv, _, _, hn, _⟩
    · simp at hv
    · have : c = cap := by injection hv
      omega
  clear hz0 hK0
  go_enter Try.func41, Try.ntmps41
  go_wp2_with fail
  go_loop [3] (fun i => ∃ m : Nat, m ≤ ys.length ∧ i = .int .i64 m ∧ Hid (∀ j, m ≤ j → j < ys.length → ys.getD j 0 = 0)) (fun i => (intOf i).toNat)
  case atStart => exact ⟨ys.length, Nat.le_refl _, rfl, hid fun j h1 h2 => by omega⟩
  case round =>
    obtain ⟨m, hm, rfl, HZ⟩ := hrel
    by_cases hgo : 0 < m ∧ ys.getD (m - 1) 0 = 0
    · obtain ⟨hm0, hz⟩ := hgo
      have hcell := own_get ho (k := m - 1) (by omega)
      rw [hz] at hcell
      have hek : ((m : Int) - 1).toNat = m - 1 := by omega
      have HZ2 := hid hz
      clear hz
      go_wp2_with fail
      go_round
      case rel =>
        refine ⟨m - 1, by omega, by go_num, hid fun j h1 h2 => ?_⟩
        by_cases h : m ≤ j
        · exact HZ.out j h h2
        · have : j = m - 1 := by omega
          subst this; exact HZ2.out
      case measure => simp [intOf]; omega
    · have hmK : m = K := by
        rcases Nat.lt_trichotomy m K with h | h | h
        · exact absurd (HZ.out (K - 1) (by omega) (by omega)) (HK0.out (by omega))
        · exact h
        · exact absurd ⟨by omega, HZ0.out (m - 1) (by omega) (by omega)⟩ hgo
      subst hmK
      have how := own_prefix ho m hm
      by_cases hm0 : 0 < m
      · have hz : ys.getD (m - 1) 0 ≠ 0 := fun h => hgo ⟨hm0, h⟩
        have hcell := own_get ho (k := m - 1) (by omega)
        have hek : ((m : Int) - 1).toNat = m - 1 := by omega
        obtain ⟨x, hx⟩ : ∃ x, x = ys.getD (m - 1) 0 := ⟨_, rfl⟩
        rw [← hx] at hcell hz
        have hx0 : (x == 0) = false := beq_eq_false_iff_ne.2 hz
        have HO := hid how
        clear hx how hgo
        go_wp2_with fail
        go_ret
        exact ⟨rfl, HO.out, rfl⟩
      · have e0 : m = 0 := by omega
        subst e0
        have HO := hid how
        clear how hgo
        go_wp2_with fail
        go_ret
        exact ⟨rfl, HO.out, rfl⟩
end Go.Proofs.Ytcgoiddghenkmaa
