/-
  Several texts in one.
-/
import Derived.Test.YthkkiakfmbnfeaaR06
import Derived.Test.YthkkiakfmbnfeaaR35
import Derived.Test.YthkkiakfmbnfeaaR17
import Derived.Test.YthkkiakfmbnfeaaR08
/-
  Contract: rows without cells left out.
-/
namespace Go.Proofs.Ythkkiakfmbnfeaa
open Go.RowKit

set_option maxHeartbeats 400000 in
theorem stripZ_any (g c : Nat) (B : Nat) (ys : List Int) (K : Nat) (w : World) (hlen : ys.length ≤ 100) (hK : K ≤ ys.length) (hz0 : ∀ j, K ≤ j → j < ys.length → ys.getD j 0 = 0) (hK0 : 0 < K → ys.getD (K - 1) 0 ≠ 0) (ho : Own w B (some ⟨g, 0, none⟩) c ys) :
    Calls Try.prog 58 #[.slice (some ⟨g, 0, none⟩) ys.length c] w fun e w' => e = .returned (.slice (some ⟨g, 0, none⟩) K c) ∧ Own w B (some ⟨g, 0, none⟩) c (ys.take K) ∧ w = w' := by
  have HZ0 := hid hz0
  have HK0 := hid hK0
  have hcap : ys.length ≤ c := by
    rcases ho.2 with ⟨hv, _⟩ | ⟨g', cap, cur, hv, _, _, hn, _⟩
    · simp at hv
    · have : c = cap := by injection hv
      omega
  clear hz0 hK0
  go_enter Try.func58, Try.ntmps58
  go_wp2_with fail
  go_loop [3] (fun i => ∃ m : Nat, m ≤ ys.length ∧ i = .int .i64 m ∧ Hid (∀ j, m ≤ j → j < ys.length → ys.getD j 0 = 0)) (fun i => (intOf i).toNat)
  case atStart => exact ⟨ys.length, Nat.le_refl _, rfl, hid fun j h1 h2 => by omega⟩
  case round =>
    obtain ⟨m, hm, rfl, HZ⟩ := hrel
    by_cases hgo : 0 < m ∧ ys.getD (m - 1) 0 = 0
    · obtain ⟨hm0, hz⟩ := hgo
      have hcell := own_get ho (k := m - 1) (by omega)
      rw [hz] at hcell
      have hek : ((m : Int) - 1).toNat = m - 1 := by omega
      have HZ2 := hid hz
      clear hz
      go_wp2_with fail
      go_round
      case rel =>
        refine ⟨m - 1, by omega, by go_num, hid fun j h1 h2 => ?_⟩
        by_cases h : m ≤ j
        · exact HZ.out j h h2
        · have : j = m - 1 := by omega
          subst this; exact HZ2.out
      case measure => simp [intOf]; omega
    · have hmK : m = K := by
        rcases Nat.lt_trichotomy m K with h | h | h
        · exact absurd (HZ.out (K - 1) (by omega) (by omega)) (HK0.out (by omega))
        · exact h
        · exact absurd ⟨by omega, HZ0.out (m - 1) (by omega) (by omega)⟩ hgo
      subst hmK
      have how := own_prefix ho m hm
      by_cases hm0 : 0 < m
      · have hz : ys.getD (m - 1) 0 ≠ 0 := fun h => hgo ⟨hm0, h⟩
        have hcell := own_get ho (k := m - 1) (by omega)
        have hek : ((m : Int) - 1).toNat = m - 1 := by omega
        obtain ⟨x, hx⟩ : ∃ x, x = ys.getD (m - 1) 0 := ⟨_, rfl⟩
        rw [← hx] at hcell hz
        have hx0 : (x == 0) = false := beq_eq_false_iff_ne.2 hz
        have HO := hid how
        clear hx how hgo
        go_wp2_with fail
        go_ret
        exact ⟨rfl, HO.out, rfl⟩
      · have e0 : m = 0 := by omega
        subst e0
        have HO := hid how
        clear how hgo
        go_wp2_with fail
        go_ret
        exact ⟨rfl, HO.out, rfl⟩
end Go.Proofs.Ythkkiakfmbnfeaa
/-
  Contracts: the reflection of cores of the program.
-/
namespace Go.Proofs.Ythkkiakfmbnfeaa
open Go.RowKit

set_option maxHeartbeats 400000 in
theorem content_at (r k : Nat) (w : World) (hr : r ≤ 1000) (hk : k ≤ 1000) : Calls Try.prog 54 #[.agg #[.int .i64 r, .int .i64 k]] w fun e w' => e = .returned (.int .i64 (contN r k)) ∧ Below w.heap.size w w' := by
  go_enter Try.func54, Try.ntmps54
  go_wp2
  go_ret
  exact ⟨rfl, (Below.refl _ _).alloc (Nat.le_refl _) _⟩
set_option maxHeartbeats 1000000 in
theorem hasRes_any (T I : Nat) (t : Nat) (i : Int) (r k : Nat) (w : World) (ht : 2 ≤ t ∧ t ≤ 6) (hr : r ≤ 1000) (hk : k ≤ 1000) (h1 : w.cell? ⟨T, 0, none⟩ = some (.int .i64 t)) (h2 : w.cell? ⟨I, 0, none⟩ = some (.int .i64 i)) :
    Calls Try.prog 53 #[.agg #[.int .i64 r, .int .i64 k], .pointer (some ⟨T, 0, none⟩), .pointer (some ⟨I, 0, none⟩)] w fun e w' => e = .returned (.bool (decide (((k : Int) - r) % (t : Int) = i))) ∧ Below w.heap.size w w' := by
  have hb1 : T < w.heap.size := World.block_lt_of_cell? w _ h1
  have hb2 : I < w.heap.size := World.block_lt_of_cell? w _ h2
  obtain ⟨wb, hwb⟩ : ∃ wb, wb = w.alloc (.cells #[.int .i64 r, .int .i64 k] 61) := ⟨_, rfl⟩
  have y0 : Box2 wb w.heap.size 61 (.int .i64 r) (.int .i64 k) := by rw [hwb]; exact Box2.new _ _ _ _
  have B0 : Below w.heap.size w wb := by rw [hwb]; exact (Below.refl _ _).alloc (Nat.le_refl _) _
  have hsz : wb.heap.size = w.heap.size + 1 := by rw [hwb]; simp
  have c1 : wb.drew.cell? ⟨T, 0, none⟩ = some (.int .i64 t) := (B0.cell hb1).trans h1
  have c2 : wb.drew.cell? ⟨I, 0, none⟩ = some (.int .i64 i) := (B0.cell hb2).trans h2
  have p0 : wb.drew.cell? ⟨w.heap.size, 0, none⟩ = some (.int .i64 r) := y0.cell0
  have p1 : wb.drew.cell? ⟨w.heap.size, 1, none⟩ = some (.int .i64 k) := y0.cell1
  have hcn : contN r k = (k : Int) - r := rfl
  have hl1 : T < wb.drew.heap.size := by show T < wb.heap.size; omega
  have hl2 : I < wb.drew.heap.size := by show I < wb.heap.size; omega
  have HB0 := hid (show Below w.heap.size w wb.drew from B0.drew)
  have hwb' := hwb
  clear y0 B0 hwb
  obtain ⟨z, hz⟩ : ∃ z, z = (k : Int) - r := ⟨_, rfl⟩
  rw [← hz] at hcn ⊢
  have HCO := hid fun W => content_at r k W hr hk
  rw [hcn] at HCO
  have HRE := hid fun W => residueOf_any z t W ht
  obtain ⟨y, hy⟩ : ∃ y, y = z % (t : Int) := ⟨_, rfl⟩
  rw [← hy] at HRE ⊢
  clear hy hz hcn
  have HSZ := hid hsz
  go_enter Try.func53, Try.ntmps53
  clear hsz
  go_wp2_with fail
  rw [← hwb']
  clear hwb'
  go_region_with (first | (go_at_call 54; refine (HCO.out _).mono ?_; rintro e w3 ⟨rfl, b3⟩; have t3 := (b3.cell hl1).trans c1; have i3 := (b3.cell hl2).trans c2; have B3 := hid (Below.next HB0.out b3)) | (go_at_call 50; refine (HRE.out _).mono ?_; rintro e w4 ⟨rfl, rfl⟩))
  all_goals
    go_wp2_with fail
    go_ret
    exact ⟨ret_bool rfl, B3.out⟩
end Go.Proofs.Ythkkiakfmbnfeaa
