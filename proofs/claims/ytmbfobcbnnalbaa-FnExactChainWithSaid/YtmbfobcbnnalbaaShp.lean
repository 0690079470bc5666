/-
  Contracts: a shape made of parts, and its parts again.
-/
import Derived.Test.YtmbfobcbnnalbaaCE
import Derived.Test.YtmbfobcbnnalbaaStrip
import Derived.Test.YtmbfobcbnnalbaaChnMath
import Derived.Test.YtmbfobcbnnalbaaCB
import Derived.Laws.CopyOwn
namespace Go.Proofs.Ytmbfobcbnnalbaa
open Go.RowKit

/-- The cells of a shape. -/
theorem addr_plus (b o j : Nat) : (⟨b, o, none⟩ : Addr).add j = ⟨b, o + j, none⟩ := by
  cases j with
  | zero => rfl
  | succ j => rfl
def shC (p : List Int) : Nat → Value := fun j => .int .i64 (p.getD j 0)
def shV (p : List Int) : Value := .agg (ca 12 (shC p))
def zShp : Array Value := #[.int .i64 0, .int .i64 0, .int .i64 0, .int .i64 0, .int .i64 0, .int .i64 0, .int .i64 0, .int .i64 0, .int .i64 0, .int .i64 0, .int .i64 0, .int .i64 0]
theorem zShp_ca : zShp = ca 12 (shC []) := by
  rw [ca_ext (d := fun _ => .int .i64 0) (fun k _ => by simp [shC])]; rfl
theorem shp_splice (p : List Int) (h : p.length ≤ 12) : (splice zShp.toList 0 (IL p)).toArray = ca 12 (shC p) := by
  have hl : (IL p).length = p.length := by simp [IL]
  rw [zShp_ca]
  unfold splice ca
  congr 1
  apply List.ext_getElem?
  intro j
  rw [List.take_zero, List.nil_append, Nat.zero_add, hl]
  by_cases hj : j < 12
  · rw [caL_get _ _ _ hj]
    by_cases h1 : j < p.length
    · rw [List.getElem?_append_left (by omega), IL_get p j h1]; rfl
    · rw [List.getElem?_append_right (by omega), hl, List.getElem?_drop, show p.length + (j - p.length) = j by omega]
      have e : (caL 12 (shC ([] : List Int))).toArray.toList = caL 12 (shC []) := rfl
      rw [e, caL_get _ _ _ hj]
      unfold shC
      rw [getD_past p j (by omega)]; simp
  · have e1 : (IL p ++ List.drop p.length (caL 12 (shC ([] : List Int))).toArray.toList)[j]? = none := List.getElem?_eq_none (by
      have : ((caL 12 (shC ([] : List Int))).toArray.toList).length = 12 := caL_len _ _
      rw [List.length_append, List.length_drop, this, hl]; omega)
    rw [e1]
    exact (List.getElem?_eq_none (by rw [caL_len]; omega)).symm
theorem Try.shSize : (Try.prog.info? 107).map (·.size) = some 12 := by kernel_rfl
theorem shC_one (p : List Int) : (ca 12 (shC p)).all (·.oneCell') = true := ca_one fun _ _ => rfl
theorem below_row {w W : World} {m g : Nat} (h : Below m w W) (hg : m ≤ g) (cs : Array Value) : Below m w (W.setRow g cs) := setRow_below h hg cs

set_option maxRecDepth 100000 in
set_option maxHeartbeats 2000000 in
theorem shapeOf_any (A : Option Addr) (c : Nat) (p : List Int) (w : World) (hl : p.length ≤ 12) (hc : Cells w A p) :
    Calls Try.prog 172 #[.slice A p.length c] w fun e w' => e = .returned (shV p) ∧ Below w.heap.size w w' := by
  have hsp := shp_splice p hl
  have hz := zShp_ca
  have hzl : zShp.toList.length = 12 := rfl
  obtain ⟨w1, hw1⟩ : ∃ w1, w1 = w.alloc (.cells zShp 107) := ⟨_, rfl⟩
  obtain ⟨w2, hw2⟩ : ∃ w2, w2 = w1.alloc (.cells zShp 107) := ⟨_, rfl⟩
  have x1 : Blk w2 w.heap.size 107 12 (shC []) := by rw [hw2, hw1, hz]; exact (Blk.new _ _ _ _).alloc _
  have hs1 : w1.heap.size = w.heap.size + 1 := by rw [hw1]; simp
  have x2 : w2.heap[w.heap.size + 1]? = some (.cells zShp.toList.toArray 107 (0, 0)) := by
    rw [hw2, ← hs1]; exact heap_alloc_new _ _
  have b2 : Below w.heap.size w w2 := by rw [hw2, hw1]; exact ((Below.refl _ _).alloc (Nat.le_refl _) _).alloc (by simp) _
  have hsrc : ∀ ad, A = some ad → ∀ j v, (IL p)[j]? = some v → w2.cell? (ad.add j) = some v := by
    intro ad e j v hj
    have hjl : j < p.length := by have := (List.getElem?_eq_some_iff.1 hj).1; simpa [IL] using this
    obtain ⟨b, o, rfl, hcc⟩ := (hc.below b2) (by omega)
    cases e
    rw [IL_get p j hjl] at hj
    cases hj
    have := hcc j hjl
    rw [addr_plus]; exact this
  have hA : 0 < p.length → ∃ ad, A = some ad := fun h => by obtain ⟨b, o, rfl, _⟩ := hc h; exact ⟨_, rfl⟩
  have HW : Hid (w2 = (w.alloc (.cells #[.int .i64 0, .int .i64 0, .int .i64 0, .int .i64 0, .int .i64 0, .int .i64 0, .int .i64 0, .int .i64 0, .int .i64 0, .int .i64 0, .int .i64 0, .int .i64 0] 107)).alloc (.cells #[.int .i64 0, .int .i64 0, .int .i64 0, .int .i64 0, .int .i64 0, .int .i64 0, .int .i64 0, .int .i64 0, .int .i64 0, .int .i64 0, .int .i64 0, .int .i64 0] 107)) := hid (by rw [hw2, hw1]; rfl)
  have HX1 := hid x1; have HX2 := hid x2; have HB2 := hid b2; have HSP := hid hsp; have HZL := hid hzl; have HSR := hid hsrc; have HA := hid hA
  obtain ⟨L, hL⟩ : ∃ L, L = IL p := ⟨_, rfl⟩
  have HLL := hid (show L.length = p.length by rw [hL]; simp [IL])
  have HL1 := hid (show ∀ v ∈ L, v.oneCell' = true by rw [hL]; exact IL_oneC p)
  rw [← hL] at HSP HSR
  clear hw1 hw2 x1 x2 b2 hsp hz hzl hsrc hA hs1 hL
  obtain ⟨w3, hrun, h3a, h3b, h3c⟩ : ∃ w3, (Builtin.copy_ #[22, 22] 3 #[.slice (some ⟨w.heap.size + 1, 0, none⟩) 12 12, .slice A p.length c]).run Try.prog w2 = .ok (.int .i64 (p.length : Nat)) w3 ∧ Blk w3 (w.heap.size + 1) 107 12 (shC p) ∧ Below w.heap.size w w3 ∧ Blk w3 w.heap.size 107 12 (shC []) := by
    rcases Nat.eq_zero_or_pos p.length with h0 | h0
    · refine ⟨w2, ?_, ?_, HB2.out, HX1.out⟩
      · rw [run_copy_none (P := Try.prog) w2 22 22 3 3 _ A 12 12 p.length c Try.underlying22 (by kernel_rfl) (by rw [h0]; rfl), h0]; rfl
      · have e : p = [] := List.eq_nil_of_length_eq_zero h0
        rw [e]; unfold Blk; rw [HX2.out, ← zShp_ca]
    · obtain ⟨ad, rfl⟩ := HA.out h0
      refine ⟨_, (run_copy_row (P := Try.prog) w2 22 22 3 3 (w.heap.size + 1) 0 12 12 ad p.length c zShp.toList.toArray 107 L Try.underlying22 (by kernel_rfl) HX2.out (by rw [HLL.out]; exact (Nat.min_eq_left (by omega)).symm) (HSR.out ad rfl) (by have := HLL.out; show 0 + L.length ≤ 12; omega) HL1.out).trans (by rw [HLL.out]; rfl), ?_, below_row HB2.out (by omega) _, HX1.out.otherR (by omega) _⟩
      have h := setRow_heap w2 (w.heap.size + 1) zShp.toList.toArray (splice zShp.toList 0 L).toArray 107 (0, 0) HX2.out
      unfold Blk
      rw [← HSP.out]
      unfold splice at h ⊢
      rw [List.append_assoc]
      rw [HLL.out] at h ⊢
      exact h
  rw [HW.out] at hrun
  have H3A := hid h3a; have H3B := hid h3b; have H3C := hid h3c
  have z3 := setRow_blk H3C.out (shC p)
  have HZ3 := hid z3
  clear h3a h3b h3c z3 HW HX1 HX2 HB2 HSP HZL HSR HA HLL HL1
  go_enter Try.func172, Try.ntmps172
  go_wp2_with (first | (refine wpList_load_row rfl 107 _ rfl (w.heap.size + 1) rfl 107 _ (0, 0) _ H3A.out Try.underlying107 rfl (by rw [ca_size]; exact Try.shSize) ?_) | (refine wpList_store_row rfl 107 _ _ rfl w.heap.size _ rfl rfl 107 _ H3C.out (by rw [ca_size]; exact Try.shSize) (by rw [ca_size, ca_size]) (shC_one _) ?_))
  refine bodyPost_ret (v := shV p) ?_ rfl ⟨rfl, below_row H3B.out (by omega) _⟩
  exact results_cell_row rfl _ _ w.heap.size 107 _ (0, 0) _ rfl HZ3.out Try.underlying107 rfl (by rw [ca_size]; exact Try.shSize)

set_option maxHeartbeats 400000 in
theorem stripC_any (g c : Nat) (ys : List Int) (K : Nat) (w : World) (hlen : ys.length ≤ 100) (hK : K ≤ ys.length) (hz0 : ∀ j, K ≤ j → j < ys.length → ys.getD j 0 = 0) (hK0 : 0 < K → ys.getD (K - 1) 0 ≠ 0) (hcap : ys.length ≤ c) (ho : ∀ j, j < ys.length → w.cell? ⟨g, j, none⟩ = some (.int .i64 (ys.getD j 0))) :
    Calls Try.prog 175 #[.slice (some ⟨g, 0, none⟩) ys.length c] w fun e w' => e = .returned (.slice (some ⟨g, 0, none⟩) K c) ∧ w = w' := by
  have HZ0 := hid hz0
  have HK0 := hid hK0
  have HO := hid ho
  clear hz0 hK0 ho
  go_enter Try.func175, Try.ntmps175
  go_wp2_with fail
  go_loop [3] (fun i => ∃ m : Nat, m ≤ ys.length ∧ i = .int .i64 m ∧ Hid (∀ j, m ≤ j → j < ys.length → ys.getD j 0 = 0)) (fun i => (intOf i).toNat)
  case atStart => exact ⟨ys.length, Nat.le_refl _, rfl, hid fun j h1 h2 => by omega⟩
  case round =>
    obtain ⟨m, hm, rfl, HZ⟩ := hrel
    by_cases hgo : 0 < m ∧ ys.getD (m - 1) 0 = 0
    · obtain ⟨hm0, hz⟩ := hgo
      have hcell := HO.out (m - 1) (by omega)
      rw [hz] at hcell
      have hek : ((m : Int) - 1).toNat = m - 1 := by omega
      have HZ2 := hid hz
      clear hz
      go_wp2_with fail
      go_round
      case rel =>
        refine ⟨m - 1, by omega, by go_num, hid fun j h1 h2 => ?_⟩
        by_cases h : m ≤ j
        · exact HZ.out j h h2
        · have : j = m - 1 := by omega
          subst this; exact HZ2.out
      case measure => simp [intOf]; omega
    · have hmK : m = K := by
        rcases Nat.lt_trichotomy m K with h | h | h
        · exact absurd (HZ.out (K - 1) (by omega) (by omega)) (HK0.out (by omega))
        · exact h
        · exact absurd ⟨by omega, HZ0.out (m - 1) (by omega) (by omega)⟩ hgo
      subst hmK
      by_cases hm0 : 0 < m
      · have hz : ys.getD (m - 1) 0 ≠ 0 := fun h => hgo ⟨hm0, h⟩
        have hcell := HO.out (m - 1) (by omega)
        have hek : ((m : Int) - 1).toNat = m - 1 := by omega
        obtain ⟨x, hx⟩ : ∃ x, x = ys.getD (m - 1) 0 := ⟨_, rfl⟩
        rw [← hx] at hcell hz
        have hx0 : (x == 0) = false := beq_eq_false_iff_ne.2 hz
        clear hx hgo
        go_wp2_with fail
        go_ret
        exact ⟨rfl, rfl⟩
      · have e0 : m = 0 := by omega
        subst e0
        clear hgo
        go_wp2_with fail
        go_ret
        exact ⟨rfl, rfl⟩
theorem pad_take (p : List Int) (h : p.length ≤ 12) : ((List.range 12).map fun j => p.getD j 0).take p.length = p := by
  apply List.ext_getElem
  · simp; omega
  · intro j h1 h2
    rw [List.getElem_take, List.getElem_map, List.getElem_range, List.getD_eq_getElem?_getD, List.getElem?_eq_getElem h2]; rfl

set_option maxRecDepth 100000 in
set_option maxHeartbeats 2000000 in
theorem parts_any (p : List Int) (w : World) (hl : p.length ≤ 12) (hp : ∀ j, j < p.length → 1 ≤ p.getD j 0) :
    Calls Try.prog 209 #[shV p] w fun e w' => ∃ A' c', e = .returned (.slice A' p.length c') ∧ Cells w' A' p ∧ Below w.heap.size w w' := by
  obtain ⟨w1, hw1⟩ : ∃ w1, w1 = w.alloc (.cells (ca 12 (shC p)) 107) := ⟨_, rfl⟩
  have x1 : Blk w1 w.heap.size 107 12 (shC p) := by rw [hw1]; exact Blk.new _ _ _ _
  have b1 : Below w.heap.size w w1 := by rw [hw1]; exact (Below.refl _ _).alloc (Nat.le_refl _) _
  have HS := hid (stripC_any w.heap.size 12 ((List.range 12).map fun j => p.getD j 0) p.length w1 (by simp) (by simp; omega)
    (fun j h1 h2 => by
      have h3 : j < 12 := by simpa using h2
      rw [List.getD_eq_getElem?_getD, List.getElem?_eq_getElem h2]
      simp only [List.getElem_map, List.getElem_range, Option.getD_some]
      exact getD_past p j h1)
    (fun h => by
      rw [List.getD_eq_getElem?_getD, List.getElem?_eq_getElem (by simp; omega)]
      simp only [List.getElem_map, List.getElem_range, Option.getD_some]
      have := hp (p.length - 1) (by omega)
      omega) (by simp)
    (fun j hj => by
      have h3 : j < 12 := by simpa using hj
      rw [x1.cell h3, List.getD_eq_getElem?_getD, List.getElem?_eq_getElem hj]
      simp [shC]))
  have hlen : ((List.range 12).map fun j => p.getD j 0).length = 12 := by simp
  rw [hlen] at HS
  have HC := hid (show Cells w1 (some ⟨w.heap.size, 0, none⟩) p from fun _ => ⟨w.heap.size, 0, rfl, fun j hj => by rw [Nat.zero_add]; exact x1.cell (by omega)⟩)
  have HB1 := hid b1
  have HW := hid hw1
  obtain ⟨cs, hcs⟩ : ∃ cs, cs = ca 12 (shC p) := ⟨_, rfl⟩
  unfold shV
  rw [← hcs] at HW ⊢
  have HSZ := hid (show cs.size = 12 by rw [hcs, ca_size])
  clear hw1 x1 b1 hlen hcs
  go_enter Try.func209, Try.ntmps209
  go_wp2_with fail
  rw [← HW.out]
  refine HS.out.mono ?_
  rintro e w' ⟨rfl, rfl⟩
  go_wp2_with fail
  go_ret
  exact ⟨_, _, rfl, HC.out, HB1.out⟩
end Go.Proofs.Ytmbfobcbnnalbaa
