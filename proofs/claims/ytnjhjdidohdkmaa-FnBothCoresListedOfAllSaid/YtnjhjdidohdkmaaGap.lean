/-
  Gaps: contracts of isSum, gaps, GapsOf on both sides.
-/
import Derived.Test.YtnjhjdidohdkmaaSz
import Derived.Test.YtnjhjdidohdkmaaCB
namespace Go.Proofs.Ytnjhjdidohdkmaa
open Go.RowKit

/-- x is j b beside i a, for some i below 64. -/
def sumA (a b x : Int) : Bool := (List.range 64).any fun i => decide ((i : Int) * a ≤ x) && (x - (i : Int) * a) % b == 0
theorem sumA_hit {a b x : Int} {k : Nat} (hk : k < 64) (h1 : (k : Int) * a ≤ x) (h2 : (x - (k : Int) * a) % b = 0) : sumA a b x = true := by
  unfold sumA
  rw [List.any_eq_true]
  exact ⟨k, List.mem_range.2 hk, by simp [h1, h2]⟩
theorem sumA_miss {a b x : Int} (h : ∀ k : Nat, (k : Int) * a ≤ x → ¬ (x - (k : Int) * a) % b = 0) : sumA a b x = false := by
  unfold sumA
  rw [List.any_eq_false]
  intro k _
  by_cases h1 : (k : Int) * a ≤ x
  · simp [h1, h k h1]
  · simp [h1]
/-- None of the multiples below k a is one. -/
def NoSum (a b x : Int) (k : Nat) : Prop := ∀ j : Nat, j < k → ¬ (x - (j : Int) * a) % b = 0
theorem noSum_end {a b x : Int} {k : Nat} (ha : 2 ≤ a) (hk : x < (k : Int) * a) (h : NoSum a b x k) : sumA a b x = false := by
  refine sumA_miss fun j hj => h j ?_
  by_cases e : j < k
  · exact e
  · exfalso
    have : (k : Int) * a ≤ (j : Int) * a := Int.mul_le_mul_of_nonneg_right (by omega) (by omega)
    omega
theorem NoSum.succ {a b x : Int} {k : Nat} (h : NoSum a b x k) (hn : ¬ (x - (k : Int) * a) % b = 0) : NoSum a b x (k + 1) := by
  intro j hj
  by_cases e : j = k
  · rw [e]; exact hn
  · exact h j (by omega)
theorem kmul_le {a : Int} {k : Nat} (ha : 2 ≤ a) : 2 * (k : Int) ≤ (k : Int) * a := by
  have : (k : Int) * 2 ≤ (k : Int) * a := Int.mul_le_mul_of_nonneg_left ha (by omega)
  omega

set_option maxRecDepth 100000 in
set_option maxHeartbeats 800000 in
theorem isSum_any (a b x : Int) (w : World) (ha : 2 ≤ a ∧ a ≤ 7) (hb : 2 ≤ b ∧ b ≤ 7) (hx : 0 ≤ x ∧ x < 100) :
    Calls Try.prog 60 #[.agg #[.int .i64 a, .int .i64 b], .int .i64 x] w fun e w' => e = .returned (.bool (sumA a b x)) ∧ Below w.heap.size w w' := by
  have b1 : Below w.heap.size w (w.alloc (.cells #[.int .i64 a, .int .i64 b] 40)) := (Below.refl _ _).alloc (Nat.le_refl _) _
  have hbn : ¬ b = 0 := by omega
  go_enter Try.func60, Try.ntmps60
  go_wp2_with fail
  go_loop [5] (fun i => ∃ (k : Nat) (m : Int), m = (k : Int) * a ∧ 0 ≤ m ∧ m < 120 ∧ i = .int .i64 m ∧ NoSum a b x k) (fun i => 120 - (intOf i).toNat)
  case atStart => exact ⟨0, 0, by omega, by omega, by omega, rfl, fun j hj => absurd hj (by omega)⟩
  case round =>
    obtain ⟨k, m, hm, h0, h1, rfl, hno⟩ := hrel
    have HN := hid hno; clear hno
    have HM := hid hm; clear hm
    by_cases hle : m ≤ x
    · by_cases hd : (x - m) % b = 0
      · go_wp2_with fail
        go_ret
        refine ⟨ret_bool (sumA_hit (k := k) ?_ (by rw [← HM.out]; exact hle) (by rw [← HM.out]; exact hd)).symm, b1⟩
        have := kmul_le (k := k) ha.1; rw [← HM.out] at this; omega
      · go_wp2_with fail
        go_round
        case rel => exact ⟨k + 1, m + a, by rw [HM.out]; grind, by omega, by omega, rfl, HN.out.succ (by rw [← HM.out]; exact hd)⟩
        case measure => show 120 - (m + a).toNat < 120 - m.toNat; omega
    · go_wp2_with fail
      go_ret
      exact ⟨ret_bool (noSum_end ha.1 (by rw [← HM.out]; omega) HN.out).symm, b1⟩

theorem emod_back {x k : Int} {a : Int} (h : x = k) : x % a = k % a := by rw [h]
set_option maxRecDepth 100000 in
set_option maxHeartbeats 800000 in
theorem boGap_any (a b x : Int) (w : World) (ha : 2 ≤ a ∧ a ≤ 7) (hb : 2 ≤ b ∧ b ≤ 7) (hx : 1 ≤ x ∧ x < 100) :
    Calls Try.prog 59 #[.int .i64 x, .int .i64 a, .int .i64 b] w fun e w' => e = .returned (.bool (!(sumA b a x))) ∧ w = w' := by
  have hbn : ¬ a = 0 := by omega
  go_enter Try.func59, Try.ntmps59
  go_wp2_with fail
  go_loop [0] (fun i => ∃ (k : Nat) (m : Int), m = x - (k : Int) * b ∧ -10 ≤ m ∧ m ≤ x ∧ i = .int .i64 m ∧ NoSum b a x k) (fun i => ((intOf i) + 20).toNat)
  case atStart => exact ⟨0, x, by omega, by omega, by omega, rfl, fun j hj => absurd hj (by omega)⟩
  case round =>
    obtain ⟨k, m, hm, h0, h1, rfl, hno⟩ := hrel
    have HN := hid hno; clear hno
    have HM := hid hm; clear hm
    by_cases hle : 0 < m
    · by_cases hd : m % a = 0
      · go_wp2_with fail
        go_ret
        have e : sumA b a x = true := by
          refine sumA_hit (k := k) ?_ (by have := HM.out; omega) (by rw [← HM.out]; exact hd)
          have := kmul_le (k := k) hb.1; have := HM.out; omega
        exact ⟨ret_bool (by rw [e]; rfl), rfl⟩
      · go_wp2_with fail
        go_round
        case rel => exact ⟨k + 1, m - b, by rw [HM.out]; grind, by omega, by omega, rfl, HN.out.succ (by rw [← HM.out]; exact hd)⟩
        case measure => show ((m - b) + 20).toNat < (m + 20).toNat; omega
    · go_wp2_with fail
      go_ret
      refine ⟨ret_bool ?_, rfl⟩
      by_cases hz : m = 0
      · have e : sumA b a x = true := by
          refine sumA_hit (k := k) ?_ (by have := HM.out; omega) (by rw [← HM.out, hz]; simp)
          have := kmul_le (k := k) hb.1; have := HM.out; omega
        rw [e, decide_eq_false (by omega)]; rfl
      · rw [noSum_end hb.1 (by have := HM.out; omega) HN.out, decide_eq_true (by omega)]; rfl

/-! The finite table: sums are told alike in both orders. -/
theorem sumA_swapN : ∀ a < 8, ∀ b < 8, ∀ x < 64, sz ((a : Nat) : Int) ((b : Nat) : Int) = true → sumA (a : Int) (b : Int) ((x : Nat) : Int) = sumA (b : Int) (a : Int) (x : Int) := by decide +kernel
theorem sumA_swap {a b x : Int} (h : sz a b = true) (hx : 0 ≤ x ∧ x < 64) : sumA b a x = sumA a b x := by
  obtain ⟨ha, hb, -⟩ := sz_iff.1 h
  have := sumA_swapN a.toNat (by omega) b.toNat (by omega) x.toNat (by omega)
  rw [Int.toNat_of_nonneg (by omega), Int.toNat_of_nonneg (by omega), Int.toNat_of_nonneg (by omega)] at this
  exact (this h).symm

def gpN (a b : Int) (n : Nat) : Bool := decide (1 ≤ n) && !(sumA a b n)
def gpL (f : Nat → Bool) (k : Nat) : List Int := ((List.range k).filter f).map fun r : Nat => (r : Int)
theorem gpL_t {f : Nat → Bool} {k : Nat} (h : f k = true) : gpL f (k + 1) = gpL f k ++ [(k : Int)] := by
  unfold gpL; rw [List.range_succ, List.filter_append, List.map_append, List.filter_cons_of_pos h]; rfl
theorem gpL_f {f : Nat → Bool} {k : Nat} (h : f k = false) : gpL f (k + 1) = gpL f k := by
  unfold gpL; rw [List.range_succ, List.filter_append, List.filter_cons_of_neg (by rw [h]; exact Bool.false_ne_true), List.filter_nil, List.append_nil]
theorem gpL_len (f : Nat → Bool) (k : Nat) : (gpL f k).length ≤ k := by
  unfold gpL
  rw [List.length_map]
  have := List.length_filter_le f (List.range k)
  rw [List.length_range] at this; exact this
theorem gpL_one (a b : Int) : gpL (gpN a b) 1 = [] := by rw [gpL_f (by simp [gpN])]; rfl
def gapsL (a b : Int) : List Int := gpL (gpN a b) (a * b).toNat
def gapsF (a b : Int) : List Int := if sz a b then gapsL a b else []
theorem bound_GapsOf (a b : Int) : (gapsF a b).length ≤ 1048576 := by
  unfold gapsF
  split
  · rename_i h
    obtain ⟨ha, hb, -⟩ := sz_iff.1 h
    have h1 := gpL_len (gpN a b) (a * b).toNat
    have h2 : a * b ≤ 49 := by
      have : a * b ≤ 7 * 7 := Int.mul_le_mul ha.2 hb.2 (by omega) (by omega)
      omega
    unfold gapsL; omega
  · exact Nat.zero_le _
theorem ab49 {a b : Int} (ha : 2 ≤ a ∧ a ≤ 7) (hb : 2 ≤ b ∧ b ≤ 7) : 4 ≤ a * b ∧ a * b ≤ 49 := by
  rcases (show a = 2 ∨ a = 3 ∨ a = 4 ∨ a = 5 ∨ a = 6 ∨ a = 7 by omega) with rfl | rfl | rfl | rfl | rfl | rfl <;> omega

set_option maxRecDepth 100000 in
set_option maxHeartbeats 2000000 in
theorem gaps_any (a b : Int) (w : World) (ha : 2 ≤ a ∧ a ≤ 7) (hb : 2 ≤ b ∧ b ≤ 7) :
    Calls Try.prog 37 #[.agg #[.int .i64 a, .int .i64 b]] w fun e w' => ∃ A' c', e = .returned (.slice A' (gapsL a b).length c') ∧ Own w' w.heap.size A' c' (gapsL a b) ∧ Below w.heap.size w w' := by
  obtain ⟨i0, hi, hz0, hz1, hz2⟩ := info_parts Try.infoInt
  obtain ⟨p1, p2⟩ := ab49 ha hb
  have b1 : Below w.heap.size w (w.alloc (.cells #[.int .i64 a, .int .i64 b] 40)) := (Below.refl _ _).alloc (Nat.le_refl _) _
  have X := hid (Box2.new w 40 (.int .i64 a) (.int .i64 b))
  obtain ⟨w1, hw1⟩ : ∃ w1, w1 = w.alloc (.cells #[.int .i64 a, .int .i64 b] 40) := ⟨_, rfl⟩
  have hs1 : w.heap.size < w1.heap.size := by rw [hw1]; simp
  have HW := hid hw1
  rw [← hw1] at b1 X
  clear hw1
  go_enter Try.func37, Try.ntmps37
  go_wp2_with fail
  rw [← HW.out]
  go_loopw [3, 4] (fun v i wr => ∃ k : Nat, 1 ≤ k ∧ (k : Int) ≤ a * b ∧ i = .int .i64 k ∧ (∃ A' c', v = .slice A' (gpL (gpN a b) k).length c' ∧ Own wr w1.heap.size A' c' (gpL (gpN a b) k)) ∧ Below w1.heap.size w1 wr) (fun _ i _ => 60 - (intOf i).toNat)
  case atStart => exact ⟨1, by omega, by omega, rfl, ⟨none, 0, by rw [gpL_one]; rfl, by rw [gpL_one]; exact own_nil _ _⟩, Below.refl _ _⟩
  case round =>
    obtain ⟨k, hk1, hk, rfl, ⟨Ag, cg, rfl, ho⟩, hb1⟩ := hrel
    have Y := hid (X.out.next hb1)
    have y0 := Y.out.cell0
    have y1 := Y.out.cell1
    have hll := gpL_len (gpN a b) k
    by_cases hlt : (k : Int) < a * b
    · have HC := hid fun W => isSum_any a b k W ha hb ⟨by omega, by omega⟩
      cases hf : sumA a b k
      · have hg : gpN a b k = true := by simp [gpN, hf, hk1]
        have HS := hid (gpL_t hg)
        rw [hf] at HC
        clear hf hg
        obtain ⟨f, hF⟩ : ∃ f, f = gpL (gpN a b) k := ⟨_, rfl⟩
        rw [← hF] at ho HS hll ⊢
        have HO := hid ho
        have hl60 : f.length ≤ 60 := by omega
        clear hF ho
        go_wp2_with (first | (go_at_call 60; refine (HC.out _).mono ?_; rintro e wc ⟨rfl, bc⟩; have HO2 := hid (HO.out.below bc); have B2 := Below.next hb1 bc; have hcs := B2.size) | (at_builtin; refine wpList_append_own _ rfl _ _ 27 rfl w1.heap.size 3 i0 (.int .i64 0) 1 8 Try.underlying27 hi hz0 hz1 hz2 rfl (by decide) _ _ _ rfl (HO2.out.alloc _) ⟨wc.heap.size, 0, none⟩ 1 1 [.int .i64 k] rfl rfl one_at (one_cell _) (by unfold maxLen; omega) (by omega) (by simp; omega) ?_))
        intro v' w4 hown' hgrow _
        have hb2 : Below w1.heap.size w1 w4 := (B2.alloc B2.size _).grown hgrow (by simp; omega) (fun q hq => (HO2.out.lt q hq).1)
        have hown2 := own_snoc HS.out hown'
        obtain ⟨A3, c3, rfl, ho3⟩ := own_form hown2 rfl
        have HO3 := hid ho3
        clear hgrow hown' hown2 ho3
        go_wp2_with fail
        go_roundw
        case rel => exact ⟨k + 1, by omega, by omega, by go_num, ⟨A3, c3, rfl, HO3.out⟩, hb2⟩
        case measure => show 60 - ((k : Int) + 1).toNat < 60 - (k : Int).toNat; omega
      · have hg : gpN a b k = false := by simp [gpN, hf]
        have HS := hid (gpL_f hg)
        rw [hf] at HC
        have HO := hid ho
        clear hf hg ho
        go_wp2_with (go_at_call 60; refine (HC.out _).mono ?_; rintro e wc ⟨rfl, bc⟩)
        go_roundw
        case rel => exact ⟨k + 1, by omega, by omega, by go_num, ⟨Ag, cg, by rw [HS.out], by rw [HS.out]; exact HO.out.below bc⟩, Below.next hb1 bc⟩
        case measure => show 60 - ((k : Int) + 1).toNat < 60 - (k : Int).toNat; omega
    · have hkk : k = (a * b).toNat := by omega
      have HK := hid (show gapsL a b = gpL (gpN a b) k by unfold gapsL; rw [hkk])
      have HO := hid ho
      clear hkk ho
      go_wp2_with fail
      go_ret
      exact ⟨Ag, cg, by rw [HK.out]; rfl, by rw [HK.out]; exact HO.out.more (by omega), Below.next b1 hb1⟩

set_option maxRecDepth 100000 in
set_option maxHeartbeats 2000000 in
theorem boGaps_any (a b : Int) (w : World) (hs : sz a b = true) :
    Calls Try.prog 33 #[.int .i64 a, .int .i64 b] w fun e w' => ∃ A' c', e = .returned (.slice A' (gapsL a b).length c') ∧ Own w' w.heap.size A' c' (gapsL a b) ∧ Below w.heap.size w w' := by
  obtain ⟨i0, hi, hz0, hz1, hz2⟩ := info_parts Try.infoInt
  obtain ⟨ha, hb, -⟩ := sz_iff.1 hs
  have HSZ := hid hs; clear hs
  obtain ⟨p1, p2⟩ := ab49 ha hb
  go_enter Try.func33, Try.ntmps33
  go_wp2_with fail
  go_loopw [5, 6] (fun v i wr => ∃ k : Nat, 1 ≤ k ∧ (k : Int) ≤ a * b ∧ i = .int .i64 k ∧ (∃ A' c', v = .slice A' (gpL (gpN a b) k).length c' ∧ Own wr w.heap.size A' c' (gpL (gpN a b) k)) ∧ Below w.heap.size w wr) (fun _ i _ => 60 - (intOf i).toNat)
  case atStart => exact ⟨1, by omega, by omega, rfl, ⟨none, 0, by rw [gpL_one]; rfl, by rw [gpL_one]; exact own_nil _ _⟩, Below.refl _ _⟩
  case round =>
    obtain ⟨k, hk1, hk, rfl, ⟨Ag, cg, rfl, ho⟩, hb1⟩ := hrel
    have hll := gpL_len (gpN a b) k
    by_cases hlt : (k : Int) < a * b
    · have HC := hid fun W => boGap_any a b k W ha hb ⟨by omega, by omega⟩
      have hsw := sumA_swap HSZ.out (x := (k : Int)) ⟨by omega, by omega⟩
      rw [hsw] at HC
      clear hsw
      cases hf : sumA a b k
      · have hg : gpN a b k = true := by simp [gpN, hf, hk1]
        have HS := hid (gpL_t hg)
        rw [hf] at HC
        clear hf hg
        obtain ⟨f, hF⟩ : ∃ f, f = gpL (gpN a b) k := ⟨_, rfl⟩
        rw [← hF] at ho HS hll ⊢
        have HO := hid ho
        have hl60 : f.length ≤ 60 := by omega
        have hcs := hb1.size
        clear hF ho
        go_wp2_with (first | (go_at_call 59; refine (HC.out _).mono ?_; rintro e wc ⟨rfl, rfl⟩) | (at_builtin; refine wpList_append_own _ rfl _ _ 27 rfl w.heap.size 3 i0 (.int .i64 0) 1 8 Try.underlying27 hi hz0 hz1 hz2 rfl (by decide) _ _ _ rfl (HO.out.alloc _) ⟨wr.heap.size, 0, none⟩ 1 1 [.int .i64 k] rfl rfl one_at (one_cell _) (by unfold maxLen; omega) (by omega) (by simp; omega) ?_))
        intro v' w4 hown' hgrow _
        have hb2 : Below w.heap.size w w4 := (hb1.alloc hb1.size _).grown hgrow (by simp; omega) (fun q hq => (HO.out.lt q hq).1)
        have hown2 := own_snoc HS.out hown'
        obtain ⟨A3, c3, rfl, ho3⟩ := own_form hown2 rfl
        have HO3 := hid ho3
        clear hgrow hown' hown2 ho3
        go_wp2_with fail
        go_roundw
        case rel => exact ⟨k + 1, by omega, by omega, by go_num, ⟨A3, c3, rfl, HO3.out⟩, hb2⟩
        case measure => show 60 - ((k : Int) + 1).toNat < 60 - (k : Int).toNat; omega
      · have hg : gpN a b k = false := by simp [gpN, hf]
        have HS := hid (gpL_f hg)
        rw [hf] at HC
        have HO := hid ho
        clear hf hg ho
        go_wp2_with (go_at_call 59; refine (HC.out _).mono ?_; rintro e wc ⟨rfl, rfl⟩)
        go_roundw
        case rel => exact ⟨k + 1, by omega, by omega, by go_num, ⟨Ag, cg, by rw [HS.out], by rw [HS.out]; exact HO.out⟩, hb1⟩
        case measure => show 60 - ((k : Int) + 1).toNat < 60 - (k : Int).toNat; omega
    · have hkk : k = (a * b).toNat := by omega
      have HK := hid (show gapsL a b = gpL (gpN a b) k by unfold gapsL; rw [hkk])
      have HO := hid ho
      clear hkk ho
      go_wp2_with fail
      go_ret
      exact ⟨Ag, cg, by rw [HK.out]; rfl, by rw [HK.out]; exact HO.out, hb1⟩

set_option maxRecDepth 100000 in
set_option maxHeartbeats 800000 in
theorem GapsOf_b (a b : Int) (w : World) (t : Bool) (ht : sz a b = t) :
    Calls Try.prog 14 #[.int .i64 a, .int .i64 b] w fun e w' => ∃ A' c', e = .returned (.tuple #[.slice A' (gapsF a b).length c', .bool t]) ∧ Own w' w.heap.size A' c' (gapsF a b) ∧ Below w.heap.size w w' := by
  have HT := hid ht
  cases t
  · rw [show gapsF a b = [] by simp [gapsF, ht]]
    clear ht
    go_enter Try.func14, Try.ntmps14
    go_wp2_with (go_at_call 18; refine (AreSizes_b _ _ _ _ HT.out).mono ?_; rintro e w1 ⟨rfl, b1⟩)
    go_ret2
    exact ⟨none, 0, rfl, own_nil _ _, b1⟩
  · obtain ⟨ha, hb, -⟩ := sz_iff.1 ht
    rw [show gapsF a b = gapsL a b by simp [gapsF, ht]]
    have HG := hid fun W => gaps_any a b W ha hb
    clear ht
    obtain ⟨g, hg⟩ : ∃ g, g = gapsL a b := ⟨_, rfl⟩
    rw [← hg] at HG ⊢
    clear hg
    go_enter Try.func14, Try.ntmps14
    go_wp2_with (first | (go_at_call 18; refine (AreSizes_b _ _ _ _ HT.out).mono ?_; rintro e w1 ⟨rfl, b1⟩) | (go_at_call 37; refine (HG.out _).mono ?_; rintro e w2 ⟨A2, c2, rfl, o2, b2⟩))
    go_ret2
    exact ⟨A2, c2, rfl, o2.more b1.size, Below.next b1 b2⟩
theorem impl_GapsOf (a b : Int) (w : World) (_ : I64 a) (_ : I64 b) :
    Calls Try.prog 14 #[.int .i64 a, .int .i64 b] w fun e w' => ∃ A' c', e = .returned (.tuple #[.slice A' (gapsF a b).length c', .bool (sz a b)]) ∧ Own w' w.heap.size A' c' (gapsF a b) ∧ Below w.heap.size w w' := GapsOf_b a b w _ rfl
set_option maxRecDepth 100000 in
set_option maxHeartbeats 800000 in
theorem spec_GapsOf (a b : Int) (w : World) (_ : I64 a) (_ : I64 b) :
    Calls Try.prog 15 #[.int .i64 a, .int .i64 b] w fun e w' => ∃ A' c', e = .returned (.tuple #[.slice A' (gapsF a b).length c', .bool (sz a b)]) ∧ Own w' w.heap.size A' c' (gapsF a b) ∧ Below w.heap.size w w' := by
  cases ht : sz a b
  · rw [show gapsF a b = [] by simp [gapsF, ht]]
    have HT := hid ht
    clear ht
    go_enter Try.func15, Try.ntmps15
    go_wp2_with (go_at_call 28; refine (boSizes_b _ _ _ _ HT.out).mono ?_; rintro e w1 ⟨rfl, rfl⟩)
    go_ret2
    exact ⟨none, 0, rfl, own_nil _ _, Below.refl _ _⟩
  · rw [show gapsF a b = gapsL a b by simp [gapsF, ht]]
    have HT := hid ht
    have HG := hid fun W => boGaps_any a b W ht
    clear ht
    obtain ⟨g, hg⟩ : ∃ g, g = gapsL a b := ⟨_, rfl⟩
    rw [← hg] at HG ⊢
    clear hg
    go_enter Try.func15, Try.ntmps15
    go_wp2_with (first | (go_at_call 28; refine (boSizes_b _ _ _ _ HT.out).mono ?_; rintro e w1 ⟨rfl, rfl⟩) | (go_at_call 33; refine (HG.out _).mono ?_; rintro e w2 ⟨A2, c2, rfl, o2, b2⟩))
    go_ret2
    exact ⟨A2, c2, rfl, o2, b2⟩
end Go.Proofs.Ytnjhjdidohdkmaa
