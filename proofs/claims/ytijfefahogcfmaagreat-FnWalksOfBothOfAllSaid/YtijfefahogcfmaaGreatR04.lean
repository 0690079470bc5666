/-
  Several texts in one.
-/
import Derived.Test.YtijfefahogcfmaaGreatR03
import Derived.Test.YtijfefahogcfmaaGreatCB
/-
  Gaps: contracts of isSum, gaps, GapsOf on both sides.
-/
namespace Go.Proofs.YtijfefahogcfmaaGreat
open Go.RowKit

/-- x is j b beside i a, for some i below 64. -/
def sumA (a b x : Int) : Bool := (List.range 64).any fun i => decide ((i : Int) * a ≤ x) && (x - (i : Int) * a) % b == 0
theorem sumA_hit {a b x : Int} {k : Nat} (hk : k < 64) (h1 : (k : Int) * a ≤ x) (h2 : (x - (k : Int) * a) % b = 0) : sumA a b x = true := by
  unfold sumA
  rw [List.any_eq_true]
  exact ⟨k, List.mem_range.2 hk, by simp [h1, h2]⟩
theorem sumA_miss {a b x : Int} (h : ∀ k : Nat, (k : Int) * a ≤ x → ¬ (x - (k : Int) * a) % b = 0) : sumA a b x = false := by
  unfold sumA
  rw [List.any_eq_false]
  intro k _
  by_cases h1 : (k : Int) * a ≤ x
  · simp [h1, h k h1]
  · simp [h1]
/-- None of the multiples below k a is one. -/
def NoSum (a b x : Int) (k : Nat) : Prop := ∀ j : Nat, j < k → ¬ (x - (j : Int) * a) % b = 0
theorem noSum_end {a b x : Int} {k : Nat} (ha : 2 ≤ a) (hk : x < (k : Int) * a) (h : NoSum a b x k) : sumA a b x = false := by
  refine sumA_miss fun j hj => h j ?_
  by_cases e : j < k
  · exact e
  · exfalso
    have : (k : Int) * a ≤ (j : Int) * a := Int.mul_le_mul_of_nonneg_right (by omega) (by omega)
    omega
theorem NoSum.succ {a b x : Int} {k : Nat} (h : NoSum a b x k) (hn : ¬ (x - (k : Int) * a) % b = 0) : NoSum a b x (k + 1) := by
  intro j hj
  by_cases e : j = k
  · rw [e]; exact hn
  · exact h j (by omega)
theorem kmul_le {a : Int} {k : Nat} (ha : 2 ≤ a) : 2 * (k : Int) ≤ (k : Int) * a := by
  have : (k : Int) * 2 ≤ (k : Int) * a := Int.mul_le_mul_of_nonneg_left ha (by omega)
  omega

set_option maxRecDepth 100000 in
set_option maxHeartbeats 800000 in
theorem isSum_any (a b x : Int) (w : World) (ha : 2 ≤ a ∧ a ≤ 7) (hb : 2 ≤ b ∧ b ≤ 7) (hx : 0 ≤ x ∧ x < 100) :
    Calls Tryz.prog 77 #[.agg #[.int .i64 a, .int .i64 b], .int .i64 x] w fun e w' => e = .returned (.bool (sumA a b x)) ∧ Below w.heap.size w w' := by
  have b1 : Below w.heap.size w (w.alloc (.cells #[.int .i64 a, .int .i64 b] 33)) := (Below.refl _ _).alloc (Nat.le_refl _) _
  have hbn : ¬ b = 0 := by omega
  go_enter Tryz.func77, Tryz.ntmps77
  go_wp2_with fail
  go_loop [5] (fun i => ∃ (k : Nat) (m : Int), m = (k : Int) * a ∧ 0 ≤ m ∧ m < 120 ∧ i = .int .i64 m ∧ NoSum a b x k) (fun i => 120 - (intOf i).toNat)
  case atStart => exact ⟨0, 0, by omega, by omega, by omega, rfl, fun j hj => absurd hj (by omega)⟩
  case round =>
    obtain ⟨k, m, hm, h0, h1, rfl, hno⟩ := hrel
    have HN := hid hno; clear hno
    have HM := hid hm; clear hm
    by_cases hle : m ≤ x
    · by_cases hd : (x - m) % b = 0
      · go_wp2_with fail
        go_ret
        refine ⟨ret_bool (sumA_hit (k := k) ?_ (by rw [← HM.out]; exact hle) (by rw [← HM.out]; exact hd)).symm, b1⟩
        have := kmul_le (k := k) ha.1; rw [← HM.out] at this; omega
      · go_wp2_with fail
        go_round
        case rel => exact ⟨k + 1, m + a, by rw [HM.out]; grind, by omega, by omega, rfl, HN.out.succ (by rw [← HM.out]; exact hd)⟩
        case measure => show 120 - (m + a).toNat < 120 - m.toNat; omega
    · go_wp2_with fail
      go_ret
      exact ⟨ret_bool (noSum_end ha.1 (by rw [← HM.out]; omega) HN.out).symm, b1⟩

theorem emod_back {x k : Int} {a : Int} (h : x = k) : x % a = k % a := by rw [h]
set_option maxRecDepth 100000 in
set_option maxHeartbeats 800000 in
theorem boGap_any (a b x : Int) (w : World) (ha : 2 ≤ a ∧ a ≤ 7) (hb : 2 ≤ b ∧ b ≤ 7) (hx : 1 ≤ x ∧ x < 100) :
    Calls Tryz.prog 56 #[.int .i64 x, .int .i64 a, .int .i64 b] w fun e w' => e = .returned (.bool (!(sumA b a x))) ∧ w = w' := by
  have hbn : ¬ a = 0 := by omega
  go_enter Tryz.func56, Tryz.ntmps56
  go_wp2_with fail
  go_loop [0] (fun i => ∃ (k : Nat) (m : Int), m = x - (k : Int) * b ∧ -10 ≤ m ∧ m ≤ x ∧ i = .int .i64 m ∧ NoSum b a x k) (fun i => ((intOf i) + 20).toNat)
  case atStart => exact ⟨0, x, by omega, by omega, by omega, rfl, fun j hj => absurd hj (by omega)⟩
  case round =>
    obtain ⟨k, m, hm, h0, h1, rfl, hno⟩ := hrel
    have HN := hid hno; clear hno
    have HM := hid hm; clear hm
    by_cases hle : 0 < m
    · by_cases hd : m % a = 0
      · go_wp2_with fail
        go_ret
        have e : sumA b a x = true := by
          refine sumA_hit (k := k) ?_ (by have := HM.out; omega) (by rw [← HM.out]; exact hd)
          have := kmul_le (k := k) hb.1; have := HM.out; omega
        exact ⟨ret_bool (by rw [e]; rfl), rfl⟩
      · go_wp2_with fail
        go_round
        case rel => exact ⟨k + 1, m - b, by rw [HM.out]; grind, by omega, by omega, rfl, HN.out.succ (by rw [← HM.out]; exact hd)⟩
        case measure => show ((m - b) + 20).toNat < (m + 20).toNat; omega
    · go_wp2_with fail
      go_ret
      refine ⟨ret_bool ?_, rfl⟩
      by_cases hz : m = 0
      · have e : sumA b a x = true := by
          refine sumA_hit (k := k) ?_ (by have := HM.out; omega) (by rw [← HM.out, hz]; simp)
          have := kmul_le (k := k) hb.1; have := HM.out; omega
        rw [e, decide_eq_false (by omega)]; rfl
      · rw [noSum_end hb.1 (by have := HM.out; omega) HN.out, decide_eq_true (by omega)]; rfl

/-! The finite table: sums are told alike in both orders. -/
theorem sumA_swapN : ∀ a < 8, ∀ b < 8, ∀ x < 64, sz ((a : Nat) : Int) ((b : Nat) : Int) = true → sumA (a : Int) (b : Int) ((x : Nat) : Int) = sumA (b : Int) (a : Int) (x : Int) := by decide +kernel
theorem sumA_swap {a b x : Int} (h : sz a b = true) (hx : 0 ≤ x ∧ x < 64) : sumA b a x = sumA a b x := by
  obtain ⟨ha, hb, -⟩ := sz_iff.1 h
  have := sumA_swapN a.toNat (by omega) b.toNat (by omega) x.toNat (by omega)
  rw [Int.toNat_of_nonneg (by omega), Int.toNat_of_nonneg (by omega), Int.toNat_of_nonneg (by omega)] at this
  exact (this h).symm

def gpN (a b : Int) (n : Nat) : Bool := decide (1 ≤ n) && !(sumA a b n)
def gpL (f : Nat → Bool) (k : Nat) : List Int := ((List.range k).filter f).map fun r : Nat => (r : Int)
theorem gpL_t {f : Nat → Bool} {k : Nat} (h : f k = true) : gpL f (k + 1) = gpL f k ++ [(k : Int)] := by
  unfold gpL; rw [List.range_succ, List.filter_append, List.map_append, List.filter_cons_of_pos h]; rfl
theorem gpL_f {f : Nat → Bool} {k : Nat} (h : f k = false) : gpL f (k + 1) = gpL f k := by
  unfold gpL; rw [List.range_succ, List.filter_append, List.filter_cons_of_neg (by rw [h]; exact Bool.false_ne_true), List.filter_nil, List.append_nil]
theorem gpL_len (f : Nat → Bool) (k : Nat) : (gpL f k).length ≤ k := by
  unfold gpL
  rw [List.length_map]
  have := List.length_filter_le f (List.range k)
  rw [List.length_range] at this; exact this
theorem gpL_one (a b : Int) : gpL (gpN a b) 1 = [] := by rw [gpL_f (by simp [gpN])]; rfl
def gapsL (a b : Int) : List Int := gpL (gpN a b) (a * b).toNat
def gapsF (a b : Int) : List Int := if sz a b then gapsL a b else []
theorem bound_GapsOf (a b : Int) : (gapsF a b).length ≤ 1048576 := by
  unfold gapsF
  split
  · rename_i h
    obtain ⟨ha, hb, -⟩ := sz_iff.1 h
    have h1 := gpL_len (gpN a b) (a * b).toNat
    have h2 : a * b ≤ 49 := by
      have : a * b ≤ 7 * 7 := Int.mul_le_mul ha.2 hb.2 (by omega) (by omega)
      omega
    unfold gapsL; omega
  · exact Nat.zero_le _
theorem ab49 {a b : Int} (ha : 2 ≤ a ∧ a ≤ 7) (hb : 2 ≤ b ∧ b ≤ 7) : 4 ≤ a * b ∧ a * b ≤ 49 := by
  rcases (show a = 2 ∨ a = 3 ∨ a = 4 ∨ a = 5 ∨ a = 6 ∨ a = 7 by omega) with rfl | rfl | rfl | rfl | rfl | rfl <;> omega

set_option maxRecDepth 100000 in
set_option maxHeartbeats 2000000 in
theorem gaps_any (a b : Int) (w : World) (ha : 2 ≤ a ∧ a ≤ 7) (hb : 2 ≤ b ∧ b ≤ 7) :
    Calls Tryz.prog 60 #[.agg #[.int .i64 a, .int .i64 b]] w fun e w' => ∃ A' c', e = .returned (.slice A' (gapsL a b).length c') ∧ Own w' w.heap.size A' c' (gapsL a b) ∧ Below w.heap.size w w' := by
  obtain ⟨i0, hi, hz0, hz1, hz2⟩ := info_parts Tryz.infoInt
  obtain ⟨p1, p2⟩ := ab49 ha hb
  have b1 : Below w.heap.size w (w.alloc (.cells #[.int .i64 a, .int .i64 b] 33)) := (Below.refl _ _).alloc (Nat.le_refl _) _
  have X := hid (Box2.new w 33 (.int .i64 a) (.int .i64 b))
  obtain ⟨w1, hw1⟩ : ∃ w1, w1 = w.alloc (.cells #[.int .i64 a, .int .i64 b] 33) := ⟨_, rfl⟩
  have hs1 : w.heap.size < w1.heap.size := by rw [hw1]; simp
  have HW := hid hw1
  rw [← hw1] at b1 X
  clear hw1
  go_enter Tryz.func60, Tryz.ntmps60
  go_wp2_with fail
  rw [← HW.out]
  go_loopw [3, 4] (fun v i wr => ∃ k : Nat, 1 ≤ k ∧ (k : Int) ≤ a * b ∧ i = .int .i64 k ∧ (∃ A' c', v = .slice A' (gpL (gpN a b) k).length c' ∧ Own wr w1.heap.size A' c' (gpL (gpN a b) k)) ∧ Below w1.heap.size w1 wr) (fun _ i _ => 60 - (intOf i).toNat)
  case atStart => exact ⟨1, by omega, by omega, rfl, ⟨none, 0, by rw [gpL_one]; rfl, by rw [gpL_one]; exact own_nil _ _⟩, Below.refl _ _⟩
  case round =>
    obtain ⟨k, hk1, hk, rfl, ⟨Ag, cg, rfl, ho⟩, hb1⟩ := hrel
    have Y := hid (X.out.next hb1)
    have y0 := Y.out.cell0
    have y1 := Y.out.cell1
    have hll := gpL_len (gpN a b) k
    by_cases hlt : (k : Int) < a * b
    · have HC := hid fun W => isSum_any a b k W ha hb ⟨by omega, by omega⟩
      cases hf : sumA a b k
      · have hg : gpN a b k = true := by simp [gpN, hf, hk1]
        have HS := hid (gpL_t hg)
        rw [hf] at HC
        clear hf hg
        obtain ⟨f, hF⟩ : ∃ f, f = gpL (gpN a b) k := ⟨_, rfl⟩
        rw [← hF] at ho HS hll ⊢
        have HO := hid ho
        have hl60 : f.length ≤ 60 := by omega
        clear hF ho
        go_wp2_with (first | (go_at_call 77; refine (HC.out _).mono ?_; rintro e wc ⟨rfl, bc⟩; have HO2 := hid (HO.out.below bc); have B2 := Below.next hb1 bc; have hcs := B2.size) | (at_builtin; refine wpList_append_own _ rfl _ _ 22 rfl w1.heap.size 3 i0 (.int .i64 0) 1 8 Tryz.underlying22 hi hz0 hz1 hz2 rfl (by decide) _ _ _ rfl (HO2.out.alloc _) ⟨wc.heap.size, 0, none⟩ 1 1 [.int .i64 k] rfl rfl one_at (one_cell _) (by unfold maxLen; omega) (by omega) (by simp; omega) ?_))
        intro v' w4 hown' hgrow _
        have hb2 : Below w1.heap.size w1 w4 := (B2.alloc B2.size _).grown hgrow (by simp; omega) (fun q hq => (HO2.out.lt q hq).1)
        have hown2 := own_snoc HS.out hown'
        obtain ⟨A3, c3, rfl, ho3⟩ := own_form hown2 rfl
        have HO3 := hid ho3
        clear hgrow hown' hown2 ho3
        go_wp2_with fail
        go_roundw
        case rel => exact ⟨k + 1, by omega, by omega, by go_num, ⟨A3, c3, rfl, HO3.out⟩, hb2⟩
        case measure => show 60 - ((k : Int) + 1).toNat < 60 - (k : Int).toNat; omega
      · have hg : gpN a b k = false := by simp [gpN, hf]
        have HS := hid (gpL_f hg)
        rw [hf] at HC
        have HO := hid ho
        clear hf hg ho
        go_wp2_with (go_at_call 77; refine (HC.out _).mono ?_; rintro e wc ⟨rfl, bc⟩)
        go_roundw
        case rel => exact ⟨k + 1, by omega, by omega, by go_num, ⟨Ag, cg, by rw [HS.out], by rw [HS.out]; exact HO.out.below bc⟩, Below.next hb1 bc⟩
        case measure => show 60 - ((k : Int) + 1).toNat < 60 - (k : Int).toNat; omega
    · have hkk : k = (a * b).toNat := by omega
      have HK := hid (show gapsL a b = gpL (gpN a b) k by unfold gapsL; rw [hkk])
      have HO := hid ho
      clear hkk ho
      go_wp2_with fail
      go_ret
      exact ⟨Ag, cg, by rw [HK.out]; rfl, by rw [HK.out]; exact HO.out.more (by omega), Below.next b1 hb1⟩

set_option maxRecDepth 100000 in
set_option maxHeartbeats 2000000 in
theorem boGaps_any (a b : Int) (w : World) (hs : sz a b = true) :
    Calls Tryz.prog 47 #[.int .i64 a, .int .i64 b] w fun e w' => ∃ A' c', e = .returned (.slice A' (gapsL a b).length c') ∧ Own w' w.heap.size A' c' (gapsL a b) ∧ Below w.heap.size w w' := by
  obtain ⟨i0, hi, hz0, hz1, hz2⟩ := info_parts Tryz.infoInt
  obtain ⟨ha, hb, -⟩ := sz_iff.1 hs
  have HSZ := hid hs; clear hs
  obtain ⟨p1, p2⟩ := ab49 ha hb
  go_enter Tryz.func47, Tryz.ntmps47
  go_wp2_with fail
  go_loopw [5, 6] (fun v i wr => ∃ k : Nat, 1 ≤ k ∧ (k : Int) ≤ a * b ∧ i = .int .i64 k ∧ (∃ A' c', v = .slice A' (gpL (gpN a b) k).length c' ∧ Own wr w.heap.size A' c' (gpL (gpN a b) k)) ∧ Below w.heap.size w wr) (fun _ i _ => 60 - (intOf i).toNat)
  case atStart => exact ⟨1, by omega, by omega, rfl, ⟨none, 0, by rw [gpL_one]; rfl, by rw [gpL_one]; exact own_nil _ _⟩, Below.refl _ _⟩
  case round =>
    obtain ⟨k, hk1, hk, rfl, ⟨Ag, cg, rfl, ho⟩, hb1⟩ := hrel
    have hll := gpL_len (gpN a b) k
    by_cases hlt : (k : Int) < a * b
    · have HC := hid fun W => boGap_any a b k W ha hb ⟨by omega, by omega⟩
      have hsw := sumA_swap HSZ.out (x := (k : Int)) ⟨by omega, by omega⟩
      rw [hsw] at HC
      clear hsw
      cases hf : sumA a b k
      · have hg : gpN a b k = true := by simp [gpN, hf, hk1]
        have HS := hid (gpL_t hg)
        rw [hf] at HC
        clear hf hg
        obtain ⟨f, hF⟩ : ∃ f, f = gpL (gpN a b) k := ⟨_, rfl⟩
        rw [← hF] at ho HS hll ⊢
        have HO := hid ho
        have hl60 : f.length ≤ 60 := by omega
        have hcs := hb1.size
        clear hF ho
        go_wp2_with (first | (go_at_call 56; refine (HC.out _).mono ?_; rintro e wc ⟨rfl, rfl⟩) | (at_builtin; refine wpList_append_own _ rfl _ _ 22 rfl w.heap.size 3 i0 (.int .i64 0) 1 8 Tryz.underlying22 hi hz0 hz1 hz2 rfl (by decide) _ _ _ rfl (HO.out.alloc _) ⟨wr.heap.size, 0, none⟩ 1 1 [.int .i64 k] rfl rfl one_at (one_cell _) (by unfold maxLen; omega) (by omega) (by simp; omega) ?_))
        intro v' w4 hown' hgrow _
        have hb2 : Below w.heap.size w w4 := (hb1.alloc hb1.size _).grown hgrow (by simp; omega) (fun q hq => (HO.out.lt q hq).1)
        have hown2 := own_snoc HS.out hown'
        obtain ⟨A3, c3, rfl, ho3⟩ := own_form hown2 rfl
        have HO3 := hid ho3
        clear hgrow hown' hown2 ho3
        go_wp2_with fail
        go_roundw
        case rel => exact ⟨k + 1, by omega, by omega, by go_num, ⟨A3, c3, rfl, HO3.out⟩, hb2⟩
        case measure => show 60 - ((k : Int) + 1).toNat < 60 - (k : Int).toNat; omega
      · have hg : gpN a b k = false := by simp [gpN, hf]
        have HS := hid (gpL_f hg)
        rw [hf] at HC
        have HO := hid ho
        clear hf hg ho
        go_wp2_with (go_at_call 56; refine (HC.out _).mono ?_; rintro e wc ⟨rfl, rfl⟩)
        go_roundw
        case rel => exact ⟨k + 1, by omega, by omega, by go_num, ⟨Ag, cg, by rw [HS.out], by rw [HS.out]; exact HO.out⟩, hb1⟩
        case measure => show 60 - ((k : Int) + 1).toNat < 60 - (k : Int).toNat; omega
    · have hkk : k = (a * b).toNat := by omega
      have HK := hid (show gapsL a b = gpL (gpN a b) k by unfold gapsL; rw [hkk])
      have HO := hid ho
      clear hkk ho
      go_wp2_with fail
      go_ret
      exact ⟨Ag, cg, by rw [HK.out]; rfl, by rw [HK.out]; exact HO.out, hb1⟩

end Go.Proofs.YtijfefahogcfmaaGreat
/-
  First hooks: contracts of FirstHooks and FromFirstHooks on both sides.
-/
namespace Go.Proofs.YtijfefahogcfmaaGreat
open Go.RowKit

def firstF (p : List Int) : List Int := if good p then beadsL p p.length else []
theorem bound_FirstHooks (xs : List Int) : (firstF xs).length ≤ 1048576 := by
  unfold firstF
  split
  · rename_i h; have := ((good_iff xs).1 h).len; rw [beadsL_len]; omega
  · exact Nat.zero_le _
theorem beadsL_take (p : List Int) (m : Nat) (h : m < p.length) : (beadsL p p.length).take (m + 1) = (beadsL p p.length).take m ++ [(m : Int) + p.getD (p.length - 1 - m) 0] := by
  have hl := beadsL_len p p.length
  rw [List.take_succ_eq_append_getElem (by omega)]
  have e : (beadsL p p.length).getD m 0 = (m : Int) + p.getD (p.length - 1 - m) 0 := by unfold beadsL; rw [fnRow_get _ _ _ h]; rfl
  rw [List.getD_eq_getElem?_getD, List.getElem?_eq_getElem (by omega)] at e
  rw [← e]; rfl

set_option maxRecDepth 100000 in
set_option maxHeartbeats 800000 in
theorem FirstHooks_b (A : Option Addr) (c : Nat) (xs : List Int) (w : World) (hl : xs.length ≤ 1048576) (hc : Cells w A xs) (t : Bool) (ht : good xs = t) :
    Calls Tryz.prog 35 #[.slice A xs.length c] w fun e w' => ∃ A' c', e = .returned (.tuple #[.slice A' (firstF xs).length c', .bool t]) ∧ Own w' w.heap.size A' c' (firstF xs) ∧ Below w.heap.size w w' := by
  have HG := hid ht
  cases t
  · rw [show firstF xs = [] by simp [firstF, ht]]
    clear ht
    go_enter Tryz.func35, Tryz.ntmps35
    go_wp2_with (go_at_call 58; refine (IsPartition_b _ _ _ _ hl hc _ HG.out).mono ?_; rintro e w' ⟨rfl, rfl⟩)
    go_ret2
    exact ⟨none, 0, rfl, own_nil _ _, Below.refl _ _⟩
  · have G := (good_iff xs).1 ht
    have h30 := G.len
    have HB := hid (parts_bd G)
    rw [show firstF xs = beadsL xs xs.length by simp [firstF, ht], beadsL_len]
    clear ht G
    go_enter Tryz.func35, Tryz.ntmps35
    go_wp2_with (first | (go_at_call 58; refine (IsPartition_b _ _ _ _ hl hc _ HG.out).mono ?_; rintro e w' ⟨rfl, rfl⟩) | (go_at_call 59; refine (beadsFor_any _ _ _ xs.length _ (by omega) (by omega) HB.out hc).mono ?_; rintro e w2 ⟨A2, c2, rfl, o2, b2⟩))
    go_ret2
    exact ⟨A2, c2, rfl, o2, b2⟩
theorem impl_FirstHooks (A : Option Addr) (c : Nat) (xs : List Int) (w : World) (hl : xs.length ≤ 1048576) (hc : Cells w A xs) :
    Calls Tryz.prog 35 #[.slice A xs.length c] w fun e w' => ∃ A' c', e = .returned (.tuple #[.slice A' (firstF xs).length c', .bool (good xs)]) ∧ Own w' w.heap.size A' c' (firstF xs) ∧ Below w.heap.size w w' := FirstHooks_b A c xs w hl hc _ rfl

set_option maxRecDepth 100000 in
set_option maxHeartbeats 1600000 in
theorem boFirst_any (A : Option Addr) (c : Nat) (xs : List Int) (w : World) (G : Good xs) (hc : Cells w A xs) :
    Calls Tryz.prog 19 #[.slice A xs.length c] w fun e w' => ∃ A' c', e = .returned (.slice A' xs.length c') ∧ Own w' w.heap.size A' c' (beadsL xs xs.length) ∧ Below w.heap.size w w' := by
  obtain ⟨i0, hi, hz0, hz1, hz2⟩ := info_parts Tryz.infoInt
  have h30 := G.len
  have HB := hid (parts_bd G)
  have HBL := hid (beadsL_len xs xs.length)
  have HT := hid (beadsL_take xs)
  clear G
  obtain ⟨L, hL⟩ : ∃ L, L = beadsL xs xs.length := ⟨_, rfl⟩
  rw [← hL] at HBL HT ⊢
  clear hL
  go_enter Tryz.func19, Tryz.ntmps19
  go_wp2_with fail
  go_loopw [3, 4] (fun v i wr => ∃ k : Nat, k ≤ xs.length ∧ i = .int .i64 ((xs.length : Int) - 1 - k) ∧ (∃ A' c', v = .slice A' (L.take k).length c' ∧ Own wr w.heap.size A' c' (L.take k)) ∧ Below w.heap.size w wr) (fun _ i _ => (intOf i + 1).toNat)
  case atStart => exact ⟨0, Nat.zero_le _, by simp, ⟨none, 0, rfl, own_nil _ _⟩, Below.refl _ _⟩
  case round =>
    obtain ⟨k, hk, rfl, ⟨Ag, cg, rfl, ho⟩, hb1⟩ := hrel
    by_cases hlt : k < xs.length
    · obtain ⟨b, o, rfl, hck⟩ := (hc.below hb1).get (j := xs.length - 1 - k) (by omega)
      have hxb := HB.out (xs.length - 1 - k) (by omega)
      have HS := hid (HT.out k hlt)
      have hil : (xs.length : Int) - 1 - k = ((xs.length - 1 - k : Nat) : Int) := by omega
      have hll : (L.take k).length = k := by rw [List.length_take, HBL.out]; omega
      obtain ⟨i, hi2⟩ : ∃ i, i = xs.length - 1 - k := ⟨_, rfl⟩
      rw [hil]
      rw [← hi2] at hck hxb HS ⊢
      have hik : (i : Int) = xs.length - 1 - k := by omega
      have hin : i < xs.length := by omega
      obtain ⟨x, hx⟩ : ∃ x, x = xs.getD i 0 := ⟨_, rfl⟩
      rw [← hx] at hck hxb HS
      obtain ⟨f, hF⟩ : ∃ f, f = L.take k := ⟨_, rfl⟩
      rw [← hF] at ho HS hll ⊢
      have HO := hid ho
      have hl60 : f.length ≤ 60 := by omega
      have hcs := hb1.size
      have hv : x + (xs.length : Int) - 1 - i = k + x := by omega
      have HV := hid hv
      have HIK := hid hik
      clear hF ho hx hil hi2 hll hv hik
      go_wp2_with (at_builtin; refine wpList_append_own _ rfl _ _ 22 rfl w.heap.size 3 i0 (.int .i64 0) 1 8 Tryz.underlying22 hi hz0 hz1 hz2 rfl (by decide) _ _ _ rfl (HO.out.alloc _) ⟨wr.heap.size, 0, none⟩ 1 1 [.int .i64 (x + (xs.length : Int) - 1 - i)] rfl rfl one_at (one_cell _) (by unfold maxLen; omega) (by omega) (by simp; omega) ?_)
      intro v' w4 hown' hgrow _
      have hb2 : Below w.heap.size w w4 := (hb1.alloc hb1.size _).grown hgrow (by simp; omega) (fun q hq => (HO.out.lt q hq).1)
      have hown2 := own_snoc (zs := L.take (k + 1)) (by rw [HS.out, HV.out]) hown'
      obtain ⟨A3, c3, rfl, ho3⟩ := own_form hown2 rfl
      have HO3 := hid ho3
      clear hgrow hown' hown2 ho3
      go_wp2_with fail
      go_roundw
      case rel => exact ⟨k + 1, by omega, by congr 1; have := HIK.out; omega, ⟨A3, c3, rfl, HO3.out⟩, hb2⟩
      case measure => show ((i : Int) - 1 + 1).toNat < ((i : Int) + 1).toNat; omega
    · have hkl : k = xs.length := by omega
      subst hkl
      have ht : L.take xs.length = L := List.take_of_length_le (by rw [HBL.out]; exact Nat.le_refl _)
      rw [ht] at ho ⊢
      have HO := hid ho
      clear ht ho
      go_wp2_with fail
      go_ret
      exact ⟨Ag, cg, by rw [HBL.out]; rfl, HO.out, hb1⟩

/-! FromFirstHooks -/
def ffOk (xs : List Int) : Bool := decide (xs.length ≤ 30) && (rises 1 60 xs && good (partsL xs))
def ffF (xs : List Int) : List Int := if ffOk xs then partsL xs else []
theorem bound_FromFirstHooks (xs : List Int) : (ffF xs).length ≤ 1048576 := by
  unfold ffF
  split
  · rename_i h
    simp only [ffOk, Bool.and_eq_true, decide_eq_true_eq] at h
    have := partsL_len xs; omega
  · exact Nat.zero_le _
theorem rises_up {hi : Int} {xs : List Int} (R : Rises 1 hi xs) : ∀ j, j < xs.length → (j : Int) < xs.getD j 0
  | 0, h => by have := (R.bd 0 h).1; omega
  | j + 1, h => by have := rises_up R j (by omega); have := R.up j h; omega
theorem bpk_full {xs : List Int} (h : ∀ j, j < xs.length → (j : Int) < xs.getD j 0) : ∀ k, k ≤ xs.length → (bpk xs k).length = k
  | 0, _ => rfl
  | k + 1, hk => by rw [bpk_yes rfl rfl (h _ (by omega)), List.length_append, bpk_full h k (by omega)]; rfl
theorem bpk_get {xs : List Int} (h : ∀ j, j < xs.length → (j : Int) < xs.getD j 0) : ∀ k, k ≤ xs.length → ∀ j, j < k → (bpk xs k).getD j 0 = xs.getD (xs.length - 1 - j) 0 - (xs.length - 1 - j : Nat)
  | 0, _, j, hj => by omega
  | k + 1, hk, j, hj => by
    have hl := bpk_full h k (by omega)
    rw [bpk_yes rfl rfl (h _ (by omega)), List.getD_eq_getElem?_getD, List.getElem?_append]
    by_cases e : j < k
    · rw [if_pos (by omega), ← List.getD_eq_getElem?_getD]; exact bpk_get h k (by omega) j e
    · have e2 : j = k := by omega
      subst e2
      rw [if_neg (by omega), hl, Nat.sub_self]; rfl
theorem ff_same {xs : List Int} (h0 : 0 < xs.length → 1 ≤ xs.getD 0 0) : goodB xs = ffOk xs := by
  cases e : ffOk xs
  · cases e2 : goodB xs
    · rfl
    · exfalso
      have G := goodB_iff.1 e2
      have hge : ∀ j, j < xs.length → 1 ≤ xs.getD j 0 := by
        intro j
        induction j with
        | zero => exact h0
        | succ j ih => intro h; have := ih (by omega); have := G.rise.up j h; omega
      have R1 : Rises 1 1000 xs := ⟨fun j hj => ⟨hge j hj, (G.rise.bd j hj).2⟩, G.rise.up⟩
      have hu := rises_up R1
      have hl := bpk_full hu xs.length (Nat.le_refl _)
      have h30 := G.parts.len
      have hll : (partsL xs).length = xs.length := hl
      have R : Rises 1 60 xs := ⟨fun j hj => by
        refine ⟨hge j hj, ?_⟩
        have h1 := bpk_get hu xs.length (Nat.le_refl _) (xs.length - 1 - j) (by omega)
        rw [show xs.length - 1 - (xs.length - 1 - j) = j by omega] at h1
        have h2 := G.parts.le (xs.length - 1 - j) (by omega)
        rw [show partsL xs = bpk xs xs.length from rfl, h1] at h2
        omega, G.rise.up⟩
      have h3 : xs.length ≤ 30 := by omega
      have : ffOk xs = true := by simp only [ffOk, Bool.and_eq_true, decide_eq_true_eq]; exact ⟨h3, rises_Rises.2 R, (good_iff _).2 G.parts⟩
      rw [this] at e; cases e
  · simp only [ffOk, Bool.and_eq_true, decide_eq_true_eq] at e
    have R := rises_Rises.1 e.2.1
    exact goodB_iff.2 ⟨by omega, ⟨fun j hj => by have := R.bd j hj; omega, R.up⟩, (good_iff _).1 e.2.2⟩
theorem ff_low {xs : List Int} (h : 0 < xs.length) (h0 : xs.getD 0 0 < 1) : ffOk xs = false := by
  cases e : ffOk xs
  · rfl
  · exfalso
    simp only [ffOk, Bool.and_eq_true, decide_eq_true_eq] at e
    have := ((rises_Rises.1 e.2.1).bd 0 h).1
    omega

set_option maxRecDepth 100000 in
set_option maxHeartbeats 800000 in
theorem parts_any (A : Option Addr) (c : Nat) (xs : List Int) (w : World) (hl : xs.length ≤ 1000) (hb : ∀ j, j < xs.length → 0 ≤ xs.getD j 0 ∧ xs.getD j 0 ≤ 1000) (hc : Cells w A xs) :
    Calls Tryz.prog 29 #[.slice A xs.length c] w fun e w' => ∃ A' c', e = .returned (.slice A' (partsL xs).length c') ∧ Own w' w.heap.size A' c' (partsL xs) ∧ Below w.heap.size w w' := by
  have HP := hid (partsOf_any A c xs w hl hb hc)
  clear hb
  obtain ⟨g, hg⟩ : ∃ g, g = partsL xs := ⟨_, rfl⟩
  rw [← hg] at HP ⊢
  clear hg
  go_enter Tryz.func29, Tryz.ntmps29
  go_wp2_with (go_at_call 54; refine HP.out.mono ?_; rintro e w2 ⟨A2, c2, rfl, o2, b2⟩)
  go_ret
  exact ⟨A2, c2, rfl, o2, b2⟩

theorem ff_f {xs : List Int} (h : ffOk xs = false) : ffF xs = [] := by simp [ffF, h]
theorem ff_t {xs : List Int} (h : ffOk xs = true) : ffF xs = partsL xs := by simp [ffF, h]
theorem rises_c {xs : List Int} (A : Option Addr) (c : Nat) (W : World) (b : Bool) (h : rises 1 60 xs = b) (hl : xs.length ≤ 1048576) (hc : Cells W A xs) :
    Calls Tryz.prog 55 #[.slice A xs.length c, .int .i64 1, .int .i64 60] W fun e w' => e = .returned (.bool b) ∧ W = w' := by
  subst h; exact l1Rising_any A xs c 1 60 W hl hc

set_option maxRecDepth 100000 in
set_option maxHeartbeats 2000000 in
theorem boFrom_any (A : Option Addr) (c : Nat) (xs : List Int) (w : World) (hl : xs.length ≤ 1048576) (hc : Cells w A xs) :
    Calls Tryz.prog 33 #[.slice A xs.length c] w fun e w' => ∃ A' c', e = .returned (.tuple #[.slice A' (ffF xs).length c', .bool (ffOk xs)]) ∧ Own w' w.heap.size A' c' (ffF xs) ∧ Below w.heap.size w w' := by
  obtain ⟨i0, hi, hz0, hz1, hz2⟩ := info_parts Tryz.infoInt
  by_cases h30 : 30 < xs.length
  · have e : ffOk xs = false := by simp [ffOk]; omega
    rw [ff_f e, e]
    clear e
    go_enter Tryz.func33, Tryz.ntmps33
    go_wp2_with fail
    go_ret2
    exact ⟨none, 0, rfl, own_nil _ _, Below.refl _ _⟩
  have h30' : xs.length ≤ 30 := by omega
  clear h30
  cases hr : rises 1 60 xs
  · have e : ffOk xs = false := by simp [ffOk, hr]
    rw [ff_f e, e]
    have HR := hid fun W (h : Cells W A xs) => rises_c A c W _ hr hl h
    clear e hr
    go_enter Tryz.func33, Tryz.ntmps33
    go_wp2_with (go_at_call 55; refine (HR.out _ hc).mono ?_; rintro e w1 ⟨rfl, rfl⟩)
    go_ret2
    exact ⟨none, 0, rfl, own_nil _ _, Below.refl _ _⟩
  have R := rises_Rises.1 hr
  have HR := hid fun W (h : Cells W A xs) => rises_c A c W _ hr hl h
  have HU := hid (rises_up R)
  have HBD := hid R.bd
  have HL := hid (bpk_full (rises_up R))
  have HOK := hid (show ffOk xs = good (partsL xs) by simp [ffOk, hr, h30'])
  have HFF := hid (show ffF xs = if good (partsL xs) then partsL xs else [] by unfold ffF; rw [HOK.out])
  obtain ⟨Rs, hRs⟩ : ∃ Rs, Rs = ffF xs := ⟨_, rfl⟩
  obtain ⟨Bo, hBo⟩ : ∃ Bo, Bo = ffOk xs := ⟨_, rfl⟩
  rw [← hRs] at HFF ⊢
  rw [← hBo] at HOK ⊢
  clear hr R hRs hBo
  go_enter Tryz.func33, Tryz.ntmps33
  go_wp2_with (go_at_call 55; refine (HR.out _ hc).mono ?_; rintro e w1 ⟨rfl, rfl⟩)
  go_loopw [4, 5] (fun v i wr => ∃ k : Nat, k ≤ xs.length ∧ i = .int .i64 ((xs.length : Int) - 1 - k) ∧ (∃ A' c', v = .slice A' (bpk xs k).length c' ∧ Own wr w.heap.size A' c' (bpk xs k)) ∧ Below w.heap.size w wr) (fun _ i _ => (intOf i + 1).toNat)
  case atStart => exact ⟨0, Nat.zero_le _, by simp, ⟨none, 0, rfl, own_nil _ _⟩, Below.refl _ _⟩
  case round =>
    obtain ⟨k, hk, rfl, ⟨Ag, cg, rfl, ho⟩, hb1⟩ := hrel
    by_cases hlt : k < xs.length
    · obtain ⟨b, o, rfl, hck⟩ := (hc.below hb1).get (j := xs.length - 1 - k) (by omega)
      have hxb := HBD.out (xs.length - 1 - k) (by omega)
      have hxu := HU.out (xs.length - 1 - k) (by omega)
      have HS := hid (bpk_yes (xs := xs) (k := k) rfl rfl hxu)
      have hil : (xs.length : Int) - 1 - k = ((xs.length - 1 - k : Nat) : Int) := by omega
      have hll : (bpk xs k).length = k := HL.out k (by omega)
      obtain ⟨i, hi2⟩ : ∃ i, i = xs.length - 1 - k := ⟨_, rfl⟩
      rw [hil]
      rw [← hi2] at hck hxb HS hxu ⊢
      have HIK := hid (show (i : Int) = xs.length - 1 - k by omega)
      have hin : i < xs.length := by omega
      obtain ⟨x, hx⟩ : ∃ x, x = xs.getD i 0 := ⟨_, rfl⟩
      rw [← hx] at hck hxb HS hxu
      obtain ⟨f, hF⟩ : ∃ f, f = bpk xs k := ⟨_, rfl⟩
      rw [← hF] at ho HS hll ⊢
      have HO := hid ho
      have hl60 : f.length ≤ 60 := by omega
      have hcs := hb1.size
      clear hF ho hx hil hi2 hll
      go_wp2_with (at_builtin; refine wpList_append_own _ rfl _ _ 22 rfl w.heap.size 3 i0 (.int .i64 0) 1 8 Tryz.underlying22 hi hz0 hz1 hz2 rfl (by decide) _ _ _ rfl (HO.out.alloc _) ⟨wr.heap.size, 0, none⟩ 1 1 [.int .i64 (x - i)] rfl rfl one_at (one_cell _) (by unfold maxLen; omega) (by omega) (by simp; omega) ?_)
      intro v' w4 hown' hgrow _
      have hb2 : Below w.heap.size w w4 := (hb1.alloc hb1.size _).grown hgrow (by simp; omega) (fun q hq => (HO.out.lt q hq).1)
      have hown2 := own_snoc (zs := bpk xs (k + 1)) HS.out hown'
      obtain ⟨A3, c3, rfl, ho3⟩ := own_form hown2 rfl
      have HO3 := hid ho3
      clear hgrow hown' hown2 ho3
      go_wp2_with fail
      go_roundw
      case rel => exact ⟨k + 1, by omega, by congr 1; have := HIK.out; omega, ⟨A3, c3, rfl, HO3.out⟩, hb2⟩
      case measure => show ((i : Int) - 1 + 1).toNat < ((i : Int) + 1).toNat; omega
    · have hkl : k = xs.length := by omega
      subst hkl
      have hpp : bpk xs xs.length = partsL xs := rfl
      have hpl := HL.out xs.length (Nat.le_refl _)
      rw [hpp] at ho hpl ⊢
      obtain ⟨P, hP⟩ : ∃ P, P = partsL xs := ⟨_, rfl⟩
      rw [← hP] at ho hpl HOK HFF ⊢
      have HO := hid ho
      have hPl : P.length ≤ 1048576 := by omega
      clear hP hpp ho hpl
      cases hg : good P
      · rw [hg] at HOK
        rw [hg, if_neg (by simp)] at HFF
        have HG := hid hg
        clear hg
        go_wp2_with (go_at_call 40; refine (ptGood_b _ _ _ _ hPl HO.out.cells _ HG.out).mono ?_; rintro e w' ⟨rfl, n, rfl⟩)
        go_ret2
        exact ⟨none, 0, by rw [HOK.out, HFF.out]; rfl, by rw [HFF.out]; exact own_nil _ _, Below.next hb1 (below_drew' _ _)⟩
      · rw [hg] at HOK
        rw [hg, if_pos rfl] at HFF
        have HG := hid hg
        clear hg
        go_wp2_with (go_at_call 40; refine (ptGood_b _ _ _ _ hPl HO.out.cells _ HG.out).mono ?_; rintro e w' ⟨rfl, n, rfl⟩)
        go_ret2
        exact ⟨Ag, cg, by rw [HOK.out, HFF.out]; rfl, by rw [HFF.out]; exact HO.out.drewN n, Below.next hb1 (below_drew' _ _)⟩
end Go.Proofs.YtijfefahogcfmaaGreat
