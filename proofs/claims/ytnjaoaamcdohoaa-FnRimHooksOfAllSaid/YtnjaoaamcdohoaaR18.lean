/-
  Several texts in one.
-/
import Derived.Test.YtnjaoaamcdohoaaR17
import Derived.Test.YtnjaoaamcdohoaaR02
import Derived.Test.YtnjaoaamcdohoaaR06
import Derived.Test.YtnjaoaamcdohoaaR04
import Derived.Test.YtnjaoaamcdohoaaCC
/-
  A rim hook: as many cells as the hook, on contents that follow each other; without it a partition inside is left. Corners and addable rows. No walk in this text.
-/
namespace Go.Proofs.Ytnjaoaamcdohoaa
open Go.RowKit

def cnt2 (q : Nat × Nat) : Int := (q.2 : Int) - (q.1 : Int)
theorem rimRow_get (xs : List Int) (k row n i : Nat) (h : i < n) : (rimRow xs k row n).getD i (0, 0) = (row, fr xs k row + i) := by
  unfold rimRow
  rw [List.getD_eq_getElem?_getD, List.getElem?_map, List.getElem?_range h]; rfl
theorem rim_shape {xs : List Int} {r k low : Nat} (R : RimOK xs r k low) : ∀ d, d ≤ low → ((rimUp xs k low (d + 1)).length : Int) = xs.getD (low - d) 0 - k + d ∧
    (∀ i, i < (rimUp xs k low (d + 1)).length → cnt2 ((rimUp xs k low (d + 1)).getD i (0, 0)) = (k : Int) - low + i) ∧ ((rimUp xs k low (d + 1)).getD ((rimUp xs k low (d + 1)).length - 1) (0, 0)).1 = low - d
  | 0, _ => by
    have hc := R.cn_pos (Nat.le_refl low)
    have hf := R.fr_low
    have e : rimUp xs k low (0 + 1) = rimRow xs k low (cn xs k low) := by simp [rimUp]
    rw [e, rimRow_len]
    rw [hf] at hc
    refine ⟨by rw [Nat.sub_zero]; omega, fun i hi => ?_, ?_⟩
    · rw [rimRow_get _ _ _ _ _ hi, hf]
      unfold cnt2
      show ((k + i : Nat) : Int) - (low : Int) = _
      omega
    · rw [rimRow_get _ _ _ _ _ (by omega)]; rfl
  | d + 1, hd => by
    obtain ⟨i1, i2, i3⟩ := rim_shape R d (by omega)
    have hc := R.cn_pos (row := low - (d + 1)) (by omega)
    have hf := R.fr_up (row := low - (d + 1)) (by omega)
    rw [show low - (d + 1) + 1 = low - d by omega] at hf
    have e : rimUp xs k low (d + 1 + 1) = rimUp xs k low (d + 1) ++ rimRow xs k (low - (d + 1)) (cn xs k (low - (d + 1))) := rfl
    obtain ⟨L, hL⟩ : ∃ L, L = rimUp xs k low (d + 1) := ⟨_, rfl⟩
    rw [← hL] at i1 i2 e
    rw [e, List.length_append, rimRow_len]
    refine ⟨by omega, fun i hi => ?_, ?_⟩
    · rcases Nat.lt_or_ge i L.length with h | h
      · rw [List.getD_eq_getElem?_getD, List.getElem?_append_left h, ← List.getD_eq_getElem?_getD]
        exact i2 i h
      · rw [List.getD_eq_getElem?_getD, List.getElem?_append_right h, ← List.getD_eq_getElem?_getD, rimRow_get _ _ _ _ _ (by omega)]
        unfold cnt2
        show ((fr xs k (low - (d + 1)) + (i - L.length) : Nat) : Int) - ((low - (d + 1) : Nat) : Int) = _
        omega
    · rw [List.getD_eq_getElem?_getD, List.getElem?_append_right (by omega), ← List.getD_eq_getElem?_getD, rimRow_get _ _ _ _ _ (by omega)]
theorem decs_sum {xs : List Int} : ∀ L : List (Nat × Nat), (∀ q ∈ L, q.1 < xs.length) → (decs xs L).sum = xs.sum - L.length := by
  intro L
  induction L using snocInd with
  | h0 => intro _; rw [decs_nil]; simp
  | h1 L q ih =>
    intro h
    have ih := ih fun x hx => h x (List.mem_append.2 (.inl hx))
    have hq := h q (List.mem_append.2 (.inr (List.mem_singleton.2 rfl)))
    rw [decs_snoc, sum_set' _ _ (by rw [decs_len]; exact hq), ih, List.length_append]
    simp only [List.length_singleton]
    omega
theorem out_sum {xs : List Int} {r k low : Nat} (R : RimOK xs r k low) : (outL xs r k low).sum = xs.sum - (rimUp xs k low (low + 1 - r)).length := by
  have hs := sum_filter_pos (restL xs r k low) (fun x hx => by
    obtain ⟨j, hj, rfl⟩ := List.getElem_of_mem hx
    rw [restL_len] at hj
    have := (R.rest_pos hj).1
    rw [← restL_get xs r k low j hj, List.getD_eq_getElem?_getD, List.getElem?_eq_getElem (by rw [restL_len]; exact hj)] at this
    exact this)
  have he : (outL xs r k low).sum = (restL xs r k low).sum := hs
  rw [he, ← R.decs]
  exact decs_sum _ fun q hq => Nat.lt_of_le_of_lt (rimUp_mem xs k low _ q hq) R.low_lt
theorem anti_r {xs : List Int} (G : Good xs) {j : Nat} (hj : j < xs.length) : xs.getD j 0 ≤ xs.getD 0 0 := by
  have := down_le xs G.down 0 j (by omega)
  rwa [Nat.zero_add] at this
/-- All that is told of a rim hook. -/
theorem rhk_all {xs : List Int} {r k : Int} (h : atB xs r k = true) : ∃ L : List (Nat × Nat), rimF xs r k = pairs L ∧ (L.length : Int) = hookF xs r k ∧ 0 < L.length ∧ L.length ≤ 1000 ∧
    (∀ i, i < L.length → (L.getD i (0, 0)).1 ≤ 30 ∧ (L.getD i (0, 0)).2 ≤ 1030) ∧ (∀ i, 0 < i → i < L.length → cnt2 (L.getD i (0, 0)) = cnt2 (L.getD (i - 1) (0, 0)) + 1) ∧
    ((L.getD 0 (0, 0)).1 : Int) - (L.getD (L.length - 1) (0, 0)).1 = legF xs r k ∧ good (outF xs r k) = true ∧ xs.sum - (outF xs r k).sum = hookF xs r k ∧ insideF (outF xs r k) xs = true ∧ (0 ≤ legF xs r k ∧ legF xs r k ≤ 30) := by
  have h2 := h
  unfold atB at h2
  rw [Bool.and_eq_true] at h2
  have G := (good_iff xs).1 h2.1
  obtain ⟨r', k', rfl, rfl, hr, hk⟩ := cellB_nat h2.2
  have R := rim_ok G hr hk
  have hcol := R.col
  obtain ⟨low, hlow⟩ : ∃ low, low = (colH xs (k' : Int)).toNat - 1 := ⟨_, rfl⟩
  rw [← hlow] at R hcol
  have hll := R.low_lt
  have hrl := R.r_le
  have hl30 := G.len
  have eL : rimL xs r' k' = rimUp xs k' low (low + 1 - r') := by
    unfold rimL
    rw [← hlow, hcol]
    congr 1
  have eF : rimF xs (r' : Int) (k' : Int) = pairs (rimUp xs k' low (low + 1 - r')) := by
    unfold rimF
    rw [if_pos h, Int.toNat_natCast, Int.toNat_natCast, eL]
  have hlw : lowN xs k' = low := hlow.symm
  have eO : outF xs (r' : Int) (k' : Int) = outL xs r' k' low := by
    unfold outF
    rw [if_pos h, Int.toNat_natCast, Int.toNat_natCast, hlw]
  have eG : legF xs (r' : Int) (k' : Int) = (low : Int) - r' := by
    unfold legF
    rw [if_pos h, Int.toNat_natCast, hlw]
  obtain ⟨s1, s2, s3⟩ := rim_shape R (low - r') (by omega)
  rw [show low - r' + 1 = low + 1 - r' by omega] at s1 s2 s3
  rw [show low - (low - r') = r' by omega] at s1 s3
  have hk0 : k' < (xs.getD 0 0).toNat := by
    have := anti_r G hr
    omega
  have eH : hookF xs (r' : Int) (k' : Int) = xs.getD r' 0 - k' + (low - r') := by
    rw [hookF_t h, Int.toNat_natCast, Int.toNat_natCast]
    unfold hookN
    rw [cols_get xs k' hk0, hcol]
    omega
  have hfst := rim_first R
  have hmem := rimUp_mem xs k' low (low + 1 - r')
  have hgo := out_good R
  have hos := out_sum R
  have hx30 := G.le r' hr
  have hp := hfst.1
  have hf2 := hfst.2
  obtain ⟨L, hL⟩ : ∃ L, L = rimUp xs k' low (low + 1 - r') := ⟨_, rfl⟩
  rw [← hL] at eF s1 s2 s3 hp hf2 hmem hos
  have hi : ∀ i, i < L.length → (L.getD i (0, 0)).1 ≤ low := fun i hi => hmem _ (by rw [List.getD_eq_getElem?_getD, List.getElem?_eq_getElem hi]; exact List.getElem_mem hi)
  refine ⟨L, eF, by rw [eH]; omega, hp, by omega, fun i hi2 => ?_, fun i h0 hi2 => ?_, ?_, ?_, ?_, ?_, ?_⟩
  · have a := hi i hi2
    have b := s2 i hi2
    unfold cnt2 at b
    omega
  · rw [s2 i hi2, s2 (i - 1) (by omega)]
    omega
  · rw [hf2, s3, eG]
  · rw [eO]; exact (good_iff _).2 hgo.1
  · rw [eO, hos, eH]; omega
  · rw [eO]
    have hg2 : good (outL xs r' k' low) = true := (good_iff _).2 hgo.1
    have hi3 : insideB (outL xs r' k' low) xs = true := by
      refine inside_yes (outL_len xs r' k' low) fun j hj => ?_
      have hjl := Nat.lt_of_lt_of_le hj (outL_len xs r' k' low)
      rw [outL_get R j hjl]
      unfold rest
      split
      · rename_i hj2
        have := R.fr_lt hj2.2
        omega
      · exact Int.le_refl _
    unfold insideF
    rw [hg2, h2.1, hi3]; rfl
  · rw [eG]; omega
theorem filt_shift (p q : Nat → Bool) : ∀ n, (∀ i, i < n → q (i + 1) = p i) → q 0 = true → (filt q (n + 1)).length = (filt p n).length + 1
  | 0, _, h0 => by rw [filt_yes h0]; rfl
  | n + 1, h, h0 => by
    have ih := filt_shift p q n (fun i hi => h i (by omega)) h0
    cases hp : p n
    · rw [filt_no (by rw [h n (by omega)]; exact hp), filt_no hp]; exact ih
    · rw [filt_yes (by rw [h n (by omega)]; exact hp), filt_yes hp, List.length_append, List.length_append, ih]; rfl
theorem add_cor {xs : List Int} (h : good xs = true) : (addF xs).length = (corF xs).length + 1 := by
  rw [addF_t h, corF_t h]
  refine filt_shift _ _ _ (fun i hi => ?_) (add_zero xs)
  unfold addB corB
  rw [decide_eq_false (show ¬ i + 1 = 0 by omega), Bool.false_or, Nat.add_sub_cancel]
end Go.Proofs.Ytnjaoaamcdohoaa
/-
  Contracts: AddableOf of the program and of the model.
-/
namespace Go.Proofs.Ytnjaoaamcdohoaa
open Go.RowKit

theorem owns_drewN {w : World} {B e s n : Nat} {v : Value} {xs : List Value} (h : w.ownsRow B e s v n xs) (k : Nat) : (w.drewN k).ownsRow B e s v n xs := h

set_option maxRecDepth 100000 in
set_option maxHeartbeats 1000000 in
theorem impl_AddableOf (A : Option Addr) (c : Nat) (xs : List Int) (w : World) (hl : xs.length ≤ 1048576) (hc : Cells w A xs) :
    Calls Try.prog 15 #[.slice A xs.length c] w fun e w' => ∃ A' c', e = .returned (.tuple #[.slice A' (addF xs).length c', .bool (good xs)]) ∧ Own w' w.heap.size A' c' (addF xs) ∧ Below w.heap.size w w' := by
  obtain ⟨i0, hi, hz0, hz1, hz2⟩ := info_parts Try.infoInt
  cases hg : good xs
  · rw [addF_f hg]
    have HG := hid hg; clear hg
    go_enter Try.func15, Try.ntmps15
    go_wp2_with (go_at_call 29; refine (IsPartition_b _ _ _ _ hl hc _ HG.out).mono ?_; rintro e w' ⟨rfl, rfl⟩)
    go_ret2
    exact ⟨none, 0, rfl, own_nil _ _, Below.refl _ _⟩
  rw [addF_t hg]
  have hlen := ((good_iff xs).1 hg).len
  have HG := hid hg; clear hg
  go_enter Try.func15, Try.ntmps15
  go_wp2_with (go_at_call 29; refine (IsPartition_b _ _ _ _ hl hc _ HG.out).mono ?_; rintro e w' ⟨rfl, rfl⟩)
  go_loopw [4, 12] (fun v i wr => ∃ k : Nat, k ≤ xs.length ∧ i = .int .i64 k ∧ wr.ownsRow w.heap.size 3 1 v (filt (addB xs) k).length (IL (filt (addB xs) k)) ∧ Below w.heap.size w wr) (fun _ i _ => xs.length - (intOf i).toNat)
  case atStart => exact ⟨0, Nat.zero_le _, rfl, World.ownsRow_nil _ _ _ _, Below.refl _ _⟩
  case round =>
    obtain ⟨k, hk, rfl, hown, hbel⟩ := hrel
    have hfl := filt_len (addB xs) k
    by_cases hlt : k < xs.length
    · have hcr : Cells wr A xs := hc.later hbel
      obtain ⟨b, o, rfl, hcc⟩ := hcr (by omega)
      have hck := hcc k hlt
      obtain ⟨x, hx⟩ : ∃ x, x = xs.getD k 0 := ⟨_, rfl⟩
      rw [← hx] at hck
      have HX := hid hx; clear hx
      by_cases hz : k = 0
      · have HZ := hid hz
        have hke : ((k : Int) == 0) = true := beq_iff_eq.2 (by omega)
        clear hcc hz
        go_wp2_with (at_builtin; refine wpList_append_own _ rfl _ _ 22 rfl w.heap.size 3 i0 (.int .i64 0) 1 8 Try.underlying22 hi hz0 hz1 hz2 rfl (by decide) _ _ _ rfl (hown.alloc _) ⟨wr.heap.size, 0, none⟩ 1 1 [.int .i64 (k : Int)] rfl rfl one_at (one_cell _) (by have := hfl; unfold maxLen; omega) (by have := hfl; omega) (by have := hbel.size; simp; omega) ?_)
        intro v' w1 hown' hgrow _
        have hb1 : Below w.heap.size w w1 := (hbel.alloc hbel.size _).grown hgrow (by have := hbel.size; simp; omega) (fun q hq => (hown.lt q hq).1)
        have hown2 := own_snoc (filt_yes (by rw [HZ.out]; exact add_zero xs)) hown'
        clear hgrow hown hown'
        go_wp2_with fail
        go_roundw
        case rel => exact ⟨k + 1, by omega, by go_num, hown2, hb1⟩
        case measure => simp [intOf]; omega
      have hke : ((k : Int) == 0) = false := beq_eq_false_iff_ne.2 (by omega)
      have hck1 := hcc (k - 1) (by omega)
      have hk1 : 1 ≤ k := by omega
      have hidx : ((k : Int) - 1).toNat = k - 1 := by omega
      obtain ⟨y, hy⟩ : ∃ y, y = xs.getD (k - 1) 0 := ⟨_, rfl⟩
      rw [← hy] at hck1
      have HY := hid hy; clear hy hcc hz
      by_cases hxy : x < y
      · have HXY := hid hxy
        go_wp2_with (at_builtin; refine wpList_append_own _ rfl _ _ 22 rfl w.heap.size 3 i0 (.int .i64 0) 1 8 Try.underlying22 hi hz0 hz1 hz2 rfl (by decide) _ _ _ rfl (hown.alloc _) ⟨wr.heap.size, 0, none⟩ 1 1 [.int .i64 (k : Int)] rfl rfl one_at (one_cell _) (by have := hfl; unfold maxLen; omega) (by have := hfl; omega) (by have := hbel.size; simp; omega) ?_)
        intro v' w1 hown' hgrow _
        have hb1 : Below w.heap.size w w1 := (hbel.alloc hbel.size _).grown hgrow (by have := hbel.size; simp; omega) (fun q hq => (hown.lt q hq).1)
        have hown2 := own_snoc (filt_yes (add_lt (by rw [← HX.out, ← HY.out]; exact HXY.out))) hown'
        clear hgrow hown hown'
        go_wp2_with fail
        go_roundw
        case rel => exact ⟨k + 1, by omega, by go_num, hown2, hb1⟩
        case measure => simp [intOf]; omega
      · go_wp2_with fail
        go_roundw
        case rel => exact ⟨k + 1, by omega, by go_num, by rw [filt_no (add_no (by omega) (by omega) (by rw [← HX.out, ← HY.out]; exact hxy))]; exact hown, hbel⟩
        case measure => simp [intOf]; omega
    · have hkl : k = xs.length := by omega
      subst hkl
      go_wp2_with (at_builtin; refine wpList_append_own _ rfl _ _ 22 rfl w.heap.size 3 i0 (.int .i64 0) 1 8 Try.underlying22 hi hz0 hz1 hz2 rfl (by decide) _ _ _ rfl (hown.alloc _) ⟨wr.heap.size, 0, none⟩ 1 1 [.int .i64 (xs.length : Int)] rfl rfl one_at (one_cell _) (by have := hfl; unfold maxLen; omega) (by have := hfl; omega) (by have := hbel.size; simp; omega) ?_)
      intro v' w1 hown' hgrow _
      have hb1 : Below w.heap.size w w1 := (hbel.alloc hbel.size _).grown hgrow (by have := hbel.size; simp; omega) (fun q hq => (hown.lt q hq).1)
      have hown2 := own_snoc (filt_yes (add_last xs)) hown'
      clear hgrow hown hown'
      obtain ⟨A', c', rfl, ho⟩ := own_form hown2 rfl
      clear hown2 hfl
      go_wp2_with fail
      go_ret2
      exact ⟨A', c', rfl, ho, hb1⟩

set_option maxRecDepth 100000 in
set_option maxHeartbeats 1000000 in
theorem ptAddable_any (A : Option Addr) (c : Nat) (xs : List Int) (w : World) (hlen : xs.length ≤ 30) (hc : Cells w A xs) :
    Calls Try.prog 30 #[.slice A xs.length c] w fun e w' => ∃ A' c', e = .returned (.slice A' (filt (addB xs) (xs.length + 1)).length c') ∧ Own w' w.heap.size A' c' (filt (addB xs) (xs.length + 1)) ∧ Below w.heap.size w w' := by
  obtain ⟨i0, hi, hz0, hz1, hz2⟩ := info_parts Try.infoInt
  go_enter Try.func30, Try.ntmps30
  go_wp2_with fail
  go_loopw [3, 4] (fun v i wr => ∃ k : Nat, k ≤ xs.length + 1 ∧ i = .int .i64 k ∧ wr.ownsRow w.heap.size 3 1 v (filt (addB xs) k).length (IL (filt (addB xs) k)) ∧ Below w.heap.size w wr) (fun _ i _ => xs.length + 1 - (intOf i).toNat)
  case atStart => exact ⟨0, Nat.zero_le _, rfl, World.ownsRow_nil _ _ _ _, Below.refl _ _⟩
  case round =>
    obtain ⟨k, hk, rfl, hown0, hbel0⟩ := hrel
    have hfl := filt_len (addB xs) k
    by_cases hlt : k ≤ xs.length
    · have hcr : Cells wr A xs := hc.later hbel0
      by_cases hz : k = 0
      · have HZ := hid hz
        have hke : ((k : Int) == 0) = true := beq_iff_eq.2 (by omega)
        clear hz
        go_wp2_with fail
        go_quiet (fail)
        obtain ⟨wd, hwd⟩ : ∃ wd, wd = wr.drewN nq := ⟨_, rfl⟩
        rw [← hwd]
        have hown := owns_drewN hown0 nq
        rw [← hwd] at hown
        have hbel : Below w.heap.size w wd := by rw [hwd]; exact below_drewN hbel0 _
        clear hwd hown0 hbel0
        go_wp2_with (at_builtin; refine wpList_append_own _ rfl _ _ 22 rfl w.heap.size 3 i0 (.int .i64 0) 1 8 Try.underlying22 hi hz0 hz1 hz2 rfl (by decide) _ _ _ rfl (hown.alloc _) ⟨wd.heap.size, 0, none⟩ 1 1 [.int .i64 (k : Int)] rfl rfl one_at (one_cell _) (by have := hfl; unfold maxLen; omega) (by have := hfl; omega) (by have := hbel.size; simp; omega) ?_)
        intro v' w1 hown' hgrow _
        have hb1 : Below w.heap.size w w1 := (hbel.alloc hbel.size _).grown hgrow (by have := hbel.size; simp; omega) (fun q hq => (hown.lt q hq).1)
        have hown2 := own_snoc (filt_yes (by rw [HZ.out]; exact add_zero xs)) hown'
        clear hgrow hown hown'
        go_wp2_with fail
        go_roundw
        case rel => exact ⟨k + 1, by omega, by go_num, hown2, hb1⟩
        case measure => simp [intOf]; omega
      have hke : ((k : Int) == 0) = false := beq_eq_false_iff_ne.2 (by omega)
      by_cases hlast : k = xs.length
      · have HL := hid hlast
        have hke2 : ((k : Int) == (xs.length : Int)) = true := beq_iff_eq.2 (by omega)
        clear hlast
        go_wp2_with fail
        go_quiet (fail)
        obtain ⟨wd, hwd⟩ : ∃ wd, wd = wr.drewN nq := ⟨_, rfl⟩
        rw [← hwd]
        have hown := owns_drewN hown0 nq
        rw [← hwd] at hown
        have hbel : Below w.heap.size w wd := by rw [hwd]; exact below_drewN hbel0 _
        clear hwd hown0 hbel0
        go_wp2_with (at_builtin; refine wpList_append_own _ rfl _ _ 22 rfl w.heap.size 3 i0 (.int .i64 0) 1 8 Try.underlying22 hi hz0 hz1 hz2 rfl (by decide) _ _ _ rfl (hown.alloc _) ⟨wd.heap.size, 0, none⟩ 1 1 [.int .i64 (k : Int)] rfl rfl one_at (one_cell _) (by have := hfl; unfold maxLen; omega) (by have := hfl; omega) (by have := hbel.size; simp; omega) ?_)
        intro v' w1 hown' hgrow _
        have hb1 : Below w.heap.size w w1 := (hbel.alloc hbel.size _).grown hgrow (by have := hbel.size; simp; omega) (fun q hq => (hown.lt q hq).1)
        have hown2 := own_snoc (filt_yes (by rw [HL.out]; exact add_last xs)) hown'
        clear hgrow hown hown'
        go_wp2_with fail
        go_roundw
        case rel => exact ⟨k + 1, by omega, by go_num, hown2, hb1⟩
        case measure => simp [intOf]; omega
      have hke2 : ((k : Int) == (xs.length : Int)) = false := beq_eq_false_iff_ne.2 (by omega)
      obtain ⟨b, o, rfl, hcc⟩ := hcr (by omega)
      have hck := hcc k (by omega)
      have hck1 := hcc (k - 1) (by omega)
      have hk1 : 1 ≤ k := by omega
      have hk1' : (1 : Int) ≤ (k : Int) := by omega
      have hkl' : (k : Int) < (xs.length : Int) := by omega
      have hidx : ((k : Int) - 1).toNat = k - 1 := by omega
      have HNZ := hid hz; clear hz
      have HNL := hid hlast; clear hlast
      obtain ⟨x, hx⟩ : ∃ x, x = xs.getD k 0 := ⟨_, rfl⟩
      rw [← hx] at hck
      have HX := hid hx; clear hx
      obtain ⟨y, hy⟩ : ∃ y, y = xs.getD (k - 1) 0 := ⟨_, rfl⟩
      rw [← hy] at hck1
      have HY := hid hy; clear hy hcc
      by_cases hxy : x < y
      · have HXY := hid hxy
        go_wp2_with fail
        go_quiet (fail)
        obtain ⟨wd, hwd⟩ : ∃ wd, wd = wr.drewN nq := ⟨_, rfl⟩
        rw [← hwd]
        have hown := owns_drewN hown0 nq
        rw [← hwd] at hown
        have hbel : Below w.heap.size w wd := by rw [hwd]; exact below_drewN hbel0 _
        clear hwd hown0 hbel0
        go_wp2_with (at_builtin; refine wpList_append_own _ rfl _ _ 22 rfl w.heap.size 3 i0 (.int .i64 0) 1 8 Try.underlying22 hi hz0 hz1 hz2 rfl (by decide) _ _ _ rfl (hown.alloc _) ⟨wd.heap.size, 0, none⟩ 1 1 [.int .i64 (k : Int)] rfl rfl one_at (one_cell _) (by have := hfl; unfold maxLen; omega) (by have := hfl; omega) (by have := hbel.size; simp; omega) ?_)
        intro v' w1 hown' hgrow _
        have hb1 : Below w.heap.size w w1 := (hbel.alloc hbel.size _).grown hgrow (by have := hbel.size; simp; omega) (fun q hq => (hown.lt q hq).1)
        have hown2 := own_snoc (filt_yes (add_lt (by rw [← HX.out, ← HY.out]; exact HXY.out))) hown'
        clear hgrow hown hown'
        go_wp2_with fail
        go_roundw
        case rel => exact ⟨k + 1, by omega, by go_num, hown2, hb1⟩
        case measure => simp [intOf]; omega
      · go_wp2_with fail
        go_quiet (fail)
        go_wp2_with fail
        go_roundw
        case rel => exact ⟨k + 1, by omega, by go_num, by rw [filt_no (add_no HNZ.out HNL.out (by rw [← HX.out, ← HY.out]; omega))]; exact hown0, below_drewN hbel0 _⟩
        case measure => simp [intOf]; omega
    · have hkl : k = xs.length + 1 := by omega
      subst hkl
      obtain ⟨A', c', rfl, ho⟩ := own_form hown0 rfl
      clear hown0 hfl
      go_wp2_with fail
      go_ret
      exact ⟨A', c', rfl, ho, hbel0⟩

set_option maxHeartbeats 400000 in
theorem spec_AddableOf (A : Option Addr) (c : Nat) (xs : List Int) (w : World) (hl : xs.length ≤ 1048576) (hc : Cells w A xs) :
    Calls Try.prog 16 #[.slice A xs.length c] w fun e w' => ∃ A' c', e = .returned (.tuple #[.slice A' (addF xs).length c', .bool (good xs)]) ∧ Own w' w.heap.size A' c' (addF xs) ∧ Below w.heap.size w w' := by
  cases hg : good xs
  · rw [addF_f hg]
    have HG := hid hg; clear hg
    go_enter Try.func16, Try.ntmps16
    go_wp2_with (go_at_call 20; refine (ptGood_b _ _ _ _ hl hc _ HG.out).mono ?_; rintro e w' ⟨rfl, n, rfl⟩)
    go_ret2
    exact ⟨none, 0, rfl, own_nil _ _, below_drew' _ _⟩
  · rw [addF_t hg]
    have hlen := ((good_iff xs).1 hg).len
    have HG := hid hg; clear hg
    go_enter Try.func16, Try.ntmps16
    go_wp2_with (first | (go_at_call 20; refine (ptGood_b _ _ _ _ hl hc _ HG.out).mono ?_; rintro e w' ⟨rfl, n, rfl⟩) | (go_at_call 30; refine (ptAddable_any _ _ _ _ hlen (by exact hc)).mono ?_; rintro e w2 ⟨A2, c2, rfl, o2, b2⟩))
    go_ret2
    exact ⟨A2, c2, rfl, o2, Below.next (below_drew' w n) b2⟩
end Go.Proofs.Ytnjaoaamcdohoaa
