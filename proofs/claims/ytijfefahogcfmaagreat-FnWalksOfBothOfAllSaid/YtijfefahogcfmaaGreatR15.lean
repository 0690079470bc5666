/-
  Several texts in one.
-/
import Derived.Test.YtijfefahogcfmaaGreatCB
import Derived.Test.YtijfefahogcfmaaGreatR14
import Derived.Shelf.SortM.SortNone
import Derived.Lib.OwnBridge
/-
  The library's sort of a row of first hooks.
-/
namespace Go.Proofs.YtijfefahogcfmaaGreat
open Go.RowKit Go.Shelf Go.Sort

theorem sortH_any (A : Option Addr) (c : Nat) (xs : List Int) (w : World) (B : Nat) (ho : Own w B A c xs) (hl : xs.length ≤ 1000) :
    Calls Tryz.prog 53 #[.slice A xs.length c] w fun e w' => e = .returned (.tuple #[]) ∧ Own w' B A c (xs.mergeSort fun x y => decide (x ≤ y)) ∧ ∀ B0 w0, B0 ≤ B → Below B0 w0 w → Below B0 w0 w' := by
  rcases ho.2 with ⟨hv, h0⟩ | ⟨g, cap, cur, hv, hbg, hgg, hrest⟩
  · injection hv with h1 h2 h3
    subst h1; subst h3
    have e : xs = [] := List.eq_nil_of_length_eq_zero h0
    subst e
    have hcall := AnyM.slices_Sort_int_none sortHLays none 0 w
    change Calls Tryz.prog 53 #[.slice none 0 0] w _ at hcall
    refine hcall.mono ?_
    rintro e w' ⟨rfl, rfl⟩
    exact ⟨rfl, by simpa using ho, fun _ _ _ h => h⟩
  · injection hv with h1 h2 h3
    subst h1; subst h3
    have hout : w.ownsRow B 3 1 (.slice (some ⟨g, 0, none⟩) xs.length c) xs.length (xs.map (Value.int .i64)) := ho
    obtain ⟨g', cap', hv', -, hgw, -, -, -, hH⟩ := Lib.holds_of_ownsRow hout (fun e => by injection e with h1; cases h1)
    injection hv' with h1 h2 h3
    injection h1 with h1
    injection h1 with h1
    subst h1; subst h3
    have hcall := AnyM.slices_Sort_int sortHLays g 0 c xs w hH hgw (by omega)
    refine hcall.mono ?_
    rintro e w' ⟨rfl, n, os, rfl⟩
    have hml : (xs.mergeSort fun x y => decide (x ≤ y)).length = xs.length := List.length_mergeSort _
    refine ⟨rfl, ?_, ?_⟩
    · have h2 := Lib.ownsRow_putRow (q := n) (k := xs.length) hout hml (Nat.le_refl _)
      rw [List.take_of_length_le (by omega)] at h2
      have h3 := ownsRow_keep (w' := grow (putRow (Value.int .i64) (Sort.ahead w n) g 0 (xs.mergeSort fun x y => decide (x ≤ y)).toArray) os) h2 fun b _ hb => heap_grow_old _ _ hb
      unfold Own
      rw [hml]
      exact h3
    · intro B0 w0 hB0 hbel
      have h3 := Lib.below_putRow (enc := Value.int .i64) (q := n) (d := (xs.mergeSort fun x y => decide (x ≤ y)).toArray) hbel (Nat.le_trans hB0 hbg)
      refine ⟨h3.os, h3.tape, h3.output, ?_, fun k hk => ?_⟩
      · rw [size_grow]; have := h3.size; omega
      · by_cases hks : k < (putRow (Value.int .i64) (Sort.ahead w n) g 0 (xs.mergeSort fun x y => decide (x ≤ y)).toArray).heap.size
        · rw [heap_grow_old _ _ hks]; exact h3.block k hk
        · rw [size_putRow] at hks
          exact absurd (show k < w.heap.size by have := hbel.size; omega) hks
end Go.Proofs.YtijfefahogcfmaaGreat
/-
  Contracts: hooksWithWalk and BothOfWalk of the program.
-/
namespace Go.Proofs.YtijfefahogcfmaaGreat
open Go.RowKit

theorem hwR_len (a b : Int) (W : List Int) (i k : Nat) : (hwR a b W i k).length = k := by simp [hwR]
theorem hwR_zero (a b : Int) (W : List Int) (i : Nat) : hwR a b W i 0 = [] := rfl
theorem hwL_zero (a b : Int) (W : List Int) : hwL a b W 0 = [] := rfl
theorem hwL_len {a b : Int} {W : List Int} : ∀ m, (∀ i, i < m → hwM a b W i ≤ 7) → (hwL a b W m).length ≤ 7 * m
  | 0, _ => by simp [hwL]
  | m + 1, h => by
    rw [hwL_succ, List.length_append, hwR_len]
    have h1 := hwL_len m fun i hi => h i (by omega)
    have h2 := h m (by omega)
    omega
theorem hwL_push (a b : Int) (W : List Int) (k j : Nat) : (hwL a b W k ++ hwR a b W k j) ++ [gpA a b (W.getD k 0 + 1 + j) k] = hwL a b W k ++ hwR a b W k (j + 1) := by
  rw [hwR_succ, List.append_assoc]
theorem wkOk_bd {a b : Int} {W : List Int} (hs : sz a b = true) (h : wkOk a b W = true) : W.length ≤ 6 ∧ (W.length : Int) = a - 1 ∧ ∀ k, k < W.length → (0 ≤ W.getD k 0 ∧ W.getD k 0 ≤ mstI a b k) ∧ (0 ≤ mstI a b k ∧ mstI a b k ≤ 7) := by
  obtain ⟨ha, hb, -⟩ := sz_iff.1 hs
  obtain ⟨h1, h2⟩ := wkOk_iff.1 h
  have h3 : (W.length : Int) = a - 1 := by omega
  refine ⟨by omega, h3, fun k hk => ⟨(okW_iff.1 (h2 k hk)).1, (wk_bdN hs k (by omega) (by omega)).1.1⟩⟩

set_option maxRecDepth 100000 in
set_option maxHeartbeats 4000000 in
theorem hooksWithWalk_any (A : Option Addr) (c : Nat) (a b : Int) (W : List Int) (w : World) (hs : sz a b = true) (hk : wkOk a b W = true) (hc : Cells w A W) :
    Calls Tryz.prog 28 #[.agg #[.int .i64 a, .int .i64 b], .slice A W.length c] w fun e w' => ∃ A' c', e = .returned (.slice A' (insAll (hwL a b W W.length)).length c') ∧ Own w' w.heap.size A' c' (insAll (hwL a b W W.length)) ∧ Below w.heap.size w w' := by
  obtain ⟨i0, hi, hz0, hz1, hz2⟩ := info_parts Tryz.infoInt
  obtain ⟨ha, hb, -⟩ := sz_iff.1 hs
  obtain ⟨p1, p2⟩ := ab49 ha hb
  obtain ⟨hl6, hla, hbd⟩ := wkOk_bd hs hk
  have HBD := hid hbd
  have HB2 := hid (wk_bdN hs)
  have HLA := hid hla
  have HSO := hid (sort_ins hs hk)
  have HIL := hid (insAll_perm (hwL a b W W.length)).length_eq
  have hM7 : ∀ i, i < W.length → hwM a b W i ≤ 7 := fun i hi => by have := hbd i hi; unfold hwM; omega
  have HLL := hid fun m (hm : m ≤ W.length) => hwL_len (a := a) (b := b) (W := W) m fun i hi => hM7 i (by omega)
  have HM7 := hid hM7
  have b1 : Below w.heap.size w (w.alloc (.cells #[.int .i64 a, .int .i64 b] 33)) := (Below.refl _ _).alloc (Nat.le_refl _) _
  have X := hid (Box2.new w 33 (.int .i64 a) (.int .i64 b))
  obtain ⟨w1, hw1⟩ : ∃ w1, w1 = w.alloc (.cells #[.int .i64 a, .int .i64 b] 33) := ⟨_, rfl⟩
  have hs1 : w.heap.size < w1.heap.size := by rw [hw1]; simp
  have HW := hid hw1
  rw [← hw1] at b1 X
  obtain ⟨R, hR⟩ : ∃ R, R = insAll (hwL a b W W.length) := ⟨_, rfl⟩
  rw [← hR] at HSO HIL ⊢
  clear hw1 hbd hla hM7 hR hs hk
  go_enter Tryz.func28, Tryz.ntmps28
  go_wp2_with fail
  rw [← HW.out]
  go_loopw [5, 6, 7, 8, 11] (fun v _ _ _ i wr => ∃ k : Nat, k ≤ W.length ∧ i = .int .i64 k ∧ (∃ A' c', v = .slice A' (hwL a b W k).length c' ∧ Own wr w1.heap.size A' c' (hwL a b W k)) ∧ Below w1.heap.size w1 wr) (fun _ _ _ _ i _ => W.length - (intOf i).toNat)
  case atStart => exact ⟨0, Nat.zero_le _, rfl, ⟨none, 0, rfl, own_nil _ _⟩, Below.refl _ _⟩
  case round =>
    obtain ⟨k, hk, rfl, ⟨Ag, cg, rfl, ho⟩, hbel⟩ := hrel
    have HO := hid ho
    clear ho
    have hcr : Cells wr A W := hc.later (Below.next b1 hbel)
    by_cases hlt : k < W.length
    · obtain ⟨bb, o, hAe, hcc⟩ := hcr (by omega)
      have hck := hcc k hlt
      obtain ⟨⟨hx0, hxm⟩, hm1, hm2⟩ := HBD.out k hlt
      obtain ⟨⟨-, hm3⟩, hm4, hm5⟩ := HB2.out k (by omega) (by have := HLA.out; omega)
      have HM5 := hid hm5
      have HMA := hid fun W' => mostAt_any a b k W' ha ⟨by omega, by omega⟩ hm3
      obtain ⟨M, hM⟩ : ∃ M, M = hwM a b W k := ⟨_, rfl⟩
      have hMe : (M : Int) = mstI a b k - W.getD k 0 := by rw [hM]; unfold hwM; omega
      obtain ⟨m, hm⟩ : ∃ m, m = mstI a b k := ⟨_, rfl⟩
      obtain ⟨x, hx⟩ : ∃ x : Nat, x = (W.getD k 0).toNat := ⟨_, rfl⟩
      have hxe : W.getD k 0 = x := by omega
      have HPU := hid (hwL_push a b W k)
      rw [hxe] at hck hx0 hxm hMe HPU
      rw [← hm] at HMA hm1 hm2 hxm hMe
      have HNX := hid (hwL_succ a b W k)
      rw [← hM] at HNX
      have hlk := HLL.out k hk
      have HLN := hid fun j => show (hwL a b W k ++ hwR a b W k j).length = (hwL a b W k).length + j by rw [List.length_append, hwR_len]
      obtain ⟨K, hK⟩ : ∃ K : Nat → List Int, K = fun j => hwL a b W k ++ hwR a b W k j := ⟨_, rfl⟩
      have HK0 := hid (show hwL a b W k = K 0 by rw [hK]; simp [hwR])
      have HKS := hid (show ∀ j : Nat, K j ++ [gpA a b ((x : Int) + 1 + j) k] = K (j + 1) by rw [hK]; exact HPU.out)
      have HKM := hid (show hwL a b W (k + 1) = K M by rw [hK]; exact HNX.out)
      have HKL := hid (show ∀ j, (K j).length = (hwL a b W k).length + j by rw [hK]; exact HLN.out)
      rw [HK0.out] at HO HKL hlk
      subst hAe
      clear hM hm hx hxe hcc hcr hm3 hm5 hK HLN HPU HNX
      have hMe2 := hid hMe
      have hM7 : M ≤ 7 := by omega
      have hxM : x ≤ 7 := by omega
      clear hMe
      have hMe3 := hid (HK0.out)
      rw [HK0.out]
      go_wp2_with fail
      go_loopw [5, 8] (fun v y wr => ∃ j : Nat, j ≤ M ∧ y = .int .i64 ((x : Int) + 1 + j) ∧ (∃ A' c', v = .slice A' (K j).length c' ∧ Own wr w1.heap.size A' c' (K j)) ∧ Below w1.heap.size w1 wr) (fun _ y _ => 20 - (intOf y).toNat)
      case atStart => exact ⟨0, by omega, by go_num, ⟨Ag, cg, rfl, HO.out⟩, hbel⟩
      case round =>
        obtain ⟨j, hj, rfl, ⟨Ah, ch, rfl, ho⟩, hbel2⟩ := hrel
        have HO2 := hid ho
        clear ho
        have Y := hid (X.out.next hbel2)
        have y0 := Y.out.cell0
        have y1 := Y.out.cell1
        have hjl := HKL.out j
        by_cases hjm : j < M
        · have hcm := hMe2.out
          have hle : (x : Int) + 1 + j ≤ m := by omega
          have HG := hid fun W' => gapAt_any a b ((x : Int) + 1 + j) k W' ⟨by omega, by omega⟩ ⟨p1, p2⟩ (by have := HM5.out (x + 1 + j) (by omega); push_cast at this; exact this) hm4
          have HS := hid (HKS.out j)
          obtain ⟨q, hq⟩ : ∃ q, q = K j := ⟨_, rfl⟩
          obtain ⟨g, hg⟩ : ∃ g, g = gpA a b ((x : Int) + 1 + j) k := ⟨_, rfl⟩
          rw [← hq] at HO2 HS hjl ⊢
          rw [← hg] at HG HS
          have hl60 : q.length ≤ 60 := by omega
          clear hq hg hjl hcm hlk
          go_wp2_with (go_at_call 37; refine (HMA.out _).mono ?_; rintro e w3 ⟨rfl, b3⟩; have O3 := hid (HO2.out.below b3); have B3 := Below.next hbel2 b3; have Z := Y.out.next b3; have z0 := Z.cell0; have z1 := Z.cell1)
          go_wp2_with (first | (go_at_call 39; refine (HG.out _).mono ?_; rintro e w4 ⟨rfl, b4⟩; have O4 := hid (O3.out.below b4); have B4 := Below.next B3 b4; have hcs := B4.size) | (at_builtin; refine wpList_append_own _ rfl _ _ 31 rfl w1.heap.size 3 i0 (.int .i64 0) 1 8 Tryz.underlying31 hi hz0 hz1 hz2 rfl (by decide) _ _ _ rfl (O4.out.alloc _) ⟨w4.heap.size, 0, none⟩ 1 1 [.int .i64 g] rfl rfl one_at (one_cell _) (by unfold maxLen; omega) (by omega) (by simp; omega) ?_))
          intro v' w5 hown' hgrow _
          have hb5 : Below w1.heap.size w1 w5 := (B4.alloc B4.size _).grown hgrow (by simp; omega) (fun q hq => (O4.out.lt q hq).1)
          have hown2 := own_snoc HS.out.symm hown'
          obtain ⟨A3, c3, rfl, ho3⟩ := own_form hown2 rfl
          have HO3 := hid ho3
          clear hgrow hown' hown2 ho3
          go_wp2_with fail
          go_roundw
          case rel => exact ⟨j + 1, by omega, by go_num, ⟨A3, c3, rfl, HO3.out⟩, hb5⟩
          case measure => show 20 - ((x : Int) + 1 + j + 1).toNat < 20 - ((x : Int) + 1 + j).toNat; omega
        · have hcm := hMe2.out
          have hle : m < (x : Int) + 1 + j := by omega
          have HJ := hid (show j = M by omega)
          go_wp2_with (go_at_call 37; refine (HMA.out _).mono ?_; rintro e w3 ⟨rfl, b3⟩)
          go_roundw
          case rel => exact ⟨k + 1, by omega, by go_num, ⟨Ah, ch, by rw [HKM.out, HKL.out M, HJ.out], by rw [HKM.out, ← HJ.out]; exact HO2.out.below b3⟩, Below.next hbel2 b3⟩
          case measure => simp [intOf]; omega
    · have HKK := hid (show k = W.length by omega)
      have hlk := HLL.out k hk
      have HSR := hid fun W' (h : Own W' w1.heap.size Ag cg (hwL a b W k)) => sortH_any Ag cg (hwL a b W k) W' w1.heap.size h (by omega)
      rw [HKK.out] at HSR HO hlk
      have HIL2 := hid (show (hwL a b W W.length).length = R.length from HIL.out.symm)
      rw [HSO.out] at HSR
      rw [HKK.out]
      obtain ⟨q, hq⟩ : ∃ q, q = hwL a b W W.length := ⟨_, rfl⟩
      rw [← hq] at HSR HO hlk HIL2 ⊢
      clear hq hlk
      go_wp2_with (go_at_call 53; refine (HSR.out _ HO.out).mono ?_; rintro e w3 ⟨rfl, o3, hb3⟩)
      go_ret
      exact ⟨Ag, cg, by rw [HIL2.out]; rfl, o3.more (by omega), Below.next b1 (hb3 _ _ (Nat.le_refl _) hbel)⟩

def bwOk (W : List Int) (a b : Int) : Bool := sz a b && wkOk a b W
def bwF (W : List Int) (a b : Int) : List Int := if bwOk W a b then partsL (insAll (hwL a b W W.length)) else []
theorem bw_parts {a b : Int} {W : List Int} (hs : sz a b = true) (h : wkOk a b W = true) : clB a b (insAll (hwL a b W W.length)) = true ∧ ffOk (insAll (hwL a b W W.length)) = true ∧ (insAll (hwL a b W W.length)).length ≤ 30 ∧ ∀ j, j < (insAll (hwL a b W W.length)).length → 0 ≤ (insAll (hwL a b W W.length)).getD j 0 ∧ (insAll (hwL a b W W.length)).getD j 0 ≤ 1000 := by
  have hc := bw_chk hs h
  simp only [bwChk, Bool.and_eq_true, decide_eq_true_eq] at hc
  obtain ⟨h1, h2, h3, h4⟩ := hc
  have h5 := h2
  simp only [ffOk, Bool.and_eq_true, decide_eq_true_eq] at h5
  exact ⟨h1, h2, h5.1, fun j hj => by have := (rises_Rises.1 h5.2.1).bd j hj; omega⟩
theorem bound_BothOfWalk (W : List Int) (a b : Int) : (bwF W a b).length ≤ 1048576 := by
  unfold bwF
  split
  · rename_i h
    obtain ⟨h1, h2⟩ := Bool.and_eq_true_iff.1 h
    have := (bw_parts h1 h2).2.2.1
    have := partsL_len (insAll (hwL a b W W.length)); omega
  · exact Nat.zero_le _

set_option maxRecDepth 100000 in
set_option maxHeartbeats 2000000 in
theorem impl_BothOfWalk (A : Option Addr) (c : Nat) (xs : List Int) (a b : Int) (w : World) (hl : xs.length ≤ 1048576) (hc : Cells w A xs) (_ : I64 a) (_ : I64 b) :
    Calls Tryz.prog 9 #[.slice A xs.length c, .int .i64 a, .int .i64 b] w fun e w' => ∃ A' c', e = .returned (.tuple #[.slice A' (bwF xs a b).length c', .bool (bwOk xs a b)]) ∧ Own w' w.heap.size A' c' (bwF xs a b) ∧ Below w.heap.size w w' := by
  have b1 : Below w.heap.size w (w.alloc (.cells #[.int .i64 a, .int .i64 b] 33)) := (Below.refl _ _).alloc (Nat.le_refl _) _
  have X := hid (Box2.new w 33 (.int .i64 a) (.int .i64 b))
  obtain ⟨w1, hw1⟩ : ∃ w1, w1 = w.alloc (.cells #[.int .i64 a, .int .i64 b] 33) := ⟨_, rfl⟩
  have HW := hid hw1
  rw [← hw1] at b1 X
  clear hw1
  cases ht : sz a b
  · have hb : bwOk xs a b = false := by simp [bwOk, ht]
    rw [show bwF xs a b = [] by simp [bwF, hb], hb]
    have HT := hid ht
    clear ht hb
    go_enter Tryz.func9, Tryz.ntmps9
    go_wp2_with (go_at_call 26; refine (AreSizes_b _ _ _ _ HT.out).mono ?_; rintro e w2 ⟨rfl, b2⟩)
    go_ret2
    exact ⟨none, 0, rfl, own_nil _ _, Below.next b1 (HW.out ▸ b2)⟩
  have HT := hid ht
  have HWK := hid fun W' (h : Cells W' A xs) => isWalk_any A c a b xs W' ht hl h
  cases hk : wkOk a b xs
  · have hb : bwOk xs a b = false := by simp [bwOk, hk]
    rw [show bwF xs a b = [] by simp [bwF, hb], hb]
    rw [hk] at HWK
    clear ht hk hb
    go_enter Tryz.func9, Tryz.ntmps9
    go_wp2_with fail
    rw [← HW.out]
    go_wp2_with (first | (go_at_call 26; refine (AreSizes_b _ _ _ _ HT.out).mono ?_; rintro e w2 ⟨rfl, b2⟩; have B2 := Below.next b1 b2; have Y := X.out.next b2; have y0 := Y.cell0; have y1 := Y.cell1) | (go_at_call 27; refine (HWK.out _ (hc.below B2)).mono ?_; rintro e w3 ⟨rfl, b3⟩))
    go_ret2
    exact ⟨none, 0, rfl, own_nil _ _, Below.next B2 b3⟩
  · have hb : bwOk xs a b = true := by simp [bwOk, ht, hk]
    rw [show bwF xs a b = partsL (insAll (hwL a b xs xs.length)) by simp [bwF, hb], hb]
    rw [hk] at HWK
    obtain ⟨-, -, h30, hbd⟩ := bw_parts ht hk
    have HHW := hid fun W' (h : Cells W' A xs) => hooksWithWalk_any A c a b xs W' ht hk h
    obtain ⟨L, hL⟩ : ∃ L, L = insAll (hwL a b xs xs.length) := ⟨_, rfl⟩
    rw [← hL] at h30 hbd HHW ⊢
    have HPA := hid fun A c W' (h : Cells W' A L) => parts_any A c L W' (by omega) hbd h
    clear ht hk hb hL hbd
    go_enter Tryz.func9, Tryz.ntmps9
    go_wp2_with fail
    rw [← HW.out]
    go_wp2_with (first | (go_at_call 26; refine (AreSizes_b _ _ _ _ HT.out).mono ?_; rintro e w2 ⟨rfl, b2⟩; have B2 := Below.next b1 b2; have Y := X.out.next b2; have y0 := Y.cell0; have y1 := Y.cell1) | (go_at_call 27; refine (HWK.out _ (hc.below B2)).mono ?_; rintro e w3 ⟨rfl, b3⟩; have B3 := Below.next B2 b3; have Z := Y.next b3; have z0 := Z.cell0; have z1 := Z.cell1) | (go_at_call 28; refine (HHW.out _ (hc.below B3)).mono ?_; rintro e w4 ⟨A4, c4, rfl, o4, b4⟩; have B4 := Below.next B3 b4) | (go_at_call 29; refine (HPA.out _ _ _ o4.cells).mono ?_; rintro e w5 ⟨A5, c5, rfl, o5, b5⟩))
    go_ret2
    exact ⟨A5, c5, rfl, o5.more B4.size, Below.next B4 b5⟩
end Go.Proofs.YtijfefahogcfmaaGreat
