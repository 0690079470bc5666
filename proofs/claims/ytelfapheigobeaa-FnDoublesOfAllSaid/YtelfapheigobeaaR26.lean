/-
  Several texts in one.
-/
import Derived.Test.YtelfapheigobeaaR16
import Derived.Test.YtelfapheigobeaaR21
import Derived.Test.YtelfapheigobeaaCB
import Derived.Test.YtelfapheigobeaaR25
import Derived.Test.YtelfapheigobeaaR01
/-
  Contract: Maya's numbers of a double.
-/
namespace Go.Proofs.Ytelfapheigobeaa
open Go.RowKit Go.Shelf
attribute [local go_sem] Oper.semAt_some

def dmP (xs : List Int) (pre : List (Int × Int)) : List Int := xs ++ pre.map fun x => wrap64 (-x.2)
theorem dmP_snoc (xs : List Int) (pre : List (Int × Int)) (x : Int × Int) : dmP xs (pre ++ [x]) = dmP xs pre ++ [wrap64 (-x.2)] := by simp [dmP]
theorem dmP_len (xs : List Int) (pre : List (Int × Int)) : (dmP xs pre).length = xs.length + pre.length := by simp [dmP]
theorem dmP_all {xs : List Int} (hb : ∀ j, j < xs.length → -1000 ≤ xs.getD j 0 ∧ xs.getD j 0 ≤ 1000) : dmP xs (upto (bk xs) xs.length) = dmL xs := by
  unfold dmP dmL
  congr 1
  apply List.ext_getElem (by simp [upto])
  intro j h1 h2
  simp only [upto, List.length_map, List.length_range] at h1
  have hj := hb (xs.length - 1 - j) (by omega)
  simp only [upto, List.getElem_map, List.getElem_range, bk, List.getElem_reverse]
  have e : xs.getD (xs.length - 1 - j) 0 = xs[xs.length - 1 - j]'(by omega) := by rw [List.getD_eq_getElem?_getD, List.getElem?_eq_getElem (by omega)]; rfl
  rw [e] at hj ⊢
  exact IntWalk.wrap64_in _ (by omega)

set_option maxRecDepth 100000 in
set_option maxHeartbeats 4000000 in
theorem doubleMaya_in (A : Option Addr) (cap : Nat) (xs : List Int) (w : World) (hlen : xs.length ≤ 1000) (hno : A = none → xs.length = 0 ∧ cap = 0) (hc : Cells w A xs) :
    CallsIn Fence.wide 5 Try.prog 16 #[.slice A xs.length cap] w fun e W' => ∃ v, e = .returned v ∧ W'.ownsRow w.heap.size 3 1 v (dmP xs (upto (bk xs) xs.length)).length (IL (dmP xs (upto (bk xs) xs.length))) ∧ Below w.heap.size w W' := by
  obtain ⟨i0, hi, hz0, hz1, hz2⟩ := info_parts Try.infoInt
  have hcl := cloneC_any A cap xs w (by omega) hno hc
  refine callsIn_of_wp_marks Try.func16 rfl trivial ?_ rfl
  simp only [Try.ntmps16, List.size_toArray, List.length_cons, List.length_nil, Nat.reduceAdd, Nat.reduceSub, Array.replicate_succ, Array.replicate_zero, List.push_toArray, List.append_toArray, List.nil_append, List.cons_append]
  gi_wp2_with (first | (refine ⟨trivial, ?_⟩; gi_at_call 34; refine (callsIn_wide.2 hcl).mono ?_; rintro e w1 ⟨A1, c1, rfl, o1, b1⟩) | (refine ⟨trivial, ?_⟩; gi_at_call 32; refine (back_in Fence.wide 4 trivial rfl _ _ _ _).mono ?_; rintro e w' ⟨rfl, rfl⟩))
  have hz1' := b1.size
  have bO := Boxed.new w1 22 (.slice A1 xs.length c1)
  have bN := Boxed.new (w1.alloc (.cells #[.slice A1 xs.length c1] 22)) 22 (.slice A xs.length cap)
  rw [World.size_alloc] at bN
  have hB1 : Below w1.heap.size w1 ((w1.alloc (.cells #[.slice A1 xs.length c1] 22)).alloc (.cells #[.slice A xs.length cap] 22)) := ((Below.refl _ w1).alloc (Nat.le_refl _) _).alloc (by simp) _
  have hB0 : Below w.heap.size w ((w1.alloc (.cells #[.slice A1 xs.length c1] 22)).alloc (.cells #[.slice A xs.length cap] 22)) := Below.next b1 hB1
  have hr0 : ((w1.alloc (.cells #[.slice A1 xs.length c1] 22)).alloc (.cells #[.slice A xs.length cap] 22)).ownsRow w.heap.size 3 1 (.slice A1 xs.length c1) (dmP xs []).length (IL (dmP xs [])) := by
    have e : dmP xs [] = xs := by simp [dmP]
    rw [e]; exact ownsRow_next' o1 hB1
  have hsz2 : ((w1.alloc (.cells #[.slice A1 xs.length c1] 22)).alloc (.cells #[.slice A xs.length cap] 22)).heap.size = w1.heap.size + 2 := by simp
  refine wpIn_rangeFunc_ownG rfl (by omega) (gf := 47) (lb := #[.pointer (some ⟨w1.heap.size + 1, 0, none⟩)]) rfl trivial (enters_of Try.func47 (by kernel_rfl) rfl)
    (back_stops Fence.wide 4 trivial rfl (by omega) (w1.heap.size + 1) w.heap.size A cap xs (by omega) _ (by omega) bN.cell (cells_lt hc) (hc.later hB0)) KeepB.trans (keepB_b (by omega) (by omega)) (Below.refl _ _) (fun _ => rfl)
    (fun pre W => ((∃ v, Boxed W w1.heap.size 22 v ∧ W.ownsRow w.heap.size 3 1 v (dmP xs pre).length (IL (dmP xs pre)) ∧ True) ∧ Boxed W (w1.heap.size + 1) 22 (.slice A xs.length cap)) ∧ Below w.heap.size w W)
    (fun _ _ _ => False)
    (OwnFrom.and (OwnFrom.and (Own.from (holdsRow_own w.heap.size w1.heap.size 22 3 1 (fun pre => (dmP xs pre).length) (fun pre => IL (dmP xs pre)) (fun _ _ => True)) _) (Own.from (boxed_own _ _ _) _)) (ownFrom_below (Nat.le_refl _) (by omega)))
    (fun _ _ _ _ _ hs _ _ => hs)
    ⟨⟨⟨_, bO.alloc _, hr0, trivial⟩, bN⟩, hB0⟩
    (fun x => { tmps := #[.slice A xs.length cap, undef, .slice none 0 0, .pointer (some ⟨w1.heap.size, 0, none⟩), undef, .int .i64 x.2, .slice A xs.length cap, .slice A1 xs.length c1, .slice A xs.length cap, .func (.func 47) #[] #[.pointer (some ⟨w1.heap.size + 1, 0, none⟩)], .int .i64 x.1, .int .i64 x.2, undef, undef, undef, undef, undef, undef], defers := [] }) ?assign ?body ?done ?stop
  case assign =>
    intro l x W K hK
    gi_wp2
    exact hK
  case body =>
    rintro l pre x W ⟨⟨⟨v, hv, hrow, -⟩, hs⟩, hB⟩ hlt
    have hc := hv.cell
    have hpl := dmP_len xs pre
    have hsz := hB.size
    have HSN := hid (dmP_snoc xs pre x)
    obtain ⟨L, hL⟩ : ∃ L, L = dmP xs pre := ⟨_, rfl⟩
    rw [← hL] at hrow hpl HSN
    have hL2 : L.length ≤ 3000 := by omega
    clear hL hpl
    gi_wp2_with (gi_at_builtin; refine wpListIn_append_own _ rfl _ _ 22 rfl w.heap.size 3 i0 (.int .i64 0) 1 8 Try.underlying22 hi hz0 hz1 hz2 rfl (by decide) _ _ _ rfl (hrow.alloc _) ⟨W.heap.size, 0, none⟩ 1 1 [.int .i64 (wrap64 (-x.2))] rfl rfl (cell_one_new _ _ _) (by simp [Value.oneCell']) (by unfold maxLen; omega) (by omega) (by have := hB.size; simp; omega) ?_; intro v' w3 hown' hgrow _; obtain ⟨g', cap', rfl⟩ := ownsRow_succ hown'; obtain ⟨hv1, hv2, hr2, hk2, hb2⟩ := hv.appended (by decide) hrow hB.size (by omega) hown' hgrow; have hc1 := hv1.cell; have hf1 := hv1.frozen; have hs1 : Boxed w3 (w1.heap.size + 1) 22 (.slice A xs.length cap) := (hs.alloc _).kept hgrow (hs.not_row (by decide) hrow); have hs2 := hs1.other (B' := w1.heap.size) (by omega) (.slice (some ⟨g', 0, none⟩) (L.length + 1) cap'))
    exact ⟨hk2.from _, ⟨hb2, hs2.trans hs.symm⟩, ⟨⟨⟨_, hv2, by rw [HSN.out]; simpa [IL] using hr2, trivial⟩, hs2⟩, hB.trans hb2⟩⟩
  case done =>
    rintro D ys W hD rfl ⟨⟨⟨v, hv, hrow, -⟩, hs⟩, hB⟩ hK
    have hc := hv.cell
    gi_wp2
    refine ⟨by simp, .inl ⟨_, _, rfl, run_takeDeferred hK, ?_⟩⟩
    exact ⟨_, results_tmp rfl _ _ _, v, rfl, ownsRow_putObj hrow _ hK rfl, hB.trans (belowK_b (w := w) (Nat.le_refl _) W D _ _ (by omega) hK rfl rfl)⟩
  case stop =>
    rintro D c pre W _ _ h _
    exact h.elim
theorem doubleMaya_anyC (A : Option Addr) (cap : Nat) (xs : List Int) (w : World) (hlen : xs.length ≤ 1000) (hb : ∀ j, j < xs.length → -1000 ≤ xs.getD j 0 ∧ xs.getD j 0 ≤ 1000) (hno : A = none → xs.length = 0 ∧ cap = 0) (hc : Cells w A xs) :
    Calls Try.prog 16 #[.slice A xs.length cap] w fun e w' => ∃ A' c', e = .returned (.slice A' (dmL xs).length c') ∧ Own w' w.heap.size A' c' (dmL xs) ∧ Below w.heap.size w w' := by
  refine (callsIn_wide (n := 5)).1 ((doubleMaya_in A cap xs w hlen hno hc).mono ?_)
  rintro e w' ⟨v, rfl, ho, hB⟩
  rw [dmP_all hb] at ho
  obtain ⟨A', c', rfl, o⟩ := own_form' ho
  exact ⟨A', c', rfl, o, hB⟩
theorem own_hnoD {w : World} {B c : Nat} {A : Option Addr} {xs : List Int} (h : Own w B A c xs) : A = none → xs.length = 0 ∧ c = 0 := by
  rintro rfl; exact own_none h
theorem doubleMaya_any {B : Nat} (A : Option Addr) (cap : Nat) (xs : List Int) (w : World) (hlen : xs.length ≤ 1000) (hb : ∀ j, j < xs.length → -1000 ≤ xs.getD j 0 ∧ xs.getD j 0 ≤ 1000) (ho : Own w B A cap xs) :
    Calls Try.prog 16 #[.slice A xs.length cap] w fun e w' => ∃ A' c', e = .returned (.slice A' (dmL xs).length c') ∧ Own w' w.heap.size A' c' (dmL xs) ∧ Below w.heap.size w w' :=
  doubleMaya_anyC A cap xs w hlen hb (own_hnoD ho) ho.cells
end Go.Proofs.Ytelfapheigobeaa
/-
  Contracts: strict partitions on both sides.
-/
namespace Go.Proofs.Ytelfapheigobeaa
open Go.RowKit

set_option maxHeartbeats 400000 in
theorem areDifferent_any (A : Option Addr) (xs : List Int) (c : Nat) (w : World) (G : Good xs) (hc : Cells w A xs) :
    Calls Try.prog 43 #[.slice A xs.length c] w fun e w' => e = .returned (.bool (dcr xs)) ∧ w = w' := by
  have hlen := G.len
  have HG := hid G; clear G
  go_enter Try.func43, Try.ntmps43
  go_wp2_with fail
  go_loop [7] (fun i => ∃ k : Nat, k ≤ xs.length ∧ i = .int .i64 k ∧ Hid (dcrTo xs (k - 1) = true)) (fun i => xs.length - (intOf i).toNat)
  case atStart => exact ⟨0, Nat.zero_le _, rfl, hid rfl⟩
  case round =>
    obtain ⟨k, hk, rfl, HD⟩ := hrel
    by_cases hlt : k < xs.length
    · obtain ⟨b, o, rfl, hcc⟩ := hc (by omega)
      have hck := hcc k hlt
      by_cases h0 : k = 0
      · have hk0 : ¬ (0 : Int) < k := by omega
        have HK0 := hid h0
        clear hcc h0
        obtain ⟨x, hx⟩ : ∃ x, x = xs.getD k 0 := ⟨_, rfl⟩
        rw [← hx] at hck
        clear hx
        go_wp2_with fail
        go_round
        case rel => exact ⟨k + 1, by omega, by go_num, hid (by rw [HK0.out]; rfl)⟩
        case measure => simp [intOf]; omega
      · obtain ⟨j, rfl⟩ : ∃ j, k = j + 1 := ⟨k - 1, by omega⟩
        have hck1 := hcc j (by omega)
        have hw : IntKind.i64.wrap (((j + 1 : Nat) : Int) - 1) = (j : Int) := by rw [IntWalk.i64_in _ (by omega)]; omega
        have hle := HG.out.down j (by omega)
        clear hcc
        obtain ⟨x, hx⟩ : ∃ x, x = xs.getD (j + 1) 0 := ⟨_, rfl⟩
        obtain ⟨y, hy⟩ : ∃ y, y = xs.getD j 0 := ⟨_, rfl⟩
        rw [← hx] at hck hle
        rw [← hy] at hck1 hle
        have HX := hid hx; clear hx
        have HY := hid hy; clear hy
        have hj0 : (0 : Int) < ((j + 1 : Nat) : Int) := by omega
        by_cases he : x = y
        · have hr : dcr xs = false := dcrTo_no (k := j) (by rw [← HX.out, ← HY.out]; omega) (by omega)
          have HE := hid hr; clear hr
          go_wp2_with fail
          go_ret
          exact ⟨ret_bool HE.out.symm, rfl⟩
        · go_wp2_with fail
          go_round
          case rel => exact ⟨j + 1 + 1, by omega, by go_num, hid (by
            rw [show j + 1 + 1 - 1 = j + 1 by omega]
            have := HD.out
            rw [show j + 1 - 1 = j by omega] at this
            simp only [dcrTo, this, Bool.true_and, decide_eq_true_eq, ← HX.out, ← HY.out]; omega)⟩
          case measure => simp [intOf]; omega
    · have hkn : k = xs.length := by omega
      have hr : dcr xs = true := by rw [← HD.out, hkn]; rfl
      have HE := hid hr
      clear hkn hr
      go_wp2_with fail
      go_ret
      exact ⟨ret_bool HE.out.symm, rfl⟩

theorem isStrict_any (A : Option Addr) (xs : List Int) (c : Nat) (w : World) (hl : xs.length ≤ 1048576) (hc : Cells w A xs) :
    Calls Try.prog 27 #[.slice A xs.length c] w fun e w' => e = .returned (.bool (strB xs)) ∧ w = w' := by
  cases hg : good xs
  · rw [show strB xs = false by simp [strB, hg]]
    have H := hid hg; clear hg
    go_enter Try.func27, Try.ntmps27
    go_wp2_with (go_at_call 22; refine (IsPartition_b _ _ _ _ hl hc _ H.out).mono ?_; rintro e w' ⟨rfl, rfl⟩)
    go_ret
    exact ⟨rfl, rfl⟩
  · rw [show strB xs = dcr xs by simp [strB, hg]]
    have HD := hid (areDifferent_any A xs c w ((good_iff xs).1 hg) hc)
    have H := hid hg; clear hg
    go_enter Try.func27, Try.ntmps27
    go_wp2_with (first | (go_at_call 22; refine (IsPartition_b _ _ _ _ hl hc _ H.out).mono ?_; rintro e w' ⟨rfl, rfl⟩) | (go_at_call 43; refine HD.out.mono ?_; rintro e w' ⟨rfl, rfl⟩))
    go_ret
    exact ⟨rfl, rfl⟩
theorem isStrict_b (A : Option Addr) (xs : List Int) (c : Nat) (w : World) (hl : xs.length ≤ 1048576) (hc : Cells w A xs) (b : Bool) (h : strB xs = b) :
    Calls Try.prog 27 #[.slice A xs.length c] w fun e w' => e = .returned (.bool b) ∧ w = w' := by
  subst h; exact isStrict_any A xs c w hl hc

set_option maxHeartbeats 400000 in
theorem brIs_any (A : Option Addr) (xs : List Int) (c : Nat) (w : World) (hl : xs.length ≤ 1048576) (hc : Cells w A xs) :
    Calls Try.prog 17 #[.slice A xs.length c] w fun e w' => e = .returned (.bool (strB xs)) ∧ ∃ n, w' = w.drewN n := by
  have HG := hid fun W (h : Cells W A xs) => ptGood_any A xs c W hl h
  obtain ⟨g, hg⟩ : ∃ g, g = good xs := ⟨_, rfl⟩
  rw [← hg] at HG
  have HGG := hid hg; clear hg
  go_enter Try.func17, Try.ntmps17
  go_wp2_with fail
  go_loopw [3] (fun i wr => ∃ k : Nat, 1 ≤ k ∧ (k ≤ xs.length ∨ k = 1) ∧ i = .int .i64 k ∧ Hid (dcrTo xs (k - 1) = true) ∧ ∃ n, wr = w.drewN n) (fun i _ => xs.length - (intOf i).toNat)
  case atStart => exact ⟨1, Nat.le_refl _, .inr rfl, rfl, hid rfl, 0, rfl⟩
  case round =>
    obtain ⟨k, hk1, hk, rfl, HD, n, rfl⟩ := hrel
    have HK := hid hk; clear hk
    by_cases hlt : k < xs.length
    · obtain ⟨b, o, rfl, hcc⟩ := hc (by omega)
      have hck := hcc k hlt
      have hck1 := hcc (k - 1) (by omega)
      have hek : ((k : Int) - 1).toNat = k - 1 := by omega
      clear hcc
      obtain ⟨x, hx⟩ : ∃ x, x = xs.getD k 0 := ⟨_, rfl⟩
      obtain ⟨y, hy⟩ : ∃ y, y = xs.getD (k - 1) 0 := ⟨_, rfl⟩
      rw [← hx] at hck
      rw [← hy] at hck1
      have HX := hid hx; clear hx
      have HY := hid hy; clear hy
      by_cases hle : y ≤ x
      · have hr : strB xs = false := by
          have : dcr xs = false := dcrTo_no (k := k - 1) (by rw [show k - 1 + 1 = k by omega, ← HX.out, ← HY.out]; omega) (by omega)
          simp [strB, this]
        have HE := hid hr
        clear hr
        go_wp2_with fail
        go_quiet (fail)
        go_wp2_with fail
        go_ret
        exact ⟨ret_bool HE.out.symm, drew2 _ _⟩
      · go_wp2_with fail
        go_quiet (fail)
        go_wp2_with fail
        go_roundw
        case rel =>
          refine ⟨k + 1, by omega, .inl (by omega), by go_num, hid ?_, _, rfl⟩
          rw [show k + 1 - 1 = (k - 1) + 1 by omega]
          simp only [dcrTo, HD.out, Bool.true_and, decide_eq_true_eq]
          rw [show k - 1 + 1 = k by omega, ← HX.out, ← HY.out]; omega
        case measure => simp [intOf]; omega
    · have hr : strB xs = g := by
        have : dcr xs = true := by
          have := HD.out
          rwa [show k - 1 = xs.length - 1 by rcases HK.out with h | h <;> omega] at this
        simp [strB, this, HGG.out]
      have HE := hid hr
      clear hr
      go_wp2_with (go_at_call 25; refine (HG.out _ (by exact hc)).mono ?_; rintro e w' ⟨rfl, m, rfl⟩)
      go_ret
      exact ⟨ret_bool HE.out.symm, _, rfl⟩
theorem brIs_b (A : Option Addr) (xs : List Int) (c : Nat) (w : World) (hl : xs.length ≤ 1048576) (hc : Cells w A xs) (b : Bool) (h : strB xs = b) :
    Calls Try.prog 17 #[.slice A xs.length c] w fun e w' => e = .returned (.bool b) ∧ ∃ n, w' = w.drewN n := by
  subst h; exact brIs_any A xs c w hl hc

end Go.Proofs.Ytelfapheigobeaa
