/-
  Several texts in one.
-/
import Derived.Test.YtelfapheigobeaaR20
import Derived.Test.YtelfapheigobeaaCB
import Derived.Deep.RegionHeld3
import Derived.Laws.Rows
/-
  Contract: MayaOf of the program.
-/
namespace Go.Proofs.Ytelfapheigobeaa
open Go.RowKit Go.Shelf
attribute [local go_sem] Oper.semAt_some

theorem _root_.Go.RowKit.Below.next' {n : Nat} {a b c : World} (h : Below n a b) (k : Below b.heap.size b c) (hn : n ≤ b.heap.size := by omega) : Below n a c := h.trans (k.mono hn)
theorem ownsRow_next' {w w' : World} {B e s n : Nat} {v : Value} {xs : List Value} (h : w.ownsRow B e s v n xs) (hb : Below w.heap.size w w') : w'.ownsRow B e s v n xs := by
  refine ⟨h.1, ?_⟩
  rcases h.2 with hn | ⟨g, cap, cur, hv, hbg, hgg, rest⟩
  · exact .inl hn
  · exact .inr ⟨g, cap, cur, hv, hbg, by rw [hb.block g (Array.getElem?_eq_some_iff.1 hgg).1]; exact hgg, rest⟩
def posM (n : Int) (pre : List (Int × Int)) : List Int := pre.filterMap fun x => if n ≤ x.2 then some (wrap64 (x.2 - n)) else none
theorem posM_hit (n : Int) (pre : List (Int × Int)) {x : Int × Int} (h : n ≤ x.2) : posM n (pre ++ [x]) = posM n pre ++ [wrap64 (x.2 - n)] := by simp [posM, h]
theorem posM_miss (n : Int) (pre : List (Int × Int)) {x : Int × Int} (h : ¬ n ≤ x.2) : posM n (pre ++ [x]) = posM n pre := by simp [posM, h]
theorem posM_len (n : Int) (pre : List (Int × Int)) : (posM n pre).length ≤ pre.length := List.length_filterMap_le _ _
def misM (n : Int) (bs : List Int) (pre : List (Int × Int)) : List Int := pre.filterMap fun x => if x.2 ∈ bs then none else some (wrap64 (x.2 - n))
theorem misM_hit (n : Int) (bs : List Int) (pre : List (Int × Int)) {x : Int × Int} (h : ¬ x.2 ∈ bs) : misM n bs (pre ++ [x]) = misM n bs pre ++ [wrap64 (x.2 - n)] := by simp [misM, h]
theorem misM_miss (n : Int) (bs : List Int) (pre : List (Int × Int)) {x : Int × Int} (h : x.2 ∈ bs) : misM n bs (pre ++ [x]) = misM n bs pre := by simp [misM, h]
theorem misM_len (n : Int) (bs : List Int) (pre : List (Int × Int)) : (misM n bs pre).length ≤ pre.length := List.length_filterMap_le _ _
theorem posM_A {xs : List Int} (G : Good xs) : ∀ k, k ≤ xs.length → posM xs.length (upto (bk (beadsL xs xs.length)) k) = mayaA xs k
  | 0, _ => rfl
  | k + 1, h => by
    have ih := posM_A G k (by omega)
    have hb : (bk (beadsL xs xs.length) k).2 = num xs k + xs.length := by
      simp only [bk, beadsL_len]
      unfold beadsL
      rw [fnRow_get _ _ _ (by omega)]
      unfold bead num
      rw [show xs.length - 1 - (xs.length - 1 - k) = k by omega]; omega
    have hbd := num_bd G (i := k) (by omega)
    have hl := G.len
    rw [upto_succ]
    by_cases hh : 0 ≤ num xs k
    · rw [posM_hit _ _ (by rw [hb]; omega), ih, mayaA_yes rfl hh, hb]
      have e : wrap64 (num xs k + xs.length - xs.length) = num xs k := by rw [show num xs k + xs.length - xs.length = num xs k by omega]; exact IntWalk.wrap64_in _ (by omega)
      rw [e]
    · rw [posM_miss _ _ (by rw [hb]; omega), ih, mayaA_no rfl hh]
theorem misM_B {xs : List Int} (hl : xs.length ≤ 30) : ∀ k, k ≤ xs.length → misM xs.length (beadsL xs xs.length) (upto (bk (upTo xs.length)) k) = mayaB xs k
  | 0, _ => rfl
  | k + 1, h => by
    have ih := misM_B hl k (by omega)
    have hb : (bk (upTo xs.length) k).2 = ((xs.length - 1 - k : Nat) : Int) := by
      simp only [bk, upTo_len]
      unfold upTo
      rw [fnRow_get _ _ _ (by omega)]
    have hbe := bead_held xs k (by omega)
    rw [upto_succ]
    by_cases hh : (-1 - (k : Int)) ∈ heldL xs xs.length
    · rw [misM_miss _ _ _ (by rw [hb]; exact hbe.2 hh), ih, mayaB_yes hh]
    · rw [misM_hit _ _ _ (by rw [hb]; exact fun h => hh (hbe.1 h)), ih, mayaB_no hh, hb]
      have e : wrap64 (((xs.length - 1 - k : Nat) : Int) - xs.length) = -1 - (k : Int) := by
        rw [show ((xs.length - 1 - k : Nat) : Int) - xs.length = -1 - (k : Int) by omega]; exact IntWalk.wrap64_in _ (by omega)
      rw [e]
theorem _root_.Go.Boxed.below' {W W' : World} {B : Nat} {t : TypeId} {v : Value} (h : Boxed W B t v) (hb : Below W.heap.size W W') : Boxed W' B t v := (hb.block B h.lt).trans h

set_option maxRecDepth 100000 in
set_option maxHeartbeats 8000000 in
theorem MayaOf_in (A : Option Addr) (cap : Nat) (xs : List Int) (w : World) (hg : good xs = true) (hc : Cells w A xs) :
    CallsIn Fence.wide 5 Try.prog 20 #[.slice A xs.length cap] w fun e W' => ∃ A' c', e = .returned (.tuple #[.slice A' (mayaL xs).length c', .bool true]) ∧ Own W' w.heap.size A' c' (mayaL xs) ∧ Below w.heap.size w W' := by
  have G := (good_iff xs).1 hg
  have hlen := G.len
  have HP := hid (parts_bd G)
  have HG := hid hg
  have HGG := hid G
  clear G hg
  obtain ⟨i0, hi, hz0, hz1, hz2⟩ := info_parts Try.infoInt
  have y0 := Boxed.new w 22 (.slice A xs.length cap)
  have b0 : Below w.heap.size w (w.alloc (.cells #[.slice A xs.length cap] 22)) := (Below.refl _ w).alloc (Nat.le_refl _) _
  refine callsIn_of_wp_marks Try.func20 rfl trivial ?_ rfl
  simp only [Try.ntmps20, List.size_toArray, List.length_cons, List.length_nil, Nat.reduceAdd, Nat.reduceSub, Array.replicate_succ, Array.replicate_zero, List.push_toArray, List.append_toArray, List.nil_append, List.cons_append]
  gi_wp2_with (refine ⟨trivial, ?_⟩; gi_at_call 22; refine (callsIn_wide.2 (IsPartition_b _ _ _ _ (by omega) (hc.below b0) _ HG.out)).mono ?_; rintro e w' ⟨rfl, rfl⟩)
  refine ⟨trivial, (callsIn_wide.2 (beadsFor_any A cap xs xs.length _ (by omega) (Nat.le_refl _) HP.out (hc.below b0))).mono ?_⟩
  rintro e w1 ⟨Ab, cb, rfl, ob, bb⟩
  have B1 := Below.next b0 bb
  have y1 := y0.below' bb
  have hobl := ob.block
  have hcb := ob.cells
  gi_wp2_with (refine ⟨trivial, ?_⟩; gi_at_call 32; refine (back_in Fence.wide 4 trivial rfl _ _ _ _).mono ?_; rintro e w' ⟨rfl, rfl⟩)
  obtain ⟨Ba, hBa, hBa2⟩ : ∃ Ba, (0 < (beadsL xs xs.length).length → Ab.map Addr.block = some Ba) ∧ (0 < xs.length → Ba < w1.heap.size) := by
    by_cases h0 : 0 < xs.length
    · obtain ⟨g, rfl, _, h2⟩ := ob.at_ (by rw [beadsL_len]; exact h0)
      exact ⟨g, fun _ => rfl, fun _ => h2⟩
    · exact ⟨0, fun h => absurd (by rwa [beadsL_len] at h) h0, fun h => absurd h h0⟩
  have x0 := Boxed.new w1 22 (.slice Ab xs.length cb)
  have m0 := Boxed.new (w1.alloc (.cells #[.slice Ab xs.length cb] 22)) 22 (.slice none 0 0)
  have s0 := Boxed.new ((w1.alloc (.cells #[.slice Ab xs.length cb] 22)).alloc (.cells #[.slice none 0 0] 22)) 22 (.slice Ab xs.length cb)
  rw [World.size_alloc] at m0
  rw [World.size_alloc, World.size_alloc] at s0
  obtain ⟨w3, hw3⟩ : ∃ w3, w3 = ((w1.alloc (.cells #[.slice Ab xs.length cb] 22)).alloc (.cells #[.slice none 0 0] 22)).alloc (.cells #[.slice Ab xs.length cb] 22) := ⟨_, rfl⟩
  have x3 : Boxed w3 w1.heap.size 22 (.slice Ab xs.length cb) := by rw [hw3]; exact (x0.alloc _).alloc _
  have m3 : Boxed w3 (w1.heap.size + 1) 22 (.slice none 0 0) := by rw [hw3]; exact m0.alloc _
  have s3 : Boxed w3 (w1.heap.size + 1 + 1) 22 (.slice Ab xs.length cb) := by rw [hw3]; exact s0
  have b3 : Below w1.heap.size w1 w3 := by rw [hw3]; exact (((Below.refl _ _).alloc (Nat.le_refl _) _).alloc (by simp) _).alloc (by simp; omega) _
  have z3 : w3.heap.size = w1.heap.size + 1 + 1 + 1 := by rw [hw3]; simp
  rw [← hw3]
  clear x0 m0 s0 hw3
  have hst := backc_stops Fence.wide 4 trivial rfl (by omega) (w1.heap.size + 1 + 1) Ba Ab cb (beadsL xs xs.length) (by rw [beadsL_len]; omega) w3 (by omega) (by rw [beadsL_len]; exact s3.cell) hBa (hcb.below b3)
  rw [beadsL_len] at hst
  refine wpIn_rangeFunc_ownG rfl (by omega) (gf := 47) (lb := #[.pointer (some ⟨w1.heap.size + 1 + 1, 0, none⟩)]) rfl trivial (enters_of Try.func47 (by kernel_rfl) rfl)
    hst KeepC.trans (keepC_b (fun h => by have := hBa2 h; omega) (by omega)) (Below.refl _ _) (fun _ => rfl)
    (fun pre W => ((∃ v, Boxed W (w1.heap.size + 1) 22 v ∧ W.ownsRow w1.heap.size 3 1 v (posM xs.length pre).length (IL (posM xs.length pre)) ∧ True) ∧ (Boxed W (w1.heap.size + 1 + 1) 22 (.slice Ab xs.length cb) ∧ Boxed W w1.heap.size 22 (.slice Ab xs.length cb))) ∧ Below w1.heap.size w1 W)
    (fun _ _ _ => False)
    (OwnFrom.and (OwnFrom.and (Own.from (holdsRow_own w1.heap.size (w1.heap.size + 1) 22 3 1 (fun pre => (posM xs.length pre).length) (fun pre => IL (posM xs.length pre)) (fun _ _ => True)) _) (OwnFrom.and (Own.from (boxed_own _ _ _) _) (Own.from (boxed_own _ _ _) _))) (ownFrom_below (Nat.le_refl _) (by omega)))
    (fun _ _ _ _ _ hs _ _ => hs)
    ⟨⟨⟨_, m3, World.ownsRow_nil _ _ _ _, trivial⟩, s3, x3⟩, b3⟩
    (fun x => { tmps := #[.slice A xs.length cap, .pointer (some ⟨w.heap.size, 0, none⟩), .slice none 0 0, .bool false, .pointer (some ⟨w1.heap.size, 0, none⟩), .pointer (some ⟨w1.heap.size + 1, 0, none⟩), undef, .int .i64 x.2, undef, undef, .slice A xs.length cap, .bool true, .bool false, .slice A xs.length cap, .slice A xs.length cap, .int .i64 xs.length, .slice Ab xs.length cb, .slice Ab xs.length cb, .func (.func 47) #[] #[.pointer (some ⟨w1.heap.size + 1 + 1, 0, none⟩)], .int .i64 x.1, .int .i64 x.2, undef, undef, undef, undef, undef, undef, undef, undef, undef, undef, undef, undef, undef, undef, undef, undef, undef, undef, undef, undef, undef, undef, undef, undef, undef, undef, undef, undef, undef], defers := [] }) ?assign ?body ?done ?stop
  case assign =>
    intro l x W K hK
    gi_wp2
    exact hK
  case body =>
    rintro l pre x W ⟨⟨⟨v, hv, hrow, -⟩, hs, hx⟩, hB⟩ hlt
    have hcv := hv.cell
    have hcp := (y1.below' hB).cell
    have hpl := posM_len xs.length pre
    have hsz := hB.size
    have hnc := hlt
    gi_wp2_with (gi_at_builtin; refine wpListIn_append_own _ rfl _ _ 22 rfl w1.heap.size 3 i0 (.int .i64 0) 1 8 Try.underlying22 hi hz0 hz1 hz2 rfl (by decide) _ _ _ rfl (hrow.alloc _) ⟨W.heap.size, 0, none⟩ 1 1 [.int .i64 (wrap64 (x.2 - xs.length))] rfl rfl (cell_one_new _ _ _) (by simp [Value.oneCell']) (by unfold maxLen; omega) (by omega) (by simp; omega) ?_; intro v' w4 hown' hgrow _; obtain ⟨g', cap', rfl⟩ := ownsRow_succ hown'; obtain ⟨hv1, hv2, hr2, hk2, hb2⟩ := hv.appended (by decide) hrow hsz (by omega) hown' hgrow; have hc1 := hv1.cell; have hf1 := hv1.frozen; have hs2 := ((hs.alloc _).kept hgrow (hs.not_row (by decide) hrow)).other (B' := w1.heap.size + 1) (by omega) (.slice (some ⟨g', 0, none⟩) ((posM xs.length pre).length + 1) cap'); have hx2 := ((hx.alloc _).kept hgrow (hx.not_row (by decide) hrow)).other (B' := w1.heap.size + 1) (by omega) (.slice (some ⟨g', 0, none⟩) ((posM xs.length pre).length + 1) cap'))
    · have hge : (xs.length : Int) ≤ x.2 := by assumption
      exact ⟨hk2.from _, ⟨hs2.trans hs.symm, fun h0 => hb2.block Ba (hBa2 h0)⟩, ⟨⟨_, hv2, by rw [posM_hit _ pre hge]; simpa [IL] using hr2, trivial⟩, hs2, hx2⟩, hB.trans hb2⟩
    · have hge : x.2 < (xs.length : Int) := by assumption
      exact ⟨KeepsFrom.refl _ _, KeepC.refl _ _ _ _, ⟨⟨v, hv, by rw [posM_miss _ pre (by omega)]; exact hrow, trivial⟩, hs, hx⟩, hB⟩
  case stop =>
    rintro D c pre W _ _ h _
    exact h.elim
  case done =>
    rintro D ys W hD rfl ⟨⟨⟨v, hv, hrow, -⟩, -, hx⟩, hB⟩ hK
    rw [posM_A HGG.out _ (Nat.le_refl _)] at hrow
    have hcp := (y1.below' hB).cell
    clear hst
    gi_wp2_with (first | (refine ⟨trivial, ?_⟩; gi_at_call 30; refine (callsIn_wide.2 (countUp_any xs.length _ (by omega))).mono ?_; rintro e W2 ⟨Au, cu, rfl, ou, bu⟩) | (refine ⟨trivial, ?_⟩; gi_at_call 32; refine (back_in Fence.wide 4 trivial rfl _ _ _ _).mono ?_; rintro e w' ⟨rfl, rfl⟩))
    have hszW := hB.size
    have hBu := hB.next' bu hszW
    have hszu := bu.size
    have hD2 : D < W2.heap.size := by have := (Array.getElem?_eq_some_iff.1 hK).1; omega
    have hK2 : W2.heap[D]? = some (.deferred (some [])) := (bu.block D (Array.getElem?_eq_some_iff.1 hK).1).trans hK
    have hv2 := hv.below' bu
    have hx2 := hx.below' bu
    have hrow2 := ownsRow_next' hrow bu
    obtain ⟨Bu, hBu1, hBu2⟩ : ∃ Bu, (0 < (upTo xs.length).length → Au.map Addr.block = some Bu) ∧ (0 < xs.length → W.heap.size ≤ Bu ∧ Bu < W2.heap.size) := by
      by_cases h0 : 0 < xs.length
      · obtain ⟨g, rfl, h1, h2⟩ := ou.at_ (by rw [upTo_len]; exact h0)
        exact ⟨g, fun _ => rfl, fun _ => ⟨h1, h2⟩⟩
      · exact ⟨0, fun h => absurd (by rwa [upTo_len] at h) h0, fun h => absurd h h0⟩
    have hcu := ou.cells
    obtain ⟨W3, hW3⟩ : ∃ W3, W3 = W2.alloc (.cells #[.slice Au xs.length cu] 22) := ⟨_, rfl⟩
    have s3' : Boxed W3 W2.heap.size 22 (.slice Au xs.length cu) := by rw [hW3]; exact Boxed.new _ _ _
    have v3 : Boxed W3 (w1.heap.size + 1) 22 v := by rw [hW3]; exact hv2.alloc _
    have x3' : Boxed W3 w1.heap.size 22 (.slice Ab xs.length cb) := by rw [hW3]; exact hx2.alloc _
    have r3 : W3.ownsRow w1.heap.size 3 1 v (mayaA xs xs.length).length (IL (mayaA xs xs.length)) := by rw [hW3]; exact hrow2.alloc _
    have b3' : Below W2.heap.size W2 W3 := by rw [hW3]; exact (Below.refl _ _).alloc (Nat.le_refl _) _
    have z3' : W3.heap.size = W2.heap.size + 1 := by rw [hW3]; simp
    have hB3 := hBu.next' b3' hBu.size
    have hK3 : W3.heap[D]? = some (.deferred (some [])) := (b3'.block D hD2).trans hK2
    have hcu3 := hcu.below b3'
    rw [← hW3]
    have hsepv : 0 < xs.length → v.ownBlock ≠ some Bu := fun h0 e => by have := (hrow.lt Bu e).2; have := (hBu2 h0).1; omega
    have hal := mayaA_len xs xs.length
    have hcon : ∀ (W : World) (q : Int), Cells W Ab (beadsL xs xs.length) → Calls Try.prog 31 #[.slice Ab xs.length cb, .int .i64 q] W fun e w' => e = .returned (.bool (decide (q ∈ beadsL xs xs.length))) ∧ W = w' := by
      intro W q h
      have := Contains_any Ab (beadsL xs xs.length) cb q W (by rw [beadsL_len]; omega) h
      rw [beadsL_len] at this; exact this
    have hWlt : w1.heap.size + 1 + 1 < W.heap.size := by have := (Array.getElem?_eq_some_iff.1 hK).1; omega
    clear hW3 hv hx hrow hK hv2 hx2 hrow2 bu ou hcp hcu
    have hst2 := backc_stops Fence.wide 4 trivial rfl (by omega) W2.heap.size Bu Au cu (upTo xs.length) (by rw [upTo_len]; omega) W3 (by omega) (by rw [upTo_len]; exact s3'.cell) hBu1 hcu3
    rw [upTo_len] at hst2
    refine wpIn_rangeFunc_ownG rfl (by omega) (gf := 47) (lb := #[.pointer (some ⟨W2.heap.size, 0, none⟩)]) rfl trivial (enters_of Try.func47 (by kernel_rfl) rfl)
      hst2 KeepC.trans (keepC_b (fun h => by have := (hBu2 h).2; omega) (by omega)) (Below.refl _ _) (fun _ => rfl)
      (fun pre W' => ((∃ v, Boxed W' (w1.heap.size + 1) 22 v ∧ W'.ownsRow w1.heap.size 3 1 v (mayaA xs xs.length ++ misM xs.length (beadsL xs xs.length) pre).length (IL (mayaA xs xs.length ++ misM xs.length (beadsL xs xs.length) pre)) ∧ (0 < xs.length → v.ownBlock ≠ some Bu)) ∧ (Boxed W' W2.heap.size 22 (.slice Au xs.length cu) ∧ Boxed W' w1.heap.size 22 (.slice Ab xs.length cb))) ∧ (W'.heap[D]? = some (.deferred (some [])) ∧ Below w1.heap.size w1 W'))
      (fun _ _ _ => False)
      (OwnFrom.and (OwnFrom.and (Own.from (holdsRow_own w1.heap.size (w1.heap.size + 1) 22 3 1 (fun pre => (mayaA xs xs.length ++ misM xs.length (beadsL xs xs.length) pre).length) (fun pre => IL (mayaA xs xs.length ++ misM xs.length (beadsL xs xs.length) pre)) (fun _ v => 0 < xs.length → v.ownBlock ≠ some Bu)) _) (OwnFrom.and (Own.from (boxed_own _ _ _) _) (Own.from (boxed_own _ _ _) _))) (OwnFrom.and (fun s X Y row hs hg hr => (hg.block D (Array.getElem?_eq_some_iff.1 hs).1 (fun e => by have := (hr D e.symm).1; omega)).trans hs) (ownFrom_below (Nat.le_refl _) (by omega))))
      (fun _ _ _ _ _ hs _ _ => hs)
      ⟨⟨⟨v, v3, by simpa [misM] using r3, hsepv⟩, s3', x3'⟩, hK3, hB3⟩
      (fun x => { tmps := #[.slice A xs.length cap, .pointer (some ⟨w.heap.size, 0, none⟩), .slice none 0 0, .bool false, .pointer (some ⟨w1.heap.size, 0, none⟩), .pointer (some ⟨w1.heap.size + 1, 0, none⟩), undef, undef, undef, .int .i64 x.2, .slice A xs.length cap, .bool true, .bool false, .slice A xs.length cap, .slice A xs.length cap, .int .i64 xs.length, .slice Ab xs.length cb, .slice Ab xs.length cb, .func (.func 47) #[] #[.pointer (some ⟨w1.heap.size + 1 + 1, 0, none⟩)], undef, undef, undef, undef, undef, undef, undef, undef, undef, undef, undef, undef, undef, .slice A xs.length cap, .int .i64 xs.length, .slice Au xs.length cu, .func (.func 47) #[] #[.pointer (some ⟨W2.heap.size, 0, none⟩)], .int .i64 x.1, .int .i64 x.2, undef, undef, undef, undef, undef, undef, undef, undef, undef, undef, undef, undef], defers := [] }) ?assign2 ?body2 ?done2 ?stop2
    case assign2 =>
      intro l x W K hK
      gi_wp2
      exact hK
    case stop2 =>
      rintro D c pre W _ _ h _
      exact h.elim
    case body2 =>
      rintro l pre x W' ⟨⟨⟨v', hv, hrow, hsep⟩, hs, hx⟩, hKD, hB'⟩ hlt
      have hcv := hv.cell
      have hcx := hx.cell
      have hcp := (y1.below' hB').cell
      have hpl := misM_len xs.length (beadsL xs xs.length) pre
      have hsz := hB'.size
      have hcb' := hcb.below hB'
      have hll : (mayaA xs xs.length ++ misM xs.length (beadsL xs xs.length) pre).length = (mayaA xs xs.length).length + (misM xs.length (beadsL xs xs.length) pre).length := List.length_append
      have HLL := hid hll; clear hll
      have h0 : 0 < xs.length := by omega
      by_cases hm : x.2 ∈ beadsL xs xs.length
      · have hmd := decide_eq_true hm
        gi_wp2_with (refine ⟨trivial, ?_⟩; gi_at_call 31; refine (CallsIn.inRound l (callsIn_wide.2 (hcon W' x.2 hcb'))).mono ?_; rw [hmd]; rintro e w' ⟨rfl, rfl⟩)
        exact ⟨KeepsFrom.refl _ _, KeepC.refl _ _ _ _, ⟨⟨v', hv, by rw [misM_miss _ _ pre hm]; exact hrow, hsep⟩, hs, hx⟩, hKD, hB'⟩
      · have hmd := decide_eq_false hm
        gi_wp2_with (first | (refine ⟨trivial, ?_⟩; gi_at_call 31; refine (CallsIn.inRound l (callsIn_wide.2 (hcon W' x.2 hcb'))).mono ?_; rw [hmd]; rintro e w' ⟨rfl, rfl⟩) | (gi_at_builtin; refine wpListIn_append_own_at _ rfl _ _ 22 rfl w1.heap.size 3 i0 (.int .i64 0) 1 8 Try.underlying22 hi hz0 hz1 hz2 rfl (by decide) _ _ _ rfl (hrow.alloc _) ⟨W'.heap.size, 0, none⟩ 1 1 [.int .i64 (wrap64 (x.2 - xs.length))] rfl rfl (cell_one_new _ _ _) (by simp [Value.oneCell']) (by have := HLL.out; unfold maxLen; omega) (by have := HLL.out; omega) (by simp; omega) ?_; intro v2 w4 hown' hgrow _ hat; rw [HLL.out] at hown'; obtain ⟨g', cap', rfl⟩ := ownsRow_succ hown'; rw [← HLL.out] at hown'; obtain ⟨hv1, hv2, hr2, hk2, hb2⟩ := hv.appended (by decide) hrow hsz (by omega) hown' hgrow; have hc1 := hv1.cell; have hf1 := hv1.frozen))
        rw [HLL.out] at hk2 hv2 hb2 hr2
        have hBuv := hBu2 h0
        have hslt := hs.lt
        have hs2 := ((hs.alloc _).kept hgrow (hs.not_row (by decide) hrow)).other (B' := w1.heap.size + 1) (by omega) (.slice (some ⟨g', 0, none⟩) ((mayaA xs xs.length).length + (misM xs.length (beadsL xs xs.length) pre).length + 1) cap')
        have hx2 := ((hx.alloc _).kept hgrow (hx.not_row (by decide) hrow)).other (B' := w1.heap.size + 1) (by omega) (.slice (some ⟨g', 0, none⟩) ((mayaA xs xs.length).length + (misM xs.length (beadsL xs xs.length) pre).length + 1) cap')
        have hkb : w4.heap[Bu]? = W'.heap[Bu]? := by
          rw [hgrow.block Bu (by simp; omega) (fun e => hsep h0 e.symm), Below.heap_alloc _ _ _ (by omega)]
        have hkb2 : (w4.setCell ⟨w1.heap.size + 1, 0, none⟩ (.slice (some ⟨g', 0, none⟩) ((mayaA xs xs.length).length + (misM xs.length (beadsL xs xs.length) pre).length + 1) cap')).heap[Bu]? = W'.heap[Bu]? := (Below.heap_setCell _ _ _ Bu (by simp; omega)).trans hkb
        have hsep2 : (Value.slice (some ⟨g', 0, none⟩) ((mayaA xs xs.length).length + (misM xs.length (beadsL xs xs.length) pre).length + 1) cap').ownBlock ≠ some Bu := by
          intro e
          rcases hat with e1 | e1
          · exact hsep h0 (e1.symm.trans e)
          · have e2 := e1.symm.trans e
            injection e2 with e2; first | omega | (simp at e2; omega)
        have hmh := misM_hit xs.length (beadsL xs xs.length) pre hm
        have hr3 : (w4.setCell ⟨w1.heap.size + 1, 0, none⟩ (.slice (some ⟨g', 0, none⟩) ((mayaA xs xs.length).length + (misM xs.length (beadsL xs xs.length) pre).length + 1) cap')).ownsRow w1.heap.size 3 1 (.slice (some ⟨g', 0, none⟩) ((mayaA xs xs.length).length + (misM xs.length (beadsL xs xs.length) pre).length + 1) cap') (mayaA xs xs.length ++ misM xs.length (beadsL xs xs.length) (pre ++ [x])).length (IL (mayaA xs xs.length ++ misM xs.length (beadsL xs xs.length) (pre ++ [x]))) := by
          rw [hmh, ← List.append_assoc, List.length_append, HLL.out]
          have e : IL (mayaA xs xs.length ++ misM xs.length (beadsL xs xs.length) pre ++ [wrap64 (x.2 - xs.length)]) = IL (mayaA xs xs.length ++ misM xs.length (beadsL xs xs.length) pre) ++ [.int .i64 (wrap64 (x.2 - xs.length))] := by simp [IL]
          rw [e]; exact hr2
        exact ⟨hk2.from _, ⟨hs2.trans hs.symm, fun _ => hkb2⟩, ⟨⟨_, hv2, hr3, fun _ => hsep2⟩, hs2, hx2⟩, hk2.same D _ hKD rfl, hB'.trans hb2⟩
    case done2 =>
      rintro D2 ys W' hD2' rfl ⟨⟨⟨v', hv, hrow, -⟩, -, -⟩, hKD, hB'⟩ hK2'
      rw [misM_B (by omega) _ (Nat.le_refl _)] at hrow
      have hcv := hv.cell
      have hDD : D < D2 := by omega
      have hDlt : D < W'.heap.size := (Array.getElem?_eq_some_iff.1 hKD).1
      have hK1 : (W'.putObj D2 (.deferred none)).heap[D]? = some (.deferred (some [])) := ((grownBy_putObj' W' D2 (.deferred none)).block D hDlt (by simp; omega)).trans hKD
      have hr1 := ownsRow_putObj hrow (.deferred none) hK2' rfl
      have hr2 := ownsRow_putObj hr1 (.deferred none) hK1 rfl
      have hb1 := hB'.trans (belowK_b (n₀ := w1.heap.size) (w := W3) (by omega) W' D2 _ (.deferred none) (by omega) hK2' rfl rfl)
      have hb2 := hb1.trans (belowK_b (n₀ := w1.heap.size) (w := w3) (by omega) _ D _ (.deferred none) (by omega) hK1 rfl rfl)
      have hlm : (mayaL xs).length = (mayaA xs xs.length).length + (mayaB xs xs.length).length := List.length_append
      obtain ⟨A', c', rfl, ho⟩ := own_form' hr2
      gi_wp2
      refine ⟨by simp, .inl ⟨_, _, rfl, run_takeDeferred hK2', ⟨by simp, .inl ⟨_, _, rfl, run_takeDeferred hK1, ?_⟩⟩⟩⟩
      exact ⟨_, results_tmp2 rfl _ _ _, A', c', by rw [hlm]; rfl, ho.more B1.size, B1.next' hb2 B1.size⟩

theorem impl_MayaOf (A : Option Addr) (c : Nat) (xs : List Int) (w : World) (hl : xs.length ≤ 1048576) (hc : Cells w A xs) :
    Calls Try.prog 20 #[.slice A xs.length c] w fun e w' => ∃ A' c', e = .returned (.tuple #[.slice A' (mayaF xs).length c', .bool (good xs)]) ∧ Own w' w.heap.size A' c' (mayaF xs) ∧ Below w.heap.size w w' := by
  cases hg : good xs
  · rw [show mayaF xs = [] by simp [mayaF, hg]]
    have HG := hid hg; clear hg
    have b0 : Below w.heap.size w (w.alloc (.cells #[.slice A xs.length c] 22)) := (Below.refl _ w).alloc (Nat.le_refl _) _
    refine (callsIn_wide (n := 5)).1 ?_
    refine callsIn_of_wp_marks Try.func20 rfl trivial ?_ rfl
    simp only [Try.ntmps20, List.size_toArray, List.length_cons, List.length_nil, Nat.reduceAdd, Nat.reduceSub, Array.replicate_succ, Array.replicate_zero, List.push_toArray, List.append_toArray, List.nil_append, List.cons_append]
    gi_wp2_with (refine ⟨trivial, ?_⟩; gi_at_call 22; refine (callsIn_wide.2 (IsPartition_b _ _ _ _ hl (hc.below b0) _ HG.out)).mono ?_; rintro e w' ⟨rfl, rfl⟩)
    exact ⟨_, results_tmp2 rfl _ _ _, none, 0, rfl, own_nil _ _, b0⟩
  · rw [show mayaF xs = mayaL xs by simp [mayaF, hg]]
    exact (callsIn_wide (n := 5)).1 (MayaOf_in A c xs w hg hc)
end Go.Proofs.Ytelfapheigobeaa
/-
  Contracts: steps along the border (places, letters).
-/
namespace Go.Proofs.Ytelfapheigobeaa
open Go.RowKit

end Go.Proofs.Ytelfapheigobeaa
