/-
  The list of parts of beads, as the program makes it in a walk backwards.
-/
import Derived.Test.YtnhjofcmaodamaaBack
import Derived.RangeFuncNested
namespace Go.Proofs.Ytnhjofcmaodamaa
open Go.RowKit Go.Shelf
attribute [local go_sem] Oper.semAt_some

def posP (pre : List (Int × Int)) : List Int := pre.filterMap fun x => if x.1 < x.2 then some (wrap64 (x.2 - x.1)) else none
theorem posP_hit (pre : List (Int × Int)) {x : Int × Int} (h : x.1 < x.2) : posP (pre ++ [x]) = posP pre ++ [wrap64 (x.2 - x.1)] := by simp [posP, h]
theorem posP_miss (pre : List (Int × Int)) {x : Int × Int} (h : ¬ x.1 < x.2) : posP (pre ++ [x]) = posP pre := by simp [posP, h]
theorem posP_len (pre : List (Int × Int)) : (posP pre).length ≤ pre.length := List.length_filterMap_le _ _
theorem posP_pk {xs : List Int} (hb : ∀ j, j < xs.length → 0 ≤ xs.getD j 0 ∧ xs.getD j 0 ≤ 1000) (hl : xs.length ≤ 1000) : ∀ k, k ≤ xs.length → posP (upto (bk xs) k) = bpk xs k
  | 0, _ => rfl
  | k + 1, h => by
    have ih := posP_pk hb hl k (by omega)
    have := hb (xs.length - 1 - k) (by omega)
    rw [upto_succ]
    by_cases hh : ((xs.length - 1 - k : Nat) : Int) < xs.getD (xs.length - 1 - k) 0
    · rw [posP_hit _ hh, ih, bpk_yes rfl rfl hh]
      simp only [bk]
      have e : wrap64 (xs.getD (xs.length - 1 - k) 0 - ((xs.length - 1 - k : Nat) : Int)) = xs.getD (xs.length - 1 - k) 0 - ((xs.length - 1 - k : Nat) : Int) := IntWalk.wrap64_in _ (by omega)
      rw [e]
    · rw [posP_miss _ hh, ih, bpk_no rfl rfl hh]

set_option maxRecDepth 100000 in
set_option maxHeartbeats 4000000 in
theorem partsOf_in (F : Fence) (n : Nat) (h3 : F.fn 103) (h4 : F.fn 101) (h5 : F.fn 165) (hro : F.round = none) (hn : 3 ≤ n) (A : Option Addr) (cap : Nat) (xs : List Int) (hlen : xs.length ≤ 1048576) (w : World)
    (hc : Cells w A xs) :
    CallsIn F n Try.prog 103 #[.slice A xs.length cap] w fun e W' => ∃ v, e = .returned v ∧ W'.ownsRow w.heap.size 3 1 v (posP (upto (bk xs) xs.length)).length (IL (posP (upto (bk xs) xs.length))) ∧ Below w.heap.size w W' := by
  have h1 : 1 ≤ n := by omega
  obtain ⟨i0, hi, hz0, hz1, hz2⟩ := info_parts Try.infoInt
  refine callsIn_of_wp_marks Try.func103 rfl h3 ?_ hro
  simp only [Try.ntmps103, List.size_toArray, List.length_cons, List.length_nil, Nat.reduceAdd, Nat.reduceSub, Array.replicate_succ, Array.replicate_zero, List.push_toArray, List.append_toArray, List.nil_append, List.cons_append]
  gi_wp2_with (gi_at_call 101; refine (back_in F (n - 1) h4 hro _ _ _ _).mono ?_; rintro e w' ⟨rfl, rfl⟩)
  have bO := Boxed.new w 22 (.slice none 0 0)
  have bN := Boxed.new (w.alloc (.cells #[.slice none 0 0] 22)) 22 (.slice A xs.length cap)
  rw [World.size_alloc] at bN
  have hB0 : Below w.heap.size w ((w.alloc (.cells #[.slice none 0 0] 22)).alloc (.cells #[.slice A xs.length cap] 22)) := ((Below.refl _ w).alloc (Nat.le_refl _) _).alloc (by simp) _
  refine wpIn_rangeFunc_ownG hro h1 (gf := 165) (lb := #[.pointer (some ⟨w.heap.size + 1, 0, none⟩)]) rfl h5 (enters_of Try.func165 (by kernel_rfl) rfl)
    (back_stops F (n - 1) h5 hro (by omega) (w.heap.size + 1) w.heap.size A cap xs hlen _ (by simp) bN.cell (cells_lt hc) (hc.keep fun b hb hlt => hB0.block b hlt)) KeepB.trans (keepB_b (by simp; omega) (by simp)) (Below.refl _ _) (fun _ => rfl)
    (fun pre W => ((∃ v, Boxed W w.heap.size 22 v ∧ W.ownsRow w.heap.size 3 1 v (posP pre).length (IL (posP pre)) ∧ True) ∧ Boxed W (w.heap.size + 1) 22 (.slice A xs.length cap)) ∧ Below w.heap.size w W)
    (fun _ _ _ => False)
    (OwnFrom.and (OwnFrom.and (Own.from (holdsRow_own w.heap.size w.heap.size 22 3 1 (fun pre => (posP pre).length) (fun pre => IL (posP pre)) (fun _ _ => True)) _) (Own.from (boxed_own _ _ _) _)) (ownFrom_below (Nat.le_refl _) (by simp; omega)))
    (fun _ _ _ _ _ hs _ _ => hs)
    ⟨⟨⟨_, bO.alloc _, World.ownsRow_nil _ _ _ _, trivial⟩, bN⟩, hB0⟩
    (fun x => { tmps := #[.slice A xs.length cap, undef, .slice none 0 0, .pointer (some ⟨w.heap.size, 0, none⟩), .int .i64 x.1, .int .i64 x.2, .slice A xs.length cap, .func (.func 165) #[] #[.pointer (some ⟨w.heap.size + 1, 0, none⟩)], .int .i64 x.1, .int .i64 x.2, undef, undef, undef, undef, undef, undef, undef, undef, undef, undef], defers := [] }) ?assign ?body ?done ?stop
  case assign =>
    intro l x W K hK
    gi_wp2
    exact hK
  case body =>
    rintro l pre x W ⟨⟨⟨v, hv, hrow, -⟩, hs⟩, hB⟩ hlt
    have hc := hv.cell
    have hpl := posP_len pre
    gi_wp2_with (gi_at_builtin; refine wpListIn_append_own _ rfl _ _ 22 rfl w.heap.size 3 i0 (.int .i64 0) 1 8 Try.underlying22 hi hz0 hz1 hz2 rfl (by decide) _ _ _ rfl (hrow.alloc _) ⟨W.heap.size, 0, none⟩ 1 1 [.int .i64 (wrap64 (x.2 - x.1))] rfl rfl (cell_one_new _ _ _) (by simp [Value.oneCell']) (by unfold maxLen; omega) (by omega) (by have := hB.size; simp; omega) ?_; intro v' w1 hown' hgrow _; obtain ⟨g', cap', rfl⟩ := ownsRow_succ hown'; obtain ⟨hv1, hv2, hr2, hk2, hb2⟩ := hv.appended (by decide) hrow hB.size (Nat.le_refl _) hown' hgrow; have hc1 := hv1.cell; have hf1 := hv1.frozen; have hs1 : Boxed w1 (w.heap.size + 1) 22 (.slice A xs.length cap) := (hs.alloc _).kept hgrow (hs.not_row (by decide) hrow); have hs2 := hs1.other (B' := w.heap.size) (by omega) (.slice (some ⟨g', 0, none⟩) ((posP pre).length + 1) cap'))
    · have hx : x.1 < x.2 := by assumption
      exact ⟨hk2.from _, ⟨hb2, hs2.trans hs.symm⟩, ⟨⟨⟨_, hv2, by rw [posP_hit pre hx]; simpa [IL] using hr2, trivial⟩, hs2⟩, hB.trans hb2⟩⟩
    · have hx : x.2 ≤ x.1 := by assumption
      exact ⟨KeepsFrom.refl _ _, KeepB.refl _ _ _, ⟨⟨⟨v, hv, by rw [posP_miss pre (by omega)]; exact hrow, trivial⟩, hs⟩, hB⟩⟩
  case done =>
    rintro D ys W hD rfl ⟨⟨⟨v, hv, hrow, -⟩, hs⟩, hB⟩ hK
    have hc := hv.cell
    gi_wp2
    refine ⟨by simp, .inl ⟨_, _, rfl, run_takeDeferred hK, ?_⟩⟩
    exact ⟨_, results_tmp rfl _ _ _, v, rfl, ownsRow_putObj hrow _ hK rfl, hB.trans (belowK_b (w := w) (Nat.le_refl _) W D _ _ (by simp at hD; omega) hK rfl rfl)⟩
  case stop =>
    rintro D c pre W _ _ h _
    exact h.elim

theorem own_form' {w : World} {B : Nat} {v : Value} {xs : List Int} (h : w.ownsRow B 3 1 v xs.length (IL xs)) : ∃ A c, v = .slice A xs.length c ∧ Own w B A c xs := by
  rcases h.2 with ⟨rfl, h0⟩ | ⟨g, cap, cur, rfl, _⟩
  · refine ⟨none, 0, by rw [h0], ?_⟩
    unfold Own; rw [h0] at h ⊢; exact h
  · exact ⟨_, _, rfl, h⟩
theorem partsOf_any (A : Option Addr) (cap : Nat) (xs : List Int) (w : World) (hl : xs.length ≤ 1000) (hb : ∀ j, j < xs.length → 0 ≤ xs.getD j 0 ∧ xs.getD j 0 ≤ 1000) (hc : Cells w A xs) :
    Calls Try.prog 103 #[.slice A xs.length cap] w fun e w' => ∃ A' c', e = .returned (.slice A' (partsL xs).length c') ∧ Own w' w.heap.size A' c' (partsL xs) ∧ Below w.heap.size w w' := by
  refine (callsIn_wide (n := 3)).1 ((partsOf_in Fence.wide 3 trivial trivial trivial rfl (Nat.le_refl _) A cap xs (by omega) w hc).mono ?_)
  rintro e w' ⟨v, rfl, ho, hB⟩
  rw [posP_pk hb hl _ (Nat.le_refl _)] at ho
  obtain ⟨A', c', rfl, o⟩ := own_form' ho
  exact ⟨A', c', rfl, o, hB⟩
end Go.Proofs.Ytnhjofcmaodamaa
