/-
  Several texts in one.
-/
import Derived.Test.YtkbdlhmkiolegaaR06
import Derived.Test.YtkbdlhmkiolegaaCB
import Derived.Test.YtkbdlhmkiolegaaR08
import Derived.RegionTactic
import Derived.ChangeAlike
/-
  Contracts: a copy of any row of ints that a caller has: slices.Clone and the model's own.
-/
namespace Go.Proofs.Ytkbdlhmkiolegaa
open Go.RowKit

theorem cellsNewsC {w : World} {ad : Addr} {xs : List Int} (hc : Cells w (some ad) xs) : ∀ k u, (IL xs)[k]? = some u → w.cell? (ad.add k) = some u := by
  intro k u hu
  have hk : k < xs.length := by
    have := (List.getElem?_eq_some_iff.1 hu).1
    simpa [IL] using this
  obtain ⟨b, o', he, hcc⟩ := hc (by omega)
  have h := hcc k hk
  rw [IL_get xs k hk] at hu
  injection he with he
  subst he
  have e : (⟨b, o', none⟩ : Addr).add k = ⟨b, o' + k, none⟩ := by unfold Addr.add; split <;> simp_all
  rw [e, h, hu]

set_option maxRecDepth 100000 in
set_option maxHeartbeats 1000000 in
theorem l1OwnC_any (A : Option Addr) (c : Nat) (xs : List Int) (w : World) (hl : xs.length ≤ 1048576) (hno : A = none → xs.length = 0 ∧ c = 0) (hc : Cells w A xs) :
    Calls Try.prog 59 #[.slice A xs.length c] w fun e w' => ∃ A' c', e = .returned (.slice A' xs.length c') ∧ Own w' w.heap.size A' c' xs ∧ Below w.heap.size w w' := by
  obtain ⟨i0, hi, hz0, hz1, hz2⟩ := info_parts Try.infoInt
  have hm0 := World.ownsRow_made (base := w.heap.size) (e := 3) (size := 1) w #[] 0 (Nat.le_refl _) (by unfold maxLen; omega) rfl
  have hb0 : Below w.heap.size w (w.alloc (.cells #[] 3)) := (Below.refl _ _).alloc (Nat.le_refl _) _
  have hat : ∀ ad, A = some ad → ∀ k u, (IL xs)[k]? = some u → (w.alloc (.cells #[] 3)).cell? (ad.add k) = some u := by
    rintro ad rfl; exact cellsNewsC (hc.later hb0)
  go_enter Try.func59, Try.ntmps59
  go_wp2_with (at_builtin; refine wpList_append_opt _ rfl _ _ 22 rfl w.heap.size 3 i0 (.int .i64 0) 1 8 Try.underlying22 hi hz0 hz1 hz2 rfl (by decide) _ 0 [] rfl hm0 A xs.length c (IL xs) rfl (by simp [IL]) hno hat (IL_oneC xs) (by unfold maxLen; omega) (by omega) (by simp) ?_)
  intro v' w1 hown' hgrow
  have hb1 : Below w.heap.size w w1 := hb0.grown hgrow (by simp) (fun q hq => (hm0.lt q hq).1)
  obtain ⟨A', c', rfl, ho'⟩ := own_form hown' rfl
  clear hown' hgrow
  go_wp2_with fail
  go_ret
  exact ⟨A', c', rfl, ho', hb1⟩


theorem cloneC_any (A : Option Addr) (c : Nat) (xs : List Int) (w : World) (hl : xs.length ≤ 1048576) (hno : A = none → xs.length = 0 ∧ c = 0) (hc : Cells w A xs) :
    Calls Try.prog 81 #[.slice A xs.length c] w fun e w' => ∃ A' c', e = .returned (.slice A' xs.length c') ∧ Own w' w.heap.size A' c' xs ∧ Below w.heap.size w w' := by
  cases A with
  | none =>
    obtain ⟨h0, rfl⟩ := hno rfl
    have e : xs = [] := List.eq_nil_of_length_eq_zero h0
    subst e
    exact cloneOwn_any (B := w.heap.size) none 0 [] w (by simp) (own_nil _ _)
  | some ad =>
    obtain ⟨i0, hi, hz0, hz1, hz2⟩ := info_parts Try.infoInt
    have hm0 := World.ownsRow_made (base := w.heap.size) (e := 3) (size := 1) w #[] 0 (Nat.le_refl _) (by unfold maxLen; omega) rfl
    have hb0 : Below w.heap.size w (w.alloc (.cells #[] 3)) := (Below.refl _ _).alloc (Nat.le_refl _) _
    have hat := cellsNewsC (hc.later hb0)
    have hnil := fun w => Lib.run_eql_slice_nil (P := Try.prog) w 22 3 (some ad) xs.length c 0 0 Try.underlying22
    go_enter Try.func81, Try.ntmps81
    go_wp2_with (at_builtin; refine wpList_append_own _ rfl _ _ 22 rfl w.heap.size 3 i0 (.int .i64 0) 1 8 Try.underlying22 hi hz0 hz1 hz2 rfl (by decide) _ 0 [] rfl hm0 ad xs.length c (IL xs) rfl (by simp [IL]) hat (IL_oneC xs) (by unfold maxLen; omega) (by omega) (by simp) ?_)
    intro v' w1 hown' hgrow _
    have hb1 : Below w.heap.size w w1 := hb0.grown hgrow (by simp) (fun q hq => (hm0.lt q hq).1)
    obtain ⟨A', c', rfl, ho'⟩ := own_form hown' rfl
    clear hown' hgrow
    go_wp2_with fail
    go_ret
    exact ⟨A', c', rfl, ho', hb1⟩
end Go.Proofs.Ytkbdlhmkiolegaa
/-
  A row that is only read: its cells, and that nil has neither length nor capacity.
-/
namespace Go.Proofs.Ytkbdlhmkiolegaa
open Go.RowKit

structure Rd (w : World) (A : Option Addr) (c : Nat) (xs : List Int) : Prop where
  no : A = none → xs.length = 0 ∧ c = 0
  cells : Cells w A xs
theorem Rd.below {w w' : World} {A : Option Addr} {c : Nat} {xs : List Int} (h : Rd w A c xs) (b : Below w.heap.size w w') : Rd w' A c xs := ⟨h.no, h.cells.later b⟩
theorem own_rd {w : World} {B c : Nat} {A : Option Addr} {xs : List Int} (h : Own w B A c xs) : Rd w A c xs := ⟨by rintro rfl; exact own_none h, h.cells⟩
theorem rd_nil {w : World} {A : Option Addr} {xs : List Int} (h : Cells w A xs) (e : A = none) : xs.length = 0 := by
  rcases Nat.eq_zero_or_pos xs.length with h0 | h0
  · exact h0
  · obtain ⟨b, o, h1, _⟩ := h h0
    rw [e] at h1
    cases h1
theorem cells_rd {w : World} {c : Nat} {A : Option Addr} {xs : List Int} (h : Cells w A xs) (hn : A = none → c = 0) : Rd w A c xs :=
  ⟨fun e => ⟨rd_nil h e, hn e⟩, h⟩
theorem cloneR_any (A : Option Addr) (c : Nat) (xs : List Int) (w : World) (hl : xs.length ≤ 1048576) (h : Rd w A c xs) :
    Calls Try.prog 81 #[.slice A xs.length c] w fun e w' => ∃ A' c', e = .returned (.slice A' xs.length c') ∧ Own w' w.heap.size A' c' xs ∧ Below w.heap.size w w' := cloneC_any A c xs w hl h.no h.cells
theorem l1OwnR_any (A : Option Addr) (c : Nat) (xs : List Int) (w : World) (hl : xs.length ≤ 1048576) (h : Rd w A c xs) :
    Calls Try.prog 59 #[.slice A xs.length c] w fun e w' => ∃ A' c', e = .returned (.slice A' xs.length c') ∧ Own w' w.heap.size A' c' xs ∧ Below w.heap.size w w' := l1OwnC_any A c xs w hl h.no h.cells
end Go.Proofs.Ytkbdlhmkiolegaa
/-
  Contracts: levels reflected (both sides).
-/
namespace Go.Proofs.Ytkbdlhmkiolegaa
open Go.RowKit

set_option maxHeartbeats 400000 in
theorem isResidue_any (i t : Int) (w : World) : Calls Try.prog 60 #[.int .i64 i, .int .i64 t] w fun e w' => e = .returned (.bool (decide (0 ≤ i) && decide (i < t))) ∧ w = w' := by
  by_cases h1 : 0 ≤ i
  · by_cases h2 : i < t
    · go_enter Try.func60, Try.ntmps60
      go_wp2
      go_ret
      exact ⟨by simp [h1, h2], rfl⟩
    · go_enter Try.func60, Try.ntmps60
      go_wp2
      go_ret
      exact ⟨by simp [h2], rfl⟩
  · go_enter Try.func60, Try.ntmps60
    go_wp2
    go_ret
    exact ⟨by rw [decide_eq_false (p := 0 ≤ i) (by omega)]; first | done | rfl, rfl⟩
theorem isResidue_b (i t : Int) (w : World) (b : Bool) (h : (decide (0 ≤ i) && decide (i < t)) = b) : Calls Try.prog 60 #[.int .i64 i, .int .i64 t] w fun e w' => e = .returned (.bool b) ∧ w = w' := by
  subst h; exact isResidue_any i t w

theorem below_drew1 {B : Nat} {a w : World} (h : Below B a w) : Below B a w.drew := ⟨h.os, h.tape, h.output, h.size, h.block⟩
theorem own_drew1 {w : World} {B : Nat} {A : Option Addr} {c : Nat} {xs : List Int} (h : Own w B A c xs) : Own w.drew B A c xs := h
/-- What both sides have written before the last check: the row, whatever the order of the two stores. -/
theorem reflOwn {w : World} {B g c : Nat} {xs : List Int} (h : Own w B (some ⟨g, 0, none⟩) c xs) (i j : Nat) (x y : Int) :
    Own ((w.setCell ⟨g, i, none⟩ (.int .i64 x)).setCell ⟨g, j, none⟩ (.int .i64 y)) B (some ⟨g, 0, none⟩) c ((xs.set i x).set j y) := own_set (own_set h i x) j y

end Go.Proofs.Ytkbdlhmkiolegaa
