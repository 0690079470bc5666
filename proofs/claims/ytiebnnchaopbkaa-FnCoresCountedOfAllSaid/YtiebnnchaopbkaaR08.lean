/-
  Several texts in one.
-/
import Derived.Test.YtiebnnchaopbkaaCA
import Derived.Test.YtiebnnchaopbkaaR07
import Derived.Test.YtiebnnchaopbkaaCH
import Derived.Test.YtiebnnchaopbkaaR03
import Derived.Test.YtiebnnchaopbkaaCB
/-
  Contracts: levels told by counts (both sides).
-/
namespace Go.Proofs.Ytiebnnchaopbkaa
open Go.RowKit

theorem ifLevels_t (A : Option Addr) (c : Nat) (xs : List Int) (w : World) (hl : xs.length ≤ 1048576) (hc : Cells w A xs) (h : levB xs = true) :
    Calls Try.prog 32 #[.slice A xs.length c] w fun e w' => e = .returned (.tuple #[.slice A xs.length c, .bool true]) ∧ w = w' := by
  have H := hid h; clear h
  go_enter Try.func32, Try.ntmps32
  go_wp2_with (go_at_call 34; refine (IsLevels_b _ _ _ _ hl hc _ H.out).mono ?_; rintro e w' ⟨rfl, rfl⟩)
  go_ret2
  exact ⟨rfl, rfl⟩
theorem ifLevels_f (A : Option Addr) (c : Nat) (xs : List Int) (w : World) (hl : xs.length ≤ 1048576) (hc : Cells w A xs) (h : levB xs = false) :
    Calls Try.prog 32 #[.slice A xs.length c] w fun e w' => e = .returned (.tuple #[.slice none 0 0, .bool false]) ∧ w = w' := by
  have H := hid h; clear h
  go_enter Try.func32, Try.ntmps32
  go_wp2_with (go_at_call 34; refine (IsLevels_b _ _ _ _ hl hc _ H.out).mono ?_; rintro e w' ⟨rfl, rfl⟩)
  go_ret2
  exact ⟨rfl, rfl⟩
/-- ifLevels of a row of the call's own. -/
theorem ifLevels_own {B : Nat} (A : Option Addr) (c : Nat) (xs : List Int) (w : World) (hl : xs.length ≤ 1048576) (ho : Own w B A c xs) :
    Calls Try.prog 32 #[.slice A xs.length c] w fun e w' => (∃ A' c', e = .returned (.tuple #[.slice A' (if levB xs then xs else []).length c', .bool (levB xs)]) ∧ Own w B A' c' (if levB xs then xs else [])) ∧ w = w' := by
  cases h : levB xs
  · exact (ifLevels_f A c xs w hl ho.cells h).mono fun e w' ⟨he, hw⟩ => ⟨⟨none, 0, by simpa using he, by simpa using own_nil w B⟩, hw⟩
  · exact (ifLevels_t A c xs w hl ho.cells h).mono fun e w' ⟨he, hw⟩ => ⟨⟨A, c, by simpa using he, by simpa using ho⟩, hw⟩

end Go.Proofs.Ytiebnnchaopbkaa
/-
  Contracts: a row of ints copied, its source a row of the call's own, nil or not.
-/
namespace Go.Proofs.Ytiebnnchaopbkaa
open Go.RowKit

set_option maxRecDepth 100000 in
set_option maxHeartbeats 1000000 in
theorem l1Own_any {B : Nat} (A : Option Addr) (c : Nat) (xs : List Int) (w : World) (hl : xs.length ≤ 1048576) (ho : Own w B A c xs) :
    Calls Try.prog 46 #[.slice A xs.length c] w fun e w' => ∃ A' c', e = .returned (.slice A' xs.length c') ∧ Own w' w.heap.size A' c' xs ∧ Below w.heap.size w w' := by
  obtain ⟨i0, hi, hz0, hz1, hz2⟩ := info_parts Try.infoInt
  have hm0 := World.ownsRow_made (base := w.heap.size) (e := 3) (size := 1) w #[] 0 (Nat.le_refl _) (by unfold maxLen; omega) rfl
  have hb0 : Below w.heap.size w (w.alloc (.cells #[] 3)) := (Below.refl _ _).alloc (Nat.le_refl _) _
  have hat : ∀ ad, A = some ad → ∀ k u, (IL xs)[k]? = some u → (w.alloc (.cells #[] 3)).cell? (ad.add k) = some u := by
    rintro ad rfl; exact own_news ho _
  have hno : A = none → xs.length = 0 ∧ c = 0 := by rintro rfl; exact own_none ho
  go_enter Try.func46, Try.ntmps46
  go_wp2_with (at_builtin; refine wpList_append_opt _ rfl _ _ 28 rfl w.heap.size 3 i0 (.int .i64 0) 1 8 Try.underlying28 hi hz0 hz1 hz2 rfl (by decide) _ 0 [] rfl hm0 A xs.length c (IL xs) rfl (by simp [IL]) hno hat (IL_oneC xs) (by unfold maxLen; omega) (by omega) (by simp) ?_)
  intro v' w1 hown' hgrow
  have hb1 : Below w.heap.size w w1 := hb0.grown hgrow (by simp) (fun q hq => (hm0.lt q hq).1)
  obtain ⟨A', c', rfl, ho'⟩ := own_form hown' rfl
  clear hown' hgrow
  go_wp2_with fail
  go_ret
  exact ⟨A', c', rfl, ho', hb1⟩
end Go.Proofs.Ytiebnnchaopbkaa
/-
  Contracts: a copy of any row of ints that a caller has: slices.Clone and the model's own.
-/
namespace Go.Proofs.Ytiebnnchaopbkaa
open Go.RowKit

theorem cellsNewsC {w : World} {ad : Addr} {xs : List Int} (hc : Cells w (some ad) xs) : ∀ k u, (IL xs)[k]? = some u → w.cell? (ad.add k) = some u := by
  intro k u hu
  have hk : k < xs.length := by
    have := (List.getElem?_eq_some_iff.1 hu).1
    simpa [IL] using this
  obtain ⟨b, o', he, hcc⟩ := hc (by omega)
  have h := hcc k hk
  rw [IL_get xs k hk] at hu
  injection he with he
  subst he
  have e : (⟨b, o', none⟩ : Addr).add k = ⟨b, o' + k, none⟩ := by unfold Addr.add; split <;> simp_all
  rw [e, h, hu]

set_option maxRecDepth 100000 in
set_option maxHeartbeats 1000000 in
theorem l1OwnC_any (A : Option Addr) (c : Nat) (xs : List Int) (w : World) (hl : xs.length ≤ 1048576) (hno : A = none → xs.length = 0 ∧ c = 0) (hc : Cells w A xs) :
    Calls Try.prog 46 #[.slice A xs.length c] w fun e w' => ∃ A' c', e = .returned (.slice A' xs.length c') ∧ Own w' w.heap.size A' c' xs ∧ Below w.heap.size w w' := by
  obtain ⟨i0, hi, hz0, hz1, hz2⟩ := info_parts Try.infoInt
  have hm0 := World.ownsRow_made (base := w.heap.size) (e := 3) (size := 1) w #[] 0 (Nat.le_refl _) (by unfold maxLen; omega) rfl
  have hb0 : Below w.heap.size w (w.alloc (.cells #[] 3)) := (Below.refl _ _).alloc (Nat.le_refl _) _
  have hat : ∀ ad, A = some ad → ∀ k u, (IL xs)[k]? = some u → (w.alloc (.cells #[] 3)).cell? (ad.add k) = some u := by
    rintro ad rfl; exact cellsNewsC (hc.later hb0)
  go_enter Try.func46, Try.ntmps46
  go_wp2_with (at_builtin; refine wpList_append_opt _ rfl _ _ 28 rfl w.heap.size 3 i0 (.int .i64 0) 1 8 Try.underlying28 hi hz0 hz1 hz2 rfl (by decide) _ 0 [] rfl hm0 A xs.length c (IL xs) rfl (by simp [IL]) hno hat (IL_oneC xs) (by unfold maxLen; omega) (by omega) (by simp) ?_)
  intro v' w1 hown' hgrow
  have hb1 : Below w.heap.size w w1 := hb0.grown hgrow (by simp) (fun q hq => (hm0.lt q hq).1)
  obtain ⟨A', c', rfl, ho'⟩ := own_form hown' rfl
  clear hown' hgrow
  go_wp2_with fail
  go_ret
  exact ⟨A', c', rfl, ho', hb1⟩


end Go.Proofs.Ytiebnnchaopbkaa
