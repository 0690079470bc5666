/-
  Contracts: ResidueCounts of the program and of the model.
-/
import Derived.Test.YtkbdlhmkiolegaaR10
import Derived.Test.YtkbdlhmkiolegaaCC
import Derived.Test.YtkbdlhmkiolegaaBlk
import Derived.Test.YtkbdlhmkiolegaaR08
import Derived.Test.YtkbdlhmkiolegaaR06
namespace Go.Proofs.Ytkbdlhmkiolegaa
open Go.RowKit

set_option maxHeartbeats 400000 in
theorem residueOf_any (x : Int) (t : Nat) (w : World) (ht : 2 ≤ t ∧ t ≤ 6) :
    Calls Try.prog 83 #[.int .i64 x, .int .i64 t] w fun e w' => e = .returned (.int .i64 (x % (t : Int))) ∧ w = w' := by
  obtain ⟨h1, h2, h3⟩ := tmod_resid (x := x) (t := (t : Int)) (by omega)
  obtain ⟨y, hy⟩ : ∃ y, y = Int.tmod x (t : Int) := ⟨_, rfl⟩
  rw [← hy] at h1 h2 h3
  have hyy : Int.tmod x (t : Int) = y := hy.symm
  have hne : ¬ ((t : Int) = 0) := by omega
  obtain ⟨z, hz⟩ : ∃ z, z = x % (t : Int) := ⟨_, rfl⟩
  rw [← hz] at h3 ⊢
  clear hy hz
  go_enter Try.func83, Try.ntmps83
  go_wp2
  go_ret
  exact ⟨rfl, rfl⟩

/-- A copy of what a slice shows that is not empty. -/
theorem at_news {w : World} {ad : Addr} {xs : List Int} (hc : Cells w (some ad) xs) (o : Obj) : ∀ k u, (IL xs)[k]? = some u → (w.alloc o).cell? (ad.add k) = some u := by
  intro k u hu
  have hk : k < xs.length := by
    have := (List.getElem?_eq_some_iff.1 hu).1
    simpa [IL] using this
  obtain ⟨b, o', he, hcc⟩ := hc (by omega)
  have h := hcc k hk
  rw [IL_get xs k hk] at hu
  injection he with he
  subst he
  have e : (⟨b, o', none⟩ : Addr).add k = ⟨b, o' + k, none⟩ := by unfold Addr.add; split <;> simp_all
  rw [e, World.cell?_of_block (w := w) (w' := w.alloc o) (Below.heap_alloc _ _ _ (World.block_lt_of_cell? w _ h)), h, hu]
set_option maxRecDepth 100000 in
set_option maxHeartbeats 1000000 in
theorem cloneCells_any (ad : Addr) (c : Nat) (xs : List Int) (w : World) (hl : xs.length ≤ 1048576) (hc : Cells w (some ad) xs) :
    Calls Try.prog 81 #[.slice (some ad) xs.length c] w fun e w' => ∃ A' c', e = .returned (.slice A' xs.length c') ∧ Own w' w.heap.size A' c' xs ∧ Below w.heap.size w w' := by
  obtain ⟨i0, hi, hz0, hz1, hz2⟩ := info_parts Try.infoInt
  have hm0 := World.ownsRow_made (base := w.heap.size) (e := 3) (size := 1) w #[] 0 (Nat.le_refl _) (by unfold maxLen; omega) rfl
  have hb0 : Below w.heap.size w (w.alloc (.cells #[] 3)) := (Below.refl _ _).alloc (Nat.le_refl _) _
  have hat := at_news hc (.cells #[] 3)
  have hnil := fun w => Lib.run_eql_slice_nil (P := Try.prog) w 22 3 (some ad) xs.length c 0 0 Try.underlying22
  go_enter Try.func81, Try.ntmps81
  go_wp2_with (at_builtin; refine wpList_append_own _ rfl _ _ 22 rfl w.heap.size 3 i0 (.int .i64 0) 1 8 Try.underlying22 hi hz0 hz1 hz2 rfl (by decide) _ 0 [] rfl hm0 ad xs.length c (IL xs) rfl (by simp [IL]) hat (IL_oneC xs) (by unfold maxLen; omega) (by omega) (by simp) ?_)
  intro v' w1 hown' hgrow _
  have hb1 : Below w.heap.size w w1 := hb0.grown hgrow (by simp) (fun q hq => (hm0.lt q hq).1)
  obtain ⟨A', c', rfl, ho'⟩ := own_form hown' rfl
  clear hown' hgrow
  go_wp2_with fail
  go_ret
  exact ⟨A', c', rfl, ho', hb1⟩

/-- The six counters of the program after a list of contents. -/
def arrC (t : Nat) (L : List Int) : Nat → Value := fun j => .int .i64 (if j < t then cnt t L j else 0)
theorem arrC_upd (t : Nat) (L : List Int) (x : Int) (m : Nat) (hm : x % (t : Int) = (m : Int)) (hmt : m < t) (k : Nat) : updV (arrC t L) m (.int .i64 (cnt t L m + 1)) k = arrC t (L ++ [x]) k := by
  unfold updV arrC
  rw [cnt_snoc t L x m hm]
  by_cases h : k = m
  · subst h; rw [if_pos rfl, if_pos hmt, if_pos rfl]
  · rw [if_neg h, if_neg h]

theorem arrC_nil (t : Nat) : ca 6 (arrC t []) = #[.int .i64 0, .int .i64 0, .int .i64 0, .int .i64 0, .int .i64 0, .int .i64 0] := by
  rw [ca_ext (d := fun _ => .int .i64 0) (fun k _ => by unfold arrC; congr 1; split <;> rfl)]; rfl
theorem arrC_at (t : Nat) (L : List Int) (m : Nat) (h : m < t) : arrC t L m = .int .i64 (cnt t L m) := by unfold arrC; rw [if_pos h]
theorem takeSnocR (ys : List Int) (k : Nat) (h : k < ys.length) : ys.take (k + 1) = ys.take k ++ [ys.getD k 0] := take_snoc ys k h _ rfl

end Go.Proofs.Ytkbdlhmkiolegaa
