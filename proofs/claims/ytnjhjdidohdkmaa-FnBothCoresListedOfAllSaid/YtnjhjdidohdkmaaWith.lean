/-
  Contracts: first hooks copied; a core with one hook more.
-/
import Derived.Test.YtnjhjdidohdkmaaBc
import Derived.Test.YtnjhjdidohdkmaaOwnCopy
import Derived.Test.YtnjhjdidohdkmaaStepApp
import Derived.Test.YtnjhjdidohdkmaaWith1
import Derived.Test.YtnjhjdidohdkmaaCB
import Derived.Deep.RegionHeld3
import Derived.Deep.CutRange
namespace Go.Proofs.Ytnjhjdidohdkmaa
open Go.RowKit

set_option maxRecDepth 100000 in
set_option maxHeartbeats 1000000 in
theorem cloneH_any {B : Nat} (A : Option Addr) (c : Nat) (xs : List Int) (w : World) (hl : xs.length ≤ 1048576) (ho : Own w B A c xs) :
    Calls Try.prog 65 #[.slice A xs.length c] w fun e w' => ∃ A' c', e = .returned (.slice A' xs.length c') ∧ Own w' w.heap.size A' c' xs ∧ Below w.heap.size w w' := by
  obtain ⟨i0, hi, hz0, hz1, hz2⟩ := info_parts Try.infoInt
  cases A with
  | none =>
    obtain ⟨h0, rfl⟩ := own_none ho
    have e : xs = [] := List.eq_nil_of_length_eq_zero h0
    subst e
    have hnil := fun w => Lib.run_eql_slice_nil (P := Try.prog) w 42 3 none 0 0 0 0 Try.underlying42
    go_enter Try.func65, Try.ntmps65
    go_wp2_with fail
    go_ret
    exact ⟨none, 0, rfl, own_nil _ _, Below.refl _ _⟩
  | some ad =>
    have hm0 := World.ownsRow_made (base := w.heap.size) (e := 3) (size := 1) w #[] 0 (Nat.le_refl _) (by unfold maxLen; omega) rfl
    have hb0 : Below w.heap.size w (w.alloc (.cells #[] 3)) := (Below.refl _ _).alloc (Nat.le_refl _) _
    have hat := own_news ho (.cells #[] 3)
    have hnil := fun w => Lib.run_eql_slice_nil (P := Try.prog) w 42 3 (some ad) xs.length c 0 0 Try.underlying42
    go_enter Try.func65, Try.ntmps65
    go_wp2_with (at_builtin; refine wpList_append_own _ rfl _ _ 42 rfl w.heap.size 3 i0 (.int .i64 0) 1 8 Try.underlying42 hi hz0 hz1 hz2 rfl (by decide) _ 0 [] rfl hm0 ad xs.length c (IL xs) rfl (by simp [IL]) hat (IL_oneC xs) (by unfold maxLen; omega) (by omega) (by simp) ?_)
    intro v' w1 hown' hgrow _
    have hb1 : Below w.heap.size w w1 := hb0.grown hgrow (by simp) (fun q hq => (hm0.lt q hq).1)
    obtain ⟨A', c', rfl, ho'⟩ := own_form hown' rfl
    clear hown' hgrow
    go_wp2_with fail
    go_ret
    exact ⟨A', c', rfl, ho', hb1⟩

theorem one_there {w : World} {g : Nat} {x : Value} (h : w.cell? ⟨g, 0, none⟩ = some x) : ∀ ad, some (⟨g, 0, none⟩ : Addr) = some ad → ∀ j u, [x][j]? = some u → w.cell? (ad.add j) = some u := by
  intro ad e j u hu
  cases e
  match j, hu with
  | 0, hu => simp at hu; subst hu; exact h
set_option maxRecDepth 100000 in
set_option maxHeartbeats 4000000 in
theorem with_any {B : Nat} (A : Option Addr) (c : Nat) (a b x : Int) (xs : List Int) (w : World) (hl : xs.length ≤ 1000) (ho : Own w B A c xs) :
    Calls Try.prog 45 #[.agg #[.slice A xs.length c, .int .i64 a, .int .i64 b], .int .i64 x] w fun e w' => ∃ A' c', e = .returned (.agg #[.slice A' (xs.length + 1) c', .int .i64 a, .int .i64 b]) ∧ Own w' w.heap.size A' c' (xs ++ [x]) ∧ Below w.heap.size w w' := by
  obtain ⟨i0, hi, hz0, hz1, hz2⟩ := info_parts Try.infoInt
  have X := hid (Box3.new w 44 (.slice A xs.length c) (.int .i64 a) (.int .i64 b))
  have b1 : Below w.heap.size w (w.alloc (.cells #[.slice A xs.length c, .int .i64 a, .int .i64 b] 44)) := (Below.refl _ _).alloc (Nat.le_refl _) _
  obtain ⟨w1, hw1⟩ : ∃ w1, w1 = w.alloc (.cells #[.slice A xs.length c, .int .i64 a, .int .i64 b] 44) := ⟨_, rfl⟩
  have H1E := hid (show w1.heap.size = w.heap.size + 1 by rw [hw1]; simp)
  have hs1 : w.heap.size < w1.heap.size := by rw [hw1]; simp
  have HW := hid hw1
  rw [← hw1] at b1 X
  clear hw1
  have Y := hid (Box3.new w1 44 (.slice none 0 0) (.int .i64 0) (.int .i64 0))
  have X2 := hid (X.out.alloc (.cells #[.slice none 0 0, .int .i64 0, .int .i64 0] 44))
  have b2 := b1.alloc b1.size (.cells #[.slice none 0 0, .int .i64 0, .int .i64 0] 44)
  have O2 := hid (ho.below b2)
  have x0 := X2.out.cell0
  have x1 := X2.out.cell1
  have x2 := X2.out.cell2
  obtain ⟨q, hq⟩ : ∃ q, q = xs ++ [x] := ⟨_, rfl⟩
  have HQL := hid (show q.length = xs.length + 1 by rw [hq]; simp)
  have HIQ := hid (show q = xs ++ [x] from hq)
  rw [← hq]
  clear hq
  go_enter Try.func45, Try.ntmps45
  go_upto_region 1 with fail
  rw [← HW.out]
  clear x0 x1 x2
  obtain ⟨w2, hw2⟩ : ∃ w2, w2 = w1.alloc (.cells #[.slice none 0 0, .int .i64 0, .int .i64 0] 44) := ⟨_, rfl⟩
  have h12 : w1.heap.size < w2.heap.size := by rw [hw2]; simp
  rw [← hw2] at X2 Y b2 O2 ⊢
  rw [H1E.out] at Y
  have h22 : w.heap.size + 1 < w2.heap.size := by have := H1E.out; omega
  clear hw2 h12
  have XD : Hid (Box3 w2.drew w.heap.size 44 (.slice A xs.length c) (.int .i64 a) (.int .i64 b)) := X2
  have YD : Hid (Box3 w2.drew (w.heap.size + 1) 44 (.slice none 0 0) (.int .i64 0) (.int .i64 0)) := Y
  have OD : Hid (Own w2.drew B A c xs) := O2
  have bd : Below w.heap.size w w2.drew := below_drewN b2 1
  have hsd : w2.drew.heap.size = w2.heap.size := rfl
  have HSD := hid hsd
  have XS := hid (X2.out.alloc (.cells #[.int .i64 x] 3))
  have ODS := hid (OD.out.below ((Below.refl w2.drew.heap.size w2.drew).alloc (Nat.le_refl _) (.cells #[.int .i64 x] 3)))
  have k0 := XD.out.cell0
  have k1 := XD.out.cell1
  have k2 := XD.out.cell2
  have s0 := XS.out.cell0
  have s1 := XS.out.cell1
  have s2 := XS.out.cell2
  have HCL := hid fun W (h : Own W B A c xs) => cloneH_any A c xs W (by omega) h
  have eg : ∀ args w, (callFunc 65 args).run Try.prog w = .ok (.enter 65 args) w := enters_of Try.func65 (by kernel_rfl) rfl
  have EG := hid eg
  clear eg hsd
  go_region_law (first | (refine step_call _ rfl 65 #[.slice A xs.length c] (exec_call1 _ _ (.tmp 6) 42 rfl _ (by simp [Act.eval]) (EG.out _ _)) (fun v w' => ∃ A3 c3, v = .slice A3 xs.length c3 ∧ Own w' w2.drew.heap.size A3 c3 xs ∧ Below w2.drew.heap.size w2.drew w') ((HCL.out _ OD.out).mono (by rintro e w' ⟨A3, c3, rfl, o3, b3⟩; exact ⟨_, rfl, A3, c3, rfl, o3, b3⟩)) ?_; rintro _ w3 ⟨A3, c3, rfl, o3, b3⟩; have O3 := hid o3; have B3 := hid b3; have hs3 := B3.out.size; have hs3e : w2.heap.size ≤ w3.heap.size := hs3; have X3 := XD.out.next B3.out; have z1 := X3.cell1; have z2 := X3.cell2; have X3s := X3.alloc (.cells #[.int .i64 x] 3); have zs1 := X3s.cell1; have zs2 := X3s.cell2; clear o3 b3) | (refine step_call _ rfl 65 #[.slice A xs.length c] (exec_call1 _ _ (.tmp 6) 42 rfl _ (by simp [Act.eval]) (EG.out _ _)) (fun v w' => ∃ A3 c3, v = .slice A3 xs.length c3 ∧ Own w' w2.drew.heap.size A3 c3 xs ∧ Below (w2.drew.alloc (.cells #[.int .i64 x] 3)).heap.size (w2.drew.alloc (.cells #[.int .i64 x] 3)) w') ((HCL.out _ ODS.out).mono (by rintro e w' ⟨A3, c3, rfl, o3, b3⟩; exact ⟨_, rfl, A3, c3, rfl, o3.more (by simp), b3⟩)) ?_; rintro _ w3 ⟨A3, c3, rfl, o3, b3⟩; have O3 := hid o3; have B3 := hid (Below.next ((Below.refl w2.drew.heap.size w2.drew).alloc (Nat.le_refl _) (.cells #[.int .i64 x] 3)) b3); have hs3 := B3.out.size; have hs3e : w2.heap.size ≤ w3.heap.size := hs3; have X3 := XD.out.next B3.out; have z1 := X3.cell1; have z2 := X3.cell2; have SC := hid ((b3.cell (p := ⟨w2.drew.heap.size, 0, none⟩) (by simp)).trans (one_at (w := w2.drew) (t := 3) 0 (.int .i64 x) rfl)); clear o3 b3) | (refine step_append_opt _ rfl (.tmp 7) (.tmp 9) 42 rfl w2.drew.heap.size 3 i0 (.int .i64 0) 1 8 Try.underlying42 hi hz0 hz1 hz2 rfl (by decide) (.slice A3 xs.length c3) xs.length (IL xs) (by simp [Act.eval]) (O3.out.alloc _) (some ⟨w3.heap.size, 0, none⟩) 1 1 [.int .i64 x] (by simp [Act.eval]) rfl (fun e => by cases e) (fun ad e => by cases e; exact one_at) (one_cell _) (by unfold maxLen; omega) (by omega) (by simp; omega) ?_; intro v5 w5 ho5 hg5; have b5 : Below w2.drew.heap.size w2.drew w5 := (B3.out.alloc B3.out.size _).grown hg5 (by simp; omega) (fun q hq => (O3.out.lt q hq).1); have hown5 := own_snoc HIQ.out ho5; obtain ⟨A5, c5, hv5, o5⟩ := own_form hown5 rfl; subst hv5; have O5 := hid o5; have B5 := hid b5; have X5 := XD.out.next b5; have t1 := X5.cell1; have t2 := X5.cell2; have y5 := YD.out.next b5; have f0 := y5.froz 0; have g0 := y5.cell0; have y6 := y5.set0 (.slice A5 q.length c5); have f1 := y6.froz 1; have g1 := y6.cell1; have y7 := y6.set1 (.int .i64 a); have f2 := y7.froz 2; have g2 := y7.cell2; have y8 := y7.set2 (.int .i64 b); clear ho5 hg5 hown5 o5 b5) | (refine step_append_opt _ rfl (.tmp 7) (.tmp 9) 42 rfl w2.drew.heap.size 3 i0 (.int .i64 0) 1 8 Try.underlying42 hi hz0 hz1 hz2 rfl (by decide) (.slice A3 xs.length c3) xs.length (IL xs) (by simp [Act.eval]) O3.out (some ⟨w2.drew.heap.size, 0, none⟩) 1 1 [.int .i64 x] (by simp [Act.eval]) rfl (fun e => by cases e) (one_there SC.out) (one_cell _) (by unfold maxLen; omega) (by omega) (by simp; omega) ?_; intro v5 w5 ho5 hg5; have b5 : Below w2.drew.heap.size w2.drew w5 := B3.out.grown hg5 (by omega) (fun q hq => (O3.out.lt q hq).1); have hown5 := own_snoc HIQ.out ho5; obtain ⟨A5, c5, hv5, o5⟩ := own_form hown5 rfl; subst hv5; have O5 := hid o5; have B5 := hid b5; have X5 := XD.out.next b5; have t1 := X5.cell1; have t2 := X5.cell2; have y5 := YD.out.next b5; have f0 := y5.froz 0; have g0 := y5.cell0; have y6 := y5.set0 (.slice A5 q.length c5); have f1 := y6.froz 1; have g1 := y6.cell1; have y7 := y6.set1 (.int .i64 a); have f2 := y7.froz 2; have g2 := y7.cell2; have y8 := y7.set2 (.int .i64 b); clear ho5 hg5 hown5 o5 b5))
  all_goals go_wp2_with fail
  all_goals
    have hq1 := O5.out.block
    refine bodyPost_ret (v := .agg #[.slice A5 q.length c5, .int .i64 a, .int .i64 b]) ?_ rfl ⟨A5, c5, by rw [HQL.out], (O5.out.keep fun k hk _ => ?_).more (by have := HSD.out; omega), (((Below.next bd B5.out).setCell (by simp) _).setCell (by simp) _).setCell (by simp) _⟩
    · exact results_cell_row rfl _ _ (w.heap.size + 1) 44 #[.slice A5 q.length c5, .int .i64 a, .int .i64 b] (0, 0) _ rfl y8 Try.underlying44 rfl (by kernel_rfl)
    · have hq2 := (hq1 k hk).1
      have := HSD.out
      exact ((Below.heap_setCell _ _ _ k (by simp; omega)).trans (Below.heap_setCell _ _ _ k (by simp; omega))).trans (Below.heap_setCell _ _ _ k (by simp; omega))
end Go.Proofs.Ytnjhjdidohdkmaa
