/-
  Contract: ParseAbacus of the program (made by hand, with a script's help for the five ways).
-/
import Derived.Test.YtjhcbbafldflaaaDoorPbm
import Derived.Test.YtjhcbbafldflaaaDoorPpt
import Derived.Test.YtjhcbbafldflaaaDoorCB
namespace Go.Proofs.YtjhcbbafldflaaaDoor
open Go.RowKit Go.Shelf

theorem dash_list : (mkB [45]).toList = [45] := by rw [ByteArray.toList_eq]; rfl
theorem cut_lens (l : List UInt8) : (Lib.cut l [58]).1.length ≤ l.length ∧ (Lib.cut l [58]).2.1.length ≤ l.length := by
  unfold Lib.cut
  split
  · refine ⟨?_, ?_⟩
    · show (l.take _).length ≤ _
      rw [List.length_take]; omega
    · show (l.drop _).length ≤ _
      rw [List.length_drop]; omega
  · exact ⟨Nat.le_refl _, by simp⟩

set_option maxRecDepth 100000 in
set_option maxHeartbeats 4000000 in
theorem impl_ParseAbacus (s : ByteArray) (w : World) (_ : s.size ≤ 1048576) (hv : GV w) :
    Calls Tryd.prog 21 #[.string s] w fun e w' => ∃ A' c', e = .returned (.tuple #[.agg #[.int .i64 (paT s), .slice A' (paF s).length c'], .bool (paB s)]) ∧ Own w' w.heap.size A' c' (paF s) ∧ Below w.heap.size w w' := by
  obtain ⟨p1, p2⟩ := pa_impl s
  by_cases hbig : 121 < s.size
  · have hgt : (121 : Int) < (s.size : Int) := by omega
    have e1 : paB s = false := by rw [p1, decide_eq_false (by omega)]; rfl
    have e2 : paF s = [] := by simp [paF, e1]
    have e3 : paT s = 0 := by simp [paT, e1]
    rw [e1, e2, e3]
    clear e1 e2 e3 p1 p2
    have y := Box2.new w 36 (.int .i64 0) (.slice none 0 0)
    go_enter Tryd.func21, Tryd.ntmps21
    go_wp2_with fail
    exact bodyPost_ret (results_cell2 rfl _ _ _ w.heap.size 36 #[.int .i64 0, .slice none 0 0] (0, 0) _ rfl y Tryd.underlying36 rfl (by kernel_rfl)) rfl ⟨none, 0, rfl, own_nil _ _, (Below.refl _ _).alloc (Nat.le_refl _) _⟩
  have hngt : ¬ (121 : Int) < (s.size : Int) := by omega
  rw [decide_eq_true (show s.size ≤ 121 by omega), Bool.true_and] at p1
  obtain ⟨w0, hw0⟩ : ∃ w0, w0 = w.alloc (.cells #[.int .i64 0, .slice none 0 0] 36) := ⟨_, rfl⟩
  have y0 : Box2 w0 w.heap.size 36 (.int .i64 0) (.slice none 0 0) := by rw [hw0]; exact Box2.new _ _ _ _
  have b0 : Below w.heap.size w w0 := by rw [hw0]; exact (Below.refl _ _).alloc (Nat.le_refl _) _
  have HS0 := hid (show w0.heap.size = w.heap.size + 1 by rw [hw0]; simp)
  have HY := hid y0
  have HW := hid hw0
  have hv0 := hv.below b0
  obtain ⟨m, hm⟩ := hv0.max
  have HCU := hid (Tryd.strings_Cut s ⟨#[58]⟩ m w0 (by omega) hm)
  change Hid (Calls Tryd.prog 37 #[.string s, .string ⟨#[58]⟩] w0 fun e w' => e = .returned (.tuple #[.string (mkB (cuA s)), .string (mkB (cuB s)), .bool (Lib.cut (strL s) [58]).2.2]) ∧ ∃ n, w' = w0.drewN n) at HCU
  obtain ⟨l1, l2⟩ := cut_lens (strL s)
  rw [strL_len] at l1 l2
  have hA1 : (cuA s).length ≤ 1048576 := by show (Lib.cut (strL s) [58]).1.length ≤ _; omega
  have hB1 : (mkB (cuB s)).size ≤ 1000000 := by
    have e : (mkB (cuB s)).size = (cuB s).length := by simp [mkB, ByteArray.size]
    have : (cuB s).length ≤ s.size := l2
    omega
  have HSN := hid fun W (h : GV W) => splitNumbers_any 44 (mkB (cuB s)) W hB1 h
  change Hid (∀ W (h : GV W), Calls Tryd.prog 29 #[.string (mkB (cuB s)), .string ⟨#[44]⟩] W fun e w' => ∃ A' c', e = .returned (.tuple #[.slice A' (snX s).length c', .bool (snB 44 (mkB (cuB s)))]) ∧ Own w' W.heap.size A' c' (snX s) ∧ Below W.heap.size W w') at HSN
  have hxl : (snX s).length ≤ 1048576 := by
    unfold snX
    split
    · have := (spW_lens 44 (strL (mkB (cuB s)))).1
      rw [strL_len] at this
      unfold snV; rw [List.length_map]; omega
    · simp
  generalize (Lib.cut (strL s) [58]).2.2 = found at HCU
  clear hw0 y0 hm l1 l2 hB1 hbig
  cases hok : okW (cuA s)
  · clear hxl
    have e1 : paB s = false := by rw [p1, hok]; rfl
    have e2 : paF s = [] := by simp [paF, e1]
    have e3 : paT s = 0 := by simp [paT, e1]
    rw [e1, e2, e3]
    clear e1 e2 e3 p1 p2
    go_enter Tryd.func21, Tryd.ntmps21
    go_wp2_with fail
    rw [← HW.out]
    refine HCU.out.mono ?_
    rintro e w1 ⟨rfl, n1, rfl⟩
    have B1 := Below.next b0 (below_drew' w0 n1)
    have y1 := HY.out.next (below_drew' w0 n1)
    have hv1 := hv0.below (below_drew' w0 n1)
    go_wp2_with fail
    refine (atoi_no _ _ hA1 hv1 hok).mono ?_
    rintro e w2 ⟨⟨an, te, pe, rfl⟩, b2⟩
    have B2 := Below.next B1 b2
    have y2 := y1.next b2
    have hv2 := hv1.below b2
    go_wp2_with fail
    refine (HSN.out w2 hv2).mono ?_
    rintro e w3 ⟨A3, c3, rfl, o3, b3⟩
    have B3 := Below.next B2 b3
    have y3 := y2.next b3
    have f1 := y3.cell0
    have f2 := y3.froz 0
    have y4 := y3.set0 (.int .i64 0)
    have f3 := y4.cell1
    have f4 := y4.froz 1
    have y5 := y4.set1 (.slice none 0 0)
    clear y1 y2 y3 y4 hv1 hv2
    go_wp2_with fail
    exact bodyPost_ret (results_cell2 rfl _ _ _ w.heap.size 36 #[.int .i64 0, .slice none 0 0] (0, 0) _ rfl y5 Tryd.underlying36 rfl (by kernel_rfl)) rfl ⟨none, 0, rfl, own_nil _ _, (B3.setCell (Nat.le_refl _) _).setCell (Nat.le_refl _) _⟩
  rw [hok, Bool.true_and] at p1
  by_cases hrest : snB 44 (mkB (cuB s)) = false ∧ cuB s ≠ [45]
  · have hne : ((mkB (cuB s)).toList == [45]) = false := by
      have h := bytes_ne (a := mkB (cuB s)) (b := mkB [45]) (fun e => hrest.2 (by have := congrArg strL e; rwa [str_mkB, str_mkB] at this))
      rw [dash_list] at h; exact h
    have e1 : paB s = false := by rw [p1, hrest.1, decide_eq_false hrest.2]; rfl
    have e2 : paF s = [] := by simp [paF, e1]
    have e3 : paT s = 0 := by simp [paT, e1]
    rw [e1, e2, e3]
    clear e1 e2 e3 p1 p2
    rw [hrest.1] at HSN
    clear hxl hrest
    go_enter Tryd.func21, Tryd.ntmps21
    go_wp2_with fail
    rw [← HW.out]
    refine HCU.out.mono ?_
    rintro e w1 ⟨rfl, n1, rfl⟩
    have B1 := Below.next b0 (below_drew' w0 n1)
    have y1 := HY.out.next (below_drew' w0 n1)
    have hv1 := hv0.below (below_drew' w0 n1)
    go_wp2_with fail
    refine (atoi_yes _ _ hA1 hok).mono ?_
    rintro e w2 ⟨rfl, b2⟩
    have B2 := Below.next B1 b2
    have y2 := y1.next b2
    have hv2 := hv1.below b2
    go_wp2_with fail
    refine (HSN.out w2 hv2).mono ?_
    rintro e w3 ⟨A3, c3, rfl, o3, b3⟩
    have B3 := Below.next B2 b3
    have y3 := y2.next b3
    have f1 := y3.cell0
    have f2 := y3.froz 0
    have y4 := y3.set0 (.int .i64 0)
    have f3 := y4.cell1
    have f4 := y4.froz 1
    have y5 := y4.set1 (.slice none 0 0)
    clear y1 y2 y3 y4 hv1 hv2
    go_wp2_with fail
    exact bodyPost_ret (results_cell2 rfl _ _ _ w.heap.size 36 #[.int .i64 0, .slice none 0 0] (0, 0) _ rfl y5 Tryd.underlying36 rfl (by kernel_rfl)) rfl ⟨none, 0, rfl, own_nil _ _, (B3.setCell (Nat.le_refl _) _).setCell (Nat.le_refl _) _⟩
  have hq : (snB 44 (mkB (cuB s)) || decide (cuB s = [45])) = true := by
    cases hsb : snB 44 (mkB (cuB s))
    · by_cases h2 : cuB s = [45]
      · simp [h2]
      · exact absurd ⟨hsb, h2⟩ hrest
    · rfl
  rw [hq, Bool.true_and] at p1
  have HRS := hid (show snB 44 (mkB (cuB s)) = false → ((mkB (cuB s)).toList == [45]) = true from fun h => by
    have h2 : cuB s = [45] := Classical.byContradiction fun h2 => hrest ⟨h, h2⟩
    rw [h2, dash_list]; rfl)
  obtain ⟨sb, hsb⟩ : ∃ sb, sb = snB 44 (mkB (cuB s)) := ⟨_, rfl⟩
  rw [← hsb] at HSN HRS
  clear hrest hq hsb
  have HT := hid fun A1 c1 W (h : Cells W A1 (snX s)) => impl_AbacusText (vW (cuA s)) A1 c1 (snX s) W hxl h
  obtain ⟨xs, hxs⟩ : ∃ xs, xs = snX s := ⟨_, rfl⟩
  obtain ⟨r, hr⟩ : ∃ r, r = vW (cuA s) := ⟨_, rfl⟩
  rw [← hxs] at HSN HT p1 p2
  rw [← hr] at HT p1 p2
  have HAT := hid fun W => atoi_yes (cuA s) W hA1 hok
  rw [← hr] at HAT
  clear hxl hxs hr hok
  cases hab : isAba r xs
  · rw [hab] at HT p1
    have e1 : paB s = false := by rw [p1]; rfl
    have e2 : paF s = [] := by simp [paF, e1]
    have e3 : paT s = 0 := by simp [paT, e1]
    rw [e1, e2, e3]
    clear e1 e2 e3 p1 p2
    clear hab
    cases sb
    · have hd := HRS.out rfl
      go_enter Tryd.func21, Tryd.ntmps21
      go_wp2_with fail
      rw [← HW.out]
      refine HCU.out.mono ?_
      rintro e w1 ⟨rfl, n1, rfl⟩
      have B1 := Below.next b0 (below_drew' w0 n1)
      have y1 := HY.out.next (below_drew' w0 n1)
      have hv1 := hv0.below (below_drew' w0 n1)
      go_wp2_with fail
      refine (HAT.out _).mono ?_
      rintro e w2 ⟨rfl, b2⟩
      have B2 := Below.next B1 b2
      have y2 := y1.next b2
      have hv2 := hv1.below b2
      go_wp2_with fail
      refine (HSN.out w2 hv2).mono ?_
      rintro e w3 ⟨A3, c3, rfl, o3, b3⟩
      have B3 := Below.next B2 b3
      have y3 := y2.next b3
      have hsz3 := B3.size
      have y4 := y3.alloc (.cells #[.int .i64 r, .slice A3 xs.length c3] 36)
      have z4 := Box2.new w3 36 (.int .i64 r) (.slice A3 xs.length c3)
      have b4 : Below w3.heap.size w3 (w3.alloc (.cells #[.int .i64 r, .slice A3 xs.length c3] 36)) := (Below.refl _ _).alloc (Nat.le_refl _) _
      have B4 := Below.next B3 b4
      have g0 := z4.cell0
      have g1 := z4.cell1
      have HTX := hid (HT.out A3 c3 _ (o3.cells.below b4))
      clear y1 y2 y3 hv1 hv2
      go_wp2_with fail
      refine HTX.out.mono ?_
      rintro e w5 ⟨rfl, b5⟩
      have B5 := Below.next B4 b5
      have y6 := y4.next b5
      have z6 := z4.next b5
      clear g0 g1 HTX
      have f1 := y6.cell0
      have f2 := y6.froz 0
      have y7 := y6.set0 (.int .i64 0)
      have f3 := y7.cell1
      have f4 := y7.froz 1
      have y8 := y7.set1 (.slice none 0 0)
      clear y4 z4 y6 y7
      go_wp2_with fail
      exact bodyPost_ret (results_cell2 rfl _ _ _ w.heap.size 36 #[.int .i64 0, .slice none 0 0] (0, 0) _ rfl y8 Tryd.underlying36 rfl (by kernel_rfl)) rfl ⟨none, 0, rfl, own_nil _ _, (B5.setCell (Nat.le_refl _) _).setCell (Nat.le_refl _) _⟩
    · go_enter Tryd.func21, Tryd.ntmps21
      go_wp2_with fail
      rw [← HW.out]
      refine HCU.out.mono ?_
      rintro e w1 ⟨rfl, n1, rfl⟩
      have B1 := Below.next b0 (below_drew' w0 n1)
      have y1 := HY.out.next (below_drew' w0 n1)
      have hv1 := hv0.below (below_drew' w0 n1)
      go_wp2_with fail
      refine (HAT.out _).mono ?_
      rintro e w2 ⟨rfl, b2⟩
      have B2 := Below.next B1 b2
      have y2 := y1.next b2
      have hv2 := hv1.below b2
      go_wp2_with fail
      refine (HSN.out w2 hv2).mono ?_
      rintro e w3 ⟨A3, c3, rfl, o3, b3⟩
      have B3 := Below.next B2 b3
      have y3 := y2.next b3
      have hsz3 := B3.size
      have y4 := y3.alloc (.cells #[.int .i64 r, .slice A3 xs.length c3] 36)
      have z4 := Box2.new w3 36 (.int .i64 r) (.slice A3 xs.length c3)
      have b4 : Below w3.heap.size w3 (w3.alloc (.cells #[.int .i64 r, .slice A3 xs.length c3] 36)) := (Below.refl _ _).alloc (Nat.le_refl _) _
      have B4 := Below.next B3 b4
      have g0 := z4.cell0
      have g1 := z4.cell1
      have HTX := hid (HT.out A3 c3 _ (o3.cells.below b4))
      clear y1 y2 y3 hv1 hv2
      go_wp2_with fail
      refine HTX.out.mono ?_
      rintro e w5 ⟨rfl, b5⟩
      have B5 := Below.next B4 b5
      have y6 := y4.next b5
      have z6 := z4.next b5
      clear g0 g1 HTX
      have f1 := y6.cell0
      have f2 := y6.froz 0
      have y7 := y6.set0 (.int .i64 0)
      have f3 := y7.cell1
      have f4 := y7.froz 1
      have y8 := y7.set1 (.slice none 0 0)
      clear y4 z4 y6 y7
      go_wp2_with fail
      exact bodyPost_ret (results_cell2 rfl _ _ _ w.heap.size 36 #[.int .i64 0, .slice none 0 0] (0, 0) _ rfl y8 Tryd.underlying36 rfl (by kernel_rfl)) rfl ⟨none, 0, rfl, own_nil _ _, (B5.setCell (Nat.le_refl _) _).setCell (Nat.le_refl _) _⟩
  rw [hab] at HT p1
  rw [show abtF r xs = abT r xs by simp [abtF, hab]] at HT
  rw [Bool.true_and] at p1
  obtain ⟨tx, htx⟩ : ∃ tx, tx = abT r xs := ⟨_, rfl⟩
  rw [← htx] at HT p1
  clear hab htx
  by_cases heq : tx = s
  · have e1 : paB s = true := by rw [p1]; exact decide_eq_true heq
    obtain ⟨e2, e3⟩ := p2 e1
    rw [e1, e2, e3]
    have hbe := bytes_eq heq
    clear e1 e2 e3 p1 p2 heq
    cases sb
    · have hd := HRS.out rfl
      go_enter Tryd.func21, Tryd.ntmps21
      go_wp2_with fail
      rw [← HW.out]
      refine HCU.out.mono ?_
      rintro e w1 ⟨rfl, n1, rfl⟩
      have B1 := Below.next b0 (below_drew' w0 n1)
      have y1 := HY.out.next (below_drew' w0 n1)
      have hv1 := hv0.below (below_drew' w0 n1)
      go_wp2_with fail
      refine (HAT.out _).mono ?_
      rintro e w2 ⟨rfl, b2⟩
      have B2 := Below.next B1 b2
      have y2 := y1.next b2
      have hv2 := hv1.below b2
      go_wp2_with fail
      refine (HSN.out w2 hv2).mono ?_
      rintro e w3 ⟨A3, c3, rfl, o3, b3⟩
      have B3 := Below.next B2 b3
      have y3 := y2.next b3
      have hsz3 := B3.size
      have y4 := y3.alloc (.cells #[.int .i64 r, .slice A3 xs.length c3] 36)
      have z4 := Box2.new w3 36 (.int .i64 r) (.slice A3 xs.length c3)
      have b4 : Below w3.heap.size w3 (w3.alloc (.cells #[.int .i64 r, .slice A3 xs.length c3] 36)) := (Below.refl _ _).alloc (Nat.le_refl _) _
      have B4 := Below.next B3 b4
      have g0 := z4.cell0
      have g1 := z4.cell1
      have HTX := hid (HT.out A3 c3 _ (o3.cells.below b4))
      clear y1 y2 y3 hv1 hv2
      go_wp2_with fail
      refine HTX.out.mono ?_
      rintro e w5 ⟨rfl, b5⟩
      have B5 := Below.next B4 b5
      have y6 := y4.next b5
      have z6 := z4.next b5
      clear g0 g1 HTX
      have f1 := y6.cell0
      have f2 := y6.froz 0
      have k0 := z6.cell0
      have k1 := z6.cell1
      have y7 := y6.set0 (.int .i64 r)
      have f3 := y7.cell1
      have f4 := y7.froz 1
      have hne : w3.heap.size ≠ w.heap.size := by have := HS0.out; have := b2.size; have := b3.size; have h1 := (below_drew' w0 n1).size; omega
      have k2 := (z6.other (g' := w.heap.size) (k := 0) hne (.int .i64 r)).cell1
      have y8 := y7.set1 (.slice A3 xs.length c3)
      have hok5 := (o3.below b4).below b5
      have hbk := o3.block
      clear y4 z4 y6 y7 z6
      go_wp2_with fail
      refine bodyPost_ret (results_cell2 rfl _ _ _ w.heap.size 36 #[.int .i64 r, .slice A3 xs.length c3] (0, 0) _ rfl y8 Tryd.underlying36 rfl (by kernel_rfl)) rfl ⟨A3, c3, rfl, (hok5.keep fun b hb _ => ?_).more B2.size, (B5.setCell (Nat.le_refl _) _).setCell (Nat.le_refl _) _⟩
      have h1 := (hbk b hb).1
      have h2 : w.heap.size < b := by have := HS0.out; have := b2.size; have h3 := (below_drew' w0 n1).size; omega
      exact (Below.heap_setCell _ _ _ b (by simp; omega)).trans (Below.heap_setCell _ _ _ b (by simp; omega))
    · go_enter Tryd.func21, Tryd.ntmps21
      go_wp2_with fail
      rw [← HW.out]
      refine HCU.out.mono ?_
      rintro e w1 ⟨rfl, n1, rfl⟩
      have B1 := Below.next b0 (below_drew' w0 n1)
      have y1 := HY.out.next (below_drew' w0 n1)
      have hv1 := hv0.below (below_drew' w0 n1)
      go_wp2_with fail
      refine (HAT.out _).mono ?_
      rintro e w2 ⟨rfl, b2⟩
      have B2 := Below.next B1 b2
      have y2 := y1.next b2
      have hv2 := hv1.below b2
      go_wp2_with fail
      refine (HSN.out w2 hv2).mono ?_
      rintro e w3 ⟨A3, c3, rfl, o3, b3⟩
      have B3 := Below.next B2 b3
      have y3 := y2.next b3
      have hsz3 := B3.size
      have y4 := y3.alloc (.cells #[.int .i64 r, .slice A3 xs.length c3] 36)
      have z4 := Box2.new w3 36 (.int .i64 r) (.slice A3 xs.length c3)
      have b4 : Below w3.heap.size w3 (w3.alloc (.cells #[.int .i64 r, .slice A3 xs.length c3] 36)) := (Below.refl _ _).alloc (Nat.le_refl _) _
      have B4 := Below.next B3 b4
      have g0 := z4.cell0
      have g1 := z4.cell1
      have HTX := hid (HT.out A3 c3 _ (o3.cells.below b4))
      clear y1 y2 y3 hv1 hv2
      go_wp2_with fail
      refine HTX.out.mono ?_
      rintro e w5 ⟨rfl, b5⟩
      have B5 := Below.next B4 b5
      have y6 := y4.next b5
      have z6 := z4.next b5
      clear g0 g1 HTX
      have f1 := y6.cell0
      have f2 := y6.froz 0
      have k0 := z6.cell0
      have k1 := z6.cell1
      have y7 := y6.set0 (.int .i64 r)
      have f3 := y7.cell1
      have f4 := y7.froz 1
      have hne : w3.heap.size ≠ w.heap.size := by have := HS0.out; have := b2.size; have := b3.size; have h1 := (below_drew' w0 n1).size; omega
      have k2 := (z6.other (g' := w.heap.size) (k := 0) hne (.int .i64 r)).cell1
      have y8 := y7.set1 (.slice A3 xs.length c3)
      have hok5 := (o3.below b4).below b5
      have hbk := o3.block
      clear y4 z4 y6 y7 z6
      go_wp2_with fail
      refine bodyPost_ret (results_cell2 rfl _ _ _ w.heap.size 36 #[.int .i64 r, .slice A3 xs.length c3] (0, 0) _ rfl y8 Tryd.underlying36 rfl (by kernel_rfl)) rfl ⟨A3, c3, rfl, (hok5.keep fun b hb _ => ?_).more B2.size, (B5.setCell (Nat.le_refl _) _).setCell (Nat.le_refl _) _⟩
      have h1 := (hbk b hb).1
      have h2 : w.heap.size < b := by have := HS0.out; have := b2.size; have h3 := (below_drew' w0 n1).size; omega
      exact (Below.heap_setCell _ _ _ b (by simp; omega)).trans (Below.heap_setCell _ _ _ b (by simp; omega))
  · have hbe := bytes_ne heq
    have e1 : paB s = false := by rw [p1]; exact decide_eq_false heq
    have e2 : paF s = [] := by simp [paF, e1]
    have e3 : paT s = 0 := by simp [paT, e1]
    rw [e1, e2, e3]
    clear e1 e2 e3 p1 p2
    clear heq
    cases sb
    · have hd := HRS.out rfl
      go_enter Tryd.func21, Tryd.ntmps21
      go_wp2_with fail
      rw [← HW.out]
      refine HCU.out.mono ?_
      rintro e w1 ⟨rfl, n1, rfl⟩
      have B1 := Below.next b0 (below_drew' w0 n1)
      have y1 := HY.out.next (below_drew' w0 n1)
      have hv1 := hv0.below (below_drew' w0 n1)
      go_wp2_with fail
      refine (HAT.out _).mono ?_
      rintro e w2 ⟨rfl, b2⟩
      have B2 := Below.next B1 b2
      have y2 := y1.next b2
      have hv2 := hv1.below b2
      go_wp2_with fail
      refine (HSN.out w2 hv2).mono ?_
      rintro e w3 ⟨A3, c3, rfl, o3, b3⟩
      have B3 := Below.next B2 b3
      have y3 := y2.next b3
      have hsz3 := B3.size
      have y4 := y3.alloc (.cells #[.int .i64 r, .slice A3 xs.length c3] 36)
      have z4 := Box2.new w3 36 (.int .i64 r) (.slice A3 xs.length c3)
      have b4 : Below w3.heap.size w3 (w3.alloc (.cells #[.int .i64 r, .slice A3 xs.length c3] 36)) := (Below.refl _ _).alloc (Nat.le_refl _) _
      have B4 := Below.next B3 b4
      have g0 := z4.cell0
      have g1 := z4.cell1
      have HTX := hid (HT.out A3 c3 _ (o3.cells.below b4))
      clear y1 y2 y3 hv1 hv2
      go_wp2_with fail
      refine HTX.out.mono ?_
      rintro e w5 ⟨rfl, b5⟩
      have B5 := Below.next B4 b5
      have y6 := y4.next b5
      have z6 := z4.next b5
      clear g0 g1 HTX
      have f1 := y6.cell0
      have f2 := y6.froz 0
      have y7 := y6.set0 (.int .i64 0)
      have f3 := y7.cell1
      have f4 := y7.froz 1
      have y8 := y7.set1 (.slice none 0 0)
      clear y4 z4 y6 y7
      go_wp2_with fail
      exact bodyPost_ret (results_cell2 rfl _ _ _ w.heap.size 36 #[.int .i64 0, .slice none 0 0] (0, 0) _ rfl y8 Tryd.underlying36 rfl (by kernel_rfl)) rfl ⟨none, 0, rfl, own_nil _ _, (B5.setCell (Nat.le_refl _) _).setCell (Nat.le_refl _) _⟩
    · go_enter Tryd.func21, Tryd.ntmps21
      go_wp2_with fail
      rw [← HW.out]
      refine HCU.out.mono ?_
      rintro e w1 ⟨rfl, n1, rfl⟩
      have B1 := Below.next b0 (below_drew' w0 n1)
      have y1 := HY.out.next (below_drew' w0 n1)
      have hv1 := hv0.below (below_drew' w0 n1)
      go_wp2_with fail
      refine (HAT.out _).mono ?_
      rintro e w2 ⟨rfl, b2⟩
      have B2 := Below.next B1 b2
      have y2 := y1.next b2
      have hv2 := hv1.below b2
      go_wp2_with fail
      refine (HSN.out w2 hv2).mono ?_
      rintro e w3 ⟨A3, c3, rfl, o3, b3⟩
      have B3 := Below.next B2 b3
      have y3 := y2.next b3
      have hsz3 := B3.size
      have y4 := y3.alloc (.cells #[.int .i64 r, .slice A3 xs.length c3] 36)
      have z4 := Box2.new w3 36 (.int .i64 r) (.slice A3 xs.length c3)
      have b4 : Below w3.heap.size w3 (w3.alloc (.cells #[.int .i64 r, .slice A3 xs.length c3] 36)) := (Below.refl _ _).alloc (Nat.le_refl _) _
      have B4 := Below.next B3 b4
      have g0 := z4.cell0
      have g1 := z4.cell1
      have HTX := hid (HT.out A3 c3 _ (o3.cells.below b4))
      clear y1 y2 y3 hv1 hv2
      go_wp2_with fail
      refine HTX.out.mono ?_
      rintro e w5 ⟨rfl, b5⟩
      have B5 := Below.next B4 b5
      have y6 := y4.next b5
      have z6 := z4.next b5
      clear g0 g1 HTX
      have f1 := y6.cell0
      have f2 := y6.froz 0
      have y7 := y6.set0 (.int .i64 0)
      have f3 := y7.cell1
      have f4 := y7.froz 1
      have y8 := y7.set1 (.slice none 0 0)
      clear y4 z4 y6 y7
      go_wp2_with fail
      exact bodyPost_ret (results_cell2 rfl _ _ _ w.heap.size 36 #[.int .i64 0, .slice none 0 0] (0, 0) _ rfl y8 Tryd.underlying36 rfl (by kernel_rfl)) rfl ⟨none, 0, rfl, own_nil _ _, (B5.setCell (Nat.le_refl _) _).setCell (Nat.le_refl _) _⟩
end Go.Proofs.YtjhcbbafldflaaaDoor
