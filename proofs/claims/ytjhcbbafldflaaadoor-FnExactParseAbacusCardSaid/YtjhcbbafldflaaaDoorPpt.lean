/-
  Contracts: ParsePart of the program and of the model.
-/
import Derived.Test.YtjhcbbafldflaaaDoorSn
import Derived.Test.YtjhcbbafldflaaaDoorRdw
import Derived.Deep.AppendLies
namespace Go.Proofs.YtjhcbbafldflaaaDoor
open Go.RowKit Go.Shelf

theorem zT_list : zT.toList = [48] := by rw [ByteArray.toList_eq]; rfl
theorem bytes_eq {a b : ByteArray} (h : a = b) : (a.toList == b.toList) = true := by rw [h]; exact beq_self_eq_true _
theorem pp_no {s : ByteArray} (h : ppB s = false) : ppF s = [] := by unfold ppF; split; rfl; rw [h]; rfl
theorem bound_ParsePart (s : ByteArray) : (ppF s).length ≤ 1048576 := by
  unfold ppF
  split
  · simp
  · split
    · rename_i h1 h2
      unfold ppB at h2
      rw [decide_eq_false h1, Bool.false_or, Bool.and_eq_true] at h2
      have := ((good_iff _).1 h2.1).len
      omega
    · simp

set_option maxRecDepth 100000 in
set_option maxHeartbeats 4000000 in
theorem impl_ParsePart (s : ByteArray) (w : World) (_ : s.size ≤ 1048576) (hv : GV w) :
    Calls Tryd.prog 12 #[.string s] w fun e w' => ∃ A' c', e = .returned (.tuple #[.slice A' (ppF s).length c', .bool (ppB s)]) ∧ Own w' w.heap.size A' c' (ppF s) ∧ Below w.heap.size w w' := by
  by_cases hz : s = zT
  · obtain ⟨e1, e2⟩ := pp_zero
    rw [hz, e1, e2]
    unfold zT
    go_enter Tryd.func12, Tryd.ntmps12
    go_wp2_with fail
    go_ret2
    exact ⟨none, 0, rfl, own_nil _ _, Below.refl _ _⟩
  have hne : (s.toList == [48]) = false := by
    have h := bytes_ne hz
    rw [zT_list] at h; exact h
  obtain ⟨p1, p2⟩ := pp_impl hz
  by_cases hbig : 60 ≤ s.size
  · have e1 : ppB s = false := by
      cases h : ppB s
      · rfl
      · have := pp_short h; omega
    have e2 := pp_no e1
    rw [e1, e2]
    have hge : (60 : Int) ≤ (s.size : Int) := by omega
    clear e1 e2 p1 p2
    go_enter Tryd.func12, Tryd.ntmps12
    go_wp2_with fail
    go_ret2
    exact ⟨none, 0, rfl, own_nil _ _, Below.refl _ _⟩
  have hlt : ¬ (60 : Int) ≤ (s.size : Int) := by omega
  have HSN := hid (splitNumbers_any 43 s w (by omega) hv)
  have hlen : (snV 43 s).length ≤ 1048576 := by
    have := (spW_lens 43 (strL s)).1
    rw [strL_len] at this
    unfold snV; rw [List.length_map]; omega
  cases hsn : snB 43 s
  · have e1 : ppB s = false := by rw [p1, hsn]; rfl
    have e2 := pp_no e1
    rw [e1, e2]
    rw [hsn, show snF 43 s = [] by simp [snF, hsn]] at HSN
    clear e1 e2 p1 p2 hsn
    go_enter Tryd.func12, Tryd.ntmps12
    go_wp2_with fail
    refine HSN.out.mono ?_
    rintro e w1 ⟨A1, c1, rfl, o1, b1⟩
    go_wp2_with fail
    go_ret2
    exact ⟨none, 0, rfl, own_nil _ _, b1⟩
  rw [hsn, show snF 43 s = snV 43 s by simp [snF, hsn]] at HSN
  rw [hsn, Bool.true_and] at p1
  obtain ⟨p, hp⟩ : ∃ p, p = snV 43 s := ⟨_, rfl⟩
  rw [← hp] at HSN p1 p2 hlen
  have HPT := hid fun A1 c1 W (h : Cells W A1 p) => impl_PartText A1 c1 p W hlen h
  cases hg : good p
  · have e1 : ppB s = false := by rw [p1, hg]; rfl
    have e2 := pp_no e1
    rw [e1, e2]
    rw [hg] at HPT
    clear e1 e2 p1 p2 hsn hp hg
    go_enter Tryd.func12, Tryd.ntmps12
    go_wp2_with fail
    refine HSN.out.mono ?_
    rintro e w1 ⟨A1, c1, rfl, o1, b1⟩
    go_wp2_with fail
    refine (HPT.out _ _ _ o1.cells).mono ?_
    rintro e w2 ⟨rfl, b2⟩
    go_wp2_with fail
    go_ret2
    exact ⟨none, 0, rfl, own_nil _ _, Below.next b1 b2⟩
  rw [hg, show ptF p = ptT p by simp [ptF, hg]] at HPT
  rw [hg, Bool.true_and] at p1
  obtain ⟨T, hT⟩ : ∃ T, T = ptT p := ⟨_, rfl⟩
  rw [← hT] at HPT p1
  by_cases heq : T = s
  · have e1 : ppB s = true := by rw [p1]; exact decide_eq_true heq
    rw [p2 e1, e1]
    have hbe := bytes_eq heq
    clear e1 p1 p2 hsn hp hg hT heq
    go_enter Tryd.func12, Tryd.ntmps12
    go_wp2_with fail
    refine HSN.out.mono ?_
    rintro e w1 ⟨A1, c1, rfl, o1, b1⟩
    go_wp2_with fail
    refine (HPT.out _ _ _ o1.cells).mono ?_
    rintro e w2 ⟨rfl, b2⟩
    go_wp2_with fail
    go_ret2
    exact ⟨A1, c1, rfl, o1.below b2, Below.next b1 b2⟩
  · have e1 : ppB s = false := by rw [p1]; exact decide_eq_false heq
    have e2 := pp_no e1
    rw [e1, e2]
    have hbe := bytes_ne heq
    clear e1 e2 p1 p2 hsn hp hg hT heq
    go_enter Tryd.func12, Tryd.ntmps12
    go_wp2_with fail
    refine HSN.out.mono ?_
    rintro e w1 ⟨A1, c1, rfl, o1, b1⟩
    go_wp2_with fail
    refine (HPT.out _ _ _ o1.cells).mono ?_
    rintro e w2 ⟨rfl, b2⟩
    go_wp2_with fail
    go_ret2
    exact ⟨none, 0, rfl, own_nil _ _, Below.next b1 b2⟩

theorem pp_spec {s : ByteArray} (hs : s ≠ zT) : ppB s = (good (pmL 43 s) && decide (ptT (pmL 43 s) = s)) ∧ (ppB s = true → ppF s = pmL 43 s) :=
  ⟨by simp [ppB, hs], fun h => by rw [ppF, if_neg hs, if_pos h]⟩

set_option maxRecDepth 100000 in
set_option maxHeartbeats 4000000 in
theorem ptParse_any (s : ByteArray) (w : World) (hs : s.size ≤ 1048576) :
    Calls Tryd.prog 28 #[.string s] w fun e w' => ∃ A' c', e = .returned (.tuple #[.slice A' (ppF s).length c', .bool (ppB s)]) ∧ Own w' w.heap.size A' c' (ppF s) ∧ Below w.heap.size w w' := by
  obtain ⟨i0, hi, hz0, hz1, hz2⟩ := info_parts Tryd.infoInt
  by_cases hz : s = zT
  · obtain ⟨e1, e2⟩ := pp_zero
    rw [hz, e1, e2]
    unfold zT
    go_enter Tryd.func28, Tryd.ntmps28
    go_wp2_with fail
    go_ret2
    exact ⟨none, 0, rfl, own_nil _ _, Below.refl _ _⟩
  have hne : (s.toList == [48]) = false := by
    have h := bytes_ne hz
    rw [zT_list] at h; exact h
  obtain ⟨p1, p2⟩ := pp_spec hz
  have HSP := hid (l1Split_any s 43 43 w hs rfl)
  have hlong := pp_len (s := s)
  obtain ⟨l1, l2⟩ := spW_lens 43 (strL s)
  rw [strL_len] at l1 l2
  have hn0 : 0 < (spW 43 (strL s)).length := List.length_pos_iff.2 (spW_ne 43 _)
  have hpm : pmL 43 s = (spW 43 (strL s)).map rdW := rfl
  obtain ⟨ws, hws⟩ : ∃ ws, ws = spW 43 (strL s) := ⟨_, rfl⟩
  rw [← hws] at HSP hlong l1 l2 hn0 hpm
  obtain ⟨p, hp⟩ : ∃ p, p = pmL 43 s := ⟨_, rfl⟩
  rw [← hp] at p1 p2 hlong hpm
  have hpl : p.length = ws.length := by rw [hpm, List.length_map]
  have HNO := hid (fun h => pp_no (s := s) h)
  have HRD := hid (show ∀ l ∈ ws, ∀ W : World, Calls Tryd.prog 36 #[.string (mkB l)] W fun e w' => e = .returned (.int .i64 (rdW l)) ∧ W = w' from fun l hl W => by
    have := l1Read_any (mkB l) W (by have := l2 l hl; have e : (mkB l).size = l.length := by simp [mkB, ByteArray.size]
                                     omega)
    rw [str_mkB] at this; exact this)
  obtain ⟨F, hF⟩ : ∃ F, F = ppF s := ⟨_, rfl⟩
  obtain ⟨B, hB⟩ : ∃ B, B = ppB s := ⟨_, rfl⟩
  rw [← hF, ← hB] at HNO p2
  rw [← hB] at p1
  rw [← hF, ← hB]
  have HP1 := hid p1
  have HP2 := hid p2
  have HLO := hid hlong
  have HPM := hid hpm
  have HPL := hid hpl
  clear hws hp hF hB p1 p2 hlong hpm hpl l2 hz
  go_enter Tryd.func28, Tryd.ntmps28
  go_wp2_with fail
  refine HSP.out.mono ?_
  rintro e w1 ⟨v, rfl, hrow, b1⟩
  obtain ⟨g, cap, rfl, hg1, hg2⟩ := World.ownsRow.form hrow hn0
  have HC := hid (show ∀ k, k < ws.length → w1.cell? ⟨g, k, none⟩ = some (.string (mkB (ws.getD k []))) from fun k hk => by
    rw [World.ownsRow.cellAt hrow k (by omega)]; exact wcL_get ws k hk)
  have hs1 := b1.size
  clear hrow
  go_wp2_with fail
  go_loopw [4, 12] (fun v i wr => ∃ k : Nat, k ≤ ws.length ∧ k ≤ 30 ∧ i = .int .i64 k ∧ (∃ A c, v = .slice A k c ∧ Hid (wr.ownsRow w1.heap.size 3 1 (.slice A k c) k (IL ((ws.take k).map rdW)))) ∧ Below w1.heap.size w1 wr) (fun _ i _ => ws.length - (intOf i).toNat)
  case atStart => exact ⟨0, Nat.zero_le _, by omega, rfl, ⟨none, 0, rfl, hid (World.ownsRow_nil _ _ _ _)⟩, Below.refl _ _⟩
  case round =>
    obtain ⟨k, hk, hk30, rfl, ⟨A, c, rfl, HOW⟩, hbel⟩ := hrel
    have hszr := hbel.size
    by_cases hlt : k < ws.length
    · have hck := (hbel.cell (World.block_lt_of_cell? w1 _ (HC.out k hlt))).trans (HC.out k hlt)
      have hmem : ws.getD k [] ∈ ws := by rw [List.getD_eq_getElem?_getD, List.getElem?_eq_getElem hlt]; exact List.getElem_mem hlt
      by_cases h30 : k = 30
      · have hBf : B = false := by rw [HP1.out, HLO.out (by omega)]; rfl
        have hFf := HNO.out hBf
        subst hBf
        subst hFf
        subst h30
        clear hmem
        go_wp2_with fail
        go_ret2
        exact ⟨none, 0, rfl, own_nil _ _, Below.next b1 hbel⟩
      · have htk : ws.take (k + 1) = ws.take k ++ [ws.getD k []] := by
          rw [List.take_succ_eq_append_getElem hlt]; congr 2; simp [List.getD, hlt]
        have HR := hid (HRD.out _ hmem wr)
        obtain ⟨l, hl⟩ : ∃ l, l = ws.getD k [] := ⟨_, rfl⟩
        rw [← hl] at hck htk HR
        have HS := hid (show (ws.take (k + 1)).map rdW = (ws.take k).map rdW ++ [rdW l] by rw [htk, List.map_append]; rfl)
        obtain ⟨y, hy⟩ : ∃ y, y = rdW l := ⟨_, rfl⟩
        rw [← hy] at HR HS
        have hkk : ¬ (k : Int) = 30 := by omega
        clear hl htk hmem hy
        go_wp2_with fail
        refine HR.out.mono ?_
        rintro e w2 ⟨rfl, rfl⟩
        go_wp2_with (at_builtin; refine wpList_append_own _ rfl _ _ 22 rfl w1.heap.size 3 i0 (.int .i64 0) 1 8 Tryd.underlying22 hi hz0 hz1 hz2 rfl (by decide) _ _ _ rfl (HOW.out.alloc _) ⟨wr.heap.size, 0, none⟩ 1 1 [.int .i64 y] rfl rfl one_at (one_cell _) (by unfold maxLen; omega) (by omega) (by simp; omega) ?_)
        intro v' w4 hown' hgrow _
        have hb1 : Below w1.heap.size w1 w4 := (hbel.alloc hszr _).grown hgrow (by simp; omega) (fun q hq => (HOW.out.lt q hq).1)
        have hown2 : w4.ownsRow w1.heap.size 3 1 v' (k + 1) (IL ((ws.take (k + 1)).map rdW)) := by rw [HS.out]; simpa [IL] using hown'
        obtain ⟨g2, cap2, rfl, _, _⟩ := World.ownsRow.form hown2 (Nat.succ_pos k)
        have HO2 := hid hown2
        clear hgrow hown' hown2
        go_wp2_with fail
        go_roundw
        case rel => exact ⟨k + 1, by omega, by omega, by go_num, ⟨_, _, rfl, HO2⟩, hb1⟩
        case measure => simp [intOf]; omega
    · have hkn : k = ws.length := by omega
      have hown := HOW.out
      rw [hkn, List.take_of_length_le (Nat.le_refl _), ← HPM.out, ← HPL.out] at hown
      obtain ⟨A', c', he, ho'⟩ := own_form hown rfl
      obtain ⟨rfl, rfl⟩ : A = A' ∧ c = c' := by
        simp only [Value.slice.injEq] at he; exact ⟨he.1, he.2.2⟩
      have hb2 := Below.next b1 hbel
      have HO := hid ho'
      have hkp : k = p.length := by rw [HPL.out]; exact hkn
      subst hkp
      clear hown he ho' HOW hkn
      have HPG := hid (ptGood_any A p c wr (by omega) HO.out.cells)
      obtain ⟨gb, hgb⟩ : ∃ gb, gb = good p := ⟨_, rfl⟩
      rw [← hgb] at HPG HP1
      cases gb
      · have hBf : B = false := by rw [HP1.out]; rfl
        have hFf := HNO.out hBf
        subst hBf
        subst hFf
        clear hgb
        go_wp2_with fail
        refine HPG.out.mono ?_
        rintro e w2 ⟨rfl, n, rfl⟩
        go_wp2_with fail
        go_ret2
        exact ⟨none, 0, rfl, own_nil _ _, Below.next hb2 (below_drew' _ _)⟩
      · have G := (good_iff p).1 hgb.symm
        have HT := hid fun W (h : Cells W A p) => ptText_any A c p W G h
        obtain ⟨T, hT⟩ : ∃ T, T = ptT p := ⟨_, rfl⟩
        rw [← hT] at HT HP1
        by_cases heq : T = s
        · have hBt : B = true := by rw [HP1.out]; simp [heq]
          have hFt := HP2.out hBt
          have hbe := bytes_eq heq
          subst hBt
          subst hFt
          clear heq hT G hgb
          go_wp2_with fail
          refine HPG.out.mono ?_
          rintro e w2 ⟨rfl, n, rfl⟩
          go_wp2_with fail
          refine (HT.out _ (HO.out.cells.below (below_drew' _ n))).mono ?_
          rintro e w3 ⟨rfl, b3⟩
          go_wp2_with fail
          go_ret2
          exact ⟨A, c, rfl, (((HO.out.below (below_drew' _ n)).below b3)).more hs1, Below.next (Below.next hb2 (below_drew' _ n)) b3⟩
        · have hBf : B = false := by rw [HP1.out]; simp [heq]
          have hFf := HNO.out hBf
          have hbe := bytes_ne heq
          subst hBf
          subst hFf
          clear heq hT G hgb
          go_wp2_with fail
          refine HPG.out.mono ?_
          rintro e w2 ⟨rfl, n, rfl⟩
          go_wp2_with fail
          refine (HT.out _ (HO.out.cells.below (below_drew' _ n))).mono ?_
          rintro e w3 ⟨rfl, b3⟩
          go_wp2_with fail
          go_ret2
          exact ⟨none, 0, rfl, own_nil _ _, Below.next (Below.next hb2 (below_drew' _ n)) b3⟩
theorem spec_ParsePart (s : ByteArray) (w : World) (hs : s.size ≤ 1048576) :
    Calls Tryd.prog 11 #[.string s] w fun e w' => ∃ A' c', e = .returned (.tuple #[.slice A' (ppF s).length c', .bool (ppB s)]) ∧ Own w' w.heap.size A' c' (ppF s) ∧ Below w.heap.size w w' := by
  have HP := hid fun W => ptParse_any s W hs
  go_enter Tryd.func11, Tryd.ntmps11
  go_wp2_with fail
  refine (HP.out _).mono ?_
  rintro e w1 ⟨A1, c1, rfl, o1, b1⟩
  go_wp2_with fail
  go_ret2
  exact ⟨A1, c1, rfl, o1, b1⟩
end Go.Proofs.YtjhcbbafldflaaaDoor
