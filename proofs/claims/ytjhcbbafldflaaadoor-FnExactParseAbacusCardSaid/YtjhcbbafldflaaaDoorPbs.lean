/-
  Contract: ParseAbacus of the model (made by hand, with a script's help for the ways that are alike).
-/
import Derived.Test.YtjhcbbafldflaaaDoorPbt
import Derived.Test.YtjhcbbafldflaaaDoorCE
import Derived.Test.YtjhcbbafldflaaaDoorWith1
import Derived.Maps.AppendAt
import Derived.Deep.RegionLaw
namespace Go.Proofs.YtjhcbbafldflaaaDoor
open Go.RowKit Go.Shelf

theorem ownBlock_sl (A : Option Addr) (n c : Nat) : (Value.slice A n c).ownBlock = A.map Addr.block := by cases A <;> rfl
theorem step_append_ownP {P : Program} {ops : Array Oper} {o : Oper} {a : Act} {w : World} {K : Act → World → Prop} {Q : Exit → Act → World → Prop} {E : Prop}
    (hg : o.guard = none) (s x : Operand) (t : TypeId) (hop : o.op = Op.call { callee := Callee.builtin Builtin.append, args := #[s, x], argTypes := #[t, t] })
    (base : Nat) (e : TypeId) (i : TypeInfo) (z : Value) (size bytes : Nat) (h1 : P.underlying t = some (.slice e)) (h2 : P.info? e = some i) (h3 : i.zero = some z) (h4 : i.size = size) (h5 : i.bytes = bytes) (h6 : z.cells.size = size) (h7 : 0 < size)
    (v : Value) (n : Nat) (xs : List Value) (hs : a.eval s = v) (hown : w.ownsRow base e size v n xs)
    (ad : Addr) (m c : Nat) (news : List Value) (hx : a.eval x = .slice (some ad) m c) (hn : news.length = m * size) (hc : ∀ j u, news[j]? = some u → w.cell? (ad.add j) = some u) (h1c : ∀ u ∈ news, u.oneCell' = true)
    (b1 : n + m ≤ maxLen) (b2 : (n + m) * bytes ≤ 140737488355328) (hb : base ≤ w.heap.size)
    (hK : ∀ v' w', w'.ownsRow base e size v' (n + m) (xs ++ news) → w.grownBy w' v.ownBlock → (v'.ownBlock = v.ownBlock ∨ v'.ownBlock = some w.heap.size) → K (a.put o.dst v') w') :
    if Region.wanted o (yielded ops a.tmps) = true then Oper.wp P o a w K Q else E := by
  have hw : Region.wanted o (yielded ops a.tmps) = true := by simp [Region.wanted, hg]
  rw [if_pos hw]
  obtain ⟨v', w', hrun, r1, r2, _, r3⟩ := run_append_own_at (P := P) w base t o.type e i z size bytes h1 h2 h3 h4 h5 h6 h7 v n xs hown ad m c news hn hc h1c b1 b2 hb
  unfold Oper.wp
  simp [execOp, hop, resolve, invoke, builtin, hs, hx, hrun, Result.andThen]
  exact hK v' w' r1 r2 r3

/-- A made slice of slices, each of which grows for itself. -/
structure Gr (w : World) (B g t : Nat) (rows : List (List Int)) (P : Nat → Option Addr) (C : Nat → Nat) : Prop where
  len : rows.length = t
  out : w.ownsRow B 22 1 (.slice (some ⟨g, 0, none⟩) t t) t (RL P C rows)
  row : ∀ j, j < t → Own w B (P j) (C j) (rows.getD j [])
  apart : ∀ i j, i < j → j < t → ∀ b, (P i).map Addr.block = some b → (P j).map Addr.block ≠ some b
theorem pab_no {s : ByteArray} (h : paB s = false) : paF s = [] ∧ paT s = 0 := by simp [paF, paT, h]
theorem pab_yes {s : ByteArray} (h : paB s = true) : paF s = paL s ∧ paT s = paR s := by simp [paF, paT, h]
/-- Blocks that stay, but for one. -/
def Stay (B g : Nat) (w w' : World) : Prop := ∀ b, b < B → b ≠ g → w'.heap[b]? = w.heap[b]?

theorem abText_r (r : Int) (A : Option Addr) (c : Nat) (xs : List Int) (w : World) (h : isAba r xs = true) (hc : Cells w A xs) :
    Calls Tryd.prog 32 #[.agg #[.int .i64 r, .slice A xs.length c]] w fun e w' => e = .returned (.string (abT r xs)) ∧ Below w.heap.size w w' := by
  simp only [isAba, Bool.and_eq_true] at h
  have hr := inB_iff.1 h.1
  obtain ⟨t, rfl⟩ : ∃ t : Nat, r = t := ⟨r.toNat, by omega⟩
  have GB := goodB_iff.1 h.2
  exact abText_any t A c xs w (by omega) GB.len (fun j hj => ⟨(GB.top hj).1, by have := (GB.top hj).2; omega⟩) hc

set_option maxRecDepth 100000 in
set_option maxHeartbeats 8000000 in
theorem spec_ParseAbacus (s : ByteArray) (w : World) (hs : s.size ≤ 1048576) :
    Calls Tryd.prog 20 #[.string s] w fun e w' => ∃ A' c', e = .returned (.tuple #[.agg #[.int .i64 (paT s), .slice A' (paF s).length c'], .bool (paB s)]) ∧ Own w' w.heap.size A' c' (paF s) ∧ Below w.heap.size w w' := by
  obtain ⟨i0, hi, hz0, hz1, hz2⟩ := info_parts Tryd.infoInt
  obtain ⟨w0, hw0⟩ : ∃ w0, w0 = w.alloc (.cells #[.int .i64 0, .slice none 0 0] 36) := ⟨_, rfl⟩
  have y0 : Box2 w0 w.heap.size 36 (.int .i64 0) (.slice none 0 0) := by rw [hw0]; exact Box2.new _ _ _ _
  have b0 : Below w.heap.size w w0 := by rw [hw0]; exact (Below.refl _ _).alloc (Nat.le_refl _) _
  have HS0 := hid (show w0.heap.size = w.heap.size + 1 by rw [hw0]; simp)
  have HY := hid y0
  have HW := hid hw0
  have HSP := hid (l1Split_any s 58 58 w0 hs rfl)
  obtain ⟨l1, l2⟩ := spW_lens 58 (strL s)
  rw [strL_len] at l1 l2
  have hn0 : 0 < (spW 58 (strL s)).length := List.length_pos_iff.2 (spW_ne 58 _)
  have hws : paW s = spW 58 (strL s) := rfl
  rw [← hws] at HSP l1 l2 hn0
  have hpb : paB s = (decide ((paW s).length = 2) && (isAba (paR s) (paL s) && decide (abT (paR s) (paL s) = s))) := rfl
  have hpr : paR s = rdW ((paW s).getD 0 []) := rfl
  have hpl : paL s = if (paW s).getD 1 [] = [45] then [] else (spW 44 ((paW s).getD 1 [])).map rdW := rfl
  have HNO := hid (fun h => pab_no (s := s) h)
  have HYE := hid (fun h => pab_yes (s := s) h)
  have HRD := hid (show ∀ l : List UInt8, l.length ≤ 1048576 → ∀ W : World, Calls Tryd.prog 36 #[.string (mkB l)] W fun e w' => e = .returned (.int .i64 (rdW l)) ∧ W = w' from fun l hl W => by
    have := l1Read_any (mkB l) W (by have e : (mkB l).size = l.length := by simp [mkB, ByteArray.size]
                                     omega)
    rw [str_mkB] at this; exact this)
  have eg : ∀ args w, (callFunc 36 args).run Tryd.prog w = .ok (.enter 36 args) w := enters_of Tryd.func36 (by kernel_rfl) rfl
  have EG := hid eg
  obtain ⟨ws, hw⟩ : ∃ ws, ws = paW s := ⟨_, rfl⟩
  rw [← hw] at HSP l1 l2 hn0 hpb hpr hpl
  obtain ⟨r, hr⟩ : ∃ r, r = paR s := ⟨_, rfl⟩
  obtain ⟨xs, hxs⟩ : ∃ xs, xs = paL s := ⟨_, rfl⟩
  obtain ⟨B, hB⟩ : ∃ B, B = paB s := ⟨_, rfl⟩
  obtain ⟨F, hF⟩ : ∃ F, F = paF s := ⟨_, rfl⟩
  obtain ⟨T, hT⟩ : ∃ T, T = paT s := ⟨_, rfl⟩
  rw [← hr, ← hxs, ← hB] at hpb
  rw [← hr] at hpr
  rw [← hxs] at hpl
  rw [← hB, ← hF, ← hT] at HNO
  rw [← hB, ← hF, ← hT, ← hxs, ← hr] at HYE
  rw [← hB, ← hF, ← hT]
  have HPB := hid hpb
  have HPL := hid hpl
  have HPR := hid hpr
  have HL2 := hid l2
  clear hw hr hxs hB hF hT hpb hpr hpl hws y0 hw0 l2 eg
  go_enter Tryd.func20, Tryd.ntmps20
  go_wp2_with fail
  rw [← HW.out]
  refine HSP.out.mono ?_
  rintro e w1 ⟨v, rfl, hrow, b1⟩
  obtain ⟨g, cap, rfl, hg1, hg2⟩ := World.ownsRow.form hrow hn0
  have HC := hid (show ∀ k, k < ws.length → w1.cell? ⟨g, k, none⟩ = some (.string (mkB (ws.getD k []))) from fun k hk => by
    rw [World.ownsRow.cellAt hrow k (by omega)]; exact wcL_get ws k hk)
  have hs1 := b1.size
  have hlt01 : w.heap.size < w1.heap.size := by have := HS0.out; omega
  have B1 := Below.next b0 b1
  have y1 := HY.out.next b1
  clear hrow
  by_cases h2 : ws.length = 2
  case neg =>
    have hBf : B = false := by rw [HPB.out, decide_eq_false h2]; rfl
    obtain ⟨q1, q2⟩ := HNO.out hBf
    subst hBf
    subst q1
    subst q2
    have hc : ¬ (ws.length : Int) = 2 := by omega
    have f1 := y1.cell0
    have f2 := y1.froz 0
    have y4 := y1.set0 (.int .i64 0)
    have f3 := y4.cell1
    have f4 := y4.froz 1
    have y5 := y4.set1 (.slice none 0 0)
    clear y1 y4
    go_wp2_with fail
    exact bodyPost_ret (results_cell2 rfl _ _ _ w.heap.size 36 #[.int .i64 0, .slice none 0 0] (0, 0) _ rfl y5 Tryd.underlying36 rfl (by kernel_rfl)) rfl ⟨none, 0, rfl, own_nil _ _, (B1.setCell (Nat.le_refl _) _).setCell (Nat.le_refl _) _⟩
  have hc2 : (ws.length : Int) = 2 := by omega
  have hk0 : 0 < ws.length := by omega
  have hk1 : 1 < ws.length := by omega
  have c0 := HC.out 0 hk0
  have c1 := HC.out 1 hk1
  have hm : ∀ k, k < ws.length → (ws.getD k []).length ≤ s.size := fun k hk => HL2.out _ (by rw [List.getD_eq_getElem?_getD, List.getElem?_eq_getElem hk]; exact List.getElem_mem hk)
  have hm0 := hm 0 hk0
  have hm1 := hm 1 hk1
  have hpr := HPR.out
  have hpl := HPL.out
  obtain ⟨u0, hu0⟩ : ∃ u0, u0 = ws.getD 0 [] := ⟨_, rfl⟩
  obtain ⟨u1, hu1⟩ : ∃ u1, u1 = ws.getD 1 [] := ⟨_, rfl⟩
  rw [← hu0] at c0 hm0 hpr
  rw [← hu1] at c1 hm1 hpl
  have HR0 := hid (HRD.out u0 (by omega) w1)
  rw [← hpr] at HR0
  have HPL2 := hid hpl
  rw [decide_eq_true h2, Bool.true_and] at HPB
  obtain ⟨w2, hw2⟩ : ∃ w2, w2 = w1.alloc (.cells #[.int .i64 r, .slice none 0 0] 36) := ⟨_, rfl⟩
  have b12 : Below w1.heap.size w1 w2 := by rw [hw2]; exact (Below.refl _ _).alloc (Nat.le_refl _) _
  have z2 : Box2 w2 w1.heap.size 36 (.int .i64 r) (.slice none 0 0) := by rw [hw2]; exact Box2.new _ _ _ _
  have hs2 : w2.heap.size = w1.heap.size + 1 := by rw [hw2]; simp
  have B2 := Below.next B1 b12
  have y2 := y1.next b12
  have c1' : w2.cell? ⟨g, 1, none⟩ = some (.string (mkB u1)) := (b12.cell hg2).trans c1
  have c1a : (w1.alloc (.cells #[.int .i64 r, .slice none 0 0] 36)).cell? ⟨g, 1, none⟩ = some (.string (mkB u1)) := by rw [← hw2]; exact c1'
  have HW2 := hid hw2
  clear c1' hpr hpl hu0 hu1 hm hw2 y1 c1 hk0 hk1 h2
  by_cases hd : u1 = [45]
  · have hx : xs = [] := by rw [HPL2.out, if_pos hd]
    have hne : ((mkB u1).toList == [45]) = true := by rw [hd, dash_list]; rfl
    subst hx
    have HOWN := hid (own_nil w2 w2.heap.size)
    have hbase : w.heap.size ≤ w2.heap.size := B2.size
    have hlt12 : w.heap.size < w2.heap.size := by omega
    have gg0 : (w1.alloc (.cells #[.int .i64 r, .slice none 0 0] 36)).cell? ⟨w1.heap.size, 0, none⟩ = some (.int .i64 r) := (Box2.new w1 36 (.int .i64 r) (.slice none 0 0)).cell0
    have gg1 : (w1.alloc (.cells #[.int .i64 r, .slice none 0 0] 36)).cell? ⟨w1.heap.size, 1, none⟩ = some (.slice none 0 0) := (Box2.new w1 36 (.int .i64 r) (.slice none 0 0)).cell1
    have hxl : ([] : List Int).length ≤ 1048576 := by simp
    have HB5 := hid z2
    have HB0 := hid y2
    have hbel := B2
    clear hd z2 y2
    go_wp2_with fail
    refine HR0.out.mono ?_
    rintro e wq ⟨rfl, rfl⟩
    go_wp2_with fail
    rw [← HW2.out]
    clear gg0 gg1 c1a
    cases hab : isAba r []
    · refine (abIs_b r none 0 [] w2 hxl HOWN.out.cells _ hab).mono ?_
      rintro e w5 ⟨rfl, b5⟩
      have B5 := Below.next hbel b5
      have y6 := HB0.out.next b5
      have hBf : B = false := by rw [HPB.out, hab]; rfl
      obtain ⟨q1, q2⟩ := HNO.out hBf
      subst hBf
      subst q1
      subst q2
      have f1 := y6.cell0
      have f2 := y6.froz 0
      have ya := y6.set0 (.int .i64 0)
      have f3 := ya.cell1
      have f4 := ya.froz 1
      have yb := ya.set1 (.slice none 0 0)
      clear ya
      go_wp2_with fail
      exact bodyPost_ret (results_cell2 rfl _ _ _ w.heap.size 36 #[.int .i64 0, .slice none 0 0] (0, 0) _ rfl yb Tryd.underlying36 rfl (by kernel_rfl)) rfl ⟨none, 0, rfl, own_nil _ _, (B5.setCell (Nat.le_refl _) _).setCell (Nat.le_refl _) _⟩
    · have HTX := hid fun W (h : Cells W none []) => abText_r r none 0 [] W hab h
      have HPB2 := hid (show B = decide (abT r [] = s) by rw [HPB.out, hab, Bool.true_and])
      refine (abIs_b r none 0 [] w2 hxl HOWN.out.cells _ hab).mono ?_
      rintro e w5 ⟨rfl, b5⟩
      have B5 := Below.next hbel b5
      have y6 := HB0.out.next b5
      have z6 := HB5.out.next b5
      have k0 := z6.cell0
      have k1 := z6.cell1
      obtain ⟨tx, htx⟩ : ∃ tx, tx = abT r [] := ⟨_, rfl⟩
      rw [← htx] at HTX HPB2
      clear hab htx
      go_wp2_with fail
      refine (HTX.out _ (HOWN.out.cells.below b5)).mono ?_
      rintro e w6 ⟨rfl, b6⟩
      have B6 := Below.next B5 b6
      have y7 := y6.next b6
      have z7 := z6.next b6
      clear k0 k1 y6 z6
      by_cases heq : tx = s
      · have hBt : B = true := by rw [HPB2.out]; exact decide_eq_true heq
        obtain ⟨q1, q2⟩ := HYE.out hBt
        have hbe := bytes_eq heq
        subst hBt
        subst F
        subst T
        have f1 := y7.cell0
        have f2 := y7.froz 0
        have k0 := z7.cell0
        have k1 := z7.cell1
        have y8 := y7.set0 (.int .i64 r)
        have f3 := y8.cell1
        have f4 := y8.froz 1
        have hne2 : w1.heap.size ≠ w.heap.size := by omega
        have k2 := (z7.other (g' := w.heap.size) (k := 0) hne2 (.int .i64 r)).cell1
        have y9 := y8.set1 (.slice none 0 0)
        have hok5 := (HOWN.out.below b5).below b6
        have hbk := HOWN.out.block
        clear y7 z7 y8 heq
        go_wp2_with fail
        refine bodyPost_ret (results_cell2 rfl _ _ _ w.heap.size 36 #[.int .i64 r, .slice none 0 0] (0, 0) _ rfl y9 Tryd.underlying36 rfl (by kernel_rfl)) rfl ⟨none, 0, rfl, (hok5.keep fun b hb _ => ?_).more hbase, (B6.setCell (Nat.le_refl _) _).setCell (Nat.le_refl _) _⟩
        have h1 := (hbk b hb).1
        exact (Below.heap_setCell _ _ _ b (by simp; omega)).trans (Below.heap_setCell _ _ _ b (by simp; omega))
      · have hbe := bytes_ne heq
        have hBf : B = false := by rw [HPB2.out]; exact decide_eq_false heq
        obtain ⟨q1, q2⟩ := HNO.out hBf
        subst hBf
        subst q1
        subst q2
        have f1 := y7.cell0
        have f2 := y7.froz 0
        have ya := y7.set0 (.int .i64 0)
        have f3 := ya.cell1
        have f4 := ya.froz 1
        have yb := ya.set1 (.slice none 0 0)
        clear ya
        go_wp2_with fail
        exact bodyPost_ret (results_cell2 rfl _ _ _ w.heap.size 36 #[.int .i64 0, .slice none 0 0] (0, 0) _ rfl yb Tryd.underlying36 rfl (by kernel_rfl)) rfl ⟨none, 0, rfl, own_nil _ _, (B6.setCell (Nat.le_refl _) _).setCell (Nat.le_refl _) _⟩
  · have hne : ((mkB u1).toList == [45]) = false := by
      have h := bytes_ne (a := mkB u1) (b := mkB [45]) (fun e => hd (by have := congrArg strL e; rwa [str_mkB, str_mkB] at this))
      rw [dash_list] at h; exact h
    have hx : xs = (spW 44 u1).map rdW := by rw [HPL2.out, if_neg hd]
    have hms : (mkB u1).size = u1.length := by simp [mkB, ByteArray.size]
    have HSQ := hid (l1Split_any (mkB u1) 44 44 w2 (by omega) rfl)
    rw [str_mkB] at HSQ
    obtain ⟨l3, l4⟩ := spW_lens 44 u1
    have hv0 : 0 < (spW 44 u1).length := List.length_pos_iff.2 (spW_ne 44 _)
    obtain ⟨vs, hvs⟩ : ∃ vs, vs = spW 44 u1 := ⟨_, rfl⟩
    rw [← hvs] at HSQ l3 l4 hv0 hx
    have HL4 := hid l4
    have HX := hid hx
    clear hd hvs hms l4 hx
    go_wp2_with fail
    refine HR0.out.mono ?_
    rintro e wq ⟨rfl, rfl⟩
    go_wp2_with fail
    rw [← HW2.out]
    refine HSQ.out.mono ?_
    rintro e w3 ⟨v3, rfl, hrow3, b3⟩
    obtain ⟨g3, cap3, rfl, hg3, hg4⟩ := World.ownsRow.form hrow3 hv0
    have HC3 := hid (show ∀ k, k < vs.length → w3.cell? ⟨g3, k, none⟩ = some (.string (mkB (vs.getD k []))) from fun k hk => by
      rw [World.ownsRow.cellAt hrow3 k (by omega)]; exact wcL_get vs k hk)
    have B3 := Below.next B2 b3
    have hs3 := b3.size
    have z3 := hid (z2.next b3)
    have y3 := hid (y2.next b3)
    have hgg : g3 ≠ w1.heap.size := by omega
    clear hrow3 z2 y2 HW2
    go_wp2_with fail
    go_loopw [28] (fun i wr => ∃ k : Nat, k ≤ vs.length ∧ k ≤ 40 ∧ i = .int .i64 k ∧ (∃ A c, Hid (Box2 wr w1.heap.size 36 (.int .i64 r) (.slice A k c)) ∧ Hid (wr.ownsRow w3.heap.size 3 1 (.slice A k c) k (IL ((vs.take k).map rdW)))) ∧ Hid (Box2 wr w.heap.size 36 (.int .i64 0) (.slice none 0 0)) ∧ Below w.heap.size w wr ∧ w3.heap.size ≤ wr.heap.size ∧ Hid (Stay w3.heap.size w1.heap.size w3 wr)) (fun i _ => vs.length - (intOf i).toNat)
    case atStart => exact ⟨0, Nat.zero_le _, by omega, rfl, ⟨none, 0, z3, hid (World.ownsRow_nil _ _ _ _)⟩, y3, B3, Nat.le_refl _, hid fun _ _ _ => rfl⟩
    case round =>
      obtain ⟨k, hk, hk40, rfl, ⟨A, c, HB5, HOW⟩, HB0, hbel, hszr, HST⟩ := hrel
      clear z3 y3
      by_cases hlt : k < vs.length
      · have hck : wr.cell? ⟨g3, k, none⟩ = some (.string (mkB (vs.getD k []))) := by
          rw [← HC3.out k hlt]
          exact World.cell?_of_block (HST.out g3 hg4 hgg)
        have p1 := HB5.out.cell1
        by_cases h40 : k = 40
        · have hBf : B = false := by
            rw [HPB.out]
            have : isAba r xs = false := by
              unfold isAba
              rw [goodB_no_len (by rw [HX.out, List.length_map]; omega), Bool.and_false]
            rw [this]; rfl
          obtain ⟨q1, q2⟩ := HNO.out hBf
          subst hBf
          subst q1
          subst q2
          subst h40
          have f1 := HB0.out.cell0
          have f2 := HB0.out.froz 0
          have y4 := HB0.out.set0 (.int .i64 0)
          have f3 := y4.cell1
          have f4 := y4.froz 1
          have y5 := y4.set1 (.slice none 0 0)
          clear y4
          go_wp2_with fail
          exact bodyPost_ret (results_cell2 rfl _ _ _ w.heap.size 36 #[.int .i64 0, .slice none 0 0] (0, 0) _ rfl y5 Tryd.underlying36 rfl (by kernel_rfl)) rfl ⟨none, 0, rfl, own_nil _ _, (hbel.setCell (Nat.le_refl _) _).setCell (Nat.le_refl _) _⟩
        · have hmem : vs.getD k [] ∈ vs := by rw [List.getD_eq_getElem?_getD, List.getElem?_eq_getElem hlt]; exact List.getElem_mem hlt
          have htk : vs.take (k + 1) = vs.take k ++ [vs.getD k []] := by
            rw [List.take_succ_eq_append_getElem hlt]; congr 2; simp [List.getD, hlt]
          have hll := HL4.out _ hmem
          obtain ⟨l, hl⟩ : ∃ l, l = vs.getD k [] := ⟨_, rfl⟩
          rw [← hl] at hck htk hll
          have HR := hid fun W => HRD.out l (by omega) W
          have HS := hid (show (vs.take (k + 1)).map rdW = (vs.take k).map rdW ++ [rdW l] by rw [htk, List.map_append]; rfl)
          have HLN := hid (show ((vs.take k).map rdW).length = k by rw [List.length_map, List.length_take]; omega)
          obtain ⟨y, hy⟩ : ∃ y, y = rdW l := ⟨_, rfl⟩
          rw [← hy] at HR HS
          obtain ⟨f, hf⟩ : ∃ f, f = (vs.take k).map rdW := ⟨_, rfl⟩
          rw [← hf] at HOW HS HLN
          have hkk : ¬ (k : Int) = 40 := by omega
          have p2 : (wr.alloc (.cells #[.int .i64 y] 3)).cell? ⟨w1.heap.size, 1, none⟩ = some (.slice A k c) := (HB5.out.alloc _).cell1
          have HOWd : Hid (wr.drew.ownsRow w3.heap.size 3 1 (.slice A k c) k (IL f)) := HOW
          have HB5d : Hid (Box2 wr.drew w1.heap.size 36 (.int .i64 r) (.slice A k c)) := HB5
          have HB0d : Hid (Box2 wr.drew w.heap.size 36 (.int .i64 0) (.slice none 0 0)) := HB0
          have hbd : Below w.heap.size w wr.drew := below_drewN hbel 1
          have hw1s : w.heap.size ≤ w1.heap.size := B1.size
          clear hl htk hmem hll hy hf h40
          go_wp2_with fail
          go_region_law (first | (refine step_call _ rfl 36 #[.string (mkB l)] (exec_call1 _ _ (.tmp 39) 9 rfl _ (by first | (simp [Act.eval]; done) | (simp [Act.eval, Act.put]; done)) (EG.out _ _)) (fun v w' => v = .int .i64 y ∧ w' = wr.drew) ((HR.out _).mono (by rintro e w' ⟨rfl, rfl⟩; exact ⟨_, rfl, rfl, rfl⟩)) ?_; rintro _ _ ⟨rfl, rfl⟩) | (refine step_append_ownP rfl (.tmp 38) (.tmp 41) 22 rfl w3.heap.size 3 i0 (.int .i64 0) 1 8 Tryd.underlying22 hi hz0 hz1 hz2 rfl (by decide) (.slice A k c) k (IL f) (by first | rfl | simp [Act.eval, Act.put]) (World.ownsRow.alloc HOWd.out _) ⟨wr.heap.size, 0, none⟩ 1 1 [.int .i64 y] (by first | rfl | simp [Act.eval, Act.put]) rfl (fun j u h => one_at (w := wr) j u h) (one_cell _) (by unfold maxLen; omega) (by omega) (by simp; omega) ?_; intro v' w5 ho5 hg5 hat5; rw [ownBlock_sl] at hg5 hat5; obtain ⟨A5, c5, rfl, ho6⟩ := own_form (own_snoc (ys := f) (zs := f ++ [y]) rfl (by rw [HLN.out]; exact ho5)) rfl; have hg6 : (wr.drew.alloc (.cells #[.int .i64 y] 3)).grownBy w5 (A.map Addr.block) := hg5; have hAb : ∀ q, A.map Addr.block = some q → w3.heap.size ≤ q := (fun q hq => (HOWd.out.lt q (by rw [ownBlock_sl]; exact hq)).1); have z7 := HB5d.out.keepG hg6 (fun e => by have := hAb _ e.symm; omega); have y7 := HB0d.out.keepG hg6 (fun e => by have := hAb _ e.symm; omega); have p7 := z7.cell1; have p8 := z7.froz 1; have HB5n := hid (z7.set1 (.slice A5 (f ++ [y]).length c5)); have HB0n := hid (y7.other (g' := w1.heap.size) (k := 1) (by omega) (.slice A5 (f ++ [y]).length c5)); have hb7 := ((hbd.alloc hbd.size (.cells #[.int .i64 y] 3)).grown hg6 (by simp; omega) (fun q hq => by have := hAb _ hq; omega)); have HBn : Hid (Below w.heap.size w (w5.setCell ⟨w1.heap.size, 1, none⟩ (.slice A5 (f ++ [y]).length c5))) := hid (hb7.setCell (by omega) _); have hszn : w3.heap.size ≤ (w5.setCell ⟨w1.heap.size, 1, none⟩ (.slice A5 (f ++ [y]).length c5)).heap.size := (by have h1 := hg6.size; simp at h1 ⊢; omega); have HSTn : Hid (Stay w3.heap.size w1.heap.size w3 (w5.setCell ⟨w1.heap.size, 1, none⟩ (.slice A5 (f ++ [y]).length c5))) := hid (fun b hb hbne => by rw [Below.heap_setCell _ _ _ b (by simp; omega), hg6.block b (by simp; omega) (fun e => by have := hAb _ e.symm; omega), ← HST.out b hb hbne]; exact Below.heap_alloc _ _ _ (show b < wr.drew.heap.size by show b < wr.heap.size; omega)); have HOn : Hid ((w5.setCell ⟨w1.heap.size, 1, none⟩ (.slice A5 (f ++ [y]).length c5)).ownsRow w3.heap.size 3 1 (.slice A5 (f ++ [y]).length c5) (f ++ [y]).length (IL (f ++ [y]))) := hid (ho6.keep fun q hq _ => Below.heap_setCell _ _ _ q (by have := (ho6.block q hq).1; simp; omega)); have HLn : (f ++ [y]).length = k + 1 := (by rw [List.length_append, HLN.out]; rfl); rw [← HS.out] at HOn HB5n HB0n HBn HSTn HLn hszn; rw [HLn] at HOn HB5n HB0n HBn HSTn hszn; clear hb7 z7 y7 hat5 ho5 ho6))
          all_goals go_wp2_with fail
          all_goals go_roundw
          all_goals first | (rw [HLN.out]; exact ⟨k + 1, by omega, by omega, by go_num, ⟨A5, c5, HB5n, HOn⟩, HB0n, HBn.out, hszn, HSTn⟩) | (simp [intOf]; omega)
      · have hkv : k = xs.length := by rw [HX.out, List.length_map]; omega
        have HOWN : Hid (Own wr w3.heap.size A c xs) := hid (by
          have h := HOW.out
          rw [List.take_of_length_le (by omega), ← HX.out, hkv] at h
          exact h)
        subst hkv
        have hxl : xs.length ≤ 1048576 := by omega
        have hbase : w.heap.size ≤ w3.heap.size := B3.size
        have hlt12 : w.heap.size < w3.heap.size := by omega
        have g0 := HB5.out.cell0
        have g1 := HB5.out.cell1
        clear HOW
        go_wp2_with fail
        clear g0 g1
        cases hab : isAba r xs
        · refine (abIs_b r A c xs wr hxl HOWN.out.cells _ hab).mono ?_
          rintro e w5 ⟨rfl, b5⟩
          have B5 := Below.next hbel b5
          have y6 := HB0.out.next b5
          have hBf : B = false := by rw [HPB.out, hab]; rfl
          obtain ⟨q1, q2⟩ := HNO.out hBf
          subst hBf
          subst q1
          subst q2
          have f1 := y6.cell0
          have f2 := y6.froz 0
          have ya := y6.set0 (.int .i64 0)
          have f3 := ya.cell1
          have f4 := ya.froz 1
          have yb := ya.set1 (.slice none 0 0)
          clear ya
          go_wp2_with fail
          exact bodyPost_ret (results_cell2 rfl _ _ _ w.heap.size 36 #[.int .i64 0, .slice none 0 0] (0, 0) _ rfl yb Tryd.underlying36 rfl (by kernel_rfl)) rfl ⟨none, 0, rfl, own_nil _ _, (B5.setCell (Nat.le_refl _) _).setCell (Nat.le_refl _) _⟩
        · have HTX := hid fun W (h : Cells W A xs) => abText_r r A c xs W hab h
          have HPB2 := hid (show B = decide (abT r xs = s) by rw [HPB.out, hab, Bool.true_and])
          refine (abIs_b r A c xs wr hxl HOWN.out.cells _ hab).mono ?_
          rintro e w5 ⟨rfl, b5⟩
          have B5 := Below.next hbel b5
          have y6 := HB0.out.next b5
          have z6 := HB5.out.next b5
          have k0 := z6.cell0
          have k1 := z6.cell1
          obtain ⟨tx, htx⟩ : ∃ tx, tx = abT r xs := ⟨_, rfl⟩
          rw [← htx] at HTX HPB2
          clear hab htx
          go_wp2_with fail
          refine (HTX.out _ (HOWN.out.cells.below b5)).mono ?_
          rintro e w6 ⟨rfl, b6⟩
          have B6 := Below.next B5 b6
          have y7 := y6.next b6
          have z7 := z6.next b6
          clear k0 k1 y6 z6
          by_cases heq : tx = s
          · have hBt : B = true := by rw [HPB2.out]; exact decide_eq_true heq
            obtain ⟨q1, q2⟩ := HYE.out hBt
            have hbe := bytes_eq heq
            subst hBt
            subst F
            subst T
            have f1 := y7.cell0
            have f2 := y7.froz 0
            have k0 := z7.cell0
            have k1 := z7.cell1
            have y8 := y7.set0 (.int .i64 r)
            have f3 := y8.cell1
            have f4 := y8.froz 1
            have hne2 : w1.heap.size ≠ w.heap.size := by omega
            have k2 := (z7.other (g' := w.heap.size) (k := 0) hne2 (.int .i64 r)).cell1
            have y9 := y8.set1 (.slice A xs.length c)
            have hok5 := (HOWN.out.below b5).below b6
            have hbk := HOWN.out.block
            clear y7 z7 y8 heq
            go_wp2_with fail
            refine bodyPost_ret (results_cell2 rfl _ _ _ w.heap.size 36 #[.int .i64 r, .slice A xs.length c] (0, 0) _ rfl y9 Tryd.underlying36 rfl (by kernel_rfl)) rfl ⟨A, c, rfl, (hok5.keep fun b hb _ => ?_).more hbase, (B6.setCell (Nat.le_refl _) _).setCell (Nat.le_refl _) _⟩
            have h1 := (hbk b hb).1
            exact (Below.heap_setCell _ _ _ b (by simp; omega)).trans (Below.heap_setCell _ _ _ b (by simp; omega))
          · have hbe := bytes_ne heq
            have hBf : B = false := by rw [HPB2.out]; exact decide_eq_false heq
            obtain ⟨q1, q2⟩ := HNO.out hBf
            subst hBf
            subst q1
            subst q2
            have f1 := y7.cell0
            have f2 := y7.froz 0
            have ya := y7.set0 (.int .i64 0)
            have f3 := ya.cell1
            have f4 := ya.froz 1
            have yb := ya.set1 (.slice none 0 0)
            clear ya
            go_wp2_with fail
            exact bodyPost_ret (results_cell2 rfl _ _ _ w.heap.size 36 #[.int .i64 0, .slice none 0 0] (0, 0) _ rfl yb Tryd.underlying36 rfl (by kernel_rfl)) rfl ⟨none, 0, rfl, own_nil _ _, (B6.setCell (Nat.le_refl _) _).setCell (Nat.le_refl _) _⟩
end Go.Proofs.YtjhcbbafldflaaaDoor
