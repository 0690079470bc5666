/-
  Several texts in one.
-/
import Derived.Test.YtnjaoaamcdohoaaR03
import Derived.Test.YtnjaoaamcdohoaaCC
import Derived.Test.YtnjaoaamcdohoaaCB
import Derived.Deep.RegionWith
import Derived.Deep.CutRange
/-
  Contract: the program's walk along the rim of a cell.
-/
namespace Go.Proofs.Ytnjaoaamcdohoaa
open Go.RowKit

def PL (L : List (Nat × Nat)) : List Value := L.flatMap fun q => [.int .i64 (q.1 : Int), .int .i64 (q.2 : Int)]
theorem PL_snoc (L : List (Nat × Nat)) (a b : Nat) : PL L ++ [.int .i64 (a : Int), .int .i64 (b : Int)] = PL (L ++ [(a, b)]) := by simp [PL]
theorem PL_len (L : List (Nat × Nat)) : (PL L).length = L.length * 2 := by
  induction L with
  | nil => rfl
  | cons q t ih => simp only [PL, List.flatMap_cons, List.length_append, List.length_cons, List.length_nil] at ih ⊢; omega
theorem PL_get : ∀ (L : List (Nat × Nat)) (j : Nat), j < L.length → (PL L)[2 * j]? = some (.int .i64 ((L.getD j (0, 0)).1 : Int)) ∧ (PL L)[2 * j + 1]? = some (.int .i64 ((L.getD j (0, 0)).2 : Int))
  | [], j, h => absurd h (by simp)
  | q :: t, 0, _ => by simp [PL]
  | q :: t, j + 1, h => by
    have := PL_get t j (by simpa using h)
    have e : PL (q :: t) = [.int .i64 (q.1 : Int), .int .i64 (q.2 : Int)] ++ PL t := by simp [PL]
    rw [e, List.getElem?_append_right (by simp; omega), List.getElem?_append_right (by simp; omega)]
    simp only [List.length_cons, List.length_nil, List.getD_cons_succ]
    rw [show 2 * (j + 1) - (0 + 1 + 1) = 2 * j by omega, show 2 * (j + 1) + 1 - (0 + 1 + 1) = 2 * j + 1 by omega]
    exact this
theorem Try.infoPlace : (Try.prog.info? 42).map (fun i => (i.zero, i.size, i.bytes)) = some (some (.agg #[.int .i64 0, .int .i64 0]), 2, 16) := by kernel_rfl
theorem two_at {w : World} {x y : Value} {t : TypeId} (j : Nat) (u : Value) (h : [x, y][j]? = some u) : (w.alloc (.cells #[x, y] t)).cell? ((⟨w.heap.size, 0, none⟩ : Addr).add j) = some u := by
  match j, h with
  | 0, h => simp at h; subst h; simp [Addr.add]
  | 1, h => simp at h; subst h; simp [Addr.add]
theorem two_cell (x y : Int) : ∀ u ∈ [Value.int .i64 x, .int .i64 y], u.oneCell' = true := by
  intro u hu; simp at hu; rcases hu with rfl | rfl <;> rfl
def slen : Value → Nat
  | .slice _ n _ => n
  | _ => 0
theorem slen_row {w : World} {B e s n : Nat} {v : Value} {xs : List Value} (h : w.ownsRow B e s v n xs) : slen v = n := by
  rcases h.2 with ⟨rfl, rfl⟩ | ⟨g, cap, cur, rfl, _⟩ <;> rfl

theorem letterAt_b (A : Option Addr) (c : Nat) (xs : List Int) (r k : Nat) (w : World) (hr : 1 ≤ r) (hrl : r ≤ xs.length) (hl : xs.length ≤ 1000) (hc : Cells w A xs) (v : Int) (h : (if (k : Int) = xs.getD (r - 1) 0 then (85 : Int) else 82) = v) :
    Calls Try.prog 32 #[.slice A xs.length c, .agg #[.int .i64 r, .int .i64 k]] w fun e w' => e = .returned (.int .u8 v) ∧ Below w.heap.size w w' := by
  subst h; exact letterAt_any A c xs r k w hr hrl hl hc
theorem stepOf_up (w : World) : Calls Try.prog 31 #[.int .u8 85] w fun e w' => e = .returned (.func (.func 39) #[] #[]) ∧ w = w' := stepOf_any 85 w
theorem stepOf_right (w : World) : Calls Try.prog 31 #[.int .u8 82] w fun e w' => e = .returned (.func (.func 40) #[] #[]) ∧ w = w' := stepOf_any 82 w
theorem ownsRow_next {w w' : World} {B e s n : Nat} {v : Value} {xs : List Value} (h : w.ownsRow B e s v n xs) (hb : Below w.heap.size w w') : w'.ownsRow B e s v n xs := by
  refine ⟨h.1, ?_⟩
  rcases h.2 with hn | ⟨g, cap, cur, hv, hbg, hgg, rest⟩
  · exact .inl hn
  · exact .inr ⟨g, cap, cur, hv, hbg, by rw [hb.block g (Array.getElem?_eq_some_iff.1 hgg).1]; exact hgg, rest⟩
theorem ownsRow_set2 {w : World} {B e s n g : Nat} {v : Value} {xs : List Value} (h : w.ownsRow B e s v n xs) (hg : g < B) (a b : Value) : ((w.setCell ⟨g, 0, none⟩ a).setCell ⟨g, 1, none⟩ b).ownsRow B e s v n xs := by
  refine ⟨h.1, ?_⟩
  rcases h.2 with hn | ⟨g', cap, cur, hv, hbg, hgg, rest⟩
  · exact .inl hn
  · exact .inr ⟨g', cap, cur, hv, hbg, by rw [Below.heap_setCell _ _ _ g' (by simp; omega), Below.heap_setCell _ _ _ g' (by simp; omega)]; exact hgg, rest⟩
theorem ownsRow_more {w : World} {B B' e s n : Nat} {v : Value} {xs : List Value} (h : w.ownsRow B e s v n xs) (hB : B' ≤ B) : w.ownsRow B' e s v n xs := by
  refine ⟨h.1, ?_⟩
  rcases h.2 with hn | ⟨g, cap, cur, hv, hb, rest⟩
  · exact .inl hn
  · exact .inr ⟨g, cap, cur, hv, Nat.le_trans hB hb, rest⟩

set_option maxRecDepth 100000 in
set_option maxHeartbeats 10000000 in
theorem rimOf_any (A : Option Addr) (c : Nat) (xs : List Int) (r k low : Nat) (w : World) (R : RimOK xs r k low) (hc : Cells w A xs) :
    Calls Try.prog 19 #[.slice A xs.length c, .agg #[.int .i64 r, .int .i64 k]] w fun e w' => ∃ v, e = .returned v ∧ w'.ownsRow w.heap.size 42 2 v (rimUp xs k low (low + 1 - r)).length (PL (rimUp xs k low (low + 1 - r))) ∧ Below w.heap.size w w' := by
  obtain ⟨i0, hi, hz0, hz1, hz2⟩ := info_parts Try.infoPlace
  have G := R.good
  have hlen := G.len
  have hlow := R.low_lt
  have hrl := R.r_le
  have hkl := R.tall r hrl
  have hx0 := R.le30 hrl
  have hkc : k < (cols xs).length := col_lt G (by omega) hkl
  have hck : (cols xs).getD k 0 = (low : Int) + 1 := by rw [cols_get xs k (by rw [cols_len] at hkc; exact hkc), R.col]
  have HR := hid R
  have HG := hid G
  clear R G hkl
  obtain ⟨wa, hwa⟩ : ∃ wa, wa = w.alloc (.cells #[.int .i64 r, .int .i64 k] 42) := ⟨_, rfl⟩
  have ya : Box2 wa w.heap.size 42 (.int .i64 r) (.int .i64 k) := by rw [hwa]; exact Box2.new _ _ _ _
  have Ba : Below w.heap.size w wa := by rw [hwa]; exact (Below.refl _ _).alloc (Nat.le_refl _) _
  have sa : wa.heap.size = w.heap.size + 1 := by rw [hwa]; simp
  have HWA := hid hwa
  have fa1 := ya.cell1
  clear hwa
  go_enter Try.func19, Try.ntmps19
  go_wp2_with fail
  rw [← HWA.out]
  have yad : Box2 wa.drew w.heap.size 42 (.int .i64 r) (.int .i64 k) := ya
  have hcd : Cells wa.drew A xs := hc.later (below_drewN Ba 1)
  have hk0 : (0 : Int) ≤ (k : Int) := by omega
  have hkk : (k : Int) < ((cols xs).length : Int) := by omega
  have hw1 : IntKind.i64.wrap ((low : Int) + 1 - 1) = low := by rw [IntWalk.i64_in _ (by omega)]; omega
  have fA := (yad.alloc (.cells #[.int .i64 0, .int .i64 0] 42)).cell1
  have yaA := yad.alloc (.cells #[.int .i64 0, .int .i64 0] 42)
  have zaA : Box2 (wa.drew.alloc (.cells #[.int .i64 0, .int .i64 0] 42)) wa.heap.size 42 (.int .i64 0) (.int .i64 0) := Box2.new wa.drew 42 (.int .i64 0) (.int .i64 0)
  have hcdA : Cells (wa.drew.alloc (.cells #[.int .i64 0, .int .i64 0] 42)) A xs := hcd.below ((Below.refl _ _).alloc (Nat.le_refl _) _)
  have BaA : Below w.heap.size w (wa.drew.alloc (.cells #[.int .i64 0, .int .i64 0] 42)) := Below.next (below_drewN Ba 1) ((Below.refl _ _).alloc (Nat.le_refl _) _)
  have hne : w.heap.size ≠ wa.heap.size := by omega
  have hlt : w.heap.size < wa.heap.size := by omega
  have hw2 : IntKind.i64.wrap (low : Int) = low := by rw [IntWalk.i64_in _ (by omega)]
  clear sa
  go_cut [5] from 7 to 16 (fun a wx => ∃ B5 : Nat, a = .pointer (some ⟨B5, 0, none⟩) ∧ Box2 wx B5 42 (.int .i64 low) (.int .i64 k) ∧ Box2 wx w.heap.size 42 (.int .i64 r) (.int .i64 k) ∧ Below w.heap.size w wx ∧ w.heap.size < B5)
  case first =>
    go_region_with (first | (go_at_call 28; refine (columnsOf_any _ _ _ _ HG.out hcd).mono ?_; rintro e w1 ⟨A1, c1, rfl, o1, b1⟩; have yb := yad.next b1; have fb1 := yb.cell1; have ybA := yb.alloc (.cells #[.int .i64 0, .int .i64 0] 42); have fb2 := ybA.cell1; have B1 := Below.next (below_drewN Ba 1) b1; have z1 := b1.size; have hle : wa.heap.size ≤ w1.heap.size := z1; obtain ⟨b3, o3, rfl, hcol⟩ := o1.cells.get hkc; have hcolA := (World.cell?_alloc_lt w1 (.cells #[.int .i64 0, .int .i64 0] 42) _ (World.block_lt_of_cell? w1 _ hcol)).trans hcol; rw [hck] at hcol hcolA) | (go_at_call 28; refine (columnsOf_any _ _ _ _ HG.out hcdA).mono ?_; rintro e w1 ⟨A1, c1, rfl, o1, b1⟩; have yb := yaA.next b1; have fb1 := yb.cell1; have zb := zaA.next b1; have fz1 := zb.cell0; have fz2 := zb.froz 0; have zb2 := zb.set0 (.int .i64 low); have fz3 := zb2.cell1; have fz4 := zb2.froz 1; have zb3 := zb2.set1 (.int .i64 k); have yb3 := ((yb.other (g' := wa.heap.size) (k := 0) hne (.int .i64 low)).other (g' := wa.heap.size) (k := 1) hne (.int .i64 k)); have B1 := Below.next BaA b1; obtain ⟨b3, o3, rfl, hcol⟩ := o1.cells.get hkc; rw [hck] at hcol))
    all_goals go_wp2_with fail
    all_goals go_meet
    all_goals first | exact ⟨w1.heap.size, rfl, Box2.new _ _ _ _, yb.alloc _, B1.alloc B1.size _, by omega⟩ | exact ⟨wa.heap.size, rfl, zb3, yb3, (B1.setCell (Nat.le_of_lt hlt) _).setCell (Nat.le_of_lt hlt) _, hlt⟩
  case rest =>
    clear fA yaA zaA hcdA BaA hcd yad fa1 ya Ba hne hlt hw1 hw2 hkk hk0
    obtain ⟨B5, rfl, z0, y0, B0, hB5⟩ := hcut
    have HB5 := hid hB5
    have g1 := z0.cell0
    have g2 := z0.cell1
    go_wp2_with fail
    have zlt := z0.lt
    have ylt := y0.lt
    go_loopw [6] (fun v wr => ∃ L : List (Nat × Nat), L.length ≤ 930 ∧ wr.ownsRow wc.heap.size 42 2 v L.length (PL L) ∧ wc.heap.size ≤ wr.heap.size ∧ Box2 wr w.heap.size 42 (.int .i64 r) (.int .i64 k) ∧ Below w.heap.size w wr ∧
      Hid ((∃ d i : Nat, d ≤ low - r ∧ i < cn xs k (low - d) ∧ L = rimAt xs k low d i ∧ Box2 wr B5 42 (.int .i64 (low - d : Nat)) (.int .i64 (fr xs k (low - d) + i : Nat))) ∨
       (L = rimUp xs k low (low + 1 - r) ∧ ∃ q : Nat, Box2 wr B5 42 (.int .i64 ((r : Int) - 1)) (.int .i64 q)))) (fun v _ => 1000 - slen v)
    case atStart =>
      refine ⟨[], by simp, World.ownsRow_nil _ _ _ _, Nat.le_refl _, y0, B0, hid (.inl ⟨0, 0, by omega, (HR.out.cn_pos (Nat.le_refl _)).2, rfl, ?_⟩)⟩
      rw [Nat.sub_zero, HR.out.fr_low]; exact z0
    case round =>
      obtain ⟨L, hL, hown, hsz, yr, hbel, HS⟩ := hrel
      have e0 := yr.cell0
      rcases HS.out with ⟨d, i, hd, hi2, hLe, zr⟩ | ⟨hLe, q, zr⟩
      · obtain ⟨row, hrow⟩ : ∃ row, row = low - d := ⟨_, rfl⟩
        have hrr : r ≤ row := by omega
        have hrl2 : row ≤ low := by omega
        obtain ⟨col, hcol⟩ : ∃ col, col = fr xs k row + i := ⟨_, rfl⟩
        rw [← hrow] at zr hi2
        rw [← hcol] at zr
        have hcnp := HR.out.cn_pos hrl2
        have h30 := HR.out.le30 hrl2
        have hcx : (col : Int) < xs.getD row 0 := by omega
        have e1 := zr.cell0
        have e2 := zr.cell1
        have HLE := hid hLe
        have HROW := hid hrow
        have HCOL := hid hcol
        obtain ⟨x, hx⟩ : ∃ x, x = xs.getD row 0 := ⟨_, rfl⟩
        have HX := hid hx
        rw [← hx] at hcx hcnp h30
        have hlr : row + 1 ≤ xs.length := by omega
        clear hLe hrow hcol hx
        go_wp2_with (at_builtin; refine wpList_append_own _ rfl _ _ 39 rfl wc.heap.size 42 i0 (.agg #[.int .i64 0, .int .i64 0]) 2 16 Try.underlying39 hi hz0 hz1 hz2 rfl (by decide) _ _ _ rfl (hown.alloc _) ⟨wr.heap.size, 0, none⟩ 1 1 [.int .i64 (row : Int), .int .i64 (col : Int)] rfl rfl two_at (two_cell _ _) (by unfold maxLen; omega) (by omega) (by simp; omega) ?_)
        intro v' w2 hown' hgrow _
        have hb5 : some B5 ≠ u6.ownBlock := fun e => by have := (hown.lt B5 e.symm).1; omega
        have hy5 : some w.heap.size ≠ u6.ownBlock := fun e => by have := (hown.lt _ e.symm).1; omega
        have z2 := (zr.alloc (.cells #[.int .i64 (row : Int), .int .i64 (col : Int)] 42)).keep (hgrow.block B5 (zr.alloc _).lt hb5)
        have y2 := (yr.alloc (.cells #[.int .i64 (row : Int), .int .i64 (col : Int)] 42)).keep (hgrow.block w.heap.size (yr.alloc _).lt hy5)
        have B2 : Below w.heap.size w w2 := (hbel.alloc hbel.size _).grown hgrow (by have := hbel.size; simp; omega) (fun q hq => by have := (hown.lt q hq).1; omega)
        have s2 : wc.heap.size ≤ w2.heap.size := by have := hgrow.size; simp at this; omega
        rw [PL_snoc] at hown'
        have hL1 : (L ++ [(row, col)]).length = L.length + 1 := by simp
        have hL2 : (L ++ [(row, col)]).length ≤ 930 ∧ (rimAt xs k low d (i + 1)) = L ++ [(row, col)] := by
          have e : rimAt xs k low d (i + 1) = L ++ [(row, col)] := by rw [rimAt_succ, HLE.out, HROW.out, HCOL.out, HROW.out]
          refine ⟨?_, e⟩
          rw [← e]; exact HR.out.len d (i + 1) (by omega) (by omega)
        have HL := hid hL2
        have hod : w2.drew.ownsRow wc.heap.size 42 2 v' (L ++ [(row, col)]).length (PL (L ++ [(row, col)])) := by rw [hL1]; exact hown'
        have z2d : Box2 w2.drew B5 42 (.int .i64 row) (.int .i64 col) := z2
        have y2d : Box2 w2.drew w.heap.size 42 (.int .i64 r) (.int .i64 k) := y2
        have B2d : Below w.heap.size w w2.drew := below_drewN B2 1
        have p2 := z2.cell0
        have q2 := z2.cell1
        have hsl := slen_row hown'
        have HOD := hid hod
        have hB5c : B5 < wc.heap.size := zlt
        have hslL := slen_row hown
        clear hown hown' hgrow hb5 hy5 zr yr hbel e0 e1 e2 hL2 HS g1 g2 hod
        have hyB : w.heap.size ≠ B5 := by omega
        have hr1000 : row ≤ 1000 := by omega
        have hc1000 : col ≤ 1000 := by omega
        have hr1 : 1 ≤ row + 1 := by omega
        have hl1000 : xs.length ≤ 1000 := by omega
        by_cases hU : (col : Int) + 1 = x
        · have hlet : (if ((col + 1 : Nat) : Int) = xs.getD (row + 1 - 1) 0 then (85 : Int) else 82) = 85 := by rw [Nat.add_sub_cancel, ← HX.out, if_pos (by omega)]
          have HU := hid hU; clear hU
          have FIN : ∀ w6 : World, Box2 w6 B5 42 (.int .i64 row) (.int .i64 col) → Box2 w6 w.heap.size 42 (.int .i64 r) (.int .i64 k) → Below w.heap.size w w6 → wc.heap.size ≤ w6.heap.size → w6.ownsRow wc.heap.size 42 2 v' (L ++ [(row, col)]).length (PL (L ++ [(row, col)])) →
              ∃ L : List (Nat × Nat), L.length ≤ 930 ∧ ((w6.setCell ⟨B5, 0, none⟩ (.int .i64 ((row : Int) - 1))).setCell ⟨B5, 1, none⟩ (.int .i64 (col : Nat))).ownsRow wc.heap.size 42 2 v' L.length (PL L) ∧ wc.heap.size ≤ ((w6.setCell ⟨B5, 0, none⟩ (.int .i64 ((row : Int) - 1))).setCell ⟨B5, 1, none⟩ (.int .i64 (col : Nat))).heap.size ∧ Box2 ((w6.setCell ⟨B5, 0, none⟩ (.int .i64 ((row : Int) - 1))).setCell ⟨B5, 1, none⟩ (.int .i64 (col : Nat))) w.heap.size 42 (.int .i64 r) (.int .i64 k) ∧ Below w.heap.size w ((w6.setCell ⟨B5, 0, none⟩ (.int .i64 ((row : Int) - 1))).setCell ⟨B5, 1, none⟩ (.int .i64 (col : Nat))) ∧
              Hid ((∃ d i : Nat, d ≤ low - r ∧ i < cn xs k (low - d) ∧ L = rimAt xs k low d i ∧ Box2 ((w6.setCell ⟨B5, 0, none⟩ (.int .i64 ((row : Int) - 1))).setCell ⟨B5, 1, none⟩ (.int .i64 (col : Nat))) B5 42 (.int .i64 (low - d : Nat)) (.int .i64 (fr xs k (low - d) + i : Nat))) ∨
               (L = rimUp xs k low (low + 1 - r) ∧ ∃ q : Nat, Box2 ((w6.setCell ⟨B5, 0, none⟩ (.int .i64 ((row : Int) - 1))).setCell ⟨B5, 1, none⟩ (.int .i64 (col : Nat))) B5 42 (.int .i64 ((r : Int) - 1)) (.int .i64 q))) := by
            intro w6 z6 y6 B6 s6 o6
            have z8 := (z6.set0 (.int .i64 ((row : Int) - 1))).set1 (.int .i64 (col : Nat))
            refine ⟨L ++ [(row, col)], HL.out.1, ownsRow_set2 o6 hB5c _ _, by simpa [World.setCell] using s6, (y6.other (g' := B5) (k := 0) hyB _).other (g' := B5) (k := 1) hyB _, (B6.setCell (Nat.le_of_lt HB5.out) _).setCell (Nat.le_of_lt HB5.out) _, hid ?_⟩
            by_cases hrw : row = r
            · refine .inr ⟨?_, col, ?_⟩
              · rw [← HL.out.2, show i + 1 = cn xs k (low - d) by have := HROW.out; have := HCOL.out; have := HU.out; rw [← HROW.out]; omega, rimAt_next, rimAt_up, show d + 1 = low + 1 - r by have := HROW.out; omega]
              · rw [← hrw]; exact z8
            · refine .inl ⟨d + 1, 0, by have := HROW.out; omega, ?_, ?_, ?_⟩
              · exact (HR.out.cn_pos (by omega)).2
              · rw [← HL.out.2, show i + 1 = cn xs k (low - d) by have := HROW.out; have := HCOL.out; have := HU.out; rw [← HROW.out]; omega, rimAt_next]
              · have hup := HR.out.fr_up (row := low - (d + 1)) (by have := HROW.out; omega)
                rw [show low - (d + 1) + 1 = row by have := HROW.out; omega, ← HX.out] at hup
                rw [show ((low - (d + 1) : Nat) : Int) = (row : Int) - 1 by have := HROW.out; omega, show ((fr xs k (low - (d + 1)) + 0 : Nat) : Int) = (col : Int) by have := HU.out; omega]
                exact z8
          have HF := hid FIN; clear FIN
          go_wp2_with fail
          go_region_with (first | (go_at_call 33; refine (end_any row col _ hr1000 hc1000).mono ?_; rintro e w3 ⟨rfl, b3⟩; have z3 := z2d.next b3; have y3 := y2d.next b3; have B3 := Below.next B2d b3; have p3 := z3.cell0; have q3 := z3.cell1) | (go_at_call 32; refine (letterAt_b A c xs (row + 1) (col + 1) _ hr1 hlr hl1000 (hc.later B3) 85 hlet).mono ?_; rintro e w4 ⟨rfl, b4⟩; have z4 := z3.next b4; have y4 := y3.next b4; have B4 := Below.next B3 b4; have p4 := z4.cell0; have q4 := z4.cell1) | (go_at_call 31; refine (stepOf_up _).mono ?_; rintro e w5 ⟨rfl, rfl⟩) | (go_at_call 39; refine (up_any (row : Int) col _ (by omega) (by omega)).mono ?_; rintro e w6 ⟨rfl, b6⟩; have z6 := z4.next b6; have y6 := y4.next b6; have B6 := Below.next B4 b6; have f1 := z6.cell0; have f2 := z6.froz 0; have z7 := z6.set0 (.int .i64 ((row : Int) - 1)); have f3 := z7.cell1; have f4 := z7.froz 1; have o6 := ownsRow_next (ownsRow_next (ownsRow_next HOD.out b3) b4) b6; have s6 := Nat.le_trans (Nat.le_trans (Nat.le_trans s2 b3.size) b4.size) b6.size; have HFI := hid (HF.out w6 z6 y6 B6 s6 o6)))
          all_goals go_wp2_with fail
          all_goals (go_roundw <;> first | exact HFI.out | (show 1000 - slen v' < 1000 - slen u6; rw [hsl, hslL]; omega))
        · have hlet : (if ((col + 1 : Nat) : Int) = xs.getD (row + 1 - 1) 0 then (85 : Int) else 82) = 82 := by rw [Nat.add_sub_cancel, ← HX.out, if_neg (by omega)]
          have HU := hid hU; clear hU
          have FIN : ∀ w6 : World, Box2 w6 B5 42 (.int .i64 row) (.int .i64 col) → Box2 w6 w.heap.size 42 (.int .i64 r) (.int .i64 k) → Below w.heap.size w w6 → wc.heap.size ≤ w6.heap.size → w6.ownsRow wc.heap.size 42 2 v' (L ++ [(row, col)]).length (PL (L ++ [(row, col)])) →
              ∃ L : List (Nat × Nat), L.length ≤ 930 ∧ ((w6.setCell ⟨B5, 0, none⟩ (.int .i64 (row : Nat))).setCell ⟨B5, 1, none⟩ (.int .i64 ((col + 1 : Nat) : Int))).ownsRow wc.heap.size 42 2 v' L.length (PL L) ∧ wc.heap.size ≤ ((w6.setCell ⟨B5, 0, none⟩ (.int .i64 (row : Nat))).setCell ⟨B5, 1, none⟩ (.int .i64 ((col + 1 : Nat) : Int))).heap.size ∧ Box2 ((w6.setCell ⟨B5, 0, none⟩ (.int .i64 (row : Nat))).setCell ⟨B5, 1, none⟩ (.int .i64 ((col + 1 : Nat) : Int))) w.heap.size 42 (.int .i64 r) (.int .i64 k) ∧ Below w.heap.size w ((w6.setCell ⟨B5, 0, none⟩ (.int .i64 (row : Nat))).setCell ⟨B5, 1, none⟩ (.int .i64 ((col + 1 : Nat) : Int))) ∧
              Hid ((∃ d i : Nat, d ≤ low - r ∧ i < cn xs k (low - d) ∧ L = rimAt xs k low d i ∧ Box2 ((w6.setCell ⟨B5, 0, none⟩ (.int .i64 (row : Nat))).setCell ⟨B5, 1, none⟩ (.int .i64 ((col + 1 : Nat) : Int))) B5 42 (.int .i64 (low - d : Nat)) (.int .i64 (fr xs k (low - d) + i : Nat))) ∨
               (L = rimUp xs k low (low + 1 - r) ∧ ∃ q : Nat, Box2 ((w6.setCell ⟨B5, 0, none⟩ (.int .i64 (row : Nat))).setCell ⟨B5, 1, none⟩ (.int .i64 ((col + 1 : Nat) : Int))) B5 42 (.int .i64 ((r : Int) - 1)) (.int .i64 q))) := by
            intro w6 z6 y6 B6 s6 o6
            have z8 := (z6.set0 (.int .i64 (row : Nat))).set1 (.int .i64 ((col + 1 : Nat) : Int))
            refine ⟨L ++ [(row, col)], HL.out.1, ownsRow_set2 o6 hB5c _ _, by simpa [World.setCell] using s6, (y6.other (g' := B5) (k := 0) hyB _).other (g' := B5) (k := 1) hyB _, (B6.setCell (Nat.le_of_lt HB5.out) _).setCell (Nat.le_of_lt HB5.out) _, hid ?_⟩
            refine .inl ⟨d, i + 1, by omega, ?_, HL.out.2.symm, ?_⟩
            · rw [← HROW.out]; have := HU.out; have := HCOL.out; omega
            · rw [← HROW.out, show fr xs k row + (i + 1) = col + 1 by have := HCOL.out; omega]; exact z8
          have HF := hid FIN; clear FIN
          go_wp2_with fail
          go_region_with (first | (go_at_call 33; refine (end_any row col _ hr1000 hc1000).mono ?_; rintro e w3 ⟨rfl, b3⟩; have z3 := z2d.next b3; have y3 := y2d.next b3; have B3 := Below.next B2d b3; have p3 := z3.cell0; have q3 := z3.cell1) | (go_at_call 32; refine (letterAt_b A c xs (row + 1) (col + 1) _ hr1 hlr hl1000 (hc.later B3) 82 hlet).mono ?_; rintro e w4 ⟨rfl, b4⟩; have z4 := z3.next b4; have y4 := y3.next b4; have B4 := Below.next B3 b4; have p4 := z4.cell0; have q4 := z4.cell1) | (go_at_call 31; refine (stepOf_right _).mono ?_; rintro e w5 ⟨rfl, rfl⟩) | (go_at_call 40; refine (right_any row col _ (by omega)).mono ?_; rintro e w6 ⟨rfl, b6⟩; have z6 := z4.next b6; have y6 := y4.next b6; have B6 := Below.next B4 b6; have f1 := z6.cell0; have f2 := z6.froz 0; have z7 := z6.set0 (.int .i64 (row : Nat)); have f3 := z7.cell1; have f4 := z7.froz 1; have o6 := ownsRow_next (ownsRow_next (ownsRow_next HOD.out b3) b4) b6; have s6 := Nat.le_trans (Nat.le_trans (Nat.le_trans s2 b3.size) b4.size) b6.size; have HFI := hid (HF.out w6 z6 y6 B6 s6 o6)))
          all_goals go_wp2_with fail
          all_goals (go_roundw <;> first | exact HFI.out | (show 1000 - slen v' < 1000 - slen u6; rw [hsl, hslL]; omega))
      · have e1 := zr.cell0
        have o2 := ownsRow_more (B' := w.heap.size) hown (Nat.le_of_lt ylt)
        rw [hLe] at o2
        have HO := hid o2
        clear hown o2 HS
        go_wp2_with fail
        go_ret
        exact ⟨_, rfl, HO.out, hbel⟩
end Go.Proofs.Ytnjaoaamcdohoaa
/-
  Contracts: RimHook of the program and of the model.
-/
namespace Go.Proofs.Ytnjaoaamcdohoaa
open Go.RowKit

def rimF (xs : List Int) (r k : Int) : List (List Int) := if atB xs r k then pairs (rimL xs r.toNat k.toNat) else []
theorem rimL_bd {xs : List Int} (G : Good xs) (r k : Nat) : (rimL xs r k).length ≤ 1000 := by
  unfold rimL
  have h := rimUp_len xs k ((colH xs k).toNat - 1) G.le ((colH xs k).toNat - r)
  have := colH_bound xs k
  have := G.len
  omega
theorem bound_RimHook (xs : List Int) (r k : Int) : (rimF xs r k).length ≤ 1048576 ∧ tot (rimF xs r k) ≤ 1048576 := by
  unfold rimF
  split
  · rename_i h
    simp only [atB, Bool.and_eq_true] at h
    have := rimL_bd ((good_iff xs).1 h.1) r.toNat k.toNat
    rw [pairs_len, tot_pairs]; omega
  · simp [tot]

theorem pl_cells {w : World} {B n cap g : Nat} {L : List (Nat × Nat)} (h : w.ownsRow B 42 2 (.slice (some ⟨g, 0, none⟩) n cap) n (PL L)) (hn : n = L.length) (j : Nat) (hj : j < L.length) :
    w.cell? ⟨g, 2 * j, none⟩ = some (.int .i64 ((L.getD j (0, 0)).1 : Int)) ∧ w.cell? ⟨g, 2 * j + 1, none⟩ = some (.int .i64 ((L.getD j (0, 0)).2 : Int)) := by
  have hg := PL_get L j hj
  rw [World.ownsRow.cellAt h (2 * j) (by omega), World.ownsRow.cellAt h (2 * j + 1) (by omega)]
  exact hg
theorem getD_take_succ (L : List (Nat × Nat)) (j : Nat) (h : j < L.length) : L.take (j + 1) = L.take j ++ [((L.getD j (0, 0)).1, (L.getD j (0, 0)).2)] := by
  rw [List.take_succ_eq_append_getElem h, List.getD_eq_getElem?_getD, List.getElem?_eq_getElem h]; rfl

set_option maxRecDepth 100000 in
set_option maxHeartbeats 2000000 in
theorem impl_RimHook (A : Option Addr) (c : Nat) (xs : List Int) (r k : Int) (w : World) (hl : xs.length ≤ 1048576) (hc : Cells w A xs) (_ : I64 r) (_ : I64 k) :
    Calls Try.prog 4 #[.slice A xs.length c, .int .i64 r, .int .i64 k] w fun e w' => ∃ A' c', e = .returned (.tuple #[.slice A' (rimF xs r k).length c', .bool (atB xs r k)]) ∧ Own2 w' w.heap.size w'.heap.size A' c' (rimF xs r k) ∧ Below w.heap.size w w' := by
  obtain ⟨i1, hj, hy0, hy1, hy2⟩ := info_parts Try.infoInts
  cases hat : atB xs r k
  · rw [show rimF xs r k = [] by simp [rimF, hat]]
    have HA := hid hat; clear hat
    go_enter Try.func4, Try.ntmps4
    go_wp2_with (go_at_call 18; refine (isCell_b _ _ _ _ _ _ hl hc _ HA.out).mono ?_; rintro e w' ⟨rfl, rfl⟩)
    go_ret2
    exact ⟨none, 0, rfl, own2_nil _ _ _, Below.refl _ _⟩
  have hat2 := hat
  simp only [atB, Bool.and_eq_true] at hat2
  obtain ⟨r', k', rfl, rfl, hr, hk⟩ := cellB_nat hat2.2
  have G := (good_iff xs).1 hat2.1
  have R := rim_ok G hr hk
  have hcb := colH_bound xs k'
  have hcol := R.col
  rw [show rimF xs r' k' = pairs (rimL xs r' k') by simp [rimF, hat]]
  obtain ⟨low, hlow⟩ : ∃ low, low = (colH xs k').toNat - 1 := ⟨_, rfl⟩
  have hL : rimL xs r' k' = rimUp xs k' low (low + 1 - r') := by unfold rimL; rw [← hlow, show (colH xs k').toNat - r' = low + 1 - r' by omega]
  rw [← hlow] at R
  have hbd := rimL_bd G r' k'
  obtain ⟨L, hLe⟩ : ∃ L, L = rimL xs r' k' := ⟨_, rfl⟩
  rw [← hLe] at hL hbd ⊢
  rw [pairs_len]
  have HA := hid hat; have HR := hid R; have HL := hid hL
  clear hat hat2 G R hlow hcol hcb hL hLe
  go_enter Try.func4, Try.ntmps4
  go_wp2_with (first | (go_at_call 18; refine (isCell_b _ _ _ _ _ _ hl hc _ HA.out).mono ?_; rintro e w' ⟨rfl, rfl⟩) | (go_at_call 19; refine (rimOf_any _ _ _ _ _ _ _ HR.out hc).mono ?_; rw [← HL.out]; rintro e w1 ⟨v, rfl, o1, b1⟩; obtain ⟨A1, c1, rfl⟩ := ownsRow_slice o1))
  have z1 := b1.size
  go_loopw [8, 10, 22] (fun v _ i wr => ∃ j : Nat, j ≤ L.length ∧ i = .int .i64 j ∧ (∃ P C, Push wr w1.heap.size v (pairs (L.take j)) P C) ∧ Below w1.heap.size w1 wr) (fun _ _ i _ => L.length - (intOf i).toNat)
  case atStart => exact ⟨0, Nat.zero_le _, rfl, ⟨_, _, push_nil _ _⟩, Below.refl _ _⟩
  case round =>
    obtain ⟨j, hjL, rfl, ⟨P, C, hpush⟩, hbel⟩ := hrel
    have HP := hid hpush; clear hpush
    have hsz := hbel.size
    by_cases hlt : j < L.length
    · obtain ⟨g, rfl⟩ : ∃ g, A1 = some ⟨g, 0, none⟩ := by
        rcases o1.2 with ⟨_, h0⟩ | ⟨g, cap, cur, hv, _⟩
        · omega
        · exact ⟨g, by injection hv⟩
      obtain ⟨h1, h2⟩ := pl_cells o1 rfl j hlt
      have hgl : g < w1.heap.size := World.block_lt_of_cell? w1 _ h1
      have h1r := (hbel.cell (p := ⟨g, 2 * j, none⟩) hgl).trans h1
      have h2r := (hbel.cell (p := ⟨g, 2 * j + 1, none⟩) hgl).trans h2
      have HT := hid (getD_take_succ L j hlt)
      obtain ⟨a, ha⟩ : ∃ a, a = (L.getD j (0, 0)).1 := ⟨_, rfl⟩
      obtain ⟨b, hb⟩ : ∃ b, b = (L.getD j (0, 0)).2 := ⟨_, rfl⟩
      rw [← ha] at h1r HT
      rw [← hb] at h2r HT
      rw [Nat.mul_comm 2 j] at h1r h2r
      clear h1 h2 ha hb
      have ho2 : Own ((wr.alloc (.cells #[.int .i64 a, .int .i64 b] 42)).alloc (.cells #[.int .i64 a, .int .i64 b] 3)) wr.heap.size (some ⟨wr.heap.size + 1, 0, none⟩) 2 [(a : Int), (b : Int)] := by
        have h := own_two (wr.alloc (.cells #[.int .i64 a, .int .i64 b] 42)) wr.heap.size (by simp) a b
        rw [World.size_alloc] at h; exact h
      have hbw : Below wr.heap.size wr ((wr.alloc (.cells #[.int .i64 a, .int .i64 b] 42)).alloc (.cells #[.int .i64 a, .int .i64 b] 3)) := ((Below.refl _ _).alloc (Nat.le_refl _) _).alloc (by simp) _
      have hszw : ((wr.alloc (.cells #[.int .i64 a, .int .i64 b] 42)).alloc (.cells #[.int .i64 a, .int .i64 b] 3)).heap.size = wr.heap.size + 1 + 1 := by simp
      have hpl : (pairs (L.take j)).length = j := by rw [pairs_len, List.length_take]; omega
      have HPL := hid hpl; clear hpl
      go_wp2_with (at_builtin; refine wpList_append_own _ rfl _ _ 23 rfl w1.heap.size 22 i1 (.slice none 0 0) 1 24 Try.underlying23 hj hy0 hy1 hy2 rfl (by decide) _ _ _ rfl ((HP.out.below hbw).out.alloc _) ⟨wr.heap.size + 1 + 1, 0, none⟩ 1 1 [.slice (some ⟨wr.heap.size + 1, 0, none⟩) 2 2] rfl rfl (one_at_n hszw) (one_cellS _ _ _) (by have := HPL.out; unfold maxLen; omega) (by have := HPL.out; omega) (by simp; omega) ?_)
      intro v' w2 hown' hgrow _
      have hb1 : Below w1.heap.size w1 w2 := ((hbel.trans (hbw.mono hsz)).alloc (by simp; omega) _).grown hgrow (by simp; omega) (fun q hq => (HP.out.out.lt q hq).1)
      have hp2 := HP.out.push hbw ho2 hsz hown' hgrow
      rw [← pairs_snoc, ← HT.out] at hp2
      have HP2 := hid hp2
      clear hown' hgrow hp2
      go_wp2_with fail
      go_roundw
      case rel => exact ⟨j + 1, by omega, by go_num, ⟨_, _, HP2.out⟩, hb1⟩
      case measure => simp [intOf]; omega
    · have hjl : j = L.length := by omega
      subst hjl
      obtain ⟨A', c', rfl, ho⟩ := HP.out.own2
      rw [List.take_of_length_le (Nat.le_refl _)] at ho ⊢
      rw [pairs_len]
      go_wp2_with fail
      go_ret2
      exact ⟨A', c', rfl, ho.more z1, Below.next b1 hbel⟩

theorem l1Most_v (a b f : Int) (w : World) (h : f = if b < a then a else b) :
    Calls Try.prog 23 #[.int .i64 a, .int .i64 b] w fun e w' => e = .returned (.int .i64 f) ∧ w = w' := by
  by_cases hb : b < a
  · rw [if_pos hb] at h; subst h
    go_enter Try.func23, Try.ntmps23
    go_wp2
    go_ret
    exact ⟨rfl, rfl⟩
  · rw [if_neg hb] at h; subst h
    go_enter Try.func23, Try.ntmps23
    go_wp2
    go_ret
    exact ⟨rfl, rfl⟩
theorem Cells.at_row {w : World} {b o : Nat} {xs : List Int} (h : Cells w (some ⟨b, o, none⟩) xs) {j : Nat} (hj : j < xs.length) : w.cell? ⟨b, o + j, none⟩ = some (.int .i64 (xs.getD j 0)) := by
  obtain ⟨b', o', e, hc⟩ := h (by omega)
  injection e with e; injection e with e1 e2
  subst e1 e2
  exact hc j hj

set_option maxRecDepth 100000 in
set_option maxHeartbeats 4000000 in
theorem spec_RimHook (A : Option Addr) (c : Nat) (xs : List Int) (r k : Int) (w : World) (hl : xs.length ≤ 1048576) (hc : Cells w A xs) (hr64 : I64 r) (hk64 : I64 k) :
    Calls Try.prog 5 #[.slice A xs.length c, .int .i64 r, .int .i64 k] w fun e w' => ∃ A' c', e = .returned (.tuple #[.slice A' (rimF xs r k).length c', .bool (atB xs r k)]) ∧ Own2 w' w.heap.size w'.heap.size A' c' (rimF xs r k) ∧ Below w.heap.size w w' := by
  obtain ⟨i1, hj, hy0, hy1, hy2⟩ := info_parts Try.infoInts
  cases hg : good xs
  · have hat : atB xs r k = false := by simp [atB, hg]
    rw [show rimF xs r k = [] by simp [rimF, hat], hat]
    have HG := hid hg; clear hg hat
    go_enter Try.func5, Try.ntmps5
    go_wp2_with (go_at_call 20; refine (ptGood_b _ _ _ _ hl hc _ HG.out).mono ?_; rintro e w' ⟨rfl, n, rfl⟩)
    go_ret2
    exact ⟨none, 0, rfl, own2_nil _ _ _, below_drew' _ _⟩
  cases hb : cellB xs r k
  · have hat : atB xs r k = false := by simp [atB, hb]
    rw [show rimF xs r k = [] by simp [rimF, hat], hat]
    have HG := hid hg; have HB := hid hb; clear hg hat hb
    go_enter Try.func5, Try.ntmps5
    go_wp2_with (first | (go_at_call 20; refine (ptGood_b _ _ _ _ hl hc _ HG.out).mono ?_; rintro e w' ⟨rfl, n, rfl⟩) | (go_at_call 21; refine (ptCell_b _ _ _ _ _ _ HG.out hr64 hk64 (by exact hc) _ HB.out).mono ?_; rintro e w' ⟨rfl, rfl⟩))
    go_ret2
    exact ⟨none, 0, rfl, own2_nil _ _ _, below_drew' _ _⟩
  have hat : atB xs r k = true := by simp [atB, hg, hb]
  obtain ⟨r', k', rfl, rfl, hr, hk⟩ := cellB_nat hb
  have G := (good_iff xs).1 hg
  have R := rim_ok G hr hk
  have hcb := colH_bound xs k'
  have hcol := R.col
  rw [show rimF xs r' k' = pairs (rimL xs r' k') by simp [rimF, hat], hat]
  obtain ⟨low, hlow⟩ : ∃ low, low = (colH xs k').toNat - 1 := ⟨_, rfl⟩
  have hL : rimL xs r' k' = rimUp xs k' low (low + 1 - r') := by unfold rimL; rw [← hlow, show (colH xs k').toNat - r' = low + 1 - r' by omega]
  rw [← hlow] at R
  rw [hL, pairs_len]
  have hlen := G.len
  have hlt := R.low_lt
  have hrl := R.r_le
  have hkc : k' < (cols xs).length := col_lt G hr hk
  have hck : (cols xs).getD k' 0 = (low : Int) + 1 := by rw [cols_get xs k' (by rw [cols_len] at hkc; exact hkc), R.col]
  have hk30 : (k' : Int) ≤ 30 := by have := R.le30 hrl; omega
  have HR := hid R; have HG2 := hid G; have HG := hid hg; have HB := hid hb
  clear hat G R hlow hcol hcb hL hg hb hk
  go_enter Try.func5, Try.ntmps5
  go_wp2_with (first | (go_at_call 20; refine (ptGood_b _ _ _ _ hl hc _ HG.out).mono ?_; rintro e w' ⟨rfl, n, rfl⟩) | (go_at_call 21; refine (ptCell_b _ _ _ _ _ _ HG.out hr64 hk64 (by exact hc) _ HB.out).mono ?_; rintro e w' ⟨rfl, rfl⟩) | (go_at_call 22; refine (ptTurn_any _ _ _ _ HG2.out (by exact hc)).mono ?_; rintro e w1 ⟨A1, c1, rfl, o1, b1⟩; obtain ⟨b3, o3, rfl, hcol⟩ := o1.cells.get hkc; rw [hck] at hcol))
  have B1 : Below w.heap.size w w1 := Below.next (below_drew' w n) b1
  have z1 := B1.size
  clear o1 hcol
  go_loopw [8, 9, 10, 11] (fun v i _ _ wr => ∃ d : Nat, d ≤ low + 1 - r' ∧ i = .int .i64 ((low : Int) - d) ∧ (∃ P C, Push wr w1.heap.size v (pairs (rimUp xs k' low d)) P C) ∧ Below w1.heap.size w1 wr) (fun _ i _ _ _ => (intOf i + 1 - r').toNat)
  case atStart => exact ⟨0, Nat.zero_le _, by simp, ⟨_, _, push_nil _ _⟩, Below.refl _ _⟩
  case round =>
    obtain ⟨d, hd, rfl, ⟨P, C, hpush⟩, hbel⟩ := hrel
    have HP := hid hpush; clear hpush
    have hsz := hbel.size
    by_cases hgo : d < low + 1 - r'
    · obtain ⟨row, hrow⟩ : ∃ row : Nat, row = low - d := ⟨_, rfl⟩
      have hri : (low : Int) - d = (row : Int) := by omega
      rw [hri]
      have hrr : (r' : Int) ≤ row := by omega
      have hrowl : row ≤ low := by omega
      have hcr := hc.later (Below.next B1 hbel)
      obtain ⟨b, o, rfl, hcc⟩ := hcr (by omega)
      have hcrow := hcc row (by omega)
      have h30 := HR.out.le30 hrowl
      have hfl := HR.out.fr_lt hrowl
      have hcn := HR.out.cn_pos hrowl
      obtain ⟨f, hf⟩ : ∃ f, f = fr xs k' row := ⟨_, rfl⟩
      have hfv : (f : Int) = if (k' : Int) ≤ xs.getD (row + 1) 0 - 1 then xs.getD (row + 1) 0 - 1 else k' := by rw [hf]; unfold fr; split <;> omega
      rw [← hf] at hfl hcn
      have HROW := hid hrow
      have HF := hid hf
      obtain ⟨x, hx⟩ : ∃ x, x = xs.getD row 0 := ⟨_, rfl⟩
      rw [← hx] at hcrow h30 hfl hcn
      have HX := hid hx
      have hrl0 : row < xs.length := by omega
      obtain ⟨wo, rfl⟩ : ∃ wo : World, wo = wr := ⟨_, rfl⟩
      by_cases hn : row + 1 < xs.length
      · have hcn1 := hcc (row + 1) hn
        have hyb := HG2.out.pos (row + 1) hn
        have hyb2 := HG2.out.le (row + 1) hn
        obtain ⟨y, hy⟩ : ∃ y, y = xs.getD (row + 1) 0 := ⟨_, rfl⟩
        rw [← hy] at hcn1 hyb hyb2 hfv
        have hnn : (row : Int) + 1 < xs.length := by omega
        have hfv2 : (f : Int) = if y - 1 < (k' : Int) then (k' : Int) else y - 1 := by rw [hfv]; split <;> split <;> omega
        have HFV := hid hfv2
        clear hy hcc hx hf hrow hfv hfv2
        go_wp2_with (go_at_call 23; refine (l1Most_v (k' : Int) (y - 1) f _ HFV.out).mono ?_; rintro e w' ⟨rfl, rfl⟩)
        go_loopw [8, 11] (fun v av wi => ∃ i : Nat, i ≤ cn xs k' row ∧ av = .int .i64 ((f : Int) + i) ∧ (∃ P C, Push wi w1.heap.size v (pairs (rimAt xs k' low d i)) P C) ∧ Below w1.heap.size w1 wi) (fun _ av _ => (x - intOf av).toNat)
        case atStart => exact ⟨0, Nat.zero_le _, by simp, ⟨P, C, by rw [rimAt_up]; exact HP.out⟩, hbel⟩
        case round =>
          obtain ⟨i, hi, rfl, ⟨P2, C2, hpush2⟩, hbel2⟩ := hrel
          have HP2 := hid hpush2; clear hpush2
          have hsz2 := hbel2.size
          have hcrow2 : wr.cell? ⟨b, o + row, none⟩ = some (.int .i64 x) := ((hc.later (Below.next B1 hbel2)).at_row hrl0).trans (by rw [HX.out])
          by_cases hlti : i < cn xs k' row
          · have hfi : (f : Int) + i < x := by omega
            have hbd := HR.out.len d i (by omega) (by omega)
            have HBD := hid hbd; clear hbd
            have e1 : (f : Int) + i = ((f + i : Nat) : Int) := by omega
            have ho2 : Own (wr.alloc (.cells #[.int .i64 row, .int .i64 ((f : Int) + i)] 3)) wr.heap.size (some ⟨wr.heap.size, 0, none⟩) 2 [(row : Int), ((f + i : Nat) : Int)] := by rw [e1]; exact own_two wr wr.heap.size (Nat.le_refl _) row ((f + i : Nat) : Int)
            have hbw : Below wr.heap.size wr (wr.alloc (.cells #[.int .i64 row, .int .i64 ((f : Int) + i)] 3)) := (Below.refl _ _).alloc (Nat.le_refl _) _
            have hszw : (wr.alloc (.cells #[.int .i64 row, .int .i64 ((f : Int) + i)] 3)).heap.size = wr.heap.size + 1 := by simp
            have hpl := pairs_len (rimAt xs k' low d i)
            have HPL := hid hpl; clear hpl e1
            go_wp2_with (at_builtin; refine wpList_append_own _ rfl _ _ 23 rfl w1.heap.size 22 i1 (.slice none 0 0) 1 24 Try.underlying23 hj hy0 hy1 hy2 rfl (by decide) _ _ _ rfl ((HP2.out.below hbw).out.alloc _) ⟨wr.heap.size + 1, 0, none⟩ 1 1 [.slice (some ⟨wr.heap.size, 0, none⟩) 2 2] rfl rfl (one_at_n hszw) (one_cellS _ _ _) (by have := HPL.out; have := HBD.out; unfold maxLen; omega) (by have := HPL.out; have := HBD.out; omega) (by simp; omega) ?_)
            intro v' w2 hown' hgrow _
            have hb1 : Below w1.heap.size w1 w2 := ((hbel2.trans (hbw.mono hsz2)).alloc (by simp; omega) _).grown hgrow (by simp; omega) (fun q hq => (HP2.out.out.lt q hq).1)
            have hp2 := HP2.out.push hbw ho2 hsz2 hown' hgrow
            have hs := rimAt_succ xs k' low d i
            rw [← HROW.out, ← HF.out] at hs
            rw [← pairs_snoc, ← hs] at hp2
            have HP3 := hid hp2
            clear hown' hgrow hp2 hs
            go_wp2_with fail
            go_roundw
            case rel => exact ⟨i + 1, by omega, by congr 1 <;> omega, ⟨_, _, HP3.out⟩, hb1⟩
            case measure => simp [intOf]; omega
          · have hie : i = cn xs k' row := by omega
            have hfi : x ≤ (f : Int) + i := by omega
            have hp3 := HP2.out
            rw [hie, HROW.out, rimAt_next, rimAt_up] at hp3
            have HP3 := hid hp3
            clear hp3
            go_wp2_with fail
            go_roundw
            case rel => exact ⟨d + 1, by omega, by congr 1; omega, ⟨_, _, HP3.out⟩, hbel2⟩
            case measure => simp [intOf]; omega
      · have hy0' : xs.getD (row + 1) 0 = 0 := by rw [List.getD_eq_getElem?_getD, List.getElem?_eq_none (by omega)]; rfl
        rw [hy0', if_neg (by omega)] at hfv
        have hfk : k' = f := by omega
        have hnn : ¬ (row : Int) + 1 < xs.length := by omega
        clear hcc hx hf hrow hfv hy0'
        subst hfk
        go_wp2_with fail
        go_loopw [8, 11] (fun v av wi => ∃ i : Nat, i ≤ cn xs k' row ∧ av = .int .i64 ((k' : Int) + i) ∧ (∃ P C, Push wi w1.heap.size v (pairs (rimAt xs k' low d i)) P C) ∧ Below w1.heap.size w1 wi) (fun _ av _ => (x - intOf av).toNat)
        case atStart => exact ⟨0, Nat.zero_le _, by simp, ⟨P, C, by rw [rimAt_up]; exact HP.out⟩, hbel⟩
        case round =>
          obtain ⟨i, hi, rfl, ⟨P2, C2, hpush2⟩, hbel2⟩ := hrel
          have HP2 := hid hpush2; clear hpush2
          have hsz2 := hbel2.size
          have hcrow2 : wr.cell? ⟨b, o + row, none⟩ = some (.int .i64 x) := ((hc.later (Below.next B1 hbel2)).at_row hrl0).trans (by rw [HX.out])
          by_cases hlti : i < cn xs k' row
          · have hfi : (k' : Int) + i < x := by omega
            have hbd := HR.out.len d i (by omega) (by omega)
            have HBD := hid hbd; clear hbd
            have e1 : (k' : Int) + i = ((k' + i : Nat) : Int) := by omega
            have ho2 : Own (wr.alloc (.cells #[.int .i64 row, .int .i64 ((k' : Int) + i)] 3)) wr.heap.size (some ⟨wr.heap.size, 0, none⟩) 2 [(row : Int), ((k' + i : Nat) : Int)] := by rw [e1]; exact own_two wr wr.heap.size (Nat.le_refl _) row ((k' + i : Nat) : Int)
            have hbw : Below wr.heap.size wr (wr.alloc (.cells #[.int .i64 row, .int .i64 ((k' : Int) + i)] 3)) := (Below.refl _ _).alloc (Nat.le_refl _) _
            have hszw : (wr.alloc (.cells #[.int .i64 row, .int .i64 ((k' : Int) + i)] 3)).heap.size = wr.heap.size + 1 := by simp
            have hpl := pairs_len (rimAt xs k' low d i)
            have HPL := hid hpl; clear hpl e1
            go_wp2_with (at_builtin; refine wpList_append_own _ rfl _ _ 23 rfl w1.heap.size 22 i1 (.slice none 0 0) 1 24 Try.underlying23 hj hy0 hy1 hy2 rfl (by decide) _ _ _ rfl ((HP2.out.below hbw).out.alloc _) ⟨wr.heap.size + 1, 0, none⟩ 1 1 [.slice (some ⟨wr.heap.size, 0, none⟩) 2 2] rfl rfl (one_at_n hszw) (one_cellS _ _ _) (by have := HPL.out; have := HBD.out; unfold maxLen; omega) (by have := HPL.out; have := HBD.out; omega) (by simp; omega) ?_)
            intro v' w2 hown' hgrow _
            have hb1 : Below w1.heap.size w1 w2 := ((hbel2.trans (hbw.mono hsz2)).alloc (by simp; omega) _).grown hgrow (by simp; omega) (fun q hq => (HP2.out.out.lt q hq).1)
            have hp2 := HP2.out.push hbw ho2 hsz2 hown' hgrow
            have hs := rimAt_succ xs k' low d i
            rw [← HROW.out, ← HF.out] at hs
            rw [← pairs_snoc, ← hs] at hp2
            have HP3 := hid hp2
            clear hown' hgrow hp2 hs
            go_wp2_with fail
            go_roundw
            case rel => exact ⟨i + 1, by omega, by congr 1 <;> omega, ⟨_, _, HP3.out⟩, hb1⟩
            case measure => simp [intOf]; omega
          · have hie : i = cn xs k' row := by omega
            have hfi : x ≤ (k' : Int) + i := by omega
            have hp3 := HP2.out
            rw [hie, HROW.out, rimAt_next, rimAt_up] at hp3
            have HP3 := hid hp3
            clear hp3
            go_wp2_with fail
            go_roundw
            case rel => exact ⟨d + 1, by omega, by congr 1; omega, ⟨_, _, HP3.out⟩, hbel2⟩
            case measure => simp [intOf]; omega
    · have hde : d = low + 1 - r' := by omega
      have hir : (low : Int) - d = (r' : Int) - 1 := by omega
      rw [hir]
      subst hde
      obtain ⟨A', c', rfl, ho⟩ := HP.out.own2
      rw [pairs_len]
      go_wp2_with fail
      go_ret2
      exact ⟨A', c', rfl, ho.more z1, Below.next B1 hbel⟩
end Go.Proofs.Ytnjaoaamcdohoaa
