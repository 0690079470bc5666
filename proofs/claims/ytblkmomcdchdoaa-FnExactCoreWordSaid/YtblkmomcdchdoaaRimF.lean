/-
  Contracts: RimHook of the program and of the model.
-/
import Derived.Test.YtblkmomcdchdoaaRim
import Derived.Test.YtblkmomcdchdoaaCB
namespace Go.Proofs.Ytblkmomcdchdoaa
open Go.RowKit

def rimF (xs : List Int) (r k : Int) : List (List Int) := if atB xs r k then pairs (rimL xs r.toNat k.toNat) else []
theorem rimL_bd {xs : List Int} (G : Good xs) (r k : Nat) : (rimL xs r k).length ≤ 1000 := by
  unfold rimL
  have h := rimUp_len xs k ((colH xs k).toNat - 1) G.le ((colH xs k).toNat - r)
  have := colH_bound xs k
  have := G.len
  omega
theorem bound_RimHook (xs : List Int) (r k : Int) : (rimF xs r k).length ≤ 1048576 ∧ tot (rimF xs r k) ≤ 1048576 := by
  unfold rimF
  split
  · rename_i h
    simp only [atB, Bool.and_eq_true] at h
    have := rimL_bd ((good_iff xs).1 h.1) r.toNat k.toNat
    rw [pairs_len, tot_pairs]; omega
  · simp [tot]

theorem pl_cells {w : World} {B n cap g : Nat} {L : List (Nat × Nat)} (h : w.ownsRow B 59 2 (.slice (some ⟨g, 0, none⟩) n cap) n (PL L)) (hn : n = L.length) (j : Nat) (hj : j < L.length) :
    w.cell? ⟨g, 2 * j, none⟩ = some (.int .i64 ((L.getD j (0, 0)).1 : Int)) ∧ w.cell? ⟨g, 2 * j + 1, none⟩ = some (.int .i64 ((L.getD j (0, 0)).2 : Int)) := by
  have hg := PL_get L j hj
  rw [World.ownsRow.cellAt h (2 * j) (by omega), World.ownsRow.cellAt h (2 * j + 1) (by omega)]
  exact hg
theorem getD_take_succ (L : List (Nat × Nat)) (j : Nat) (h : j < L.length) : L.take (j + 1) = L.take j ++ [((L.getD j (0, 0)).1, (L.getD j (0, 0)).2)] := by
  rw [List.take_succ_eq_append_getElem h, List.getD_eq_getElem?_getD, List.getElem?_eq_getElem h]; rfl

set_option maxRecDepth 100000 in
set_option maxHeartbeats 2000000 in
theorem impl_RimHook (A : Option Addr) (c : Nat) (xs : List Int) (r k : Int) (w : World) (hl : xs.length ≤ 1048576) (hc : Cells w A xs) (_ : I64 r) (_ : I64 k) :
    Calls Try.prog 35 #[.slice A xs.length c, .int .i64 r, .int .i64 k] w fun e w' => ∃ A' c', e = .returned (.tuple #[.slice A' (rimF xs r k).length c', .bool (atB xs r k)]) ∧ Own2 w' w.heap.size w'.heap.size A' c' (rimF xs r k) ∧ Below w.heap.size w w' := by
  obtain ⟨i1, hj, hy0, hy1, hy2⟩ := info_parts Try.infoInts
  cases hat : atB xs r k
  · rw [show rimF xs r k = [] by simp [rimF, hat]]
    have HA := hid hat; clear hat
    go_enter Try.func35, Try.ntmps35
    go_wp2_with (go_at_call 70; refine (isCell_b _ _ _ _ _ _ hl hc _ HA.out).mono ?_; rintro e w' ⟨rfl, rfl⟩)
    go_ret2
    exact ⟨none, 0, rfl, own2_nil _ _ _, Below.refl _ _⟩
  have hat2 := hat
  simp only [atB, Bool.and_eq_true] at hat2
  obtain ⟨r', k', rfl, rfl, hr, hk⟩ := cellB_nat hat2.2
  have G := (good_iff xs).1 hat2.1
  have R := rim_ok G hr hk
  have hcb := colH_bound xs k'
  have hcol := R.col
  rw [show rimF xs r' k' = pairs (rimL xs r' k') by simp [rimF, hat]]
  obtain ⟨low, hlow⟩ : ∃ low, low = (colH xs k').toNat - 1 := ⟨_, rfl⟩
  have hL : rimL xs r' k' = rimUp xs k' low (low + 1 - r') := by unfold rimL; rw [← hlow, show (colH xs k').toNat - r' = low + 1 - r' by omega]
  rw [← hlow] at R
  have hbd := rimL_bd G r' k'
  obtain ⟨L, hLe⟩ : ∃ L, L = rimL xs r' k' := ⟨_, rfl⟩
  rw [← hLe] at hL hbd ⊢
  rw [pairs_len]
  have HA := hid hat; have HR := hid R; have HL := hid hL
  clear hat hat2 G R hlow hcol hcb hL hLe
  go_enter Try.func35, Try.ntmps35
  go_wp2_with (first | (go_at_call 70; refine (isCell_b _ _ _ _ _ _ hl hc _ HA.out).mono ?_; rintro e w' ⟨rfl, rfl⟩) | (go_at_call 76; refine (rimOf_any _ _ _ _ _ _ _ HR.out hc).mono ?_; rw [← HL.out]; rintro e w1 ⟨v, rfl, o1, b1⟩; obtain ⟨A1, c1, rfl⟩ := ownsRow_slice o1))
  have z1 := b1.size
  go_loopw [8, 10, 22] (fun v _ i wr => ∃ j : Nat, j ≤ L.length ∧ i = .int .i64 j ∧ (∃ P C, Push wr w1.heap.size v (pairs (L.take j)) P C) ∧ Below w1.heap.size w1 wr) (fun _ _ i _ => L.length - (intOf i).toNat)
  case atStart => exact ⟨0, Nat.zero_le _, rfl, ⟨_, _, push_nil _ _⟩, Below.refl _ _⟩
  case round =>
    obtain ⟨j, hjL, rfl, ⟨P, C, hpush⟩, hbel⟩ := hrel
    have HP := hid hpush; clear hpush
    have hsz := hbel.size
    by_cases hlt : j < L.length
    · obtain ⟨g, rfl⟩ : ∃ g, A1 = some ⟨g, 0, none⟩ := by
        rcases o1.2 with ⟨_, h0⟩ | ⟨g, cap, cur, hv, _⟩
        · omega
        · exact ⟨g, by injection hv⟩
      obtain ⟨h1, h2⟩ := pl_cells o1 rfl j hlt
      have hgl : g < w1.heap.size := World.block_lt_of_cell? w1 _ h1
      have h1r := (hbel.cell (p := ⟨g, 2 * j, none⟩) hgl).trans h1
      have h2r := (hbel.cell (p := ⟨g, 2 * j + 1, none⟩) hgl).trans h2
      have HT := hid (getD_take_succ L j hlt)
      obtain ⟨a, ha⟩ : ∃ a, a = (L.getD j (0, 0)).1 := ⟨_, rfl⟩
      obtain ⟨b, hb⟩ : ∃ b, b = (L.getD j (0, 0)).2 := ⟨_, rfl⟩
      rw [← ha] at h1r HT
      rw [← hb] at h2r HT
      rw [Nat.mul_comm 2 j] at h1r h2r
      clear h1 h2 ha hb
      have ho2 : Own ((wr.alloc (.cells #[.int .i64 a, .int .i64 b] 59)).alloc (.cells #[.int .i64 a, .int .i64 b] 3)) wr.heap.size (some ⟨wr.heap.size + 1, 0, none⟩) 2 [(a : Int), (b : Int)] := by
        have h := own_two (wr.alloc (.cells #[.int .i64 a, .int .i64 b] 59)) wr.heap.size (by simp) a b
        rw [World.size_alloc] at h; exact h
      have hbw : Below wr.heap.size wr ((wr.alloc (.cells #[.int .i64 a, .int .i64 b] 59)).alloc (.cells #[.int .i64 a, .int .i64 b] 3)) := ((Below.refl _ _).alloc (Nat.le_refl _) _).alloc (by simp) _
      have hszw : ((wr.alloc (.cells #[.int .i64 a, .int .i64 b] 59)).alloc (.cells #[.int .i64 a, .int .i64 b] 3)).heap.size = wr.heap.size + 1 + 1 := by simp
      have hpl : (pairs (L.take j)).length = j := by rw [pairs_len, List.length_take]; omega
      have HPL := hid hpl; clear hpl
      go_wp2_with (at_builtin; refine wpList_append_own _ rfl _ _ 32 rfl w1.heap.size 22 i1 (.slice none 0 0) 1 24 Try.underlying32 hj hy0 hy1 hy2 rfl (by decide) _ _ _ rfl ((HP.out.below hbw).out.alloc _) ⟨wr.heap.size + 1 + 1, 0, none⟩ 1 1 [.slice (some ⟨wr.heap.size + 1, 0, none⟩) 2 2] rfl rfl (one_at_n hszw) (one_cellS _ _ _) (by have := HPL.out; unfold maxLen; omega) (by have := HPL.out; omega) (by simp; omega) ?_)
      intro v' w2 hown' hgrow _
      have hb1 : Below w1.heap.size w1 w2 := ((hbel.trans (hbw.mono hsz)).alloc (by simp; omega) _).grown hgrow (by simp; omega) (fun q hq => (HP.out.out.lt q hq).1)
      have hp2 := HP.out.push hbw ho2 hsz hown' hgrow
      rw [← pairs_snoc, ← HT.out] at hp2
      have HP2 := hid hp2
      clear hown' hgrow hp2
      go_wp2_with fail
      go_roundw
      case rel => exact ⟨j + 1, by omega, by go_num, ⟨_, _, HP2.out⟩, hb1⟩
      case measure => simp [intOf]; omega
    · have hjl : j = L.length := by omega
      subst hjl
      obtain ⟨A', c', rfl, ho⟩ := HP.out.own2
      rw [List.take_of_length_le (Nat.le_refl _)] at ho ⊢
      rw [pairs_len]
      go_wp2_with fail
      go_ret2
      exact ⟨A', c', rfl, ho.more z1, Below.next b1 hbel⟩

theorem l1Most_v (a b f : Int) (w : World) (h : f = if b < a then a else b) :
    Calls Try.prog 75 #[.int .i64 a, .int .i64 b] w fun e w' => e = .returned (.int .i64 f) ∧ w = w' := by
  by_cases hb : b < a
  · rw [if_pos hb] at h; subst h
    go_enter Try.func75, Try.ntmps75
    go_wp2
    go_ret
    exact ⟨rfl, rfl⟩
  · rw [if_neg hb] at h; subst h
    go_enter Try.func75, Try.ntmps75
    go_wp2
    go_ret
    exact ⟨rfl, rfl⟩
theorem Cells.at_row {w : World} {b o : Nat} {xs : List Int} (h : Cells w (some ⟨b, o, none⟩) xs) {j : Nat} (hj : j < xs.length) : w.cell? ⟨b, o + j, none⟩ = some (.int .i64 (xs.getD j 0)) := by
  obtain ⟨b', o', e, hc⟩ := h (by omega)
  injection e with e; injection e with e1 e2
  subst e1 e2
  exact hc j hj

set_option maxRecDepth 100000 in
set_option maxHeartbeats 4000000 in
theorem spec_RimHook (A : Option Addr) (c : Nat) (xs : List Int) (r k : Int) (w : World) (hl : xs.length ≤ 1048576) (hc : Cells w A xs) (hr64 : I64 r) (hk64 : I64 k) :
    Calls Try.prog 34 #[.slice A xs.length c, .int .i64 r, .int .i64 k] w fun e w' => ∃ A' c', e = .returned (.tuple #[.slice A' (rimF xs r k).length c', .bool (atB xs r k)]) ∧ Own2 w' w.heap.size w'.heap.size A' c' (rimF xs r k) ∧ Below w.heap.size w w' := by
  obtain ⟨i1, hj, hy0, hy1, hy2⟩ := info_parts Try.infoInts
  cases hg : good xs
  · have hat : atB xs r k = false := by simp [atB, hg]
    rw [show rimF xs r k = [] by simp [rimF, hat], hat]
    have HG := hid hg; clear hg hat
    go_enter Try.func34, Try.ntmps34
    go_wp2_with (go_at_call 64; refine (ptGood_b _ _ _ _ hl hc _ HG.out).mono ?_; rintro e w' ⟨rfl, n, rfl⟩)
    go_ret2
    exact ⟨none, 0, rfl, own2_nil _ _ _, below_drew' _ _⟩
  cases hb : cellB xs r k
  · have hat : atB xs r k = false := by simp [atB, hb]
    rw [show rimF xs r k = [] by simp [rimF, hat], hat]
    have HG := hid hg; have HB := hid hb; clear hg hat hb
    go_enter Try.func34, Try.ntmps34
    go_wp2_with (first | (go_at_call 64; refine (ptGood_b _ _ _ _ hl hc _ HG.out).mono ?_; rintro e w' ⟨rfl, n, rfl⟩) | (go_at_call 68; refine (ptCell_b _ _ _ _ _ _ HG.out hr64 hk64 (by exact hc) _ HB.out).mono ?_; rintro e w' ⟨rfl, rfl⟩))
    go_ret2
    exact ⟨none, 0, rfl, own2_nil _ _ _, below_drew' _ _⟩
  have hat : atB xs r k = true := by simp [atB, hg, hb]
  obtain ⟨r', k', rfl, rfl, hr, hk⟩ := cellB_nat hb
  have G := (good_iff xs).1 hg
  have R := rim_ok G hr hk
  have hcb := colH_bound xs k'
  have hcol := R.col
  rw [show rimF xs r' k' = pairs (rimL xs r' k') by simp [rimF, hat], hat]
  obtain ⟨low, hlow⟩ : ∃ low, low = (colH xs k').toNat - 1 := ⟨_, rfl⟩
  have hL : rimL xs r' k' = rimUp xs k' low (low + 1 - r') := by unfold rimL; rw [← hlow, show (colH xs k').toNat - r' = low + 1 - r' by omega]
  rw [← hlow] at R
  rw [hL, pairs_len]
  have hlen := G.len
  have hlt := R.low_lt
  have hrl := R.r_le
  have hkc : k' < (cols xs).length := col_lt G hr hk
  have hck : (cols xs).getD k' 0 = (low : Int) + 1 := by rw [cols_get xs k' (by rw [cols_len] at hkc; exact hkc), R.col]
  have hk30 : (k' : Int) ≤ 30 := by have := R.le30 hrl; omega
  have HR := hid R; have HG2 := hid G; have HG := hid hg; have HB := hid hb
  clear hat G R hlow hcol hcb hL hg hb hk
  go_enter Try.func34, Try.ntmps34
  go_wp2_with (first | (go_at_call 64; refine (ptGood_b _ _ _ _ hl hc _ HG.out).mono ?_; rintro e w' ⟨rfl, n, rfl⟩) | (go_at_call 68; refine (ptCell_b _ _ _ _ _ _ HG.out hr64 hk64 (by exact hc) _ HB.out).mono ?_; rintro e w' ⟨rfl, rfl⟩) | (go_at_call 65; refine (ptTurn_any _ _ _ _ HG2.out (by exact hc)).mono ?_; rintro e w1 ⟨A1, c1, rfl, o1, b1⟩; obtain ⟨b3, o3, rfl, hcol⟩ := o1.cells.get hkc; rw [hck] at hcol))
  have B1 : Below w.heap.size w w1 := Below.next (below_drew' w n) b1
  have z1 := B1.size
  clear o1 hcol
  go_loopw [8, 9, 10, 11] (fun v i _ _ wr => ∃ d : Nat, d ≤ low + 1 - r' ∧ i = .int .i64 ((low : Int) - d) ∧ (∃ P C, Push wr w1.heap.size v (pairs (rimUp xs k' low d)) P C) ∧ Below w1.heap.size w1 wr) (fun _ i _ _ _ => (intOf i + 1 - r').toNat)
  case atStart => exact ⟨0, Nat.zero_le _, by simp, ⟨_, _, push_nil _ _⟩, Below.refl _ _⟩
  case round =>
    obtain ⟨d, hd, rfl, ⟨P, C, hpush⟩, hbel⟩ := hrel
    have HP := hid hpush; clear hpush
    have hsz := hbel.size
    by_cases hgo : d < low + 1 - r'
    · obtain ⟨row, hrow⟩ : ∃ row : Nat, row = low - d := ⟨_, rfl⟩
      have hri : (low : Int) - d = (row : Int) := by omega
      rw [hri]
      have hrr : (r' : Int) ≤ row := by omega
      have hrowl : row ≤ low := by omega
      have hcr := hc.later (Below.next B1 hbel)
      obtain ⟨b, o, rfl, hcc⟩ := hcr (by omega)
      have hcrow := hcc row (by omega)
      have h30 := HR.out.le30 hrowl
      have hfl := HR.out.fr_lt hrowl
      have hcn := HR.out.cn_pos hrowl
      obtain ⟨f, hf⟩ : ∃ f, f = fr xs k' row := ⟨_, rfl⟩
      have hfv : (f : Int) = if (k' : Int) ≤ xs.getD (row + 1) 0 - 1 then xs.getD (row + 1) 0 - 1 else k' := by rw [hf]; unfold fr; split <;> omega
      rw [← hf] at hfl hcn
      have HROW := hid hrow
      have HF := hid hf
      obtain ⟨x, hx⟩ : ∃ x, x = xs.getD row 0 := ⟨_, rfl⟩
      rw [← hx] at hcrow h30 hfl hcn
      have HX := hid hx
      have hrl0 : row < xs.length := by omega
      obtain ⟨wo, rfl⟩ : ∃ wo : World, wo = wr := ⟨_, rfl⟩
      by_cases hn : row + 1 < xs.length
      · have hcn1 := hcc (row + 1) hn
        have hyb := HG2.out.pos (row + 1) hn
        have hyb2 := HG2.out.le (row + 1) hn
        obtain ⟨y, hy⟩ : ∃ y, y = xs.getD (row + 1) 0 := ⟨_, rfl⟩
        rw [← hy] at hcn1 hyb hyb2 hfv
        have hnn : (row : Int) + 1 < xs.length := by omega
        have hfv2 : (f : Int) = if y - 1 < (k' : Int) then (k' : Int) else y - 1 := by rw [hfv]; split <;> split <;> omega
        have HFV := hid hfv2
        clear hy hcc hx hf hrow hfv hfv2
        go_wp2_with (go_at_call 75; refine (l1Most_v (k' : Int) (y - 1) f _ HFV.out).mono ?_; rintro e w' ⟨rfl, rfl⟩)
        go_loopw [8, 11] (fun v av wi => ∃ i : Nat, i ≤ cn xs k' row ∧ av = .int .i64 ((f : Int) + i) ∧ (∃ P C, Push wi w1.heap.size v (pairs (rimAt xs k' low d i)) P C) ∧ Below w1.heap.size w1 wi) (fun _ av _ => (x - intOf av).toNat)
        case atStart => exact ⟨0, Nat.zero_le _, by simp, ⟨P, C, by rw [rimAt_up]; exact HP.out⟩, hbel⟩
        case round =>
          obtain ⟨i, hi, rfl, ⟨P2, C2, hpush2⟩, hbel2⟩ := hrel
          have HP2 := hid hpush2; clear hpush2
          have hsz2 := hbel2.size
          have hcrow2 : wr.cell? ⟨b, o + row, none⟩ = some (.int .i64 x) := ((hc.later (Below.next B1 hbel2)).at_row hrl0).trans (by rw [HX.out])
          by_cases hlti : i < cn xs k' row
          · have hfi : (f : Int) + i < x := by omega
            have hbd := HR.out.len d i (by omega) (by omega)
            have HBD := hid hbd; clear hbd
            have e1 : (f : Int) + i = ((f + i : Nat) : Int) := by omega
            have ho2 : Own (wr.alloc (.cells #[.int .i64 row, .int .i64 ((f : Int) + i)] 3)) wr.heap.size (some ⟨wr.heap.size, 0, none⟩) 2 [(row : Int), ((f + i : Nat) : Int)] := by rw [e1]; exact own_two wr wr.heap.size (Nat.le_refl _) row ((f + i : Nat) : Int)
            have hbw : Below wr.heap.size wr (wr.alloc (.cells #[.int .i64 row, .int .i64 ((f : Int) + i)] 3)) := (Below.refl _ _).alloc (Nat.le_refl _) _
            have hszw : (wr.alloc (.cells #[.int .i64 row, .int .i64 ((f : Int) + i)] 3)).heap.size = wr.heap.size + 1 := by simp
            have hpl := pairs_len (rimAt xs k' low d i)
            have HPL := hid hpl; clear hpl e1
            go_wp2_with (at_builtin; refine wpList_append_own _ rfl _ _ 32 rfl w1.heap.size 22 i1 (.slice none 0 0) 1 24 Try.underlying32 hj hy0 hy1 hy2 rfl (by decide) _ _ _ rfl ((HP2.out.below hbw).out.alloc _) ⟨wr.heap.size + 1, 0, none⟩ 1 1 [.slice (some ⟨wr.heap.size, 0, none⟩) 2 2] rfl rfl (one_at_n hszw) (one_cellS _ _ _) (by have := HPL.out; have := HBD.out; unfold maxLen; omega) (by have := HPL.out; have := HBD.out; omega) (by simp; omega) ?_)
            intro v' w2 hown' hgrow _
            have hb1 : Below w1.heap.size w1 w2 := ((hbel2.trans (hbw.mono hsz2)).alloc (by simp; omega) _).grown hgrow (by simp; omega) (fun q hq => (HP2.out.out.lt q hq).1)
            have hp2 := HP2.out.push hbw ho2 hsz2 hown' hgrow
            have hs := rimAt_succ xs k' low d i
            rw [← HROW.out, ← HF.out] at hs
            rw [← pairs_snoc, ← hs] at hp2
            have HP3 := hid hp2
            clear hown' hgrow hp2 hs
            go_wp2_with fail
            go_roundw
            case rel => exact ⟨i + 1, by omega, by congr 1 <;> omega, ⟨_, _, HP3.out⟩, hb1⟩
            case measure => simp [intOf]; omega
          · have hie : i = cn xs k' row := by omega
            have hfi : x ≤ (f : Int) + i := by omega
            have hp3 := HP2.out
            rw [hie, HROW.out, rimAt_next, rimAt_up] at hp3
            have HP3 := hid hp3
            clear hp3
            go_wp2_with fail
            go_roundw
            case rel => exact ⟨d + 1, by omega, by congr 1; omega, ⟨_, _, HP3.out⟩, hbel2⟩
            case measure => simp [intOf]; omega
      · have hy0' : xs.getD (row + 1) 0 = 0 := by rw [List.getD_eq_getElem?_getD, List.getElem?_eq_none (by omega)]; rfl
        rw [hy0', if_neg (by omega)] at hfv
        have hfk : k' = f := by omega
        have hnn : ¬ (row : Int) + 1 < xs.length := by omega
        clear hcc hx hf hrow hfv hy0'
        subst hfk
        go_wp2_with fail
        go_loopw [8, 11] (fun v av wi => ∃ i : Nat, i ≤ cn xs k' row ∧ av = .int .i64 ((k' : Int) + i) ∧ (∃ P C, Push wi w1.heap.size v (pairs (rimAt xs k' low d i)) P C) ∧ Below w1.heap.size w1 wi) (fun _ av _ => (x - intOf av).toNat)
        case atStart => exact ⟨0, Nat.zero_le _, by simp, ⟨P, C, by rw [rimAt_up]; exact HP.out⟩, hbel⟩
        case round =>
          obtain ⟨i, hi, rfl, ⟨P2, C2, hpush2⟩, hbel2⟩ := hrel
          have HP2 := hid hpush2; clear hpush2
          have hsz2 := hbel2.size
          have hcrow2 : wr.cell? ⟨b, o + row, none⟩ = some (.int .i64 x) := ((hc.later (Below.next B1 hbel2)).at_row hrl0).trans (by rw [HX.out])
          by_cases hlti : i < cn xs k' row
          · have hfi : (k' : Int) + i < x := by omega
            have hbd := HR.out.len d i (by omega) (by omega)
            have HBD := hid hbd; clear hbd
            have e1 : (k' : Int) + i = ((k' + i : Nat) : Int) := by omega
            have ho2 : Own (wr.alloc (.cells #[.int .i64 row, .int .i64 ((k' : Int) + i)] 3)) wr.heap.size (some ⟨wr.heap.size, 0, none⟩) 2 [(row : Int), ((k' + i : Nat) : Int)] := by rw [e1]; exact own_two wr wr.heap.size (Nat.le_refl _) row ((k' + i : Nat) : Int)
            have hbw : Below wr.heap.size wr (wr.alloc (.cells #[.int .i64 row, .int .i64 ((k' : Int) + i)] 3)) := (Below.refl _ _).alloc (Nat.le_refl _) _
            have hszw : (wr.alloc (.cells #[.int .i64 row, .int .i64 ((k' : Int) + i)] 3)).heap.size = wr.heap.size + 1 := by simp
            have hpl := pairs_len (rimAt xs k' low d i)
            have HPL := hid hpl; clear hpl e1
            go_wp2_with (at_builtin; refine wpList_append_own _ rfl _ _ 32 rfl w1.heap.size 22 i1 (.slice none 0 0) 1 24 Try.underlying32 hj hy0 hy1 hy2 rfl (by decide) _ _ _ rfl ((HP2.out.below hbw).out.alloc _) ⟨wr.heap.size + 1, 0, none⟩ 1 1 [.slice (some ⟨wr.heap.size, 0, none⟩) 2 2] rfl rfl (one_at_n hszw) (one_cellS _ _ _) (by have := HPL.out; have := HBD.out; unfold maxLen; omega) (by have := HPL.out; have := HBD.out; omega) (by simp; omega) ?_)
            intro v' w2 hown' hgrow _
            have hb1 : Below w1.heap.size w1 w2 := ((hbel2.trans (hbw.mono hsz2)).alloc (by simp; omega) _).grown hgrow (by simp; omega) (fun q hq => (HP2.out.out.lt q hq).1)
            have hp2 := HP2.out.push hbw ho2 hsz2 hown' hgrow
            have hs := rimAt_succ xs k' low d i
            rw [← HROW.out, ← HF.out] at hs
            rw [← pairs_snoc, ← hs] at hp2
            have HP3 := hid hp2
            clear hown' hgrow hp2 hs
            go_wp2_with fail
            go_roundw
            case rel => exact ⟨i + 1, by omega, by congr 1 <;> omega, ⟨_, _, HP3.out⟩, hb1⟩
            case measure => simp [intOf]; omega
          · have hie : i = cn xs k' row := by omega
            have hfi : x ≤ (k' : Int) + i := by omega
            have hp3 := HP2.out
            rw [hie, HROW.out, rimAt_next, rimAt_up] at hp3
            have HP3 := hid hp3
            clear hp3
            go_wp2_with fail
            go_roundw
            case rel => exact ⟨d + 1, by omega, by congr 1; omega, ⟨_, _, HP3.out⟩, hbel2⟩
            case measure => simp [intOf]; omega
    · have hde : d = low + 1 - r' := by omega
      have hir : (low : Int) - d = (r' : Int) - 1 := by omega
      rw [hir]
      subst hde
      obtain ⟨A', c', rfl, ho⟩ := HP.out.own2
      rw [pairs_len]
      go_wp2_with fail
      go_ret2
      exact ⟨A', c', rfl, ho.more z1, Below.next B1 hbel⟩
end Go.Proofs.Ytblkmomcdchdoaa
