/-
  Several texts in one.
-/
import Derived.Test.YtmjncedijddmmaaR26
import Derived.Test.YtmjncedijddmmaaCB
import Derived.Test.YtmjncedijddmmaaR06
import Derived.Test.YtmjncedijddmmaaR24
import Derived.Test.YtmjncedijddmmaaR29
import Derived.Test.YtmjncedijddmmaaR25
import Derived.Test.YtmjncedijddmmaaR19
/-
  Contracts: FromCore of the program.
-/
namespace Go.Proofs.Ytmjncedijddmmaa
open Go.RowKit

def fcOk (p : List Int) (rows : List (List Int)) : Bool := isCoreF p rows.length && (rows.all good && decide (p.sum + rows.length * sumN (fun i => (rowsR rows i).sum) rows.length ≤ 30))
def fcF (p : List Int) (rows : List (List Int)) : List Int := if fcOk p rows then fcP rows.length p (mulN rows.length 30) (rowsR rows) else []
def fcB (p : List Int) (rows : List (List Int)) (i : Nat) : List Int := beadsF (rowsR rows i) (ctN rows.length p (mulN rows.length 30) i)
def fcBk (p : List Int) (rows : List (List Int)) (i : Nat) : Bool := beadsOk (rowsR rows i) (ctN rows.length p (mulN rows.length 30) i)
theorem all_rows {rows : List (List Int)} : rows.all good = true ↔ ∀ i, i < rows.length → good (rowsR rows i) = true := by
  rw [List.all_eq_true]
  constructor
  · intro h i hi
    unfold rowsR
    rw [List.getD_eq_getElem?_getD, List.getElem?_eq_getElem hi]
    exact h _ (List.getElem_mem hi)
  · intro h x hx
    obtain ⟨i, hi, rfl⟩ := List.getElem_of_mem hx
    have := h i hi
    unfold rowsR at this
    rw [List.getD_eq_getElem?_getD, List.getElem?_eq_getElem hi] at this
    exact this
theorem fc_bad {p : List Int} {rows : List (List Int)} {k : Nat} (hk : k < rows.length) (h : fcBk p rows k = false) : fcOk p rows = false := by
  cases hf : fcOk p rows
  · rfl
  · exfalso
    unfold fcOk at hf
    rw [Bool.and_eq_true, Bool.and_eq_true, decide_eq_true_eq] at hf
    obtain ⟨h1, h2, h3⟩ := hf
    have hg := all_rows.1 h2
    have hcr : crB p rows.length = true := by unfold isCoreF at h1; exact (Bool.and_eq_true _ _ ▸ h1).1
    have hin := inB_iff.1 (crB_good hcr).2
    have hb := mulN_bd (t := rows.length) (n := 30) (by omega)
    have he := fc_enough h1 (n := mulN rows.length 30) (by omega) (fun i hi => (good_iff _).1 (hg i hi)) h3 k hk
    have hc := ct_le rows.length p (mulN rows.length 30) k
    unfold fcBk beadsOk at h
    rw [hg k hk, inB_iff.2 ⟨by omega, by omega⟩] at h
    cases h
theorem fc_all {p : List Int} {rows : List (List Int)} (hc : isCoreF p rows.length = true) (h : ∀ k, k < rows.length → fcBk p rows k = true) :
    frOk ((List.range rows.length).map (fcB p rows)) = fcOk p rows ∧ partsL (frF ((List.range rows.length).map (fcB p rows))) = fcF p rows ∧ (frF ((List.range rows.length).map (fcB p rows))).length ≤ 1000 ∧ ∀ j, j < (frF ((List.range rows.length).map (fcB p rows))).length → 0 ≤ (frF ((List.range rows.length).map (fcB p rows))).getD j 0 ∧ (frF ((List.range rows.length).map (fcB p rows))).getD j 0 ≤ 1000 := by
  have hcr : crB p rows.length = true := by unfold isCoreF at hc; exact (Bool.and_eq_true _ _ ▸ hc).1
  have hin := inB_iff.1 (crB_good hcr).2
  have hb := mulN_bd (t := rows.length) (n := 30) (by omega)
  have Gp := ((good_iff p).1 (crB_good hcr).1)
  have hpl := Gp.len
  have hg : ∀ i, i < rows.length → good (rowsR rows i) = true ∧ (rowsR rows i).length ≤ ctN rows.length p (mulN rows.length 30) i := fun i hi => by
    have := h i hi
    unfold fcBk beadsOk at this
    rw [Bool.and_eq_true] at this
    exact ⟨this.1, by have := inB_iff.1 this.2; omega⟩
  have hrow : ∀ i, i < rows.length → fcB p rows i = fcR rows.length p (mulN rows.length 30) (rowsR rows) i := fun i hi => by
    have hc := ct_le rows.length p (mulN rows.length 30) i
    unfold fcB beadsF fcR
    rw [if_pos ⟨(hg i hi).1, by have := (hg i hi).2; omega, by omega⟩, Int.toNat_natCast]
  have hl : ((List.range rows.length).map (fcB p rows)).length = rows.length := by simp
  have hrr : ∀ i, i < rows.length → rowsR ((List.range rows.length).map (fcB p rows)) i = fcB p rows i := fun i hi => by simp [rowsR, List.getD, hi]
  have hfl : frL ((List.range rows.length).map (fcB p rows)) = fcA rows.length p (mulN rows.length 30) (rowsR rows) := by
    unfold frL fcA
    rw [hl]
    congr 1
    have : ∀ n, n ≤ rows.length → abfL rows.length (rowsR ((List.range rows.length).map (fcB p rows))) n = abfL rows.length (fcR rows.length p (mulN rows.length 30) (rowsR rows)) n := by
      intro n
      induction n with
      | zero => intro _; rfl
      | succ n ih => intro hn; rw [abfL, abfL, ih (by omega), hrr n (by omega), hrow n (by omega)]
    exact this _ (Nat.le_refl _)
  obtain ⟨R, pw, pos, len, sum⟩ := fc_facts hc (n := mulN rows.length 30) (by omega) (by omega) (q := rowsR rows) (fun i hi => (good_iff _).1 (hg i hi).1) (fun i hi => (hg i hi).2)
  have e1 : frOk ((List.range rows.length).map (fcB p rows)) = isAba rows.length (fcA rows.length p (mulN rows.length 30) (rowsR rows)) := by
    have := fr_full (rows := (List.range rows.length).map (fcB p rows)) (by rw [hl]; exact (crB_good hcr).2) fun i hi => by
      rw [hl] at hi
      rw [hrr i hi, hrow i hi]
      exact rises_Rises.2 (beads_rise ((good_iff _).1 (hg i hi).1) (by have := ct_le rows.length p (mulN rows.length 30) i; omega))
    rw [this, hl, hfl]
  have e2 : isAba rows.length (fcA rows.length p (mulN rows.length 30) (rowsR rows)) = fcOk p rows := by
    have hall : rows.all good = true := all_rows.2 fun i hi => (hg i hi).1
    unfold isAba fcOk
    rw [(crB_good hcr).2, hc, hall, Bool.true_and, Bool.true_and, Bool.true_and]
    by_cases hs : p.sum + rows.length * sumN (fun i => (rowsR rows i).sum) rows.length ≤ 30
    · rw [decide_eq_true hs]
      exact goodB_of (by rw [len]; omega) R (by rw [sum, len]; omega)
    · rw [decide_eq_false hs]
      cases hgb : goodB (fcA rows.length p (mulN rows.length 30) (rowsR rows))
      · rfl
      · exfalso
        have := goodB_sum (goodB_iff.1 hgb)
        rw [sum, len] at this; omega
  have e3 : frOk ((List.range rows.length).map (fcB p rows)) = fcOk p rows := by rw [e1, e2]
  refine ⟨e3, ?_, ?_⟩
  · unfold frF fcF
    rw [e3, hfl]
    split <;> rfl
  · unfold frF
    rw [hfl]
    split
    · exact ⟨by rw [len]; omega, R.bd⟩
    · exact ⟨by simp, fun j hj => absurd hj (by simp)⟩

theorem tot_map (f : Nat → List Int) (m : Nat) (h : ∀ i, (f i).length ≤ m) : ∀ n, tot ((List.range n).map f) ≤ n * m
  | 0 => by simp [tot]
  | n + 1 => by
    rw [List.range_succ, List.map_append, tot_append, Nat.succ_mul]
    have := tot_map f m h n
    have := h n
    simp only [List.map_cons, List.map_nil, tot]; omega

set_option maxRecDepth 100000 in
set_option maxHeartbeats 8000000 in
theorem impl_FromCore (A : Option Addr) (c : Nat) (xs : List Int) (A2 : Option Addr) (c2 : Nat) (rows : List (List Int)) (w : World) (hl : xs.length ≤ 1048576) (hc : Cells w A xs) (hl2 : rows.length ≤ 1048576 ∧ tot rows ≤ 1048576) (hc2 : Cells2 w A2 rows) :
    Calls Try.prog 31 #[.slice A xs.length c, .slice A2 rows.length c2] w fun e w' => ∃ A' c', e = .returned (.tuple #[.slice A' (fcF xs rows).length c', .bool (fcOk xs rows)]) ∧ Own w' w.heap.size A' c' (fcF xs rows) ∧ Below w.heap.size w w' := by
  have h64 : I64 rows.length := ⟨by omega, by omega⟩
  have HI := hid fun W (h : Cells W A xs) => impl_IsCore A c xs rows.length W hl h h64
  cases hco : isCoreF xs rows.length
  · have e1 : fcOk xs rows = false := by simp [fcOk, hco]
    have e2 : fcF xs rows = [] := by simp [fcF, e1]
    rw [e1, e2]
    rw [hco] at HI
    go_enter Try.func31, Try.ntmps31
    go_wp2_with fail
    refine (HI.out _ hc).mono ?_
    rintro e w1 ⟨rfl, b1⟩
    go_wp2_with fail
    go_ret2
    exact ⟨none, 0, rfl, own_nil _ _, b1⟩
  have hcr : crB xs rows.length = true := by have := hco; unfold isCoreF at this; exact (Bool.and_eq_true _ _ ▸ this).1
  have hin := inB_iff.1 (crB_good hcr).2
  have G := (good_iff xs).1 (crB_good hcr).1
  have hpl := G.len
  have hmb := mulN_bd (t := rows.length) (n := 30) (by omega)
  have hgb := beadsL_goodB G (show xs.length ≤ mulN rows.length 30 by omega) (show mulN rows.length 30 ≤ 40 by omega)
  have hab : isAba rows.length (beadsL xs (mulN rows.length 30)) = true := by simp [isAba, (crB_good hcr).2, hgb]
  have hbf : beadsF xs (mulN rows.length 30 : Nat) = beadsL xs (mulN rows.length 30) := by
    unfold beadsF; rw [if_pos ⟨(crB_good hcr).1, by omega, by omega⟩, Int.toNat_natCast]
  have hao : abaOk xs rows.length (mulN rows.length 30 : Nat) = true := by
    unfold abaOk beadsOk
    rw [(crB_good hcr).1, (crB_good hcr).2, inB_iff.2 ⟨by omega, by omega⟩]; rfl
  have HA := hid fun W (h : Cells W A xs) => impl_AbacusOf A c xs rows.length (mulN rows.length 30 : Nat) W hl h h64 ⟨by omega, by omega⟩
  have HM := hid fun W => multipleFrom_any rows.length 30 (by omega) (by omega) W
  have e1 : abaR xs rows.length (mulN rows.length 30 : Nat) = rows.length := by simp [abaR, hao]
  have e2 : abaF xs rows.length (mulN rows.length 30 : Nat) = beadsL xs (mulN rows.length 30) := by simp [abaF, hao, hbf]
  rw [e1, e2, hao] at HA
  have HCO := hid fun A1 c1 W (h : Cells W A1 (beadsL xs (mulN rows.length 30))) => impl_CountsOf rows.length A1 c1 _ W (by rw [beadsL_len]; omega) h
  have e3 : countsF rows.length (beadsL xs (mulN rows.length 30)) = cntL rows.length (beadsL xs (mulN rows.length 30)) := by simp [countsF, hab]
  rw [e3, hab] at HCO
  have HCN := hid (show ∀ k, k < rows.length → (cntL rows.length (beadsL xs (mulN rows.length 30))).getD k 0 = (ctN rows.length xs (mulN rows.length 30) k : Nat) from fun k hk => by
    unfold cntL; rw [fnRow_get _ _ _ hk]; unfold cnt ctN rnL; rw [List.length_map])
  have HCL := hid (show (cntL rows.length (beadsL xs (mulN rows.length 30))).length = rows.length from fnRow_len _ _)
  have HB := hid fun (k : Nat) A1 c1 W (hk : k < rows.length) (h : Cells W A1 (rowsR rows k)) => impl_BeadsOf A1 c1 (rowsR rows k) (ctN rows.length xs (mulN rows.length 30) k : Nat) W (by have := tot_get_le rows k hk; unfold rowsR; omega) h ⟨by have := ct_le rows.length xs (mulN rows.length 30) k; omega, by have := ct_le rows.length xs (mulN rows.length 30) k; omega⟩
  change Hid (∀ (k : Nat) A1 c1 W (_ : k < rows.length) (_ : Cells W A1 (rowsR rows k)), Calls Try.prog 60 #[.slice A1 (rowsR rows k).length c1, .int .i64 (ctN rows.length xs (mulN rows.length 30) k : Nat)] W fun e w' => ∃ A' c', e = .returned (.tuple #[.slice A' (fcB xs rows k).length c', .bool (fcBk xs rows k)]) ∧ Own w' W.heap.size A' c' (fcB xs rows k) ∧ Below W.heap.size W w') at HB
  have HBAD := hid (show ∀ k, k < rows.length → fcBk xs rows k = false → fcOk xs rows = false ∧ fcF xs rows = [] from fun k hk h => by
    have := fc_bad hk h; exact ⟨this, by simp [fcF, this]⟩)
  have HALL := hid (fun h => fc_all hco h)
  have HFR := hid fun A1 c1 W (h : Cells2 W A1 ((List.range rows.length).map (fcB xs rows))) => impl_FromRunners A1 c1 _ W (by
    have := tot_map (fcB xs rows) 40 (fun i => by unfold fcB beadsF; split <;> simp [beadsL_len]; omega) rows.length
    refine ⟨by simp; omega, ?_⟩
    have h6 : rows.length * 40 ≤ 6 * 40 := Nat.mul_le_mul_right 40 (by omega)
    omega) h
  rw [hco] at HI
  obtain ⟨Pt, Ct, hA1, hA2⟩ := hc2
  have HA1 := hid hA1
  have HA2 := hid hA2
  have HN := hid (show 2 ≤ rows.length ∧ rows.length ≤ 6 by omega)
  have hmk := run_make_row' (P := Try.prog) 34 22 (.slice none 0 0) 24 Try.underlying34 Try.infoInts2 rfl .i64 .i64 rows.length (by omega) (by omega)
  have hrl : ((List.range rows.length).map (fcB xs rows)).length = rows.length := by simp
  rw [hrl] at HFR
  have HPO := hid fun A1 c1 W hh (h : Cells W A1 (frF ((List.range rows.length).map (fcB xs rows)))) => partsOf_any A1 c1 _ W (HALL.out hh).2.2.1 (HALL.out hh).2.2.2 h
  have HQ := hid fun (hh : ∀ k, k < rows.length → fcBk xs rows k = true) => (⟨(HALL.out hh).1, (HALL.out hh).2.1⟩ : frOk ((List.range rows.length).map (fcB xs rows)) = fcOk xs rows ∧ partsL (frF ((List.range rows.length).map (fcB xs rows))) = fcF xs rows)
  obtain ⟨f, hf⟩ : ∃ f, f = fcB xs rows := ⟨_, rfl⟩
  obtain ⟨fk, hfk⟩ : ∃ fk, fk = fcBk xs rows := ⟨_, rfl⟩
  obtain ⟨ct, hct⟩ : ∃ ct : Nat → Nat, ct = ctN rows.length xs (mulN rows.length 30) := ⟨_, rfl⟩
  obtain ⟨b, hb⟩ : ∃ b, b = fcOk xs rows := ⟨_, rfl⟩
  obtain ⟨F, hF⟩ : ∃ F, F = fcF xs rows := ⟨_, rfl⟩
  obtain ⟨L, hL⟩ : ∃ L, L = beadsL xs (mulN rows.length 30) := ⟨_, rfl⟩
  obtain ⟨CL, hCL⟩ : ∃ CL, CL = cntL rows.length L := ⟨_, rfl⟩
  rw [← hL, ← hCL] at HCO HCN HCL
  rw [← hL] at HA
  rw [← hf, ← hfk] at HB
  rw [← hfk, ← hb, ← hF] at HBAD
  rw [← hf] at HFR HPO HQ
  rw [← hfk] at HPO HQ
  rw [← hb, ← hF] at HQ ⊢
  rw [← hct] at HB HCN
  obtain ⟨N, hN⟩ : ∃ N, N = mulN rows.length 30 := ⟨_, rfl⟩
  rw [← hN] at HA HM
  clear hf hfk hct hb hF hL hCL hN HALL hao hbf e1 e2 e3 hab hgb hmb hpl G hin hcr hco hA1 hA2 hrl
  go_enter Try.func31, Try.ntmps31
  go_wp2_with fail
  refine (HI.out _ hc).mono ?_
  rintro e w1 ⟨rfl, b1⟩
  go_wp2_with fail
  refine (HM.out _).mono ?_
  rintro e w1' ⟨rfl, rfl⟩
  go_wp2_with fail
  refine (HA.out _ (hc.below b1)).mono ?_
  rintro e w2 ⟨A3, c3, rfl, o3, b2⟩
  have B2 := Below.next b1 b2
  have y1 := Box2.new w2 56 (.int .i64 rows.length) (.slice A3 L.length c3)
  have hb1 : Below w.heap.size w (w2.alloc (.cells #[.int .i64 rows.length, .slice A3 L.length c3] 56)) := B2.alloc B2.size _
  have f1 := y1.cell0
  have f2 := y1.cell1
  have hsz := hb1.size
  have o2 := o3.cells.below (w' := w2.alloc (.cells #[.int .i64 rows.length, .slice A3 L.length c3] 56)) ((Below.refl _ _).alloc (Nat.le_refl _) _)
  have O2 := hid o2
  clear o3 o2
  go_wp2_with fail
  refine (HCO.out _ _ _ O2.out).mono ?_
  rintro e w3 ⟨A4, c4, rfl, o4, b3⟩
  have B3 := Below.next hb1 b3
  have hs3 := b3.size
  clear f1 f2 y1
  obtain ⟨w4, hw4⟩ : ∃ w4, w4 = w3.alloc (.cells (madeCells #[.slice none 0 0] rows.length) 22) := ⟨_, rfl⟩
  have HG4 : Hid (Gr w4 w.heap.size w3.heap.size rows.length (midR f rows.length 0) (fun _ => none) (fun _ => 0)) := hid (by rw [hw4, midR_zero]; exact (gr_start w3 rows.length HN.out.2).base B3.size)
  have b34 : Below w3.heap.size w3 w4 := by rw [hw4]; exact (Below.refl _ _).alloc (Nat.le_refl _) _
  have B4 := Below.next B3 b34
  have hs4 : w4.heap.size = w3.heap.size + 1 := by rw [hw4]; simp
  have HC3 := hid o4.cells
  have HW4 := hid hw4
  clear hw4 o4
  go_wp2_with fail
  rw [← HW4.out]
  clear HW4 hmk
  go_loopw [47] (fun i wr => ∃ k : Nat, k ≤ rows.length ∧ i = .int .i64 k ∧ (∃ P C, Hid (Gr wr w.heap.size w3.heap.size rows.length (midR f rows.length k) P C)) ∧ Below w3.heap.size w3 wr ∧ w3.heap.size + 1 ≤ wr.heap.size ∧ Hid (∀ j, j < k → fk j = true)) (fun i _ => rows.length - (intOf i).toNat)
  case atStart => exact ⟨0, Nat.zero_le _, rfl, ⟨_, _, HG4⟩, b34, by omega, hid fun j hj => absurd hj (Nat.not_lt_zero _)⟩
  case round =>
    obtain ⟨k, hk, rfl, ⟨P, C, HG⟩, hbel3, hsz, HK⟩ := hrel
    clear HG4
    have hbel := Below.next B3 hbel3
    have HC := hid (HC3.out.below hbel3)
    by_cases hlt : k < rows.length
    · have hgB : w.heap.size ≤ w3.heap.size := (ownsRow_block HG.out.out w3.heap.size rfl).1
      have hcell0 := World.ownsRow.cellAt HG.out.out k (by omega)
      obtain ⟨b0, o0, e0, hcc⟩ := HA1.out (by omega)
      have hck := (hbel.cell (World.block_lt_of_cell? w _ (hcc k hlt))).trans (hcc k hlt)
      have hrow := (HA2.out k hlt).below hbel
      obtain ⟨b5, o5, e5, hcl⟩ := HC.out (by rw [HCL.out]; omega)
      have hck2 := hcl k (by rw [HCL.out]; omega)
      rw [HCN.out k hlt] at hck2
      have hkc : k < CL.length := by rw [HCL.out]; exact hlt
      have HCK := hid (HB.out k (Pt k) (Ct k) wr hlt hrow)
      have HGG := hid fun (A2 : Option Addr) c2 w3' (b3 : Below wr.heap.size wr w3') (o3 : Own w3' wr.heap.size A2 c2 (f k)) => HG.out.place hlt b3 o3 (by have := hbel.size; omega)
      have HCE := hid fun w3' (b3 : Below wr.heap.size wr w3') => World.ownsRow.cellAt (HG.out.below b3).out k (by omega)
      have HFZ := hid fun w3' (b3 : Below wr.heap.size wr w3') => World.ownsRow.frozenAt (HG.out.below b3).out k
      rw [midR_set f rows.length k] at HGG
      subst e0
      subst e5
      unfold rowsR at HCK
      obtain ⟨r, hr⟩ : ∃ r, r = rows.getD k [] := ⟨_, rfl⟩
      rw [← hr] at hck HCK
      clear hrow hr HG hcell0 hcc hcl
      go_wp2_with fail
      refine HCK.out.mono ?_
      rintro e w5 ⟨A5, c5, rfl, o5', b5'⟩
      cases hfk : fk k
      · obtain ⟨q1, q2⟩ := HBAD.out k hlt hfk
        subst q1
        subst q2
        go_wp2_with fail
        go_ret2
        exact ⟨none, 0, rfl, own_nil _ _, Below.next hbel b5'⟩
      · have HG3 := hid (HGG.out A5 c5 w5 b5' o5')
        have hfz := HFZ.out w5 b5'
        have hce := HCE.out w5 b5'
        rw [RL_get P C _ k (by rw [midR_len]; exact hlt)] at hce
        have B3' := Below.next hbel3 b5'
        have hs3' := b5'.size
        go_wp2_with fail
        go_roundw
        case rel => exact ⟨k + 1, by omega, by go_num, ⟨_, _, HG3⟩, B3'.setCell (by simp) _, by simp; omega, hid fun j hj => by by_cases e : j = k; (· subst e; exact hfk); (· exact HK.out j (by omega))⟩
        case measure => simp [intOf]; omega
    · have hkl : k = rows.length := by omega
      subst hkl
      have hq := HQ.out HK.out
      rw [midR_all] at HG
      go_wp2_with fail
      refine (HFR.out _ _ _ HG.out.own2.cells).mono ?_
      rintro e w6 ⟨A6, c6, rfl, o6, b6⟩
      have HP6 := hid (HPO.out A6 c6 (w6.alloc (.cells #[.int .i64 (frT ((List.range rows.length).map f)), .slice A6 (frF ((List.range rows.length).map f)).length c6] 56)) HK.out (o6.cells.below ((Below.refl _ _).alloc (Nat.le_refl _) _)))
      have y6 := Box2.new w6 56 (.int .i64 (frT ((List.range rows.length).map f))) (.slice A6 (frF ((List.range rows.length).map f)).length c6)
      have g2 := y6.cell1
      have B6 := Below.next hbel b6
      have hb6 : Below w.heap.size w (w6.alloc (.cells #[.int .i64 (frT ((List.range rows.length).map f)), .slice A6 (frF ((List.range rows.length).map f)).length c6] 56)) := B6.alloc B6.size _
      rw [hq.2] at HP6
      rw [hq.1]
      have hb6s := hb6.size
      clear hq HFR HPO HQ
      go_wp2_with fail
      refine HP6.out.mono ?_
      rintro e w7 ⟨A7, c7, rfl, o7, b7⟩
      go_wp2_with fail
      go_ret2
      exact ⟨A7, c7, rfl, o7.more hb6s, Below.next hb6 b7⟩
end Go.Proofs.Ytmjncedijddmmaa
/-
  Contracts: the laws' own helpers on a slice of slices among the arguments: its size, a copy of it.
-/
namespace Go.Proofs.Ytmjncedijddmmaa
open Go.RowKit

theorem Cells2.later {w w' : World} {A : Option Addr} {rows : List (List Int)} (h : Cells2 w A rows) (hb : Below w.heap.size w w') : Cells2 w' A rows := by
  obtain ⟨P2, C2, q1, q2⟩ := h
  exact ⟨P2, C2, fun h => by obtain ⟨b, o, h1, h2⟩ := q1 h; exact ⟨b, o, h1, fun j hj => (hb.cell (World.block_lt_of_cell? w _ (h2 j hj))).trans (h2 j hj)⟩, fun j hj => (q2 j hj).below hb⟩

theorem szIntS_l (A : Option Addr) (n c : Nat) (l : Int) (w : World) (hn : n ≤ 9223372036854775807) (h0 : 0 ≤ l) (h1 : l ≤ 1048576) :
    Calls Try.prog 35 #[.slice A n c, .int .i64 l] w fun e w' => e = .returned (.int .i64 (if (n : Int) ≤ l then l - n else -1)) ∧ w = w' := by
  by_cases h : (n : Int) ≤ l
  · rw [if_pos h]
    go_enter Try.func35, Try.ntmps35
    go_wp2
    go_ret
    exact ⟨rfl, rfl⟩
  · rw [if_neg h]
    go_enter Try.func35, Try.ntmps35
    go_wp2
    go_ret
    exact ⟨rfl, rfl⟩
theorem gr_start2 (w : World) (t : Nat) (ht : t ≤ 1048576) : Gr (w.alloc (.cells (madeCells #[.slice none 0 0] t) 22)) w.heap.size w.heap.size t ((List.range t).map fun _ => ([] : List Int)) (fun _ => none) (fun _ => 0) := by
  refine ⟨by simp, ?_, fun j hj => ?_, fun i j _ _ b hb => by simp at hb⟩
  · have h := World.ownsRow_lit (base := w.heap.size) (e := 22) (size := 1) w (madeCells #[.slice none 0 0] t) t (Nat.le_refl _) (by unfold maxLen; omega) (by rw [size_madeCells]; simp)
    rw [toList_madeCells_one] at h
    have e : RL (fun _ => none) (fun _ => 0) ((List.range t).map fun _ => ([] : List Int)) = List.replicate t (.slice none 0 0) := by
      unfold RL
      rw [List.length_map, List.length_range]
      apply List.ext_getElem
      · simp
      · intro j h1 h2
        simp only [List.length_map, List.length_range] at h1
        simp only [List.getElem_map, List.getElem_range, List.getElem_replicate]
        simp [List.getD, h1]
    rw [e]; exact h
  · rw [show ((List.range t).map fun _ => ([] : List Int)).getD j [] = [] by simp [List.getD, hj]]; exact own_nil _ _

set_option maxHeartbeats 1000000 in
theorem szIntSS_any (A : Option Addr) (c : Nat) (rows : List (List Int)) (w : World) (hn : rows.length ≤ 9223372036854775807) (hr : ∀ j, j < rows.length → (rows.getD j []).length ≤ 9223372036854775807) (hc : Cells2 w A rows) :
    Calls Try.prog 28 #[.slice A rows.length c, .int .i64 1048576] w fun e w' => e = .returned (.int .i64 (if rows.length + tot rows ≤ 1048576 then (1048576 : Int) - (rows.length + tot rows : Nat) else -1)) ∧ w = w' := by
  by_cases hbig : 1048576 < rows.length
  · rw [if_neg (by omega)]
    go_enter Try.func28, Try.ntmps28
    go_wp2_with fail
    go_ret
    exact ⟨rfl, rfl⟩
  have hl : rows.length ≤ 1048576 := by omega
  clear hbig
  have HTS := hid (fun k (hk : k < rows.length) => tot_take_succ rows k hk)
  have HTL := hid (fun k => tot_take_le rows k)
  have HRL := hid hr
  obtain ⟨V, hV⟩ : ∃ V : Int, V = if rows.length + tot rows ≤ 1048576 then (1048576 : Int) - (rows.length + tot rows : Nat) else -1 := ⟨_, rfl⟩
  rw [← hV]
  have HV := hid hV
  obtain ⟨Pt, Ct, hA1, hA2⟩ := hc
  have HA1 := hid hA1
  clear hV hr hA1 hA2
  go_enter Try.func28, Try.ntmps28
  go_wp2_with fail
  go_loop [1, 5] (fun lv i => ∃ k : Nat, k ≤ rows.length ∧ i = .int .i64 k ∧ (∃ l : Int, lv = .int .i64 l ∧ l = 1048576 - rows.length - tot (rows.take k) ∧ 0 ≤ l)) (fun _ i => rows.length - (intOf i).toNat)
  case atStart => exact ⟨0, Nat.zero_le _, rfl, ⟨_, rfl, by simp [tot], by omega⟩⟩
  case round =>
    obtain ⟨k, hk, rfl, ⟨l, rfl, hle, hl0⟩⟩ := hrel
    have HLE := hid hle
    have hl1 : l ≤ 1048576 := by omega
    clear hle
    by_cases hlt : k < rows.length
    · obtain ⟨b, o, rfl, hcc⟩ := HA1.out (by omega)
      have hck := hcc k hlt
      have hts := HTS.out k hlt
      have hle2 := HTL.out (k + 1)
      have hrl := HRL.out k hlt
      have HSZ := hid (szIntS_l (Pt k) (rows.getD k []).length (Ct k) l w hrl hl0 hl1)
      obtain ⟨n, hnn⟩ : ∃ n, n = (rows.getD k []).length := ⟨_, rfl⟩
      rw [← hnn] at hck hts HSZ
      have HT := hid hts; have HL2 := hid hle2
      clear hcc hts hle2 hnn hrl
      by_cases hfit : (n : Int) ≤ l
      · rw [if_pos hfit] at HSZ
        go_wp2_with (go_at_call 35; refine HSZ.out.mono ?_; rintro e w' ⟨rfl, rfl⟩)
        go_round
        case rel => exact ⟨k + 1, by omega, by go_num, ⟨_, rfl, by have := HLE.out; have := HT.out; omega, by omega⟩⟩
        case measure => simp [intOf]; omega
      · rw [if_neg hfit] at HSZ
        have hvv : V = -1 := by
          rw [HV.out, if_neg]
          have := HLE.out; have := HT.out; have := HL2.out; omega
        subst hvv
        go_wp2_with (go_at_call 35; refine HSZ.out.mono ?_; rintro e w' ⟨rfl, rfl⟩)
        go_ret
        exact ⟨rfl, rfl⟩
    · have hkn : k = rows.length := by omega
      subst hkn
      have e : rows.take rows.length = rows := List.take_of_length_le (Nat.le_refl _)
      have hvv : l = V := by
        have h1 := HLE.out
        rw [e] at h1
        rw [HV.out, if_pos (by omega), h1]; omega
      subst hvv
      clear e
      go_wp2_with fail
      go_ret
      exact ⟨rfl, rfl⟩

set_option maxRecDepth 100000 in
set_option maxHeartbeats 4000000 in
theorem toIntSS_any (A : Option Addr) (c : Nat) (rows : List (List Int)) (w : World) (hl : rows.length ≤ 1048576 ∧ tot rows ≤ 1048576) (hc : Cells2 w A rows) :
    Calls Try.prog 30 #[.slice A rows.length c] w fun e w' => ∃ A' c', e = .returned (.slice A' rows.length c') ∧ Own2 w' w.heap.size w'.heap.size A' c' rows ∧ Below w.heap.size w w' := by
  obtain ⟨t, hte⟩ : ∃ t, t = rows.length := ⟨_, rfl⟩
  have ht := hl.1
  have HTL := hid (fun k (hk : k < rows.length) => (Nat.le_trans (tot_get_le rows k hk) hl.2 : (rows.getD k []).length ≤ 1048576))
  obtain ⟨Pt, Ct, hA1, hA2⟩ := hc
  rw [← hte] at ht hA1 hA2 HTL
  rw [← hte]
  have hRR : (List.range t).map (rowsR rows) = rows := by
    rw [hte]
    apply List.ext_getElem
    · simp
    · intro j h1 h2
      simp only [List.getElem_map, List.getElem_range]
      unfold rowsR
      rw [List.getD_eq_getElem?_getD, List.getElem?_eq_getElem h2]; rfl
  have HRD := hid (show ∀ k, rows.getD k [] = rowsR rows k from fun _ => rfl)
  obtain ⟨R, hR⟩ : ∃ R, R = rowsR rows := ⟨_, rfl⟩
  rw [← hR] at hRR HRD
  have HRR := hid hRR
  have HA1 := hid hA1; have HA2 := hid hA2
  have hmk := run_make_row' (P := Try.prog) 34 22 (.slice none 0 0) 24 Try.underlying34 Try.infoInts2 rfl .i64 .i64 t (by omega) (by omega)
  obtain ⟨w1, hw1⟩ : ∃ w1, w1 = w.alloc (.cells (madeCells #[.slice none 0 0] t) 22) := ⟨_, rfl⟩
  have HG1 : Hid (Gr w1 w.heap.size w.heap.size t (midQ R (fun _ => []) t 0) (fun _ => none) (fun _ => 0)) := hid (by rw [hw1, midQ_zero]; exact gr_start2 w t ht)
  have B1 : Below w.heap.size w w1 := by rw [hw1]; exact (Below.refl _ _).alloc (Nat.le_refl _) _
  have HW1 := hid hw1
  clear hRR hA1 hA2 hw1 hte hl hR
  go_enter Try.func30, Try.ntmps30
  go_wp2_with fail
  rw [← HW1.out]
  go_loopw [4] (fun i wr => ∃ k : Nat, k ≤ t ∧ i = .int .i64 k ∧ (∃ P C, Hid (Gr wr w.heap.size w.heap.size t (midQ R (fun _ => []) t k) P C)) ∧ Below w.heap.size w wr) (fun i _ => t - (intOf i).toNat)
  case atStart => exact ⟨0, Nat.zero_le _, rfl, ⟨_, _, HG1⟩, B1⟩
  case round =>
    obtain ⟨k, hk, rfl, ⟨P, C, HG⟩, hbel⟩ := hrel
    clear HG1 B1
    have hsr := hbel.size
    by_cases hlt : k < t
    · obtain ⟨b, o, rfl, hcc⟩ := HA1.out (by omega)
      have hck := (hbel.cell (World.block_lt_of_cell? w _ (hcc k hlt))).trans (hcc k hlt)
      have hrow := (HA2.out k hlt).below hbel
      have hlen := HTL.out k hlt
      rw [HRD.out k] at hck hrow hlen
      have HCK := hid (toIntS_any (Pt k) (Ct k) (R k) wr hlen hrow)
      have HGG := hid fun (A2 : Option Addr) c2 w3 (b3 : Below wr.heap.size wr w3) (o3 : Own w3 wr.heap.size A2 c2 (R k)) => HG.out.place hlt b3 o3 hsr
      have HFZ := hid fun w3 (b3 : Below wr.heap.size wr w3) => World.ownsRow.frozenAt (HG.out.below b3).out k
      have HCE := hid fun w3 (b3 : Below wr.heap.size wr w3) => World.ownsRow.cellAt (HG.out.below b3).out k (by omega)
      have hml := midQ_set R (fun _ => []) t k
      rw [hml] at HGG
      obtain ⟨L, hL⟩ : ∃ L, L = R k := ⟨_, rfl⟩
      rw [← hL] at hck HCK HGG
      obtain ⟨n, hn⟩ : ∃ n, n = L.length := ⟨_, rfl⟩
      have HNL := hid hn
      rw [← hn] at hck HCK
      clear hcc hrow hlen hml hL hn HG
      go_wp2_with fail
      refine HCK.out.mono ?_
      rintro e w3 ⟨A3, c3, rfl, o3, b3⟩
      have HG3 := hid (HGG.out A3 c3 w3 b3 o3)
      have hfz := HFZ.out w3 b3
      have hce := HCE.out w3 b3
      rw [RL_get P C _ k (by rw [midQ_len]; exact hlt)] at hce
      have B3 := Below.next hbel b3
      have hs3 := b3.size
      rw [← HNL.out] at HG3
      go_wp2_with fail
      go_roundw
      case rel => exact ⟨k + 1, by omega, by go_num, ⟨_, _, HG3⟩, B3.setCell (Nat.le_refl _) _⟩
      case measure => simp [intOf]; omega
    · have hkl : k = t := by omega
      subst hkl
      rw [midQ_all, HRR.out] at HG
      go_wp2_with fail
      go_ret
      exact ⟨_, _, rfl, HG.out.own2, hbel⟩
end Go.Proofs.Ytmjncedijddmmaa
