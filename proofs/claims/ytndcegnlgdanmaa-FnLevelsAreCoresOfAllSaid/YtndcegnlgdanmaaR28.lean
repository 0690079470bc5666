/-
  Several texts in one.
-/
import Derived.Test.YtndcegnlgdanmaaR24
import Derived.Test.YtndcegnlgdanmaaCB
import Derived.Test.YtndcegnlgdanmaaR01
import Derived.Test.YtndcegnlgdanmaaR22
import Derived.Test.YtndcegnlgdanmaaR27
import Derived.Test.YtndcegnlgdanmaaR23
import Derived.Test.YtndcegnlgdanmaaR11
/-
  Contracts: FromCore of the program.
-/
namespace Go.Proofs.Ytndcegnlgdanmaa
open Go.RowKit

def fcOk (p : List Int) (rows : List (List Int)) : Bool := isCoreF p rows.length && (rows.all good && decide (p.sum + rows.length * sumN (fun i => (rowsR rows i).sum) rows.length ≤ 30))
def fcF (p : List Int) (rows : List (List Int)) : List Int := if fcOk p rows then fcP rows.length p (mulN rows.length 30) (rowsR rows) else []
def fcB (p : List Int) (rows : List (List Int)) (i : Nat) : List Int := beadsF (rowsR rows i) (ctN rows.length p (mulN rows.length 30) i)
def fcBk (p : List Int) (rows : List (List Int)) (i : Nat) : Bool := beadsOk (rowsR rows i) (ctN rows.length p (mulN rows.length 30) i)
theorem all_rows {rows : List (List Int)} : rows.all good = true ↔ ∀ i, i < rows.length → good (rowsR rows i) = true := by
  rw [List.all_eq_true]
  constructor
  · intro h i hi
    unfold rowsR
    rw [List.getD_eq_getElem?_getD, List.getElem?_eq_getElem hi]
    exact h _ (List.getElem_mem hi)
  · intro h x hx
    obtain ⟨i, hi, rfl⟩ := List.getElem_of_mem hx
    have := h i hi
    unfold rowsR at this
    rw [List.getD_eq_getElem?_getD, List.getElem?_eq_getElem hi] at this
    exact this
theorem fc_bad {p : List Int} {rows : List (List Int)} {k : Nat} (hk : k < rows.length) (h : fcBk p rows k = false) : fcOk p rows = false := by
  cases hf : fcOk p rows
  · rfl
  · exfalso
    unfold fcOk at hf
    rw [Bool.and_eq_true, Bool.and_eq_true, decide_eq_true_eq] at hf
    obtain ⟨h1, h2, h3⟩ := hf
    have hg := all_rows.1 h2
    have hcr : crB p rows.length = true := by unfold isCoreF at h1; exact (Bool.and_eq_true _ _ ▸ h1).1
    have hin := inB_iff.1 (crB_good hcr).2
    have hb := mulN_bd (t := rows.length) (n := 30) (by omega)
    have he := fc_enough h1 (n := mulN rows.length 30) (by omega) (fun i hi => (good_iff _).1 (hg i hi)) h3 k hk
    have hc := ct_le rows.length p (mulN rows.length 30) k
    unfold fcBk beadsOk at h
    rw [hg k hk, inB_iff.2 ⟨by omega, by omega⟩] at h
    cases h
theorem fc_all {p : List Int} {rows : List (List Int)} (hc : isCoreF p rows.length = true) (h : ∀ k, k < rows.length → fcBk p rows k = true) :
    frOk ((List.range rows.length).map (fcB p rows)) = fcOk p rows ∧ partsL (frF ((List.range rows.length).map (fcB p rows))) = fcF p rows ∧ (frF ((List.range rows.length).map (fcB p rows))).length ≤ 1000 ∧ ∀ j, j < (frF ((List.range rows.length).map (fcB p rows))).length → 0 ≤ (frF ((List.range rows.length).map (fcB p rows))).getD j 0 ∧ (frF ((List.range rows.length).map (fcB p rows))).getD j 0 ≤ 1000 := by
  have hcr : crB p rows.length = true := by unfold isCoreF at hc; exact (Bool.and_eq_true _ _ ▸ hc).1
  have hin := inB_iff.1 (crB_good hcr).2
  have hb := mulN_bd (t := rows.length) (n := 30) (by omega)
  have Gp := ((good_iff p).1 (crB_good hcr).1)
  have hpl := Gp.len
  have hg : ∀ i, i < rows.length → good (rowsR rows i) = true ∧ (rowsR rows i).length ≤ ctN rows.length p (mulN rows.length 30) i := fun i hi => by
    have := h i hi
    unfold fcBk beadsOk at this
    rw [Bool.and_eq_true] at this
    exact ⟨this.1, by have := inB_iff.1 this.2; omega⟩
  have hrow : ∀ i, i < rows.length → fcB p rows i = fcR rows.length p (mulN rows.length 30) (rowsR rows) i := fun i hi => by
    have hc := ct_le rows.length p (mulN rows.length 30) i
    unfold fcB beadsF fcR
    rw [if_pos ⟨(hg i hi).1, by have := (hg i hi).2; omega, by omega⟩, Int.toNat_natCast]
  have hl : ((List.range rows.length).map (fcB p rows)).length = rows.length := by simp
  have hrr : ∀ i, i < rows.length → rowsR ((List.range rows.length).map (fcB p rows)) i = fcB p rows i := fun i hi => by simp [rowsR, List.getD, hi]
  have hfl : frL ((List.range rows.length).map (fcB p rows)) = fcA rows.length p (mulN rows.length 30) (rowsR rows) := by
    unfold frL fcA
    rw [hl]
    congr 1
    have : ∀ n, n ≤ rows.length → abfL rows.length (rowsR ((List.range rows.length).map (fcB p rows))) n = abfL rows.length (fcR rows.length p (mulN rows.length 30) (rowsR rows)) n := by
      intro n
      induction n with
      | zero => intro _; rfl
      | succ n ih => intro hn; rw [abfL, abfL, ih (by omega), hrr n (by omega), hrow n (by omega)]
    exact this _ (Nat.le_refl _)
  obtain ⟨R, pw, pos, len, sum⟩ := fc_facts hc (n := mulN rows.length 30) (by omega) (by omega) (q := rowsR rows) (fun i hi => (good_iff _).1 (hg i hi).1) (fun i hi => (hg i hi).2)
  have e1 : frOk ((List.range rows.length).map (fcB p rows)) = isAba rows.length (fcA rows.length p (mulN rows.length 30) (rowsR rows)) := by
    have := fr_full (rows := (List.range rows.length).map (fcB p rows)) (by rw [hl]; exact (crB_good hcr).2) fun i hi => by
      rw [hl] at hi
      rw [hrr i hi, hrow i hi]
      exact rises_Rises.2 (beads_rise ((good_iff _).1 (hg i hi).1) (by have := ct_le rows.length p (mulN rows.length 30) i; omega))
    rw [this, hl, hfl]
  have e2 : isAba rows.length (fcA rows.length p (mulN rows.length 30) (rowsR rows)) = fcOk p rows := by
    have hall : rows.all good = true := all_rows.2 fun i hi => (hg i hi).1
    unfold isAba fcOk
    rw [(crB_good hcr).2, hc, hall, Bool.true_and, Bool.true_and, Bool.true_and]
    by_cases hs : p.sum + rows.length * sumN (fun i => (rowsR rows i).sum) rows.length ≤ 30
    · rw [decide_eq_true hs]
      exact goodB_of (by rw [len]; omega) R (by rw [sum, len]; omega)
    · rw [decide_eq_false hs]
      cases hgb : goodB (fcA rows.length p (mulN rows.length 30) (rowsR rows))
      · rfl
      · exfalso
        have := goodB_sum (goodB_iff.1 hgb)
        rw [sum, len] at this; omega
  have e3 : frOk ((List.range rows.length).map (fcB p rows)) = fcOk p rows := by rw [e1, e2]
  refine ⟨e3, ?_, ?_⟩
  · unfold frF fcF
    rw [e3, hfl]
    split <;> rfl
  · unfold frF
    rw [hfl]
    split
    · exact ⟨by rw [len]; omega, R.bd⟩
    · exact ⟨by simp, fun j hj => absurd hj (by simp)⟩

theorem tot_map (f : Nat → List Int) (m : Nat) (h : ∀ i, (f i).length ≤ m) : ∀ n, tot ((List.range n).map f) ≤ n * m
  | 0 => by simp [tot]
  | n + 1 => by
    rw [List.range_succ, List.map_append, tot_append, Nat.succ_mul]
    have := tot_map f m h n
    have := h n
    simp only [List.map_cons, List.map_nil, tot]; omega

end Go.Proofs.Ytndcegnlgdanmaa
/-
  Contracts: all beads of a board moved down.
-/
namespace Go.Proofs.Ytndcegnlgdanmaa
open Go.RowKit

set_option maxRecDepth 100000 in
set_option maxHeartbeats 8000000 in
theorem pushed_any (t : Nat) (F : Nat → Bool) (w : World) (ht : 2 ≤ t ∧ t ≤ 6) :
    Calls Try.prog 66 #[bdV t F] w fun e w' => e = .returned (.tuple #[bdV t (pdB t F), .int .i64 (wB F t - wB (pdB t F) t)]) ∧ Below w.heap.size w w' := by
  have hz := Try.bdZero
  unfold bdV at hz ⊢
  obtain ⟨w0, hw0⟩ : ∃ w0, w0 = ((w.alloc (.cells (ca 217 (brdV t F)) 60)).alloc (.cells (ca 217 (brdV 0 fun _ => false)) 60)) := ⟨_, rfl⟩
  have x1 : Blk w0 w.heap.size 60 217 (brdV t F) := by rw [hw0]; exact (Blk.new w 60 217 (brdV t F)).alloc _
  have x2 : Blk w0 (w.heap.size + 1) 60 217 (brdV 0 fun _ => false) := by
    rw [hw0]
    have h := Blk.new (w.alloc (.cells (ca 217 (brdV t F)) 60)) 60 217 (brdV 0 fun _ => false)
    rw [World.size_alloc] at h; exact h
  have hb : Below w.heap.size w w0 := by rw [hw0]; exact ((Below.refl _ _).alloc (Nat.le_refl _) _).alloc (by simp) _
  have hw0s : w0.heap.size = w.heap.size + 2 := by rw [hw0]; simp
  have X1 := hid x1; have X2 := hid x2
  have HW := hid hw0
  clear hw0 x1 x2
  have HLO := hid fun F W => lowered_any t F W ht
  unfold bdV at HLO
  have hwb := wB_bd F t
  obtain ⟨V, hV⟩ : ∃ V, V = wB F t := ⟨_, rfl⟩
  have HV := hid hV
  rw [← hV] at hwb ⊢
  clear hV
  obtain ⟨Z, hZ⟩ : ∃ Z, Z = pdB t F := ⟨_, rfl⟩
  obtain ⟨M, hM⟩ : ∃ M, M = V - wB (pdB t F) t := ⟨_, rfl⟩
  rw [← hM, ← hZ]
  have HZ := hid hZ; have HM := hid hM
  clear hZ hM
  go_enter Try.func66, Try.ntmps66
  go_upto_region 1 with fail
  rw [← HW.out]
  go_wp2_with (refine wpList_load_row rfl 60 _ rfl w.heap.size rfl 60 _ (0, 0) _ X1.out Try.underlying60 rfl (by rw [ca_size]; exact Try.bdSize) ?_)
  refine (HLO.out F _).mono ?_
  rintro e w1 ⟨G1, rfl, hG1, b1⟩
  have hs1 := b1.size
  have L0 := hid (Blk.new w1 60 217 (brdV 0 fun _ => false))
  obtain ⟨w2, hw2⟩ : ∃ w2, w2 = (w1.alloc (.cells (ca 217 (brdV 0 fun _ => false)) 60)).setRow w1.heap.size (ca 217 (brdV t G1)) := ⟨_, rfl⟩
  have b12 : Below w1.heap.size w1 w2 := by rw [hw2]; exact setRow_below ((Below.refl _ _).alloc (Nat.le_refl _) _) (Nat.le_refl _) _
  have Y1 := hid ((X1.out.next b1).next b12)
  have Y2 := hid ((X2.out.next b1).next b12)
  have Y3 : Hid (Blk w2 w1.heap.size 60 217 (brdV t G1)) := hid (by rw [hw2]; exact setRow_blk L0.out (brdV t G1))
  have B2 : Below w.heap.size w w2 := Below.next (Below.next hb b1) b12
  have hs2 : w2.heap.size = w1.heap.size + 1 := by rw [hw2]; simp
  have HW2 := hid hw2
  have HLow := hid hG1
  clear hw2 hG1 b12 X1 X2 hb
  go_wp2_with (refine wpList_store_row rfl 60 _ _ rfl w1.heap.size _ rfl rfl 60 _ L0.out (by rw [ca_size]; exact Try.bdSize) (by rw [ca_size, ca_size]) (brd_one _ _) ?_)
  rw [← HW2.out]
  simp only [Act.put]
  clear HW2 L0
  go_loopw [4, 5] (fun mv p wr => ∃ (m : Int) (g : Nat) (F' G : Nat → Bool), mv = .int .i64 m ∧ p = .pointer (some ⟨g, 0, none⟩) ∧ 0 ≤ m ∧ Hid (pdB t F' = pdB t F) ∧ Hid (wB F' t + m = V) ∧ Hid (Low t F' G) ∧ Hid (Blk wr w.heap.size 60 217 (brdV t F')) ∧ Hid (Blk wr (w.heap.size + 1) 60 217 (brdV 0 fun _ => false)) ∧ Hid (Blk wr g 60 217 (brdV t G)) ∧ w.heap.size + 2 ≤ g ∧ Below w.heap.size w wr) (fun mv _ _ => (V - intOf mv).toNat)
  case atStart => exact ⟨0, w1.heap.size, F, G1, rfl, rfl, by omega, hid rfl, hid (by rw [HV.out]; omega), HLow, Y1, Y2, Y3, by omega, B2⟩
  case round =>
    obtain ⟨m, g, F', G, rfl, rfl, hm0, HPD, HWB, HL, HX, HR, HG, hg2, hbel⟩ := hrel
    clear Y1 Y2 Y3 B2 HLow
    have hwb2 := wB_bd F' t
    have hmv : m ≤ V := by have := HWB.out; omega
    have hgl := HG.out.lt
    by_cases hE : ∀ k, k < 216 → G k = F' k
    · have hpd := low_eq HL.out ht.2 hE
      have heq := fun W => run_eq_bd (t : Int) (by unfold I64; omega) G F' W true (by simp only [true_iff]; exact hE)
      unfold bdV at heq
      have hfe : F' = pdB t F := hpd.trans HPD.out
      have hmm : m = V - wB (pdB t F) t := by have := HWB.out; rw [← hfe]; omega
      have hzz : F' = Z := by rw [HZ.out]; exact hfe
      have hmm2 : m = M := by rw [HM.out]; exact hmm
      subst hzz hmm2
      have z3 := setRow_blk HR.out (brdV t F')
      clear hE hpd hfe hmm hwb2
      go_wp2_with (first | (refine wpList_load_row rfl 60 _ rfl g rfl 60 _ (0, 0) _ HG.out Try.underlying60 rfl (by rw [ca_size]; exact Try.bdSize) ?_) | (refine wpList_load_row rfl 60 _ rfl w.heap.size rfl 60 _ (0, 0) _ HX.out Try.underlying60 rfl (by rw [ca_size]; exact Try.bdSize) ?_) | (refine wpList_store_row rfl 60 _ _ rfl (w.heap.size + 1) _ rfl rfl 60 _ HR.out (by rw [ca_size]; exact Try.bdSize) (by rw [ca_size, ca_size]) (brd_one _ _) ?_))
      refine bodyPost_ret (results_cell2 rfl _ _ _ (w.heap.size + 1) 60 _ (0, 0) _ rfl z3 Try.underlying60 rfl (by rw [ca_size]; exact Try.bdSize)) rfl ⟨rfl, setRow_below hbel (by omega) _⟩
    · obtain ⟨hp1, hp2⟩ := low_ne HL.out hE
      have heq := fun W => run_eq_bd (t : Int) (by unfold I64; omega) G F' W false (by simp only [Bool.false_eq_true, false_iff]; exact hE)
      unfold bdV at heq
      have hwb3 := wB_bd G t
      have HP1 := hid (hp1.trans HPD.out)
      have HP2 := hid (show wB G t + (m + 1) = V by have := HWB.out; omega)
      have hmv2 : m + 1 ≤ V := by have := HWB.out; omega
      have HGB := hid hwb3
      clear hE hp1 hp2 hwb2 HPD HWB HL hwb3
      obtain ⟨w3, hw3⟩ : ∃ w3, w3 = wr.setRow w.heap.size (ca 217 (brdV t G)) := ⟨_, rfl⟩
      have n1 : Blk w3 w.heap.size 60 217 (brdV t G) := by rw [hw3]; exact setRow_blk HX.out _
      have n2 : Blk w3 (w.heap.size + 1) 60 217 (brdV 0 fun _ => false) := by rw [hw3]; exact HR.out.otherR (by omega) _
      have n3 : Blk w3 g 60 217 (brdV t G) := by rw [hw3]; exact HG.out.otherR (by omega) _
      have B3 : Below w.heap.size w w3 := by rw [hw3]; exact setRow_below hbel (Nat.le_refl _) _
      have N0 := hid (Blk.new w3 60 217 (brdV 0 fun _ => false))
      obtain ⟨w4, hw4⟩ : ∃ w4, w4 = (w3.alloc (.cells (ca 217 (brdV 0 fun _ => false)) 60)).setRow w3.heap.size (ca 217 (brdV t G)) := ⟨_, rfl⟩
      have b34 : Below w3.heap.size w3 w4 := by rw [hw4]; exact setRow_below ((Below.refl _ _).alloc (Nat.le_refl _) _) (Nat.le_refl _) _
      have N1 := hid (n1.next b34); have N2 := hid (n2.next b34)
      have N3 := hid n3
      have N4 : Hid (Blk w4 w3.heap.size 60 217 (brdV t G)) := hid (by rw [hw4]; exact setRow_blk N0.out _)
      have B4 : Below w.heap.size w w4 := Below.next B3 b34
      have hs3 := b34.size
      have hs3g : g < w3.heap.size := n3.lt
      have HW3 := hid hw3; have HW4 := hid hw4
      clear hw3 hw4 n1 n2 n3 b34 B3
      go_upto_region 7 with (first | (refine wpList_load_row rfl 60 _ rfl g rfl 60 _ (0, 0) _ HG.out Try.underlying60 rfl (by rw [ca_size]; exact Try.bdSize) ?_) | (refine wpList_load_row rfl 60 _ rfl w.heap.size rfl 60 _ (0, 0) _ HX.out Try.underlying60 rfl (by rw [ca_size]; exact Try.bdSize) ?_) | (refine wpList_store_row rfl 60 _ _ rfl w.heap.size _ rfl rfl 60 _ HX.out (by rw [ca_size]; exact Try.bdSize) (by rw [ca_size, ca_size]) (brd_one _ _) ?_))
      rw [← HW3.out]
      go_upto_region 4 with (first | (refine wpList_load_row rfl 60 _ rfl g rfl 60 _ (0, 0) _ N3.out Try.underlying60 rfl (by rw [ca_size]; exact Try.bdSize) ?_) | (refine wpList_store_row rfl 60 _ _ rfl w3.heap.size _ rfl rfl 60 _ N0.out (by rw [ca_size]; exact Try.bdSize) (by rw [ca_size, ca_size]) (brd_one _ _) ?_))
      rw [← HW4.out]
      go_wp2_with (refine wpList_load_row rfl 60 _ rfl w.heap.size rfl 60 _ (0, 0) _ N1.out Try.underlying60 rfl (by rw [ca_size]; exact Try.bdSize) ?_)
      refine (HLO.out G _).mono ?_
      rintro e w5 ⟨G2, rfl, hG2, b5⟩
      have hs5 := b5.size
      have HG2 := hid hG2
      have M4 := hid (N4.out.next b5)
      have B5 : Below w.heap.size w w5 := Below.next B4 b5
      obtain ⟨w6, hw6⟩ : ∃ w6, w6 = w5.setRow w3.heap.size (ca 217 (brdV t G2)) := ⟨_, rfl⟩
      have M1 : Hid (Blk w6 w.heap.size 60 217 (brdV t G)) := hid (by rw [hw6]; exact (N1.out.next b5).otherR (by omega) _)
      have M2 : Hid (Blk w6 (w.heap.size + 1) 60 217 (brdV 0 fun _ => false)) := hid (by rw [hw6]; exact (N2.out.next b5).otherR (by omega) _)
      have M3 : Hid (Blk w6 w3.heap.size 60 217 (brdV t G2)) := hid (by rw [hw6]; exact setRow_blk M4.out _)
      have B6 : Below w.heap.size w w6 := by rw [hw6]; exact setRow_below B5 (by omega) _
      have HW6 := hid hw6
      clear hw6 hG2
      go_wp2_with (refine wpList_store_row rfl 60 _ _ rfl w3.heap.size _ rfl rfl 60 _ M4.out (by rw [ca_size]; exact Try.bdSize) (by rw [ca_size, ca_size]) (brd_one _ _) ?_)
      rw [← HW6.out]
      simp only [Act.put]
      go_roundw
      case rel => exact ⟨m + 1, w3.heap.size, G, G2, by go_num, rfl, by omega, HP1, HP2, HG2, M1, M2, M3, by omega, B6⟩
      case measure => simp [intOf]; omega
end Go.Proofs.Ytndcegnlgdanmaa
