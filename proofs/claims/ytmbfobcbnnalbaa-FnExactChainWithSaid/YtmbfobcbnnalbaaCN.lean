/-
  Several texts in one.
-/
import Derived.Test.YtmbfobcbnnalbaaCM
import Derived.Test.YtmbfobcbnnalbaaCycMath
import Derived.Test.YtmbfobcbnnalbaaTakeRim
import Derived.Test.YtmbfobcbnnalbaaCyc
/-
  Plain facts on characters: both sides' sums.
-/
namespace Go.Proofs.Ytmbfobcbnnalbaa

/-- Cycle after cycle, forwards. -/
def chG : List Int → (List Int → Int) → List Int → Int
  | [], G, p => G p
  | c :: cs, G, p => tkF c (fun q => chG cs G q) p
theorem chG_snoc (cs : List Int) (c : Int) (G : List Int → Int) (p : List Int) : chG (cs ++ [c]) G p = chG cs (tkF c G) p := by
  induction cs generalizing p with
  | nil => rfl
  | cons x t ih =>
    simp only [List.cons_append, chG]
    congr 1
    funext q
    exact ih q
theorem tkF_congr {t : Int} {G G' : List Int → Int} {p : List Int} (h : ∀ x ∈ tkL p t, G x.1 = G' x.1) : tkF t G p = tkF t G' p := by
  unfold tkF
  congr 1
  apply List.map_congr_left
  intro x hx
  rw [h x hx]
theorem chG_congr : ∀ (cs : List Int) {G G' : List Int → Int} {p : List Int}, Good p → (∀ c ∈ cs, 1 ≤ c) → (∀ q, Good q → q.sum = p.sum - cs.sum → G q = G' q) → chG cs G p = chG cs G' p
  | [], G, G', p, Gp, _, h => h p Gp (by simp)
  | c :: cs, G, G', p, Gp, hc, h => by
    simp only [chG]
    refine tkF_congr fun x hx => ?_
    obtain ⟨h1, h2, _⟩ := tkK_mem Gp (by have := hc c (by simp); omega) p.length (Nat.le_refl _) x hx
    exact chG_congr cs h1 (fun d hd => hc d (by simp [hd])) fun q Gq hq => h q Gq (by rw [List.sum_cons]; omega)
/-- Rim after rim, as the model tells it. -/
def sumQ (p : List Int) (F : List Int → Int) (Q : List (Nat × Nat)) : Int := (Q.map fun q => takeSg p q * F (takeL p q)).sum
def chM : List Int → List Int → Int
  | [], _ => 1
  | c :: cs, p => sumQ p (fun q => chM cs q) (rimCs p c)
theorem sumQ_take (p : List Int) (F : List Int → Int) (Q : List (Nat × Nat)) (k : Nat) (h : k < Q.length) : sumQ p F (Q.take (k + 1)) = sumQ p F (Q.take k) + takeSg p (Q.getD k (0, 0)) * F (takeL p (Q.getD k (0, 0))) := by
  unfold sumQ
  rw [List.take_succ_eq_append_getElem h, List.map_append, List.sum_append]
  have e : Q.getD k (0, 0) = Q[k] := by rw [List.getD_eq_getElem?_getD, List.getElem?_eq_getElem h]; rfl
  rw [e]; simp
theorem sumQ_append (p : List Int) (F : List Int → Int) (Q R : List (Nat × Nat)) : sumQ p F (Q ++ R) = sumQ p F Q + sumQ p F R := by simp [sumQ, List.sum_append]
/-- The rows downwards and the rows upwards. -/
def rowS (p : List Int) (t : Int) (F : List Int → Int) (r : Nat) : Int := sumQ p F (rowHits p t r)
theorem sum_hits (p : List Int) (t : Int) (F : List Int → Int) : ∀ k, sumQ p F (hits (hooksR p) t k) = (fnRow k (rowS p t F)).sum
  | 0 => by simp [hits, sumQ, fnRow]
  | k + 1 => by
    rw [hits_succ]
    unfold hitsAt
    rw [sumQ_append, sum_hits p t F k]
    simp only [fnRow, List.range_succ, List.map_append, List.map_cons, List.map_nil, List.sum_append, List.sum_cons, List.sum_nil]
    unfold rowS rowHits
    omega
theorem sum_tkK (p : List Int) (t : Int) (F : List Int → Int) : ∀ k, ((tkK p t k).map fun x => x.2 * F x.1).sum = (fnRow k fun j => rowS p t F (p.length - 1 - j)).sum
  | 0 => by simp [tkK, fnRow]
  | k + 1 => by
    rw [tkK, List.map_append, List.sum_append, sum_tkK p t F k]
    simp only [fnRow, List.range_succ, List.map_append, List.map_cons, List.map_nil, List.sum_append, List.sum_cons, List.sum_nil, List.map_map]
    unfold rowS sumQ
    simp only [Function.comp_def]
    omega
theorem tkF_sumQ (p : List Int) (t : Int) (F : List Int → Int) : tkF t F p = sumQ p F (rimCs p t) := by
  unfold tkF tkL rimCs
  rw [sum_tkK, sum_hits, sum_fn_rev (rowS p t F)]
theorem chM_chG : ∀ (cs p : List Int), chM cs p = chG cs (fun _ => 1) p
  | [], _ => rfl
  | c :: cs, p => by
    simp only [chM, chG]
    rw [tkF_sumQ]
    congr 1
    funext q
    exact chM_chG cs q
def dlt (x : List Int) : List Int → Int := fun q => if q = x then 1 else 0
theorem good_zero {q : List Int} (G : Good q) (h : q.sum = 0) : q = [] := by
  have := G.len_le
  exact List.eq_nil_of_length_eq_zero (by omega)
/-- Both sides' numbers are alike. -/
theorem chG_chM {cs p : List Int} (G : Good p) (hc : ∀ c ∈ cs, 1 ≤ c) (hs : cs.sum = p.sum) : chG cs (dlt []) p = chM cs p := by
  rw [chM_chG]
  refine chG_congr cs G hc fun q Gq hq => ?_
  rw [good_zero Gq (by omega)]; rfl
end Go.Proofs.Ytmbfobcbnnalbaa
/-
  Contract: characters of the program.
-/
namespace Go.Proofs.Ytmbfobcbnnalbaa
open Go.RowKit Go.Maps Go.ChangeMaps Go.MapKept Go.WideMaps Go.WideElems Go.WideShapes

def p12n (k : Nat) : Nat := 12 ^ k
theorem p12n_bd : ∀ k < 12, p12n k ≤ 1000000000000 := by decide +kernel
theorem p12n_succ (k : Nat) : p12n (k + 1) = 12 * p12n k := by unfold p12n; rw [Nat.pow_succ, Nat.mul_comm]
theorem SW.at {w : World} {b n m : Nat} {Φ : (List Int → Int) → Int} {D : DataW Unit} (h : SW w b n m Φ D) (hm : m ≤ 12) {x : List Int} (hx : Sh x) {c : Int} (hat : D.atKey (klit x) (.lit (.int .i64 0)) = .lit (.int .i64 c)) : eqw c (Φ (dlt x)) := by
  have h1 := h.sum (dlt x)
  have hk := klit_key hx
  have e1 := sumD_one h.own.tidy' hk (fun _ => 1)
  have e2 : sumD D (fun l => dlt x (dec l)) = sumD D (fun z => if z.sameKey (klit x) then 1 else 0) := by
    refine sumD_congr (fun l hl => ?_) (fun es e p hp => h.own.kl es e p hp)
    obtain ⟨q, Gq, hq, rfl⟩ := h.keys l hl
    have hSq := Gq.sh (by omega)
    rw [dec_k hSq]
    unfold dlt
    by_cases e : q = x
    · subst e; rw [if_pos rfl, WideAt.sameKey_self hk]; rfl
    · rw [if_neg e]
      cases hs : (klit q).sameKey (klit x)
      · rfl
      · exact absurd (key_inj hSq hx (WideAt.sameKey_eq hs)) e
  rw [e2, e1, hat] at h1
  have e3 : (1 : Int) * dval (DataW.lit (Lit.int .i64 c) : DataW Unit) = c := by show (1 : Int) * c = c; omega
  rw [e3] at h1
  exact h1
/-- One shape with the number 1. -/
theorem SW.one {w : World} {b m : Nat} {p : List Int} (G : Good p) (hp : p.sum = m) (hm : m ≤ 12) (h : mOwn w b 1 ((DataW.map [] : DataW Unit).put (klit p) (.lit (.int .i64 1)))) : SW w b 1 m (fun F => F p) ((DataW.map [] : DataW Unit).put (klit p) (.lit (.int .i64 1))) := by
  refine ⟨h, keys_put (fun l hl => by cases hl) G hp _, fun F => eqw.of ?_⟩
  rw [sumD_put tidy_empty, dec_k (G.sh (by omega))]
  have e1 : sumD (DataW.map [] : DataW Unit) (fun l => F (dec l)) = 0 := rfl
  have e2 : dval (DataW.lit (Lit.int .i64 1) : DataW Unit) - dval ((DataW.map [] : DataW Unit).atKey (klit p) (.lit (.int .i64 0))) = 1 := rfl
  rw [e1, e2]; omega
theorem wfI_wrap {c : Int} (h : (Lit.int .i64 c).wf = true) : wrap64 c = c := by
  simp [Lit.wf] at h
  have e : IntKind.i64.min = -9223372036854775808 := by decide
  rw [e] at h
  exact IntWalk.wrap64_in c h
theorem sh_nil : Sh [] := ⟨by simp, by simp⟩

set_option maxRecDepth 100000 in
set_option maxHeartbeats 4000000 in
theorem characterAt_any (A A2 : Option Addr) (c c2 : Nat) (p cs : List Int) (w : World) (G : Good p) (hs : p.sum ≤ 12) (hcy : cycB cs = true) (hsum : cs.sum = p.sum) (hc : Cells w A p) (hc2 : Cells w A2 cs) :
    Calls Try.prog 119 #[.slice A p.length c, .slice A2 cs.length c2] w fun e w' => e = .returned (.int .i64 (wrap64 (chM cs p))) ∧ Below w.heap.size w w' := by
  have hmm := @run_makeMap Try.prog
  have hSh := G.sh hs
  obtain ⟨hl12, _, _, hx, _⟩ := cyc_len hcy
  have HX := hid hx
  have hps := G.sum0
  obtain ⟨m, hm⟩ : ∃ m : Nat, p.sum = m := ⟨p.sum.toNat, by omega⟩
  have hown0 : mOwn (w.alloc (.map #[] 0)) w.heap.size 0 (.map []) := World.ownsMap_made _ _ _ _
  have b0 : Below w.heap.size w (w.alloc (.map #[] 0)) := (Below.refl _ _).alloc (Nat.le_refl _) _
  have HSO := hid (shapeOf_any A c p (w.alloc (.map #[] 0)) hSh.len (hc.later b0))
  have HO := hid hown0; have HB0 := hid b0
  have HCH := hid (chG_chM G (cs := cs) (fun x hx' => by
    obtain ⟨j, hj, rfl⟩ := List.getElem_of_mem hx'
    have := hx j hj
    rw [List.getD_eq_getElem?_getD, List.getElem?_eq_getElem hj] at this
    exact this.1) hsum)
  have HSN := hid fun k (hk : k < cs.length) (F : List Int → Int) => (show chG (cs.take k) (tkF (cs.getD k 0) F) p = chG (cs.take (k + 1)) F p by
    rw [← chG_snoc]
    congr 1
    rw [List.take_succ_eq_append_getElem hk]
    congr 2
    rw [List.getD_eq_getElem?_getD, List.getElem?_eq_getElem hk]; rfl)
  have hm12 : m ≤ 12 := by omega
  clear hown0 b0 hx
  go_enter Try.func119, Try.ntmps119
  go_wp2_with fail
  refine HSO.out.mono ?_
  rintro e w2 ⟨rfl, b2⟩
  rw [World.size_alloc] at b2
  have ho2 := HO.out.kept (grown_of_below (by rw [World.size_alloc]; exact b2)) (by simp)
  obtain ⟨w3, hr3, ho3, hg3⟩ := World.ownsMap.update ho2 Try.shKeyed Try.underlying110 (by unfold maxLen; omega) (key_of hSh) (plainElem_int Try.underlying3 (show (Lit.int .i64 1).wf = true by decide))
  have HS3 := hid (SW.one (b := w.heap.size) G hm hm12 ho3)
  have hb3 : Below w.heap.size w w3 := by
    have h1 := HB0.out.trans (b2.mono (by omega))
    exact h1.trans ⟨hg3.os, hg3.tape, hg3.output, hg3.size, fun i hi => hg3.block i (by have := h1.size; omega) (fun e => by injection e with e; omega)⟩
  have HB3 := hid hb3
  clear b2 ho2 ho3 hg3 hb3
  go_wp2_with fail
  go_loopw [5, 14] (fun v i wr => ∃ (k b' : Nat) (D' : DataW Unit), k ≤ cs.length ∧ i = .int .i64 k ∧ v = .map (some b') ∧ Hid (SW wr b' (p12n k) (m - (cs.take k).sum.toNat) (fun F => chG (cs.take k) F p) D') ∧ Hid (Below w.heap.size w wr)) (fun _ i _ => cs.length - (intOf i).toNat)
  case atStart => exact ⟨0, w.heap.size, _, Nat.zero_le _, rfl, rfl, HS3, HB3⟩
  case round =>
    obtain ⟨k, b', D', hk, rfl, rfl, HS, HB⟩ := hrel
    obtain ⟨wo, rfl⟩ : ∃ wo : World, wo = wr := ⟨_, rfl⟩
    by_cases hlt : k < cs.length
    · obtain ⟨b, o, rfl, hcc⟩ := (hc2.later HB.out) (by omega)
      have hck := hcc k hlt
      have hxb := HX.out k hlt
      have HSN' := hid (HSN.out k hlt)
      have hts := sum_take_succ cs k hlt
      have htn := sum_take_nn cs (fun j hj => (HX.out j hj).1) k
      have hp12 := p12n_bd k (by omega)
      have HPS := hid (p12n_succ k)
      obtain ⟨x, hx⟩ : ∃ x, x = cs.getD k 0 := ⟨_, rfl⟩
      rw [← hx] at hck hxb HSN' hts
      have HWI := hid (without_any b' (p12n k) (m - (cs.take k).sum.toNat) x (fun F => chG (cs.take k) F p) D' wo (by omega) hxb hp12 HS.out)
      have HMM := hid (show m - (cs.take k).sum.toNat - x.toNat = m - (cs.take (k + 1)).sum.toNat by rw [hts]; omega)
      have HFE := hid (show (fun F => chG (cs.take k) (tkF x F) p) = (fun F => chG (cs.take (k + 1)) F p) from funext fun F => HSN'.out F)
      clear hcc hx hts htn hp12
      go_wp2_with fail
      refine HWI.out.mono ?_
      rintro e w4 ⟨b4, D4, rfl, hb4, hs4, bel4⟩
      have HS4 := hid (show SW w4 b4 (p12n (k + 1)) (m - (cs.take (k + 1)).sum.toNat) (fun F => chG (cs.take (k + 1)) F p) D4 by rw [HPS.out, ← HMM.out, ← HFE.out]; exact hs4)
      have HB4 := hid (HB.out.trans (bel4.mono HB.out.size))
      clear hb4 hs4 bel4
      go_wp2_with fail
      go_roundw
      case rel => exact ⟨k + 1, b4, D4, by omega, by go_num, rfl, HS4, HB4⟩
      case measure => simp [intOf]; omega
    · have hkl : k = cs.length := by omega
      subst hkl
      have hS := HS.out
      obtain ⟨c', hrun, hat, hwc⟩ := hS.own.lookup_int Try.shKeyed Try.underlying110 Try.underlying3 (Try.zeroI _) (key_of sh_nil)
      have hrun2 : (Instr.lookup 110 (.map (some b')) (.agg #[.int .i64 0, .int .i64 0, .int .i64 0, .int .i64 0, .int .i64 0, .int .i64 0, .int .i64 0, .int .i64 0, .int .i64 0, .int .i64 0, .int .i64 0, .int .i64 0]) false).run Try.prog wo = .ok (.int .i64 c') wo := by
        have e : shV [] = .agg zShp := by unfold shV; rw [zShp_ca]
        rw [e] at hrun; exact hrun
      have hcv := SW.at hS (by omega) sh_nil hat
      simp only [List.take_of_length_le (Nat.le_refl cs.length)] at hcv
      rw [HCH.out] at hcv
      have HCV := hid (show c' = wrap64 (chM cs p) by
        have h1 := eqw_eq hcv
        rw [← h1]
        exact (wfI_wrap hwc).symm)
      clear hS hrun hat hwc hcv
      go_wp2_with fail
      go_ret
      exact ⟨by rw [← HCV.out]; rfl, HB.out⟩
end Go.Proofs.Ytmbfobcbnnalbaa
/-
  Contract: the model's characters.
-/
namespace Go.Proofs.Ytmbfobcbnnalbaa
open Go.RowKit

theorem takeL_sum {p : List Int} (G : Good p) {c : Int} (hc : 0 < c) {q : Nat × Nat} (hq : q ∈ rimCs p c) : Good (takeL p q) ∧ (takeL p q).sum = p.sum - c := by
  obtain ⟨h1, h2⟩ := rimCs_mem hq
  have hh : hookN p q.1 q.2 = c := by
    obtain ⟨a1, a2, a3⟩ := hits_mem hq
    rw [row_of h1] at a2 a3
    rw [rowF_len] at a2
    rw [rowF_get _ _ _ _ a2] at a3; exact a3
  -- the bead of the row goes down to the gap of the column
  have hi : p.length - 1 - (p.length - 1 - q.1) = q.1 := by omega
  have hip : p.length - 1 - q.1 < p.length := by omega
  have hone := rowHits_one G h1 h2 hh
  cases hb : tkB p c (p.length - 1 - q.1)
  · have := mv_no G hip hb
    rw [hi, hone] at this; cases this
  · obtain ⟨c', M⟩ := mv_yes G hc hip hb
    have hm := M.hits
    rw [hi, hone] at hm
    injection hm with hm _
    injection hm with _ hm
    subst hm
    obtain ⟨_, h3, h4, _⟩ := mv_sorted G hc hip M hb
    rw [hi] at h3 h4
    exact ⟨h4, h3⟩
theorem cells2_nx {w w' : World} {A : Option Addr} {rows : List (List Int)} (h : Cells2 w A rows) (hb : Below w.heap.size w w') : Cells2 w' A rows := by
  obtain ⟨P, C, h1, h2⟩ := h
  refine ⟨P, C, fun hp => ?_, fun j hj => (h2 j hj).later hb⟩
  obtain ⟨b, o, rfl, hc⟩ := h1 hp
  exact ⟨b, o, rfl, fun j hj => (hb.cell (World.block_lt_of_cell? w _ (hc j hj))).trans (hc j hj)⟩
theorem takeSg_one (p : List Int) (q : Nat × Nat) : takeSg p q = 1 ∨ takeSg p q = -1 := by unfold takeSg sgn; split <;> simp
theorem cells_tail {w : World} {b o : Nat} {x : Int} {t : List Int} (h : Cells w (some ⟨b, o, none⟩) (x :: t)) : Cells w (some ⟨b, o + 1, none⟩) t := by
  intro hp
  obtain ⟨b', o', e, hc⟩ := h (by simp)
  injection e with e
  injection e with e1 e2
  subst e1; subst e2
  exact ⟨b, o + 1, rfl, fun j hj => by have := hc (j + 1) (by simp; omega); rw [show o + 1 + j = o + (j + 1) by omega]; simpa using this⟩
theorem cells_empty (w : World) (A : Option Addr) {t : List Int} (h : t = []) : Cells w A t := by subst h; exact Cells.nil _ _

set_option maxRecDepth 100000 in
set_option maxHeartbeats 4000000 in
theorem cnCharacter_any : ∀ (cs p : List Int) (A A2 : Option Addr) (c c2 : Nat) (w : World), Good p → p.sum ≤ 12 → cs.length ≤ 12 → cs.length ≤ c2 → (∀ x ∈ cs, 1 ≤ x ∧ x ≤ 12) → Cells w A p → Cells w A2 cs →
    Calls Try.prog 116 #[.slice A p.length c, .slice A2 cs.length c2] w fun e w' => e = .returned (.int .i64 (wrap64 (chM cs p))) ∧ Below w.heap.size w w'
  | [], p, A, A2, c, c2, w, _, _, _, _, _, _, _ => by
    have e : wrap64 (chM [] p) = 1 := IntWalk.wrap64_in 1 (by omega)
    rw [e]
    go_enter Try.func116, Try.ntmps116
    go_wp2_with fail
    go_ret
    exact ⟨rfl, Below.refl _ _⟩
  | x :: t, p, A, A2, c, c2, w, G, hs, hl, hcap, hx, hc, hc2 => by
    have hx1 := hx x (by simp)
    have hlen := G.len
    have HCC := hid fun W (h : Cells W A p) => crCells_any A c p x W G h
    have hQl := rimCs_len G x
    have HQM := hid fun k (hk : k < (rimCs p x).length) => takeL_sum G (c := x) (by omega) (getD_mem (rimCs p x) k (0, 0) hk)
    have HQR := hid fun k (hk : k < (rimCs p x).length) => (show RimOK p ((rimCs p x).getD k (0, 0)).1 ((rimCs p x).getD k (0, 0)).2 (lowN p ((rimCs p x).getD k (0, 0)).2) from rim_ok G (rimCs_mem (getD_mem (rimCs p x) k (0, 0) hk)).1 (rimCs_mem (getD_mem (rimCs p x) k (0, 0) hk)).2)
    have HST := hid fun k (hk : k < (rimCs p x).length) => sumQ_take p (fun q => chM t q) (rimCs p x) k hk
    have HEND := hid (show chM (x :: t) p = sumQ p (fun q => chM t q) ((rimCs p x).take (rimCs p x).length) by rw [List.take_of_length_le (Nat.le_refl _)]; rfl)
    have IH := hid fun q A4 c4 W A5 c5 (Gq : Good q) (hq : q.sum ≤ 12) (h4 : Cells W A4 q) (h5 : Cells W A5 t) (h6 : t.length ≤ c5) => cnCharacter_any t q A4 A5 c4 c5 W Gq hq (by simp at hl; omega) h6 (fun y hy => hx y (by simp [hy])) h4 h5
    obtain ⟨b2, o2, rfl, hcc2⟩ := hc2 (by simp)
    have hcx := hcc2 0 (by simp)
    rw [Nat.add_zero] at hcx
    simp only [List.getD_cons_zero] at hcx
    have HCT := hid (show ∀ W, Below w.heap.size w W → Cells W (some ⟨b2, o2 + 1, none⟩) t from fun W hW => (cells_tail (fun _ => ⟨b2, o2, rfl, hcc2⟩)).later hW)
    obtain ⟨Q, hQ⟩ : ∃ Q, Q = rimCs p x := ⟨_, rfl⟩
    rw [← hQ] at HCC hQl HQM HQR HST HEND
    have HX := hid hcx
    have HNE := hid (show ((x :: t).length : Int) ≠ 0 by simp; omega)
    have hpl := pairs_len Q
    have HLT := hid (show (x :: t).length = t.length + 1 from rfl)
    rw [HLT.out]
    have htl : t.length ≤ 11 := by simp at hl; omega
    have hcap1 : t.length + 1 ≤ c2 := by simpa using hcap
    clear hQ hcc2 hcx hx hl hcap
    go_enter Try.func116, Try.ntmps116
    have hc0 := HX.out
    go_wp2_with (go_at_call 127; refine (HCC.out _ (by exact hc)).mono ?_; rintro e w1 ⟨A1, c1, rfl, o1, b1⟩)
    have HC2 := hid o1.cells
    have HB1 := hid b1
    clear o1 b1 hc0
    go_loopw [5, 19] (fun v i wr => ∃ (k : Nat) (s : Int), k ≤ Q.length ∧ i = .int .i64 k ∧ v = .int .i64 s ∧ Hid (eqw s (sumQ p (fun q => chM t q) (Q.take k)) ∧ wrap64 s = s) ∧ Hid (Below w1.heap.size w1 wr)) (fun _ i _ => Q.length - (intOf i).toNat)
    case atStart => exact ⟨0, 0, Nat.zero_le _, rfl, rfl, hid ⟨eqw.of (by simp [sumQ]), IntWalk.wrap64_in 0 (by omega)⟩, hid (Below.refl _ _)⟩
    case round =>
      obtain ⟨k, s, hk, rfl, rfl, HS, HB⟩ := hrel
      obtain ⟨wo, rfl⟩ : ∃ wo : World, wo = wr := ⟨_, rfl⟩
      by_cases hlt : k < Q.length
      · have h2 := cells2_nx HC2.out HB.out
        obtain ⟨b, o, b3, o3, c3, rfl, g1, g2, g3⟩ := pair_at h2 k hlt
        have hR := HQR.out k hlt
        have hqm := HQM.out k hlt
        have hst := HST.out k hlt
        have hbw : Below w.heap.size w wo := HB1.out.trans (HB.out.mono HB1.out.size)
        obtain ⟨qq, hqq⟩ : ∃ qq, qq = Q.getD k (0, 0) := ⟨_, rfl⟩
        rw [← hqq] at hR hqm hst g2 g3
        obtain ⟨r', c'⟩ := qq
        have HCT' := hid (crTake_any A c b3 o3 c3 p r' c' _ wo hR rfl (hc.later hbw) g2 g3)
        have HIH := hid fun A4 c4 W A5 c5 (h4 : Cells W A4 (takeL p (r', c'))) (h5 : Cells W A5 t) (h6 : t.length ≤ c5) => IH.out _ A4 c4 W A5 c5 hqm.1 (by have := hqm.2; omega) h4 h5 h6
        obtain ⟨tl, htl'⟩ : ∃ tl, tl = takeL p (r', c') := ⟨_, rfl⟩
        obtain ⟨sg, hsg⟩ : ∃ sg, sg = takeSg p (r', c') := ⟨_, rfl⟩
        rw [← htl', ← hsg] at HCT' hst
        rw [← htl'] at HIH
        have HST1 := hid hst
        have HBW := hid hbw
        obtain ⟨z, hz⟩ : ∃ z, z = wrap64 (chM t tl) := ⟨_, rfl⟩
        rw [← hz] at HIH
        obtain ⟨y1, hy1⟩ : ∃ y1, y1 = wrap64 (sg * z) := ⟨_, rfl⟩
        obtain ⟨y2, hy2⟩ : ∃ y2, y2 = wrap64 (s + y1) := ⟨_, rfl⟩
        have e1 : IntKind.i64.wrap (sg * z) = y1 := (IntWalk.i64_left _).trans hy1.symm
        have e2 : IntKind.i64.wrap (s + y1) = y2 := (IntWalk.i64_left _).trans hy2.symm
        have HN := hid (show eqw y2 (sumQ p (fun q => chM t q) (Q.take (k + 1))) ∧ wrap64 y2 = y2 by
          refine ⟨?_, by rw [hy2]; exact eqw_eq (eqw_wrap _)⟩
          rw [HST1.out]
          obtain ⟨a0, h0⟩ := HS.out.1
          obtain ⟨a1, h1⟩ := eqw_wrap (chM t tl)
          obtain ⟨a2, h2⟩ := eqw_wrap (sg * z)
          obtain ⟨a3, h3⟩ := eqw_wrap (s + y1)
          rw [← hz] at h1
          rw [← hy1] at h2
          rw [← hy2] at h3
          obtain ⟨a4, h4⟩ := (show eqw z (chM t tl) from ⟨a1, h1⟩).mul sg
          exact ⟨a0 + a2 + a3 + a4, by omega⟩)
        clear h2 hR hqm hst hqq hbw htl' hsg hz hy1 hy2
        have g1' := g1
        go_wp2_with fail
        refine HCT'.out.mono ?_
        rintro e w4 ⟨A4, c4, rfl, o4, b4⟩
        have HC4 := hid o4.cells
        have HB4 := hid b4
        clear o4 b4
        have HBW4 := hid (HBW.out.trans (HB4.out.mono HBW.out.size))
        go_wp2_with fail
        · have ht0 : t = [] := List.eq_nil_of_length_eq_zero (by omega)
          have h21 : c2 = 1 := by assumption
          subst h21
          refine (HIH.out _ _ _ _ _ HC4.out (cells_empty _ _ ht0) (by rw [ht0]; simp)).mono ?_
          rintro e w5 ⟨rfl, b5⟩
          have HB5 := hid (HB.out.trans ((Below.next HB4.out b5).mono HB.out.size))
          clear b5 ht0
          go_wp2_with fail
          go_roundw
          case rel => exact ⟨k + 1, y2, by omega, by go_num, rfl, HN, HB5⟩
          case measure => simp [intOf]; omega
        · refine (HIH.out _ _ _ _ _ HC4.out (HCT.out _ HBW4.out) (by omega)).mono ?_
          rintro e w5 ⟨rfl, b5⟩
          have HB5 := hid (HB.out.trans ((Below.next HB4.out b5).mono HB.out.size))
          clear b5
          go_wp2_with fail
          go_roundw
          case rel => exact ⟨k + 1, y2, by omega, by go_num, rfl, HN, HB5⟩
          case measure => simp [intOf]; omega
      · have hkl : k = Q.length := by omega
        subst hkl
        have HF := hid (show s = wrap64 (chM (x :: t) p) by rw [HEND.out]; exact HS.out.2.symm.trans (eqw_eq HS.out.1))
        have hbe := HB1.out.trans (HB.out.mono HB1.out.size)
        go_wp2_with fail
        go_ret
        exact ⟨by rw [← HF.out]; rfl, hbe⟩
end Go.Proofs.Ytmbfobcbnnalbaa
/-
  Contracts: CharacterOf on both sides.
-/
namespace Go.Proofs.Ytmbfobcbnnalbaa
open Go.RowKit

def chB (p cs : List Int) : Bool := (good p && cycB cs) && decide (p.sum = cs.sum)
def chF (p cs : List Int) : Int := if chB p cs then wrap64 (chM cs p) else 0
theorem chB_iff {p cs : List Int} : chB p cs = true ↔ Good p ∧ cycB cs = true ∧ p.sum = cs.sum := by
  simp only [chB, Bool.and_eq_true, decide_eq_true_eq, good_iff, and_assoc]

set_option maxRecDepth 100000 in
set_option maxHeartbeats 2000000 in
theorem impl_CharacterOf' (A A2 : Option Addr) (c c2 : Nat) (p cs : List Int) (w : World) (hl : p.length ≤ 1048576) (hc : Cells w A p) (hl2 : cs.length ≤ 1048576) (hc2 : Cells w A2 cs) :
    Calls Try.prog 48 #[.slice A p.length c, .slice A2 cs.length c2] w fun e w' => e = .returned (.tuple #[.int .i64 (chF p cs), .bool (chB p cs)]) ∧ Below w.heap.size w w' := by
  have HC := hid (impl_CellsOf A c p w hl hc)
  cases hg : good p
  · have hb : chB p cs = false := by simp [chB, hg]
    rw [show chF p cs = 0 by simp [chF, hb], hb]
    rw [hg] at HC
    have HS := hid fun W (h : Cells W A2 cs) => sumOfCycles_any A2 c2 cs W hl2 h
    obtain ⟨s1, h1⟩ : ∃ s1, s1 = cellsF p := ⟨_, rfl⟩
    obtain ⟨s2, h2⟩ : ∃ s2, s2 = cycS cs := ⟨_, rfl⟩
    obtain ⟨b2, h3⟩ : ∃ b2, b2 = cycB cs := ⟨_, rfl⟩
    rw [← h1] at HC
    rw [← h2, ← h3] at HS
    clear hg hb h1 h2 h3
    go_enter Try.func48, Try.ntmps48
    go_wp2_with (first | (go_at_call 117; refine HC.out.mono ?_; rintro e w2 ⟨rfl, b2⟩) | (go_at_call 118; refine (HS.out _ (hc2.later b2)).mono ?_; rintro e w' ⟨rfl, rfl⟩))
    go_ret2
    exact ⟨rfl, b2⟩
  rw [hg, show cellsF p = p.sum by simp [cellsF, hg]] at HC
  cases hy : cycB cs
  · have hb : chB p cs = false := by simp [chB, hy]
    rw [show chF p cs = 0 by simp [chF, hb], hb]
    have HS := hid fun W (h : Cells W A2 cs) => sumOfCycles_f A2 c2 cs W hl2 h hy
    obtain ⟨s1, h1⟩ : ∃ s1, s1 = p.sum := ⟨_, rfl⟩
    rw [← h1] at HC
    clear hg hb h1 hy
    go_enter Try.func48, Try.ntmps48
    go_wp2_with (first | (go_at_call 117; refine HC.out.mono ?_; rintro e w2 ⟨rfl, b2⟩) | (go_at_call 118; refine (HS.out _ (hc2.later b2)).mono ?_; rintro e w' ⟨rfl, rfl⟩))
    go_ret2
    exact ⟨rfl, b2⟩
  have HS := hid fun W (h : Cells W A2 cs) => sumOfCycles_t A2 c2 cs W hl2 h hy
  by_cases hs : p.sum = cs.sum
  · have hb : chB p cs = true := by simp [chB, hg, hy, hs]
    rw [show chF p cs = wrap64 (chM cs p) by simp [chF, hb], hb]
    have G := (good_iff p).1 hg
    have h12 := (cyc_len hy).2.2.1
    have HCA := hid fun W (h : Cells W A p) (h2 : Cells W A2 cs) => characterAt_any A A2 c c2 p cs W G (by omega) hy hs.symm h h2
    rw [← hs] at HS
    obtain ⟨s1, h1⟩ : ∃ s1, s1 = p.sum := ⟨_, rfl⟩
    obtain ⟨z, hz⟩ : ∃ z, z = wrap64 (chM cs p) := ⟨_, rfl⟩
    rw [← h1] at HC HS
    rw [← hz] at HCA ⊢
    clear hg hb h1 hy hs hz G h12
    go_enter Try.func48, Try.ntmps48
    go_wp2_with (first | (go_at_call 117; refine HC.out.mono ?_; rintro e w2 ⟨rfl, b2⟩) | (go_at_call 118; refine (HS.out _ (hc2.later b2)).mono ?_; rintro e w' ⟨rfl, rfl⟩) | (go_at_call 119; refine (HCA.out _ (hc.later b2) (hc2.later b2)).mono ?_; rintro e w3 ⟨rfl, b3⟩))
    go_ret2
    exact ⟨rfl, Below.next b2 b3⟩
  · have hb : chB p cs = false := by simp [chB, hs]
    rw [show chF p cs = 0 by simp [chF, hb], hb]
    obtain ⟨s1, h1⟩ : ∃ s1, s1 = p.sum := ⟨_, rfl⟩
    obtain ⟨s2, h2⟩ : ∃ s2, s2 = cs.sum := ⟨_, rfl⟩
    rw [← h1] at HC hs
    rw [← h2] at HS hs
    have hne : (s1 == s2) = false := beq_eq_false_iff_ne.2 hs
    clear hg hb h1 hy h2
    go_enter Try.func48, Try.ntmps48
    go_wp2_with (first | (go_at_call 117; refine HC.out.mono ?_; rintro e w2 ⟨rfl, b2⟩) | (go_at_call 118; refine (HS.out _ (hc2.later b2)).mono ?_; rintro e w' ⟨rfl, rfl⟩))
    go_ret2
    exact ⟨rfl, b2⟩
theorem impl_CharacterOf {B B2 : Nat} (A : Option Addr) (c : Nat) (p : List Int) (A2 : Option Addr) (c2 : Nat) (cs : List Int) (w : World) (hl : p.length ≤ 1048576) (ho : Own w B A c p) (hl2 : cs.length ≤ 1048576) (ho2 : Own w B2 A2 c2 cs) :
    Calls Try.prog 48 #[.slice A p.length c, .slice A2 cs.length c2] w fun e w' => e = .returned (.tuple #[.int .i64 (chF p cs), .bool (chB p cs)]) ∧ Below w.heap.size w w' :=
  impl_CharacterOf' A A2 c c2 p cs w hl ho.cells hl2 ho2.cells
theorem cyc_all {cs : List Int} (h : cycB cs = true) : ∀ x ∈ cs, 1 ≤ x ∧ x ≤ 12 := by
  intro x hx
  obtain ⟨j, hj, rfl⟩ := List.getElem_of_mem hx
  have := (cyc_len h).2.2.2.1 j hj
  rw [List.getD_eq_getElem?_getD, List.getElem?_eq_getElem hj] at this
  exact this

set_option maxRecDepth 100000 in
set_option maxHeartbeats 2000000 in
theorem spec_CharacterOf {B B2 : Nat} (A : Option Addr) (c : Nat) (p : List Int) (A2 : Option Addr) (c2 : Nat) (cs : List Int) (w : World) (hl : p.length ≤ 1048576) (ho : Own w B A c p) (hl2 : cs.length ≤ 1048576) (ho2 : Own w B2 A2 c2 cs) :
    Calls Try.prog 47 #[.slice A p.length c, .slice A2 cs.length c2] w fun e w' => e = .returned (.tuple #[.int .i64 (chF p cs), .bool (chB p cs)]) ∧ Below w.heap.size w w' := by
  have hc := ho.cells
  have hc2 := ho2.cells
  have hcap := own_cap ho2
  clear ho ho2
  cases hg : good p
  · have hb : chB p cs = false := by simp [chB, hg]
    rw [show chF p cs = 0 by simp [chF, hb], hb]
    have HG := hid hg
    clear hg hb
    go_enter Try.func47, Try.ntmps47
    go_wp2_with (go_at_call 90; refine (ptGood_b _ _ _ _ hl hc _ HG.out).mono ?_; rintro e w' ⟨rfl, n, rfl⟩)
    go_ret2
    exact ⟨rfl, below_drew' _ _⟩
  have HG := hid hg
  have G := (good_iff p).1 hg
  cases hy : cycB cs
  · have hb : chB p cs = false := by simp [chB, hy]
    rw [show chF p cs = 0 by simp [chF, hb], hb]
    have HY := hid hy
    clear hg hb hy G
    go_enter Try.func47, Try.ntmps47
    go_wp2_with (first | (go_at_call 90; refine (ptGood_b _ _ _ _ hl hc _ HG.out).mono ?_; rintro e w' ⟨rfl, n1, rfl⟩) | (go_at_call 115; refine (cnCycles_b _ _ _ 12 _ (by decide) hl2 (by exact hc2) _ HY.out).mono ?_; rintro e w' ⟨rfl, n2, rfl⟩))
    go_ret2
    exact ⟨rfl, by first | exact below_drew' _ _ | (rw [World.drewN_drewN]; exact below_drew' _ _) | exact Below.next (below_drew' w n1) (below_drew' _ _)⟩
  have HY := hid hy
  have HSU := hid fun W (h : Cells W A p) => ptSum_any A p c W G.len (fun j hj => by have := G.pos j hj; have := G.le j hj; omega) h
  have HSU2 := hid fun W (h : Cells W A2 cs) => ptSum_any A2 cs c2 W (bd12 (by decide) hy).1 (bd12 (by decide) hy).2 h
  by_cases hs : p.sum = cs.sum
  · have hb : chB p cs = true := by simp [chB, hg, hy, hs]
    rw [show chF p cs = wrap64 (chM cs p) by simp [chF, hb], hb]
    have h12 := cyc_len hy
    have HCA := hid fun W (h : Cells W A p) (h2 : Cells W A2 cs) => cnCharacter_any cs p A A2 c c2 W G (by omega) h12.1 hcap (cyc_all hy) h h2
    rw [← hs] at HSU2
    obtain ⟨s1, h1⟩ : ∃ s1, s1 = p.sum := ⟨_, rfl⟩
    obtain ⟨z, hz⟩ : ∃ z, z = wrap64 (chM cs p) := ⟨_, rfl⟩
    rw [← h1] at HSU HSU2
    rw [← hz] at HCA ⊢
    clear hg hb h1 hy hs hz G h12
    go_enter Try.func47, Try.ntmps47
    go_wp2_with (first | (go_at_call 90; refine (ptGood_b _ _ _ _ hl hc _ HG.out).mono ?_; rintro e w' ⟨rfl, n1, rfl⟩) | (go_at_call 115; refine (cnCycles_b _ _ _ 12 _ (by decide) hl2 (by exact hc2) _ HY.out).mono ?_; rintro e w' ⟨rfl, n2, rfl⟩))
    refine (HSU.out _ (by exact hc)).mono ?_
    rintro e w' ⟨rfl, rfl⟩
    go_wp2_with fail
    refine (HSU2.out _ (by exact hc2)).mono ?_
    rintro e w' ⟨rfl, rfl⟩
    go_wp2_with (go_at_call 116; refine (HCA.out _ (by exact hc) (by exact hc2)).mono ?_; rintro e w3 ⟨rfl, b3⟩)
    go_ret2
    exact ⟨rfl, by first | exact Below.next (below_drew' w _) b3 | exact Below.next (Below.next (below_drew' w _) (below_drew' _ _)) b3⟩
  · have hb : chB p cs = false := by simp [chB, hs]
    rw [show chF p cs = 0 by simp [chF, hb], hb]
    obtain ⟨s1, h1⟩ : ∃ s1, s1 = p.sum := ⟨_, rfl⟩
    obtain ⟨s2, h2⟩ : ∃ s2, s2 = cs.sum := ⟨_, rfl⟩
    rw [← h1] at HSU hs
    rw [← h2] at HSU2 hs
    have hne : (s1 == s2) = false := beq_eq_false_iff_ne.2 hs
    clear hg hb h1 hy h2 G
    go_enter Try.func47, Try.ntmps47
    go_wp2_with (first | (go_at_call 90; refine (ptGood_b _ _ _ _ hl hc _ HG.out).mono ?_; rintro e w' ⟨rfl, n1, rfl⟩) | (go_at_call 115; refine (cnCycles_b _ _ _ 12 _ (by decide) hl2 (by exact hc2) _ HY.out).mono ?_; rintro e w' ⟨rfl, n2, rfl⟩))
    refine (HSU.out _ (by exact hc)).mono ?_
    rintro e w' ⟨rfl, rfl⟩
    go_wp2_with fail
    refine (HSU2.out _ (by exact hc2)).mono ?_
    rintro e w' ⟨rfl, rfl⟩
    go_wp2_with fail
    go_ret2
    exact ⟨rfl, by first | exact below_drew' _ _ | exact Below.next (below_drew' w n1) (below_drew' _ _)⟩
end Go.Proofs.Ytmbfobcbnnalbaa
