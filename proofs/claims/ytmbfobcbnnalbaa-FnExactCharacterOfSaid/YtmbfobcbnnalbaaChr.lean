/-
  Contract: characters of the program.
-/
import Derived.Test.YtmbfobcbnnalbaaChrMath
import Derived.Test.YtmbfobcbnnalbaaWays
namespace Go.Proofs.Ytmbfobcbnnalbaa
open Go.RowKit Go.Maps Go.ChangeMaps Go.MapKept Go.WideMaps Go.WideElems Go.WideShapes

def p12n (k : Nat) : Nat := 12 ^ k
theorem p12n_bd : ∀ k < 12, p12n k ≤ 1000000000000 := by decide +kernel
theorem p12n_succ (k : Nat) : p12n (k + 1) = 12 * p12n k := by unfold p12n; rw [Nat.pow_succ, Nat.mul_comm]
theorem SW.at {w : World} {b n m : Nat} {Φ : (List Int → Int) → Int} {D : DataW Unit} (h : SW w b n m Φ D) (hm : m ≤ 12) {x : List Int} (hx : Sh x) {c : Int} (hat : D.atKey (klit x) (.lit (.int .i64 0)) = .lit (.int .i64 c)) : eqw c (Φ (dlt x)) := by
  have h1 := h.sum (dlt x)
  have hk := klit_key hx
  have e1 := sumD_one h.own.tidy' hk (fun _ => 1)
  have e2 : sumD D (fun l => dlt x (dec l)) = sumD D (fun z => if z.sameKey (klit x) then 1 else 0) := by
    refine sumD_congr (fun l hl => ?_) (fun es e p hp => h.own.kl es e p hp)
    obtain ⟨q, Gq, hq, rfl⟩ := h.keys l hl
    have hSq := Gq.sh (by omega)
    rw [dec_k hSq]
    unfold dlt
    by_cases e : q = x
    · subst e; rw [if_pos rfl, WideAt.sameKey_self hk]; rfl
    · rw [if_neg e]
      cases hs : (klit q).sameKey (klit x)
      · rfl
      · exact absurd (key_inj hSq hx (WideAt.sameKey_eq hs)) e
  rw [e2, e1, hat] at h1
  have e3 : (1 : Int) * dval (DataW.lit (Lit.int .i64 c) : DataW Unit) = c := by show (1 : Int) * c = c; omega
  rw [e3] at h1
  exact h1
/-- One shape with the number 1. -/
theorem SW.one {w : World} {b m : Nat} {p : List Int} (G : Good p) (hp : p.sum = m) (hm : m ≤ 12) (h : mOwn w b 1 ((DataW.map [] : DataW Unit).put (klit p) (.lit (.int .i64 1)))) : SW w b 1 m (fun F => F p) ((DataW.map [] : DataW Unit).put (klit p) (.lit (.int .i64 1))) := by
  refine ⟨h, keys_put (fun l hl => by cases hl) G hp _, fun F => eqw.of ?_⟩
  rw [sumD_put tidy_empty, dec_k (G.sh (by omega))]
  have e1 : sumD (DataW.map [] : DataW Unit) (fun l => F (dec l)) = 0 := rfl
  have e2 : dval (DataW.lit (Lit.int .i64 1) : DataW Unit) - dval ((DataW.map [] : DataW Unit).atKey (klit p) (.lit (.int .i64 0))) = 1 := rfl
  rw [e1, e2]; omega
theorem wfI_wrap {c : Int} (h : (Lit.int .i64 c).wf = true) : wrap64 c = c := by
  simp [Lit.wf] at h
  have e : IntKind.i64.min = -9223372036854775808 := by decide
  rw [e] at h
  exact IntWalk.wrap64_in c h
theorem sh_nil : Sh [] := ⟨by simp, by simp⟩

set_option maxRecDepth 100000 in
set_option maxHeartbeats 4000000 in
theorem characterAt_any (A A2 : Option Addr) (c c2 : Nat) (p cs : List Int) (w : World) (G : Good p) (hs : p.sum ≤ 12) (hcy : cycB cs = true) (hsum : cs.sum = p.sum) (hc : Cells w A p) (hc2 : Cells w A2 cs) :
    Calls Try.prog 119 #[.slice A p.length c, .slice A2 cs.length c2] w fun e w' => e = .returned (.int .i64 (wrap64 (chM cs p))) ∧ Below w.heap.size w w' := by
  have hmm := @run_makeMap Try.prog
  have hSh := G.sh hs
  obtain ⟨hl12, _, _, hx, _⟩ := cyc_len hcy
  have HX := hid hx
  have hps := G.sum0
  obtain ⟨m, hm⟩ : ∃ m : Nat, p.sum = m := ⟨p.sum.toNat, by omega⟩
  have hown0 : mOwn (w.alloc (.map #[] 0)) w.heap.size 0 (.map []) := World.ownsMap_made _ _ _ _
  have b0 : Below w.heap.size w (w.alloc (.map #[] 0)) := (Below.refl _ _).alloc (Nat.le_refl _) _
  have HSO := hid (shapeOf_any A c p (w.alloc (.map #[] 0)) hSh.len (hc.later b0))
  have HO := hid hown0; have HB0 := hid b0
  have HCH := hid (chG_chM G (cs := cs) (fun x hx' => by
    obtain ⟨j, hj, rfl⟩ := List.getElem_of_mem hx'
    have := hx j hj
    rw [List.getD_eq_getElem?_getD, List.getElem?_eq_getElem hj] at this
    exact this.1) hsum)
  have HSN := hid fun k (hk : k < cs.length) (F : List Int → Int) => (show chG (cs.take k) (tkF (cs.getD k 0) F) p = chG (cs.take (k + 1)) F p by
    rw [← chG_snoc]
    congr 1
    rw [List.take_succ_eq_append_getElem hk]
    congr 2
    rw [List.getD_eq_getElem?_getD, List.getElem?_eq_getElem hk]; rfl)
  have hm12 : m ≤ 12 := by omega
  clear hown0 b0 hx
  go_enter Try.func119, Try.ntmps119
  go_wp2_with fail
  refine HSO.out.mono ?_
  rintro e w2 ⟨rfl, b2⟩
  rw [World.size_alloc] at b2
  have ho2 := HO.out.kept (grown_of_below (by rw [World.size_alloc]; exact b2)) (by simp)
  obtain ⟨w3, hr3, ho3, hg3⟩ := World.ownsMap.update ho2 Try.shKeyed Try.underlying110 (by unfold maxLen; omega) (key_of hSh) (plainElem_int Try.underlying3 (show (Lit.int .i64 1).wf = true by decide))
  have HS3 := hid (SW.one (b := w.heap.size) G hm hm12 ho3)
  have hb3 : Below w.heap.size w w3 := by
    have h1 := HB0.out.trans (b2.mono (by omega))
    exact h1.trans ⟨hg3.os, hg3.tape, hg3.output, hg3.size, fun i hi => hg3.block i (by have := h1.size; omega) (fun e => by injection e with e; omega)⟩
  have HB3 := hid hb3
  clear b2 ho2 ho3 hg3 hb3
  go_wp2_with fail
  go_loopw [5, 14] (fun v i wr => ∃ (k b' : Nat) (D' : DataW Unit), k ≤ cs.length ∧ i = .int .i64 k ∧ v = .map (some b') ∧ Hid (SW wr b' (p12n k) (m - (cs.take k).sum.toNat) (fun F => chG (cs.take k) F p) D') ∧ Hid (Below w.heap.size w wr)) (fun _ i _ => cs.length - (intOf i).toNat)
  case atStart => exact ⟨0, w.heap.size, _, Nat.zero_le _, rfl, rfl, HS3, HB3⟩
  case round =>
    obtain ⟨k, b', D', hk, rfl, rfl, HS, HB⟩ := hrel
    obtain ⟨wo, rfl⟩ : ∃ wo : World, wo = wr := ⟨_, rfl⟩
    by_cases hlt : k < cs.length
    · obtain ⟨b, o, rfl, hcc⟩ := (hc2.later HB.out) (by omega)
      have hck := hcc k hlt
      have hxb := HX.out k hlt
      have HSN' := hid (HSN.out k hlt)
      have hts := sum_take_succ cs k hlt
      have htn := sum_take_nn cs (fun j hj => (HX.out j hj).1) k
      have hp12 := p12n_bd k (by omega)
      have HPS := hid (p12n_succ k)
      obtain ⟨x, hx⟩ : ∃ x, x = cs.getD k 0 := ⟨_, rfl⟩
      rw [← hx] at hck hxb HSN' hts
      have HWI := hid (without_any b' (p12n k) (m - (cs.take k).sum.toNat) x (fun F => chG (cs.take k) F p) D' wo (by omega) hxb hp12 HS.out)
      have HMM := hid (show m - (cs.take k).sum.toNat - x.toNat = m - (cs.take (k + 1)).sum.toNat by rw [hts]; omega)
      have HFE := hid (show (fun F => chG (cs.take k) (tkF x F) p) = (fun F => chG (cs.take (k + 1)) F p) from funext fun F => HSN'.out F)
      clear hcc hx hts htn hp12
      go_wp2_with fail
      refine HWI.out.mono ?_
      rintro e w4 ⟨b4, D4, rfl, hb4, hs4, bel4⟩
      have HS4 := hid (show SW w4 b4 (p12n (k + 1)) (m - (cs.take (k + 1)).sum.toNat) (fun F => chG (cs.take (k + 1)) F p) D4 by rw [HPS.out, ← HMM.out, ← HFE.out]; exact hs4)
      have HB4 := hid (HB.out.trans (bel4.mono HB.out.size))
      clear hb4 hs4 bel4
      go_wp2_with fail
      go_roundw
      case rel => exact ⟨k + 1, b4, D4, by omega, by go_num, rfl, HS4, HB4⟩
      case measure => simp [intOf]; omega
    · have hkl : k = cs.length := by omega
      subst hkl
      have hS := HS.out
      obtain ⟨c', hrun, hat, hwc⟩ := hS.own.lookup_int Try.shKeyed Try.underlying110 Try.underlying3 (Try.zeroI _) (key_of sh_nil)
      have hrun2 : (Instr.lookup 110 (.map (some b')) (.agg #[.int .i64 0, .int .i64 0, .int .i64 0, .int .i64 0, .int .i64 0, .int .i64 0, .int .i64 0, .int .i64 0, .int .i64 0, .int .i64 0, .int .i64 0, .int .i64 0]) false).run Try.prog wo = .ok (.int .i64 c') wo := by
        have e : shV [] = .agg zShp := by unfold shV; rw [zShp_ca]
        rw [e] at hrun; exact hrun
      have hcv := SW.at hS (by omega) sh_nil hat
      simp only [List.take_of_length_le (Nat.le_refl cs.length)] at hcv
      rw [HCH.out] at hcv
      have HCV := hid (show c' = wrap64 (chM cs p) by
        have h1 := eqw_eq hcv
        rw [← h1]
        exact (wfI_wrap hwc).symm)
      clear hS hrun hat hwc hcv
      go_wp2_with fail
      go_ret
      exact ⟨by rw [← HCV.out]; rfl, HB.out⟩
end Go.Proofs.Ytmbfobcbnnalbaa
