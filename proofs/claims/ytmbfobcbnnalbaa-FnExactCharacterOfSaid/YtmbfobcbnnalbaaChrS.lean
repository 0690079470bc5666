/-
  Contract: the model's characters.
-/
import Derived.Test.YtmbfobcbnnalbaaChrMath
import Derived.Test.YtmbfobcbnnalbaaTakeRim
namespace Go.Proofs.Ytmbfobcbnnalbaa
open Go.RowKit

theorem takeL_sum {p : List Int} (G : Good p) {c : Int} (hc : 0 < c) {q : Nat × Nat} (hq : q ∈ rimCs p c) : Good (takeL p q) ∧ (takeL p q).sum = p.sum - c := by
  obtain ⟨h1, h2⟩ := rimCs_mem hq
  have hh : hookN p q.1 q.2 = c := by
    obtain ⟨a1, a2, a3⟩ := hits_mem hq
    rw [row_of h1] at a2 a3
    rw [rowF_len] at a2
    rw [rowF_get _ _ _ _ a2] at a3; exact a3
  -- the bead of the row goes down to the gap of the column
  have hi : p.length - 1 - (p.length - 1 - q.1) = q.1 := by omega
  have hip : p.length - 1 - q.1 < p.length := by omega
  have hone := rowHits_one G h1 h2 hh
  cases hb : tkB p c (p.length - 1 - q.1)
  · have := mv_no G hip hb
    rw [hi, hone] at this; cases this
  · obtain ⟨c', M⟩ := mv_yes G hc hip hb
    have hm := M.hits
    rw [hi, hone] at hm
    injection hm with hm _
    injection hm with _ hm
    subst hm
    obtain ⟨_, h3, h4, _⟩ := mv_sorted G hc hip M hb
    rw [hi] at h3 h4
    exact ⟨h4, h3⟩
theorem cells2_nx {w w' : World} {A : Option Addr} {rows : List (List Int)} (h : Cells2 w A rows) (hb : Below w.heap.size w w') : Cells2 w' A rows := by
  obtain ⟨P, C, h1, h2⟩ := h
  refine ⟨P, C, fun hp => ?_, fun j hj => (h2 j hj).later hb⟩
  obtain ⟨b, o, rfl, hc⟩ := h1 hp
  exact ⟨b, o, rfl, fun j hj => (hb.cell (World.block_lt_of_cell? w _ (hc j hj))).trans (hc j hj)⟩
theorem takeSg_one (p : List Int) (q : Nat × Nat) : takeSg p q = 1 ∨ takeSg p q = -1 := by unfold takeSg sgn; split <;> simp
theorem cells_tail {w : World} {b o : Nat} {x : Int} {t : List Int} (h : Cells w (some ⟨b, o, none⟩) (x :: t)) : Cells w (some ⟨b, o + 1, none⟩) t := by
  intro hp
  obtain ⟨b', o', e, hc⟩ := h (by simp)
  injection e with e
  injection e with e1 e2
  subst e1; subst e2
  exact ⟨b, o + 1, rfl, fun j hj => by have := hc (j + 1) (by simp; omega); rw [show o + 1 + j = o + (j + 1) by omega]; simpa using this⟩
theorem cells_empty (w : World) (A : Option Addr) {t : List Int} (h : t = []) : Cells w A t := by subst h; exact Cells.nil _ _

set_option maxRecDepth 100000 in
set_option maxHeartbeats 4000000 in
theorem cnCharacter_any : ∀ (cs p : List Int) (A A2 : Option Addr) (c c2 : Nat) (w : World), Good p → p.sum ≤ 12 → cs.length ≤ 12 → cs.length ≤ c2 → (∀ x ∈ cs, 1 ≤ x ∧ x ≤ 12) → Cells w A p → Cells w A2 cs →
    Calls Try.prog 116 #[.slice A p.length c, .slice A2 cs.length c2] w fun e w' => e = .returned (.int .i64 (wrap64 (chM cs p))) ∧ Below w.heap.size w w'
  | [], p, A, A2, c, c2, w, _, _, _, _, _, _, _ => by
    have e : wrap64 (chM [] p) = 1 := IntWalk.wrap64_in 1 (by omega)
    rw [e]
    go_enter Try.func116, Try.ntmps116
    go_wp2_with fail
    go_ret
    exact ⟨rfl, Below.refl _ _⟩
  | x :: t, p, A, A2, c, c2, w, G, hs, hl, hcap, hx, hc, hc2 => by
    have hx1 := hx x (by simp)
    have hlen := G.len
    have HCC := hid fun W (h : Cells W A p) => crCells_any A c p x W G h
    have hQl := rimCs_len G x
    have HQM := hid fun k (hk : k < (rimCs p x).length) => takeL_sum G (c := x) (by omega) (getD_mem (rimCs p x) k (0, 0) hk)
    have HQR := hid fun k (hk : k < (rimCs p x).length) => (show RimOK p ((rimCs p x).getD k (0, 0)).1 ((rimCs p x).getD k (0, 0)).2 (lowN p ((rimCs p x).getD k (0, 0)).2) from rim_ok G (rimCs_mem (getD_mem (rimCs p x) k (0, 0) hk)).1 (rimCs_mem (getD_mem (rimCs p x) k (0, 0) hk)).2)
    have HST := hid fun k (hk : k < (rimCs p x).length) => sumQ_take p (fun q => chM t q) (rimCs p x) k hk
    have HEND := hid (show chM (x :: t) p = sumQ p (fun q => chM t q) ((rimCs p x).take (rimCs p x).length) by rw [List.take_of_length_le (Nat.le_refl _)]; rfl)
    have IH := hid fun q A4 c4 W A5 c5 (Gq : Good q) (hq : q.sum ≤ 12) (h4 : Cells W A4 q) (h5 : Cells W A5 t) (h6 : t.length ≤ c5) => cnCharacter_any t q A4 A5 c4 c5 W Gq hq (by simp at hl; omega) h6 (fun y hy => hx y (by simp [hy])) h4 h5
    obtain ⟨b2, o2, rfl, hcc2⟩ := hc2 (by simp)
    have hcx := hcc2 0 (by simp)
    rw [Nat.add_zero] at hcx
    simp only [List.getD_cons_zero] at hcx
    have HCT := hid (show ∀ W, Below w.heap.size w W → Cells W (some ⟨b2, o2 + 1, none⟩) t from fun W hW => (cells_tail (fun _ => ⟨b2, o2, rfl, hcc2⟩)).later hW)
    obtain ⟨Q, hQ⟩ : ∃ Q, Q = rimCs p x := ⟨_, rfl⟩
    rw [← hQ] at HCC hQl HQM HQR HST HEND
    have HX := hid hcx
    have HNE := hid (show ((x :: t).length : Int) ≠ 0 by simp; omega)
    have hpl := pairs_len Q
    have HLT := hid (show (x :: t).length = t.length + 1 from rfl)
    rw [HLT.out]
    have htl : t.length ≤ 11 := by simp at hl; omega
    have hcap1 : t.length + 1 ≤ c2 := by simpa using hcap
    clear hQ hcc2 hcx hx hl hcap
    go_enter Try.func116, Try.ntmps116
    have hc0 := HX.out
    go_wp2_with (go_at_call 127; refine (HCC.out _ (by exact hc)).mono ?_; rintro e w1 ⟨A1, c1, rfl, o1, b1⟩)
    have HC2 := hid o1.cells
    have HB1 := hid b1
    clear o1 b1 hc0
    go_loopw [5, 19] (fun v i wr => ∃ (k : Nat) (s : Int), k ≤ Q.length ∧ i = .int .i64 k ∧ v = .int .i64 s ∧ Hid (eqw s (sumQ p (fun q => chM t q) (Q.take k)) ∧ wrap64 s = s) ∧ Hid (Below w1.heap.size w1 wr)) (fun _ i _ => Q.length - (intOf i).toNat)
    case atStart => exact ⟨0, 0, Nat.zero_le _, rfl, rfl, hid ⟨eqw.of (by simp [sumQ]), IntWalk.wrap64_in 0 (by omega)⟩, hid (Below.refl _ _)⟩
    case round =>
      obtain ⟨k, s, hk, rfl, rfl, HS, HB⟩ := hrel
      obtain ⟨wo, rfl⟩ : ∃ wo : World, wo = wr := ⟨_, rfl⟩
      by_cases hlt : k < Q.length
      · have h2 := cells2_nx HC2.out HB.out
        obtain ⟨b, o, b3, o3, c3, rfl, g1, g2, g3⟩ := pair_at h2 k hlt
        have hR := HQR.out k hlt
        have hqm := HQM.out k hlt
        have hst := HST.out k hlt
        have hbw : Below w.heap.size w wo := HB1.out.trans (HB.out.mono HB1.out.size)
        obtain ⟨qq, hqq⟩ : ∃ qq, qq = Q.getD k (0, 0) := ⟨_, rfl⟩
        rw [← hqq] at hR hqm hst g2 g3
        obtain ⟨r', c'⟩ := qq
        have HCT' := hid (crTake_any A c b3 o3 c3 p r' c' _ wo hR rfl (hc.later hbw) g2 g3)
        have HIH := hid fun A4 c4 W A5 c5 (h4 : Cells W A4 (takeL p (r', c'))) (h5 : Cells W A5 t) (h6 : t.length ≤ c5) => IH.out _ A4 c4 W A5 c5 hqm.1 (by have := hqm.2; omega) h4 h5 h6
        obtain ⟨tl, htl'⟩ : ∃ tl, tl = takeL p (r', c') := ⟨_, rfl⟩
        obtain ⟨sg, hsg⟩ : ∃ sg, sg = takeSg p (r', c') := ⟨_, rfl⟩
        rw [← htl', ← hsg] at HCT' hst
        rw [← htl'] at HIH
        have HST1 := hid hst
        have HBW := hid hbw
        obtain ⟨z, hz⟩ : ∃ z, z = wrap64 (chM t tl) := ⟨_, rfl⟩
        rw [← hz] at HIH
        obtain ⟨y1, hy1⟩ : ∃ y1, y1 = wrap64 (sg * z) := ⟨_, rfl⟩
        obtain ⟨y2, hy2⟩ : ∃ y2, y2 = wrap64 (s + y1) := ⟨_, rfl⟩
        have e1 : IntKind.i64.wrap (sg * z) = y1 := (IntWalk.i64_left _).trans hy1.symm
        have e2 : IntKind.i64.wrap (s + y1) = y2 := (IntWalk.i64_left _).trans hy2.symm
        have HN := hid (show eqw y2 (sumQ p (fun q => chM t q) (Q.take (k + 1))) ∧ wrap64 y2 = y2 by
          refine ⟨?_, by rw [hy2]; exact eqw_eq (eqw_wrap _)⟩
          rw [HST1.out]
          obtain ⟨a0, h0⟩ := HS.out.1
          obtain ⟨a1, h1⟩ := eqw_wrap (chM t tl)
          obtain ⟨a2, h2⟩ := eqw_wrap (sg * z)
          obtain ⟨a3, h3⟩ := eqw_wrap (s + y1)
          rw [← hz] at h1
          rw [← hy1] at h2
          rw [← hy2] at h3
          obtain ⟨a4, h4⟩ := (show eqw z (chM t tl) from ⟨a1, h1⟩).mul sg
          exact ⟨a0 + a2 + a3 + a4, by omega⟩)
        clear h2 hR hqm hst hqq hbw htl' hsg hz hy1 hy2
        have g1' := g1
        go_wp2_with fail
        refine HCT'.out.mono ?_
        rintro e w4 ⟨A4, c4, rfl, o4, b4⟩
        have HC4 := hid o4.cells
        have HB4 := hid b4
        clear o4 b4
        have HBW4 := hid (HBW.out.trans (HB4.out.mono HBW.out.size))
        go_wp2_with fail
        · have ht0 : t = [] := List.eq_nil_of_length_eq_zero (by omega)
          have h21 : c2 = 1 := by assumption
          subst h21
          refine (HIH.out _ _ _ _ _ HC4.out (cells_empty _ _ ht0) (by rw [ht0]; simp)).mono ?_
          rintro e w5 ⟨rfl, b5⟩
          have HB5 := hid (HB.out.trans ((Below.next HB4.out b5).mono HB.out.size))
          clear b5 ht0
          go_wp2_with fail
          go_roundw
          case rel => exact ⟨k + 1, y2, by omega, by go_num, rfl, HN, HB5⟩
          case measure => simp [intOf]; omega
        · refine (HIH.out _ _ _ _ _ HC4.out (HCT.out _ HBW4.out) (by omega)).mono ?_
          rintro e w5 ⟨rfl, b5⟩
          have HB5 := hid (HB.out.trans ((Below.next HB4.out b5).mono HB.out.size))
          clear b5
          go_wp2_with fail
          go_roundw
          case rel => exact ⟨k + 1, y2, by omega, by go_num, rfl, HN, HB5⟩
          case measure => simp [intOf]; omega
      · have hkl : k = Q.length := by omega
        subst hkl
        have HF := hid (show s = wrap64 (chM (x :: t) p) by rw [HEND.out]; exact HS.out.2.symm.trans (eqw_eq HS.out.1))
        have hbe := HB1.out.trans (HB.out.mono HB1.out.size)
        go_wp2_with fail
        go_ret
        exact ⟨by rw [← HF.out]; rfl, hbe⟩
end Go.Proofs.Ytmbfobcbnnalbaa
