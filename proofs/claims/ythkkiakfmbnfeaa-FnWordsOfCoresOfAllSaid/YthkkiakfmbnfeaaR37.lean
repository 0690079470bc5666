/-
  Several texts in one.
-/
import Derived.Test.YthkkiakfmbnfeaaR36
import Derived.Test.YthkkiakfmbnfeaaR07
import Derived.Test.YthkkiakfmbnfeaaCC
import Derived.Test.YthkkiakfmbnfeaaCF
import Derived.Test.YthkkiakfmbnfeaaR17
import Derived.Test.YthkkiakfmbnfeaaR10
import Derived.Test.YthkkiakfmbnfeaaR06
import Derived.Test.YthkkiakfmbnfeaaR35
import Derived.Maps.AppendAt
/-
  Contracts: the reflection itself, of the program.
-/
namespace Go.Proofs.Ythkkiakfmbnfeaa
open Go.RowKit

theorem own_after {w : World} {B g k c : Nat} {A : Option Addr} {u : Value} {xs : List Int} (h : Own w B A c xs) (hg : g < B) : Own (w.setCell ⟨g, k, none⟩ u) B A c xs := own_set_other h hg
theorem own_drewN' {w : World} {B c : Nat} {A : Option Addr} {xs : List Int} (h : Own w B A c xs) (n : Nat) : Own (w.drewN n) B A c xs := h
theorem own_dr {w : World} {B c : Nat} {A : Option Addr} {xs : List Int} (h : Own w B A c xs) : Own w.drew B A c xs := h
theorem ext_row (p : List Int) : p ++ [0] = fnRow (p.length + 1) (fun r => p.getD r 0) := by
  apply List.ext_getElem
  · simp [fnRow]
  · intro j h1 h2
    simp only [fnRow, List.getElem_map, List.getElem_range]
    by_cases hj : j < p.length
    · rw [List.getElem_append_left hj]; simp [List.getD, hj]
    · have : j = p.length := by simp at h1; omega
      subst this
      rw [List.getElem_append_right (Nat.le_refl _)]; simp [List.getD]

set_option maxRecDepth 100000 in
set_option maxHeartbeats 8000000 in
theorem reflect_anyR (T I H : Nat) (t : Nat) (i : Int) (A : Option Addr) (c : Nat) (p : List Int) (w : World) (G : Good p) (ht : 2 ≤ t ∧ t ≤ 6) (h1 : w.cell? ⟨T, 0, none⟩ = some (.int .i64 t)) (h2 : w.cell? ⟨I, 0, none⟩ = some (.int .i64 i))
    (h3 : w.cell? ⟨H, 0, none⟩ = some (.func (.func 53) #[] #[.pointer (some ⟨T, 0, none⟩), .pointer (some ⟨I, 0, none⟩)])) (ho : Rd w A c p) :
    Calls Try.prog 55 #[.slice A p.length c, .pointer (some ⟨H, 0, none⟩)] w fun e w' => ∃ A' c', e = .returned (.tuple #[.slice A' (if good (rfL p t i) then rfL p t i else []).length c', .bool (good (rfL p t i))]) ∧ Own w' w.heap.size A' c' (if good (rfL p t i) then rfL p t i else []) ∧ Below w.heap.size w w' := by
  obtain ⟨i0, hi, hz0, hz1, hz2⟩ := info_parts Try.infoInt
  have h30 := G.len
  have hgd := (good_iff p).2 G
  have HCL := hid (cloneR_any A c p w (by omega) ho)
  have HAD := hid fun W (h : Cells W A p) => impl_AddableOf A c p W (by omega) h
  have HCR := hid fun W (h : Cells W A p) => impl_CornersOf A c p W (by omega) h
  rw [hgd, addF_t hgd] at HAD
  rw [hgd, corF_t hgd] at HCR
  have hlT := World.block_lt_of_cell? w _ h1
  have hlI := World.block_lt_of_cell? w _ h2
  have hlH := World.block_lt_of_cell? w _ h3
  have HT := hid fun W (h : Below w.heap.size w W) => (h.cell hlT).trans h1
  have HI := hid fun W (h : Below w.heap.size w W) => (h.cell hlI).trans h2
  have HH := hid fun W (h : Below w.heap.size w W) => (h.cell hlH).trans h3
  have HRS := hid fun (r k : Nat) W (hr : r ≤ 1000) (hk : k ≤ 1000) (hb : Below w.heap.size w W) => hasRes_any T I t i r k W ht hr hk (HT.out W hb) (HI.out W hb)
  have hpb : ∀ r, 0 ≤ p.getD r 0 ∧ p.getD r 0 ≤ 30 := fun r => by
    by_cases h : r < p.length
    · have := G.pos r h; have := G.le r h; omega
    · rw [getD_out (by omega)]; omega
  have HPB := hid hpb
  have HCP := hid fun W (h : Below w.heap.size w W) => ho.cells.later h
  have HEX := hid (show IL (fnRow (p.length + 1) (fun r => p.getD r 0)) = IL p ++ [.int .i64 0] by rw [← ext_row, IL_app]; rfl)
  have HEL := hid (show p.length + 1 = (fnRow (p.length + 1) (fun r => p.getD r 0)).length by rw [fnRow_len])
  have HGP := hid (show ∀ r, p.length < r + 1 → ∃ _ : Unit, True from fun _ _ => ⟨(), trivial⟩)
  have HEND := hid fun W g c2 (h : Own W w.heap.size (some ⟨g, 0, none⟩) c2 (fnRow (p.length + 1) (rfG p t i))) => stripZ_any g c2 w.heap.size _ (rfK p t i) W (by rw [fnRow_len]; omega) (by rw [fnRow_len]; exact rfK_le p t i) (fun j hj1 hj2 => by rw [fnRow_len] at hj2; rw [fnRow_get _ _ _ hj2]; exact rf_zero t i hj1 hj2) (fun hK => by rw [fnRow_get _ _ _ (by have := rfK_le p t i; omega)]; exact rf_last G t i hK) h
  simp only [fnRow_len, rfL_take] at HEND
  have hRl : (rfL p t i).length = rfK p t i := fnRow_len _ _
  have hRK := rfK_le p t i
  have HIP := hid fun W A' c' (h : Cells W A' (rfL p t i)) => IsPartition_b A' (rfL p t i) c' W (by omega) h _ rfl
  rw [hRl] at HIP
  have HGA := hid (show grw p t i = true → rfG p t i = aR p t i from fun h => by unfold rfG; rw [if_pos h])
  have HGC := hid (show grw p t i = false → rfG p t i = cR p t i from fun h => by unfold rfG; rw [if_neg (by rw [h]; decide)])
  have HPP := hid G.pos
  have HRL := hid hRl
  obtain ⟨gb, hgb⟩ : ∃ gb, gb = good (rfL p t i) := ⟨_, rfl⟩
  rw [← hgb] at HIP ⊢
  obtain ⟨Fn, hFn⟩ : ∃ Fn, Fn = if gb = true then rfL p t i else [] := ⟨_, rfl⟩
  rw [← hFn]
  have HFT := hid (show gb = true → Fn = rfL p t i from fun h => by rw [hFn, if_pos h])
  have HFF := hid (show gb = false → Fn = [] from fun h => by rw [hFn, if_neg (by rw [h]; decide)])
  clear h1 h2 h3 hgd hpb ho HGP hRl hRK hgb hFn
  go_enter Try.func55, Try.ntmps55
  go_wp2_with fail
  refine HCL.out.mono ?_
  rintro e w1 ⟨A1, c1, rfl, o1, b1⟩
  have O1 := hid o1
  have B1 := hid b1
  have hs1 := b1.size
  clear o1 b1
  go_wp2_with (at_builtin; refine wpList_append_own _ rfl _ _ 22 rfl w.heap.size 3 i0 (.int .i64 0) 1 8 Try.underlying22 hi hz0 hz1 hz2 rfl (by decide) _ _ _ rfl (O1.out.alloc _) ⟨w1.heap.size, 0, none⟩ 1 1 [.int .i64 0] rfl rfl one_at (one_cell _) (by unfold maxLen; omega) (by omega) (by simp; omega) ?_)
  intro v' w2 hown' hgrow _
  have hb2 : Below w.heap.size w w2 := (B1.out.alloc B1.out.size _).grown hgrow (by simp; omega) (fun q hq => (O1.out.lt q hq).1)
  rw [← HEX.out] at hown'
  obtain ⟨A2, c2, rfl, o2⟩ := own_form hown' HEL.out
  obtain ⟨g, rfl, hg1, hg2⟩ := o2.at_ (by rw [fnRow_len]; omega)
  rw [fnRow_len]
  have O2 := hid o2
  have B2 := hid hb2
  have hs2 := hb2.size
  clear hown' hgrow o2 hb2
  go_wp2_with fail
  refine (HAD.out _ (HCP.out _ B2.out)).mono ?_
  rintro e w3 ⟨A3, c3, rfl, o3, b3⟩
  have HND := hid (filt_nodup (addB p) (p.length + 1))
  have HLA := hid fun j (hj : j < (filt (addB p) (p.length + 1)).length) => filt_at hj
  have HST := hid fun j (hj : j < (filt (addB p) (p.length + 1)).length) (r : Nat) (hr : (filt (addB p) (p.length + 1)).getD j 0 = (r : Int)) (hq : qA p t i r = true) => stp_set (m := p.length + 1) (g := fun r => p.getD r 0) (d := 1) hj hr hq
  have HSK := hid fun j (hj : j < (filt (addB p) (p.length + 1)).length) (r : Nat) (hr : (filt (addB p) (p.length + 1)).getD j 0 = (r : Int)) (hq : qA p t i r = false) => stp_skip (m := p.length + 1) (g := fun r => p.getD r 0) (d := 1) hj hr hq
  have HSG := hid fun j (hj : j < (filt (addB p) (p.length + 1)).length) (r : Nat) (hr : (filt (addB p) (p.length + 1)).getD j 0 = (r : Int)) (hm : r < p.length + 1) => stp_get (q := qA p t i) (g := fun r => p.getD r 0) (d := 1) HND.out hj hr hm
  have HAK := hid fun j (hj : j < (filt (addB p) (p.length + 1)).length) (r : Nat) (hr : (filt (addB p) (p.length + 1)).getD j 0 = (r : Int)) => anyK_succ (q := qA p t i) hj hr
  have HAZ := hid (anyK_zero (qA p t i) (filt (addB p) (p.length + 1)))
  have HSZ := hid (stp_zero (p.length + 1) (fun r => p.getD r 0) (qA p t i) 1 (filt (addB p) (p.length + 1)))
  have HSL := hid fun j => stp_len (p.length + 1) (fun r => p.getD r 0) (qA p t i) 1 (filt (addB p) (p.length + 1)) j
  have hLl := filt_len (addB p) (p.length + 1)
  have HQA := hid fun r => (show qA p t i r = decide ((p.getD r 0 - (r : Int)) % (t : Int) = i) from rfl)
  have HGW := hid (show grw p t i = anyK (qA p t i) (filt (addB p) (p.length + 1)) (filt (addB p) (p.length + 1)).length from rfl)
  have HSN := hid fun j (h : anyK (qA p t i) (filt (addB p) (p.length + 1)) j = false) => stp_none (m := p.length + 1) (g := fun r => p.getD r 0) (d := 1) h
  have HSA := hid (stp_all (p.length + 1) (fun r => p.getD r 0) (qA p t i) 1 (addB p) (p.length + 1) (Nat.le_refl _))
  obtain ⟨L, hL⟩ : ∃ L, L = filt (addB p) (p.length + 1) := ⟨_, rfl⟩
  rw [← hL] at HLA HST HSK HSG HAK HAZ HSZ HSL hLl HGW HSN HSA o3 ⊢
  obtain ⟨S, hS⟩ : ∃ S, S = stp (p.length + 1) (fun r => p.getD r 0) (qA p t i) 1 L := ⟨_, rfl⟩
  rw [← hS] at HST HSK HSG HSZ HSL HSN HSA
  obtain ⟨K, hK⟩ : ∃ K, K = anyK (qA p t i) L := ⟨_, rfl⟩
  rw [← hK] at HAK HAZ HGW HSN
  have O3 := hid o3
  have B3 := hid (Below.next B2.out b3)
  have O2' := hid (show Own w3 w.heap.size (some ⟨g, 0, none⟩) c2 (S 0) by rw [HSZ.out]; exact O2.out.below b3)
  have hs3 := b3.size
  clear o3 b3 hL hS hK O2 HND
  go_wp2_with fail
  go_loopw [6, 26] (fun av jv wr => ∃ j : Nat, j ≤ L.length ∧ jv = .int .i64 j ∧ av = .bool (K j) ∧ Own wr w.heap.size (some ⟨g, 0, none⟩) c2 (S j) ∧ Own wr w2.heap.size A3 c3 L ∧ Below w.heap.size w wr) (fun _ jv _ => L.length - (intOf jv).toNat)
  case atStart => exact ⟨0, Nat.zero_le _, rfl, by rw [HAZ.out], O2'.out, O3.out, B3.out⟩
  case round =>
    obtain ⟨j, hj, rfl, rfl, hoS, hoL, hbel⟩ := hrel
    obtain ⟨wo, rfl⟩ : ∃ wo : World, wo = wr := ⟨_, rfl⟩
    by_cases hlt : j < L.length
    · obtain ⟨r, hr1, _, hr3⟩ := HLA.out j hlt
      obtain ⟨bL, oL, rfl, hcL⟩ := hoL.cells (by omega)
      have hckL := hcL j hlt
      rw [hr3] at hckL
      have hcS := own_get hoS (k := r) (by rw [HSL.out]; exact hr1)
      have hsv := HSG.out j hlt r hr3 hr1
      rw [hsv] at hcS
      have hfz := own_froz hoS r
      have hpr := HPB.out r
      have hqa := HQA.out r
      have HST' := hid (HST.out j hlt r hr3)
      have HSK' := hid (HSK.out j hlt r hr3)
      have HAK' := hid (HAK.out j hlt r hr3)
      obtain ⟨x, hx⟩ : ∃ x, x = p.getD r 0 := ⟨_, rfl⟩
      obtain ⟨k, hk⟩ : ∃ k : Nat, (k : Int) = x := ⟨x.toNat, by omega⟩
      subst hk
      rw [← hx] at hcS hpr hqa HST' hsv
      have HSV := hid hsv
      have HRS' := hid (HRS.out r k wo.drew (by omega) (by omega) hbel.drew)
      rw [← hqa] at HRS'
      have hH := HH.out wo hbel
      have HOS := hid hoS
      have HOL := hid hoL
      have HBE := hid hbel
      clear hx hqa hcL hr3 hoS hoL hbel hsv
      go_wp2_with fail
      go_region_with (go_at_call 53; refine HRS'.out.mono ?_; rintro e w4 ⟨rfl, b4⟩)
      all_goals
        have hb4 := hid (Below.next HBE.out.drew b4)
        have hS4 := hid ((own_dr HOS.out).below b4)
        have hL4 := hid ((own_dr HOL.out).below b4)
        clear b4
        cases hq : qA p t i r
        · have HE1 := hid (HSK'.out hq)
          have HE2 := hid (HAK'.out)
          go_wp2_with fail
          go_roundw
          case rel => exact ⟨j + 1, by omega, by go_num, by rw [HE2.out, hq, Bool.or_false], by rw [← HE1.out]; exact hS4.out, hL4.out, hb4.out⟩
          case measure => simp [intOf]; omega
        · have HE1 := hid (HST'.out hq)
          have HE2 := hid (HAK'.out)
          have hc4 := own_get hS4.out (k := r) (by rw [HSL.out]; exact hr1)
          rw [HSV.out] at hc4
          have hz4 := own_froz hS4.out r
          have hS5 := hid (own_set hS4.out r ((k : Int) + 1))
          have hL5 := hid (own_after (k := r) (u := .int .i64 ((k : Int) + 1)) hL4.out hg2)
          have hb5 := hid (show Below w.heap.size w (w4.setCell ⟨g, r, none⟩ (.int .i64 ((k : Int) + 1))) from hb4.out.setCell hg1 _)
          go_wp2_with fail
          go_roundw
          case rel => exact ⟨j + 1, by omega, by go_num, by rw [HE2.out, hq, Bool.or_true], by rw [← HE1.out]; exact hS5.out, hL5.out, hb5.out⟩
          case measure => simp [intOf]; omega
    · have hjl : j = L.length := by omega
      subst hjl
      have HBE := hid hbel
      have HOS := hid hoS
      have hcp := hid (HCP.out _ hbel)
      clear hbel hoS hoL
      go_wp2_with fail
      refine (HCR.out _ hcp.out).mono ?_
      rintro e w4 ⟨A4, c4, rfl, o4, b4⟩
      have hgl : g < wo.heap.size := by obtain ⟨g', e1, _, e3⟩ := HOS.out.at_ (by rw [HSL.out]; omega); cases e1; exact e3
      have HO4 := hid o4
      have HB4 := hid (Below.next HBE.out b4)
      have HS4 := hid (HOS.out.below b4)
      clear o4 b4
      rw [← HGW.out]
      have hLc := filt_len (corB p) p.length
      have HNDc := hid (filt_nodup (corB p) p.length)
      have HLC := hid fun j (hj : j < (filt (corB p) p.length).length) => filt_at hj
      cases hgw : grw p t i
      · have hSN := HSN.out L.length (by rw [← HGW.out]; exact hgw)
        rw [hSN] at HS4
        have HGN := hid (HGC.out hgw)
        have HTc := hid fun j (hj : j < (filt (corB p) p.length).length) (r : Nat) (hr : (filt (corB p) p.length).getD j 0 = (r : Int)) (hq : qC p t i r = true) => stp_set (m := p.length + 1) (g := fun r => p.getD r 0) (d := -1) hj hr hq
        have HKc := hid fun j (hj : j < (filt (corB p) p.length).length) (r : Nat) (hr : (filt (corB p) p.length).getD j 0 = (r : Int)) (hq : qC p t i r = false) => stp_skip (m := p.length + 1) (g := fun r => p.getD r 0) (d := -1) hj hr hq
        have HGc := hid fun j (hj : j < (filt (corB p) p.length).length) (r : Nat) (hr : (filt (corB p) p.length).getD j 0 = (r : Int)) (hm : r < p.length + 1) => stp_get (q := qC p t i) (g := fun r => p.getD r 0) (d := -1) HNDc.out hj hr hm
        have HZc := hid (stp_zero (p.length + 1) (fun r => p.getD r 0) (qC p t i) (-1) (filt (corB p) p.length))
        have HLc := hid fun j => stp_len (p.length + 1) (fun r => p.getD r 0) (qC p t i) (-1) (filt (corB p) p.length) j
        have HAc := hid (show stp (p.length + 1) (fun r => p.getD r 0) (qC p t i) (-1) (filt (corB p) p.length) (filt (corB p) p.length).length = fnRow (p.length + 1) (rfG p t i) from (stp_all (p.length + 1) (fun r => p.getD r 0) (qC p t i) (-1) (corB p) p.length (by omega)).trans (by rw [HGN.out]; rfl))
        have HQC := hid fun r => (show qC p t i r = decide ((p.getD r 0 - 1 - (r : Int)) % (t : Int) = i) from rfl)
        obtain ⟨M, hM⟩ : ∃ M, M = filt (corB p) p.length := ⟨_, rfl⟩
        rw [← hM] at HTc HKc HGc HZc HLc HAc HLC hLc HO4 ⊢
        obtain ⟨Z, hZ⟩ : ∃ Z, Z = stp (p.length + 1) (fun r => p.getD r 0) (qC p t i) (-1) M := ⟨_, rfl⟩
        rw [← hZ] at HTc HKc HGc HZc HLc HAc
        have HS5 := hid (show Own w4 w.heap.size (some ⟨g, 0, none⟩) c2 (Z 0) by rw [HZc.out]; exact HS4.out)
        clear hgw hSN hM hZ HNDc
        go_wp2_with fail
        go_loopw [52] (fun jv w5 => ∃ j : Nat, j ≤ M.length ∧ jv = .int .i64 j ∧ Own w5 w.heap.size (some ⟨g, 0, none⟩) c2 (Z j) ∧ Own w5 wo.heap.size A4 c4 M ∧ Below w.heap.size w w5) (fun jv _ => M.length - (intOf jv).toNat)
        case atStart => exact ⟨0, Nat.zero_le _, rfl, HS5.out, HO4.out, HB4.out⟩
        case round =>
          obtain ⟨j, hj, rfl, hoS, hoM, hbel⟩ := hrel
          by_cases hlt : j < M.length
          · obtain ⟨r, hr1, _, hr3⟩ := HLC.out j hlt
            obtain ⟨bL, oL, rfl, hcL⟩ := hoM.cells (by omega)
            have hckL := hcL j hlt
            rw [hr3] at hckL
            have hsv := HGc.out j hlt r hr3 (by omega)
            obtain ⟨bp, op, rfl, hcp5⟩ := HCP.out wr hbel (by omega)
            have hcP : wr.drew.cell? ⟨bp, op + r, none⟩ = some (.int .i64 (p.getD r 0)) := hcp5 r hr1
            have hpr := HPB.out r
            have hpp := HPP.out r hr1
            have hqa := HQC.out r
            have HST' := hid (HTc.out j hlt r hr3)
            have HSK' := hid (HKc.out j hlt r hr3)
            obtain ⟨x, hx⟩ : ∃ x, x = p.getD r 0 := ⟨_, rfl⟩
            rw [← hx] at hpr hqa HST' hsv hcP hpp
            obtain ⟨k, hk⟩ : ∃ k : Nat, (k : Int) = x - 1 := ⟨(x - 1).toNat, by omega⟩
            rw [← hk] at hqa
            have HRS' := hid (HRS.out r k wr.drew (by omega) (by omega) hbel.drew)
            rw [← hqa] at HRS'
            have HSV := hid hsv
            have hw : IntKind.i64.wrap (x - 1) = (k : Int) := by rw [IntWalk.i64_in _ (by omega)]; omega
            have hH : wr.drew.cell? ⟨H, 0, none⟩ = _ := HH.out wr hbel
            have HOS := hid hoS
            have HOM := hid hoM
            have HBE5 := hid hbel
            clear hx hqa hcL hr3 hoS hoM hbel hsv hcp5
            go_wp2_with fail
            go_region_with (go_at_call 53; (first | rw [hw] | rw [← hk]); refine HRS'.out.mono ?_; rintro e w6 ⟨rfl, b6⟩)
            all_goals
              have hb6 := hid (Below.next HBE5.out.drew b6)
              have hS6 := hid ((own_dr HOS.out).below b6)
              have hM6 := hid ((own_dr HOM.out).below b6)
              clear b6
              cases hq : qC p t i r
              · have HE1 := hid (HSK'.out hq)
                go_wp2_with fail
                go_roundw
                case rel => exact ⟨j + 1, by omega, by go_num, by rw [← HE1.out]; exact hS6.out, hM6.out, hb6.out⟩
                case measure => simp [intOf]; omega
              · have HE1 := hid (HST'.out hq)
                have hc6 := own_get hS6.out (k := r) (by rw [HLc.out]; omega)
                rw [HSV.out] at hc6
                have hz6 := own_froz hS6.out r
                have hS7 := hid (own_set hS6.out r (x - 1))
                have hM7 := hid (own_after (k := r) (u := .int .i64 (x - 1)) hM6.out hgl)
                have hb7 := hid (show Below w.heap.size w (w6.setCell ⟨g, r, none⟩ (.int .i64 (x - 1))) from hb6.out.setCell hg1 _)
                go_wp2_with fail
                go_roundw
                case rel => exact ⟨j + 1, by omega, by go_num, by rw [← HE1.out]; exact hS7.out, hM7.out, hb7.out⟩
                case measure => simp [intOf]; omega
          · skip
            have hjm : j = M.length := by omega
            subst hjm
            have HBE5 := hid hbel
            have HF5 := hid (show Own wr w.heap.size (some ⟨g, 0, none⟩) c2 (fnRow (p.length + 1) (rfG p t i)) by rw [← HAc.out]; exact hoS)
            clear hoS hoM hbel
            go_wp2_with fail
            refine (HEND.out _ _ _ HF5.out).mono ?_
            rintro e w6 ⟨rfl, o6, rfl⟩
            have O6 := hid o6
            clear o6
            go_wp2_with fail
            refine (HIP.out _ _ _ O6.out.cells).mono ?_
            rintro e w6 ⟨rfl, rfl⟩
            rcases Bool.eq_false_or_eq_true gb with hb | hb
            · subst hb
              have HE := hid (HFT.out rfl)
              go_wp2_with fail
              go_ret2
              exact ⟨some ⟨g, 0, none⟩, c2, by rw [HE.out, HRL.out]; rfl, by rw [HE.out]; exact O6.out, HBE5.out⟩
            · subst hb
              have HE := hid (HFF.out rfl)
              go_wp2_with fail
              go_ret2
              exact ⟨none, 0, by rw [HE.out]; rfl, by rw [HE.out]; exact own_nil _ _, HBE5.out⟩
      · have HGY := hid hgw
        have hYA := HSA.out
        have HYA := hid (show S L.length = fnRow (p.length + 1) (rfG p t i) by rw [hYA, HGA.out hgw]; rfl)
        rw [HYA.out] at HS4
        obtain ⟨M, hM⟩ : ∃ M, M = filt (corB p) p.length := ⟨_, rfl⟩
        rw [← hM] at HLC hLc HO4 ⊢
        clear hgw hYA hM HNDc
        go_wp2_with fail
        go_loopw [52] (fun jv w5 => ∃ j : Nat, j ≤ M.length ∧ jv = .int .i64 j ∧ Own w5 w.heap.size (some ⟨g, 0, none⟩) c2 (fnRow (p.length + 1) (rfG p t i)) ∧ Own w5 wo.heap.size A4 c4 M ∧ Below w.heap.size w w5) (fun jv _ => M.length - (intOf jv).toNat)
        case atStart => exact ⟨0, Nat.zero_le _, rfl, HS4.out, HO4.out, HB4.out⟩
        case round =>
          obtain ⟨j, hj, rfl, hoS, hoM, hbel⟩ := hrel
          by_cases hlt : j < M.length
          · obtain ⟨r, hr1, _, hr3⟩ := HLC.out j hlt
            obtain ⟨bL, oL, rfl, hcL⟩ := hoM.cells (by omega)
            have hckL := hcL j hlt
            rw [hr3] at hckL
            have HOS := hid hoS
            have HOM := hid hoM
            have HBE5 := hid hbel
            clear hcL hr3 hoS hoM hbel
            go_wp2_with fail
            go_quiet (fail)
            have hS6 := hid (own_drewN' HOS.out nq)
            have hM6 := hid (own_drewN' HOM.out nq)
            have hb6 := hid (below_drewN HBE5.out nq)
            go_wp2_with fail
            go_roundw
            case rel => exact ⟨j + 1, by omega, by go_num, hS6.out, hM6.out, hb6.out⟩
            case measure => simp [intOf]; omega
          · skip
            have hjm : j = M.length := by omega
            subst hjm
            have HBE5 := hid hbel
            have HF5 := hid hoS
            clear hoS hoM hbel
            go_wp2_with fail
            refine (HEND.out _ _ _ HF5.out).mono ?_
            rintro e w6 ⟨rfl, o6, rfl⟩
            have O6 := hid o6
            clear o6
            go_wp2_with fail
            refine (HIP.out _ _ _ O6.out.cells).mono ?_
            rintro e w6 ⟨rfl, rfl⟩
            rcases Bool.eq_false_or_eq_true gb with hb | hb
            · subst hb
              have HE := hid (HFT.out rfl)
              go_wp2_with fail
              go_ret2
              exact ⟨some ⟨g, 0, none⟩, c2, by rw [HE.out, HRL.out]; rfl, by rw [HE.out]; exact O6.out, HBE5.out⟩
            · subst hb
              have HE := hid (HFF.out rfl)
              go_wp2_with fail
              go_ret2
              exact ⟨none, 0, by rw [HE.out]; rfl, by rw [HE.out]; exact own_nil _ _, HBE5.out⟩
theorem reflect_any {B : Nat} (T I H : Nat) (t : Nat) (i : Int) (A : Option Addr) (c : Nat) (p : List Int) (w : World) (G : Good p) (ht : 2 ≤ t ∧ t ≤ 6) (h1 : w.cell? ⟨T, 0, none⟩ = some (.int .i64 t)) (h2 : w.cell? ⟨I, 0, none⟩ = some (.int .i64 i))
    (h3 : w.cell? ⟨H, 0, none⟩ = some (.func (.func 53) #[] #[.pointer (some ⟨T, 0, none⟩), .pointer (some ⟨I, 0, none⟩)])) (ho : Own w B A c p) :
    Calls Try.prog 55 #[.slice A p.length c, .pointer (some ⟨H, 0, none⟩)] w fun e w' => ∃ A' c', e = .returned (.tuple #[.slice A' (if good (rfL p t i) then rfL p t i else []).length c', .bool (good (rfL p t i))]) ∧ Own w' w.heap.size A' c' (if good (rfL p t i) then rfL p t i else []) ∧ Below w.heap.size w w' :=
  reflect_anyR T I H t i A c p w G ht h1 h2 h3 (own_rd ho)

end Go.Proofs.Ythkkiakfmbnfeaa
/-
  Plain facts for chReflect of the model.
-/
namespace Go.Proofs.Ythkkiakfmbnfeaa
open Go.RowKit

theorem p_row (p : List Int) : p = fnRow p.length (fun r => p.getD r 0) := by
  apply List.ext_getElem
  · simp [fnRow]
  · intro j h1 h2
    simp [fnRow, List.getD, h1]
theorem stp_more {n : Nat} {g : Nat → Int} {q : Nat → Bool} {d : Int} {L : List Int} {j : Nat} (hg : g n = 0) (hn : (n : Int) ∉ L.take j) : stp n g q d L j ++ [0] = stp (n + 1) g q d L j := by
  unfold stp fnRow
  rw [List.range_succ, List.map_append]
  congr 1
  simp [hg, hn]
/-- Whether the row below the last one has been made. -/
def topK (p : List Int) (t : Nat) (i : Int) (L : List Int) (j : Nat) : Bool := decide ((p.length : Int) ∈ L.take j) && qA p t i p.length
def moL (p : List Int) (t : Nat) (i : Int) (L : List Int) (j : Nat) : List Int := stp (if topK p t i L j then p.length + 1 else p.length) (fun r => p.getD r 0) (qA p t i) 1 L j
theorem topK_succ {p : List Int} {t : Nat} {i : Int} {L : List Int} {j r : Nat} (hj : j < L.length) (hr : L.getD j 0 = (r : Int)) : topK p t i L (j + 1) = (topK p t i L j || (decide (r = p.length) && qA p t i p.length)) := by
  unfold topK
  rw [take_succ_get hj, hr]
  have e2 : decide ((p.length : Int) ∈ L.take j ++ [(r : Int)]) = (decide ((p.length : Int) ∈ L.take j) || decide (r = p.length)) := by
    rw [Bool.eq_iff_iff]
    simp only [decide_eq_true_eq, Bool.or_eq_true, List.mem_append, List.mem_singleton]
    constructor
    · rintro (h | h)
      · exact .inl h
      · exact .inr (by omega)
    · rintro (h | h)
      · exact .inl h
      · exact .inr (by omega)
  rw [e2, Bool.and_or_distrib_right]
theorem mo_zero (p : List Int) (t : Nat) (i : Int) (L : List Int) : moL p t i L 0 = p := by
  unfold moL topK
  rw [stp_zero]; simp only [List.take_zero, List.not_mem_nil, decide_false, Bool.false_and, Bool.false_eq_true, if_false]
  exact (p_row p).symm
theorem mo_skip {p : List Int} {t : Nat} {i : Int} {L : List Int} {j r : Nat} (hj : j < L.length) (hr : L.getD j 0 = (r : Int)) (hq : qA p t i r = false) : moL p t i L j = moL p t i L (j + 1) := by
  unfold moL
  rw [topK_succ hj hr, ← stp_skip hj hr hq]
  by_cases e : r = p.length
  · subst e; rw [hq]; simp
  · rw [decide_eq_false e]; simp
theorem mo_low {p : List Int} {t : Nat} {i : Int} {L : List Int} (nd : L.Nodup) {j r : Nat} (hj : j < L.length) (hr : L.getD j 0 = (r : Int)) (hq : qA p t i r = true) (hlt : r < p.length) : (moL p t i L j).getD r 0 = p.getD r 0 ∧ (moL p t i L j).set r (p.getD r 0 + 1) = moL p t i L (j + 1) ∧ r < (moL p t i L j).length := by
  unfold moL
  rw [topK_succ hj hr, decide_eq_false (show ¬ r = p.length by omega), Bool.false_and, Bool.or_false]
  refine ⟨stp_get nd hj hr (by split <;> omega), stp_set hj hr hq, by rw [stp_len]; split <;> omega⟩
theorem mo_top {p : List Int} {t : Nat} {i : Int} {L : List Int} (nd : L.Nodup) {j : Nat} (hj : j < L.length) (hr : L.getD j 0 = (p.length : Int)) (hq : qA p t i p.length = true) : (moL p t i L j).length = p.length ∧ (moL p t i L j ++ [0]).getD p.length 0 = 0 ∧ (moL p t i L j ++ [0]).set p.length 1 = moL p t i L (j + 1) := by
  have hn : (p.length : Int) ∉ L.take j := by rw [← hr]; exact nodup_not_mem nd hj
  have ht : topK p t i L j = false := by unfold topK; rw [decide_eq_false hn]; rfl
  have hm : moL p t i L j = stp p.length (fun r => p.getD r 0) (qA p t i) 1 L j := by unfold moL; rw [ht]; rfl
  have hm2 : moL p t i L (j + 1) = stp (p.length + 1) (fun r => p.getD r 0) (qA p t i) 1 L (j + 1) := by unfold moL; rw [topK_succ hj hr, ht, hq]; simp
  have h0 : p.getD p.length 0 = 0 := getD_out (Nat.le_refl _)
  rw [hm, hm2, stp_more h0 hn]
  refine ⟨stp_len _ _ _ _ _ _, (stp_get nd hj hr (Nat.lt_succ_self _)).trans h0, ?_⟩
  have := stp_set (m := p.length + 1) (g := fun r => p.getD r 0) (d := 1) hj hr hq
  simp only [h0] at this
  exact this
/-- The rows without the corners of a residue, the first k of them. -/
def coK (p : List Int) (t : Nat) (i : Int) (k : Nat) : List Int := fnRow p.length fun r => p.getD r 0 + if (decide (r < k) && corB p r) && qC p t i r then -1 else 0
theorem coK_len (p : List Int) (t : Nat) (i : Int) (k : Nat) : (coK p t i k).length = p.length := fnRow_len _ _
theorem coK_zero (p : List Int) (t : Nat) (i : Int) : coK p t i 0 = p := by
  unfold coK
  rw [show (fun r => p.getD r 0 + if (decide (r < 0) && corB p r) && qC p t i r then (-1 : Int) else 0) = fun r => p.getD r 0 from by funext r; simp]
  exact (p_row p).symm
theorem coK_get (p : List Int) (t : Nat) (i : Int) (k : Nat) (h : k < p.length) : (coK p t i k).getD k 0 = p.getD k 0 := by
  unfold coK; rw [fnRow_get _ _ _ h]; simp
theorem coK_set {p : List Int} {t : Nat} {i : Int} {k : Nat} (h : (corB p k && qC p t i k) = true) : (coK p t i k).set k (p.getD k 0 - 1) = coK p t i (k + 1) := by
  unfold coK
  rw [fnRow_set]
  refine rowF_ext _ _ _ fun s _ => ?_
  by_cases e : s = k
  · subst e
    rw [if_pos rfl, decide_eq_true (show s < s + 1 by omega), Bool.true_and, h]; simp; omega
  · rw [if_neg e]
    have : decide (s < k) = decide (s < k + 1) := by rw [decide_eq_decide]; omega
    rw [this]
theorem coK_skip {p : List Int} {t : Nat} {i : Int} {k : Nat} (h : (corB p k && qC p t i k) = false) : coK p t i k = coK p t i (k + 1) := by
  unfold coK
  refine rowF_ext _ _ _ fun s _ => ?_
  by_cases e : s = k
  · subst e
    rw [Bool.and_assoc, Bool.and_assoc, h]; simp
  · have : decide (s < k) = decide (s < k + 1) := by rw [decide_eq_decide]; omega
    rw [this]

theorem own_setOther {w : World} {B g k c : Nat} {A : Option Addr} {u : Value} {xs : List Int} (h : Own w B A c xs) (hg : ∀ b, A.map Addr.block = some b → b ≠ g) : Own (w.setCell ⟨g, k, none⟩ u) B A c xs :=
  h.keep fun b hb _ => Below.heap_setCell _ _ _ _ (hg b hb)
end Go.Proofs.Ythkkiakfmbnfeaa
