/-
  Several texts in one.
-/
import Derived.Test.YthkkiakfmbnfeaaR37
import Derived.Test.YthkkiakfmbnfeaaR07
import Derived.Laws.EntriesVeiled
/-
  Contracts: chReflect of the model.
-/
namespace Go.Proofs.Ythkkiakfmbnfeaa
open Go.RowKit

theorem mo_none {p : List Int} {t : Nat} {i : Int} (hg : grw p t i = false) : moL p t i (filt (addB p) (p.length + 1)) (filt (addB p) (p.length + 1)).length = p := by
  have ht : topK p t i (filt (addB p) (p.length + 1)) (filt (addB p) (p.length + 1)).length = false := by
    unfold topK
    cases hq : qA p t i p.length
    · simp
    · exfalso
      unfold grw anyK at hg
      rw [List.take_of_length_le (Nat.le_refl _), List.any_eq_false] at hg
      have := hg _ (mem_filt.2 ⟨p.length, Nat.lt_succ_self _, add_top p, rfl⟩)
      rw [Int.toNat_natCast] at this
      exact this hq
  unfold moL
  rw [ht]
  exact (stp_none hg).trans (p_row p).symm
theorem mo_all {p : List Int} {t : Nat} {i : Int} (hg : grw p t i = true) : moL p t i (filt (addB p) (p.length + 1)) (filt (addB p) (p.length + 1)).length = rfL p t i := by
  have ht : topK p t i (filt (addB p) (p.length + 1)) (filt (addB p) (p.length + 1)).length = qA p t i p.length := by
    unfold topK
    rw [List.take_of_length_le (Nat.le_refl _), decide_eq_true (mem_filt.2 ⟨p.length, Nat.lt_succ_self _, add_top p, rfl⟩), Bool.true_and]
  unfold moL rfL rfK rfG
  rw [ht, if_pos hg, if_pos hg]
  unfold stp
  rw [List.take_of_length_le (Nat.le_refl _)]
  refine rowF_ext _ _ _ fun s _ => ?_
  unfold aR
  have e2 : decide ((s : Int) ∈ filt (addB p) (p.length + 1)) = (decide (s < p.length + 1) && addB p s) := by
    rw [Bool.eq_iff_iff]
    simp only [decide_eq_true_eq, Bool.and_eq_true]
    rw [mem_filt]
    exact ⟨fun ⟨r, h1, h2, h3⟩ => by
      have : s = r := by omega
      subst this; exact ⟨h1, h2⟩, fun ⟨h1, h2⟩ => ⟨s, h1, h2, rfl⟩⟩
  rw [e2]
theorem ob_slice (A : Option Addr) (n c : Nat) : (Value.slice A n c).ownBlock = A.map Addr.block := by cases A <;> rfl

set_option maxRecDepth 100000 in
set_option maxHeartbeats 1500000 in
theorem chReflect_anyR (t : Nat) (i : Int) (A : Option Addr) (c : Nat) (p : List Int) (w : World) (G : Good p) (ht : 2 ≤ t ∧ t ≤ 6) (hi6 : 0 ≤ i ∧ i ≤ 5) (ho : Rd w A c p) :
    Calls Try.prog 33 #[.slice A p.length c, .int .i64 t, .int .i64 i] w fun e w' => ∃ A' c', e = .returned (.tuple #[.slice A' (rfL p t i).length c', .bool (grw p t i)]) ∧ Own w' w.heap.size A' c' (rfL p t i) ∧ Below w.heap.size w w' := by
  obtain ⟨i0, hi, hz0, hz1, hz2⟩ := info_parts Try.infoInt
  have h30 := G.len
  have HOW := hid (l1OwnR_any A c p w (by omega) ho)
  have HAD := hid fun W (h : Cells W A p) => ptAddable_any A c p W h30 h
  have HCP := hid fun W (h : Below w.heap.size w W) => ho.cells.later h
  have HPT := hid fun (r : Nat) (hr : r ≤ 1048576) W (h : Cells W A p) => chPart_any A c p r W (by omega) hr h
  have HPB := hid fun r => (show 0 ≤ p.getD r 0 ∧ p.getD r 0 ≤ 30 by
    by_cases h : r < p.length
    · have := G.pos r h; have := G.le r h; omega
    · rw [getD_out (by omega)]; omega)
  have HND := hid (filt_nodup (addB p) (p.length + 1))
  have HLA := hid fun j (hj : j < (filt (addB p) (p.length + 1)).length) => filt_at hj
  have HSK := hid fun j (hj : j < (filt (addB p) (p.length + 1)).length) (r : Nat) (hr : (filt (addB p) (p.length + 1)).getD j 0 = (r : Int)) (hq : qA p t i r = false) => mo_skip hj hr hq
  have HLO := hid fun j (hj : j < (filt (addB p) (p.length + 1)).length) (r : Nat) (hr : (filt (addB p) (p.length + 1)).getD j 0 = (r : Int)) (hq : qA p t i r = true) (hlt : r < p.length) => mo_low HND.out hj hr hq hlt
  have HTO := hid fun j (hj : j < (filt (addB p) (p.length + 1)).length) (hr : (filt (addB p) (p.length + 1)).getD j 0 = (p.length : Int)) (hq : qA p t i p.length = true) => mo_top HND.out hj hr hq
  have HAK := hid fun j (hj : j < (filt (addB p) (p.length + 1)).length) (r : Nat) (hr : (filt (addB p) (p.length + 1)).getD j 0 = (r : Int)) => anyK_succ (q := qA p t i) hj hr
  have HAZ := hid (anyK_zero (qA p t i) (filt (addB p) (p.length + 1)))
  have HMZ := hid (mo_zero p t i (filt (addB p) (p.length + 1)))
  have hLl := filt_len (addB p) (p.length + 1)
  have HQA := hid fun r => (show qA p t i r = decide ((p.getD r 0 - (r : Int)) % (t : Int) = i) from rfl)
  have HGW := hid (show grw p t i = anyK (qA p t i) (filt (addB p) (p.length + 1)) (filt (addB p) (p.length + 1)).length from rfl)
  obtain ⟨L, hL⟩ : ∃ L, L = filt (addB p) (p.length + 1) := ⟨_, rfl⟩
  rw [← hL] at HAD HLA HSK HLO HTO HAK HAZ HMZ hLl HGW
  obtain ⟨M, hM⟩ : ∃ M, M = moL p t i L := ⟨_, rfl⟩
  rw [← hM] at HSK HLO HTO HMZ
  obtain ⟨K, hK⟩ : ∃ K, K = anyK (qA p t i) L := ⟨_, rfl⟩
  rw [← hK] at HAK HAZ HGW
  have HMM := hid hM
  have HLL := hid hL
  have HG := hid G
  have hne : ¬ ((t : Int) = 0) := by omega
  obtain ⟨R, hR⟩ : ∃ R, R = rfL p t i := ⟨_, rfl⟩
  obtain ⟨gw, hgg⟩ : ∃ gw, gw = grw p t i := ⟨_, rfl⟩
  rw [← hR, ← hgg]
  have HRR := hid hR
  have HGG := hid hgg
  clear ho hL hM hK HND G hR hgg
  go_enter Try.func33, Try.ntmps33
  go_wp2_with fail
  refine HOW.out.mono ?_
  rintro e w1 ⟨A1, c1, rfl, o1, b1⟩
  have O1 := hid o1
  have B1 := hid b1
  have hs1 := b1.size
  clear o1 b1
  go_wp2_with fail
  refine (HAD.out _ (HCP.out _ B1.out)).mono ?_
  rintro e w2 ⟨A2, c2, rfl, o2, b2⟩
  have O2 := hid o2
  have B2 := hid (Below.next B1.out b2)
  have O1' := hid (show Own w2 w.heap.size A1 c1 (M 0) by rw [HMZ.out]; exact O1.out.below b2)
  have HM0 := hid (show p.length = (M 0).length by rw [HMZ.out])
  have hs2 := b2.size
  have hA1 := hid fun b hb => (O1.out.block b hb).2
  have hA2 := hid o2.block
  clear o2 b2
  go_wp2_with fail
  go_loopw [8, 9, 19] (fun v av jv wr => ∃ (j : Nat) (A' : Option Addr) (c' : Nat), j ≤ L.length ∧ jv = .int .i64 j ∧ av = .bool (K j) ∧ v = .slice A' (M j).length c' ∧ Own wr w.heap.size A' c' (M j) ∧ Own wr w1.heap.size A2 c2 L ∧ Hid (∀ b, A'.map Addr.block = some b → b < w1.heap.size ∨ w2.heap.size ≤ b) ∧ w2.heap.size ≤ wr.heap.size ∧ Below w.heap.size w wr) (fun _ _ jv _ => L.length - (intOf jv).toNat)
  case atStart => exact ⟨0, A1, c1, Nat.zero_le _, rfl, by rw [HAZ.out], by rw [← HM0.out], O1'.out, O2.out, hid fun b hb => .inl (hA1.out b hb), Nat.le_refl _, B2.out⟩
  case round =>
    obtain ⟨j, A', c', hj, rfl, rfl, rfl, hoM, hoL, HGB, hsz, hbel⟩ := hrel
    obtain ⟨wo, rfl⟩ : ∃ wo : World, wo = wr := ⟨_, rfl⟩
    have hcp := hid (HCP.out wo hbel)
    by_cases hlt : j < L.length
    · obtain ⟨r, hr1, _, hr3⟩ := HLA.out j hlt
      obtain ⟨bL, oL, rfl, hcL⟩ := hoL.cells (by omega)
      have hckL := hcL j hlt
      rw [hr3] at hckL
      have HPT' := hid (HPT.out r (by omega) wo hcp.out)
      have hpr := HPB.out r
      have hqa := HQA.out r
      have HSK' := hid (HSK.out j hlt r hr3)
      have HLO' := hid (HLO.out j hlt r hr3)
      have HTO' := hid fun (h : r = p.length) => HTO.out j hlt (by rw [hr3, h])
      have HAK' := hid (HAK.out j hlt r hr3)
      obtain ⟨x, hx⟩ : ∃ x, x = p.getD r 0 := ⟨_, rfl⟩
      rw [← hx] at HPT' hpr hqa HLO'
      obtain ⟨t1, t2, t3⟩ := tmod_resid (x := x - (r : Int)) (t := (t : Int)) (by omega)
      obtain ⟨s, hs⟩ : ∃ s, s = (x - (r : Int)) % (t : Int) := ⟨_, rfl⟩
      rw [← hs] at t3 hqa
      have hsb : 0 ≤ s ∧ s ≤ 5 := by
        have := Int.emod_nonneg (x - (r : Int)) (show (t : Int) ≠ 0 by omega)
        have := Int.emod_lt_of_pos (x - (r : Int)) (show 0 < (t : Int) by omega)
        omega
      obtain ⟨y, hy⟩ : ∃ y, y = Int.tmod (x - (r : Int)) (t : Int) := ⟨_, rfl⟩
      rw [← hy] at t1 t2 t3
      have hyy : Int.tmod (x - (r : Int)) (t : Int) = y := hy.symm
      have HOM := hid hoM
      have HOL := hid hoL
      have HBE := hid hbel
      have HQ := hid hqa
      clear hx hs hy hcL hr3 hoM hoL hbel hqa
      by_cases hq : s = i
      · have hqt : qA p t i r = true := by rw [HQ.out]; exact decide_eq_true hq
        have HAT := hid (show K (j + 1) = true by rw [HAK'.out, hqt, Bool.or_true])
        subst hq
        by_cases hrn : r = p.length
        · subst hrn
          obtain ⟨m1, m2, m3⟩ := HTO'.out rfl hqt
          have HI0 := hid (show IL (M j ++ [0]) = IL (M j) ++ [.int .i64 0] by rw [IL_app]; rfl)
          have HIL := hid (show (M j).length + 1 = (M j ++ [0]).length by simp)
          have HM2 := hid m2
          have HM3 := hid m3
          have hML : (M j).length ≤ 30 := by omega
          have hub : p.length < (M j).length + 1 := by omega
          have HM1 := hid m1
          clear m1 m2 m3 hqt
          go_wp2_with fail
          refine HPT'.out.mono ?_
          rintro e w' ⟨rfl, rfl⟩
          go_wp2_with (at_builtin; refine wpList_append_own_at _ rfl _ _ 22 rfl w.heap.size 3 i0 (.int .i64 0) 1 8 Try.underlying22 hi hz0 hz1 hz2 rfl (by decide) _ _ _ rfl (HOM.out.alloc _) ⟨wo.heap.size, 0, none⟩ 1 1 [.int .i64 0] rfl rfl one_at (one_cell _) (by unfold maxLen; omega) (by omega) (by have := HBE.out.size; simp; omega) ?_)
          intro v3 w3 hown3 hgrow3 _ hat
          have hs0 := HBE.out.size
          have hal : (wo.alloc (.cells #[.int .i64 0] 3)).heap.size = wo.heap.size + 1 := by simp
          have hb3 : Below w.heap.size w w3 := (HBE.out.alloc hs0 _).grown hgrow3 (by simp; omega) (fun q hq => (HOM.out.lt q hq).1)
          have hgs := hgrow3.size
          have hL3 : Own w3 w1.heap.size (some ⟨bL, oL, none⟩) c2 L := HOL.out.keep fun b hb hlt => by
            have e1 : (wo.alloc (.cells #[.int .i64 0] 3)).heap[b]? = wo.heap[b]? := Below.heap_alloc _ _ _ hlt
            rw [← e1]
            refine hgrow3.block b (by omega) fun e => ?_
            have h1 := hA2.out b hb
            rcases HGB.out b (by rw [← ob_slice A' (M j).length c']; exact e.symm) with h | h <;> omega
          rw [← HI0.out] at hown3
          obtain ⟨A3, c3, rfl, o3⟩ := own_form hown3 HIL.out
          have hG3 : ∀ b, A3.map Addr.block = some b → b < w1.heap.size ∨ w2.heap.size ≤ b := fun b hb => by
            rw [← ob_slice A3 (M j ++ [0]).length c3] at hb
            rcases hat with h | h
            · exact HGB.out b (by rw [← ob_slice A' (M j).length c', ← h]; exact hb)
            · right
              have h5 := h.symm.trans hb
              injection h5 with h5
              omega
          obtain ⟨g, rfl, hg1, hg2⟩ := o3.at_ (by simp)
          have hcM := own_get o3 (k := p.length) (by have := HM1.out; simp; omega)
          rw [HM2.out] at hcM
          have hzM := own_froz o3 p.length
          have HS2 := hid (own_len (own_set o3 p.length 1) HM3.out)
          have HML := hid (show (M j ++ [0]).length = (M (j + 1)).length by rw [← HM3.out, List.length_set])
          have hne2 : ∀ b, (some (⟨bL, oL, none⟩ : Addr)).map Addr.block = some b → b ≠ g := fun b hb e => by
            have h1 := hA2.out b hb
            rcases hG3 g rfl with h | h <;> omega
          have HL2 := hid (own_setOther (k := p.length) (u := .int .i64 1) hL3 hne2)
          have HG3 := hid hG3
          have hsz2 : w2.heap.size ≤ (w3.setCell ⟨g, p.length, none⟩ (.int .i64 1)).heap.size := by simp; omega
          have HB2 := hid (show Below w.heap.size w (w3.setCell ⟨g, p.length, none⟩ (.int .i64 1)) from hb3.setCell hg1 _)
          clear hown3 hgrow3 hat hb3 hgs hL3 o3 hG3 hne2 hal
          go_wp2_with fail
          rw [HML.out]
          go_roundw
          case rel => exact ⟨j + 1, _, _, by omega, by go_num, by rw [HAT.out], rfl, HS2.out, HL2.out, HG3, hsz2, HB2.out⟩
          case measure => simp [intOf]; omega
        · obtain ⟨m1, m2, m3⟩ := HLO'.out hqt (by omega)
          obtain ⟨g, rfl, hg1, hg2⟩ := HOM.out.at_ (by omega)
          have hcM := own_get HOM.out m3
          rw [m1] at hcM
          have hzM := own_froz HOM.out r
          have HS2 := hid (own_len (own_set HOM.out r (x + 1)) m2)
          have HML := hid (show (M j).length = (M (j + 1)).length by rw [← m2, List.length_set])
          have hne2 : ∀ b, (some (⟨bL, oL, none⟩ : Addr)).map Addr.block = some b → b ≠ g := fun b hb e => by
            have h1 := hA2.out b hb
            rcases HGB.out g rfl with h | h <;> omega
          have HL2 := hid (own_setOther (k := r) (u := .int .i64 (x + 1)) HOL.out hne2)
          have hsz2 : w2.heap.size ≤ (wo.setCell ⟨g, r, none⟩ (.int .i64 (x + 1))).heap.size := by simpa using hsz
          have HB2 := hid (show Below w.heap.size w (wo.setCell ⟨g, r, none⟩ (.int .i64 (x + 1))) from HBE.out.setCell hg1 _)
          have hrn' : ¬ (r : Int) = (p.length : Int) := by omega
          have hub := m3
          clear m1 m2 m3 hqt
          go_wp2_with fail
          refine HPT'.out.mono ?_
          rintro e w' ⟨rfl, rfl⟩
          go_wp2_with fail
          rw [HML.out]
          go_roundw
          case rel => exact ⟨j + 1, _, _, by omega, by go_num, by rw [HAT.out], rfl, HS2.out, HL2.out, HGB, hsz2, HB2.out⟩
          case measure => simp [intOf]; omega
      · have hqf : qA p t i r = false := by rw [HQ.out]; exact decide_eq_false hq
        have HME := hid (HSK'.out hqf)
        have HKE := hid (show K (j + 1) = K j by rw [HAK'.out, hqf, Bool.or_false])
        clear hqf
        go_wp2_with fail
        refine HPT'.out.mono ?_
        rintro e w' ⟨rfl, rfl⟩
        go_wp2_with fail
        go_roundw
        case rel => exact ⟨j + 1, A', c', by omega, by go_num, by rw [HKE.out], by rw [HME.out], by rw [← HME.out]; exact HOM.out, HOL.out, HGB, hsz, HBE.out⟩
        case measure => simp [intOf]; omega
    · have hjl : j = L.length := by omega
      subst hjl
      have HBE := hid hbel
      have hcps := hid (HCP.out wo hbel)
      have hML := HMM.out
      cases hgw : grw p t i
      · have HMP := hid (show M L.length = p by rw [hML, HLL.out]; exact mo_none hgw)
        have HKF := hid (show K L.length = false by rw [← HGW.out, hgw])
        have HOM := hid (show Own wo w.heap.size A' c' (coK p t i 0) by rw [coK_zero, ← HMP.out]; exact hoM)
        clear hoM hoL hML hbel
        rw [HKF.out, HMP.out]
        have hgf : gw = false := by rw [HGG.out]; exact hgw
        subst hgf
        have HGF := hid hgw
        have HQC := hid fun r => (show qC p t i r = decide ((p.getD r 0 - 1 - (r : Int)) % (t : Int) = i) from rfl)
        have HCB := hid fun r => (show corB p r = (decide (r + 1 = p.length) || decide (p.getD (r + 1) 0 < p.getD r 0)) from rfl)
        have hsz1 := HBE.out.size
        have HCG := hid fun k (h : k < p.length) => coK_get p t i k h
        have HCS := hid fun k (h : (corB p k && qC p t i k) = true) => coK_set h
        have HCN := hid fun k (h : (corB p k && qC p t i k) = false) => coK_skip h
        have HCL := hid fun k => coK_len p t i k
        have HCE := hid (show coK p t i p.length = fnRow p.length (cR p t i) from rfl)
        have HRG := hid (show R = fnRow (if 0 < p.length ∧ cR p t i (p.length - 1) = 0 then p.length - 1 else p.length) (cR p t i) by
          rw [HRR.out]; unfold rfL rfK rfG
          simp only [HGF.out, Bool.false_eq_true, if_false])
        obtain ⟨N, hN⟩ : ∃ N, N = coK p t i := ⟨_, rfl⟩
        rw [← hN] at HOM HCG HCS HCN HCL HCE
        clear hN hgw
        go_wp2_with fail
        go_loopw [54] (fun kv wr => ∃ k : Nat, k ≤ p.length ∧ kv = .int .i64 k ∧ Own wr w.heap.size A' c' (N k) ∧ Below w.heap.size w wr) (fun kv _ => p.length - (intOf kv).toNat)
        case atStart => exact ⟨0, Nat.zero_le _, rfl, HOM.out, HBE.out⟩
        case round =>
          obtain ⟨k, hk, rfl, hoN, hbel⟩ := hrel
          by_cases hlt : k < p.length
          · obtain ⟨bp, op, rfl, hcp5⟩ := HCP.out wr hbel (by omega)
            have hck := hcp5 k hlt
            have hpr := HPB.out k
            have hqc := HQC.out k
            have hcb := HCB.out k
            obtain ⟨g, rfl, hg1, hg2⟩ := hoN.at_ (by rw [HCL.out]; omega)
            have hcM := own_get hoN (k := k) (by rw [HCL.out]; exact hlt)
            rw [HCG.out k hlt] at hcM
            have hzM := own_froz hoN k
            have HYES := hid fun (h : (corB p k && qC p t i k) = true) => own_len (own_set hoN k (p.getD k 0 - 1)) (HCS.out k h)
            have HNO := hid fun (h : (corB p k && qC p t i k) = false) => own_len hoN (HCN.out k h)
            have HBY := hid (show Below w.heap.size w (wr.setCell ⟨g, k, none⟩ (.int .i64 (p.getD k 0 - 1))) from hbel.setCell hg1 _)
            have HBN := hid hbel
            have hck1 : k + 1 < p.length → wr.cell? ⟨bp, op + (k + 1), none⟩ = some (.int .i64 (p.getD (k + 1) 0)) := fun h => hcp5 (k + 1) h
            obtain ⟨x, hx⟩ : ∃ x, x = p.getD k 0 := ⟨_, rfl⟩
            rw [← hx] at hck hpr hqc hcb hcM HYES HBY
            obtain ⟨t1, t2, t3⟩ := tmod_resid (x := x - 1 - (k : Int)) (t := (t : Int)) (by omega)
            obtain ⟨s, hs⟩ : ∃ s, s = (x - 1 - (k : Int)) % (t : Int) := ⟨_, rfl⟩
            rw [← hs] at t3 hqc
            obtain ⟨y, hy⟩ : ∃ y, y = Int.tmod (x - 1 - (k : Int)) (t : Int) := ⟨_, rfl⟩
            rw [← hy] at t1 t2 t3
            have hyy : Int.tmod (x - 1 - (k : Int)) (t : Int) = y := hy.symm
            obtain ⟨x1, hx1⟩ : ∃ x1, x1 = p.getD (k + 1) 0 := ⟨_, rfl⟩
            rw [← hx1] at hck1 hcb
            have HCB' := hid hcb
            have HQC' := hid hqc
            have hNl := HCL.out k
            clear hx hs hy hx1 hqc hcb hcp5 hoN hbel
            by_cases hkn : k + 1 = p.length
            · have hcT : corB p k = true := by rw [HCB'.out, decide_eq_true hkn]; rfl
              have hke : ((k : Int) + 1 == (p.length : Int)) = true := beq_iff_eq.2 (by omega)
              clear hck1 hkn
              by_cases hq : s = i
              · have HS := hid (HYES.out (by rw [hcT, HQC'.out, decide_eq_true hq]; rfl))
                subst hq
                go_wp2_with fail
                go_roundw
                case rel => exact ⟨k + 1, by omega, by go_num, HS.out, HBY.out⟩
                case measure => simp [intOf]; omega
              · have HS := hid (HNO.out (by rw [hcT, HQC'.out, decide_eq_false hq]; rfl))
                go_wp2_with fail
                go_roundw
                case rel => exact ⟨k + 1, by omega, by go_num, HS.out, HBN.out⟩
                case measure => simp [intOf]; omega
            · have hk1 := hck1 (by omega)
              have hke : ((k : Int) + 1 == (p.length : Int)) = false := beq_eq_false_iff_ne.2 (by omega)
              have hb1 : k + 1 < p.length := by omega
              clear hck1
              by_cases hx1 : x1 < x
              · have hcT : corB p k = true := by rw [HCB'.out, decide_eq_true hx1, Bool.or_true]
                clear hkn
                by_cases hq : s = i
                · have HS := hid (HYES.out (by rw [hcT, HQC'.out, decide_eq_true hq]; rfl))
                  subst hq
                  go_wp2_with fail
                  go_roundw
                  case rel => exact ⟨k + 1, by omega, by go_num, HS.out, HBY.out⟩
                  case measure => simp [intOf]; omega
                · have HS := hid (HNO.out (by rw [hcT, HQC'.out, decide_eq_false hq]; rfl))
                  go_wp2_with fail
                  go_roundw
                  case rel => exact ⟨k + 1, by omega, by go_num, HS.out, HBN.out⟩
                  case measure => simp [intOf]; omega
              · have hcT : corB p k = false := by rw [HCB'.out, decide_eq_false hx1, decide_eq_false hkn]; rfl
                have HS := hid (HNO.out (by rw [hcT]; rfl))
                clear hkn
                go_wp2_with fail
                go_roundw
                case rel => exact ⟨k + 1, by omega, by go_num, HS.out, HBN.out⟩
                case measure => simp [intOf]; omega
          · have hkn : k = p.length := by omega
            subst hkn
            have hoE := hoN
            rw [HCE.out] at hoE
            have HBN := hid hbel
            clear hoN hbel
            by_cases h0 : p.length = 0
            · have HR := hid (show R = fnRow p.length (cR p t i) by rw [HRG.out, if_neg (by omega)])
              have HO := hid hoE
              have hl0 : ¬ 0 < (p.length : Int) := by omega
              clear hoE h0
              go_wp2_with fail
              go_ret2
              exact ⟨A', c', by rw [HR.out, fnRow_len]; rfl, by rw [HR.out]; exact HO.out, HBN.out⟩
            · obtain ⟨g, rfl, hg1, hg2⟩ := hoE.at_ (by rw [fnRow_len]; omega)
              have hcl := own_get hoE (k := p.length - 1) (by rw [fnRow_len]; omega)
              rw [fnRow_get _ _ _ (by omega)] at hcl
              have hn1 : ((p.length : Int) - 1).toNat = p.length - 1 := by omega
              have hcap : p.length ≤ c' := by
                have := hoE.2
                rw [fnRow_len] at this
                rcases this with ⟨hv, _⟩ | ⟨g', cap, cur, hv, _, _, hn, _⟩
                · simp at hv
                · have : c' = cap := by injection hv
                  omega
              by_cases hz : cR p t i (p.length - 1) = 0
              · have HR := hid (show R = fnRow (p.length - 1) (cR p t i) by rw [HRG.out, if_pos ⟨by omega, hz⟩])
                have hop := own_prefix hoE (p.length - 1) (by rw [fnRow_len]; omega)
                rw [fnRow_take _ _ (by omega)] at hop
                have HO := hid hop
                rw [hz] at hcl
                clear hoE hop hz
                go_wp2_with fail
                go_ret2
                exact ⟨some ⟨g, 0, none⟩, c', by rw [HR.out, fnRow_len]; rfl, by rw [HR.out]; exact HO.out, HBN.out⟩
              · have HR := hid (show R = fnRow p.length (cR p t i) by rw [HRG.out, if_neg (fun h => hz h.2)])
                have HO := hid hoE
                obtain ⟨z, hze⟩ : ∃ z, z = cR p t i (p.length - 1) := ⟨_, rfl⟩
                rw [← hze] at hcl hz
                clear hoE hze
                go_wp2_with fail
                go_ret2
                exact ⟨some ⟨g, 0, none⟩, c', by rw [HR.out, fnRow_len]; rfl, by rw [HR.out]; exact HO.out, HBN.out⟩
      · have HMR := hid (show M L.length = rfL p t i by rw [hML, HLL.out]; exact mo_all hgw)
        have HKT := hid (show K L.length = true by rw [← HGW.out, hgw])
        have hgt : gw = true := by rw [HGG.out]; exact hgw
        subst hgt
        have HOM := hid hoM
        have HGT := hid hgw
        clear hoM hoL hML hbel hgw
        rw [HKT.out]
        go_wp2_with fail
        go_ret2
        exact ⟨A', c', by rw [HRR.out, ← HMR.out]; rfl, by rw [HRR.out, ← HMR.out]; exact HOM.out, HBE.out⟩
theorem chReflect_any {B : Nat} (t : Nat) (i : Int) (A : Option Addr) (c : Nat) (p : List Int) (w : World) (G : Good p) (ht : 2 ≤ t ∧ t ≤ 6) (hi6 : 0 ≤ i ∧ i ≤ 5) (ho : Own w B A c p) :
    Calls Try.prog 33 #[.slice A p.length c, .int .i64 t, .int .i64 i] w fun e w' => ∃ A' c', e = .returned (.tuple #[.slice A' (rfL p t i).length c', .bool (grw p t i)]) ∧ Own w' w.heap.size A' c' (rfL p t i) ∧ Below w.heap.size w w' :=
  chReflect_anyR t i A c p w G ht hi6 (own_rd ho)

end Go.Proofs.Ythkkiakfmbnfeaa
/-
  Contracts: ReflectCore of the program and of the model.
-/
namespace Go.Proofs.Ythkkiakfmbnfeaa
open Go.RowKit

def rsB (t i : Int) : Bool := decide (0 ≤ i) && decide (i < t)
def rfOk (p : List Int) (t i : Int) : Bool := (isCoreF p t && rsB t i) && good (rfL p t.toNat i)
def rfF (p : List Int) (t i : Int) : List Int := if rfOk p t i then rfL p t.toNat i else []
theorem rf_no {p : List Int} {t i : Int} (h : rfOk p t i = false) : rfF p t i = [] := by simp [rfF, h]
theorem rf_yes {p : List Int} {t i : Int} (h : rfOk p t i = true) : rfF p t i = rfL p t.toNat i := by simp [rfF, h]
theorem core_cr {p : List Int} {t : Int} (h : isCoreF p t = true) : crB p t = true := by
  unfold isCoreF at h; rw [Bool.and_eq_true] at h; exact h.1
theorem bound_ReflectCore (p : List Int) (t i : Int) : (rfF p t i).length ≤ 1048576 := by
  unfold rfF; split
  · rename_i h
    unfold rfOk at h
    rw [Bool.and_eq_true] at h
    have := ((good_iff _).1 h.2).len
    omega
  · simp

set_option maxHeartbeats 1000000 in
theorem reflectionAt_any (t : Nat) (i : Int) (w : World) :
    Calls Try.prog 31 #[.int .i64 t, .int .i64 i] w fun e w' => ∃ T I H, e = .returned (.func (.func 55) #[] #[.pointer (some ⟨H, 0, none⟩)]) ∧
      w'.cell? ⟨T, 0, none⟩ = some (.int .i64 t) ∧ w'.cell? ⟨I, 0, none⟩ = some (.int .i64 i) ∧ w'.cell? ⟨H, 0, none⟩ = some (.func (.func 53) #[] #[.pointer (some ⟨T, 0, none⟩), .pointer (some ⟨I, 0, none⟩)]) ∧ Below w.heap.size w w' := by
  obtain ⟨w1, hw1⟩ : ∃ w1, w1 = w.alloc (.cells #[.int .i64 t] 3) := ⟨_, rfl⟩
  obtain ⟨w2, hw2⟩ : ∃ w2, w2 = w1.alloc (.cells #[.int .i64 i] 3) := ⟨_, rfl⟩
  obtain ⟨w3, hw3⟩ : ∃ w3, w3 = w2.alloc (.cells #[.nilFunc] 63) := ⟨_, rfl⟩
  have e1 : w1.heap.size = w.heap.size + 1 := by rw [hw1]; simp
  have e2 : w2.heap.size = w.heap.size + 1 + 1 := by rw [hw2]; simp [e1]
  have k1 : w1.cell? ⟨w.heap.size, 0, none⟩ = some (.int .i64 t) := by
    rw [hw1]; exact World.ownsRow.cellAt (World.ownsRow_lit (base := w.heap.size) (e := 3) (size := 1) w #[.int .i64 t] 1 (Nat.le_refl _) (by unfold maxLen; omega) rfl) 0 (by omega)
  have k2 : w2.cell? ⟨w1.heap.size, 0, none⟩ = some (.int .i64 i) := by
    rw [hw2]; exact World.ownsRow.cellAt (World.ownsRow_lit (base := w1.heap.size) (e := 3) (size := 1) w1 #[.int .i64 i] 1 (Nat.le_refl _) (by unfold maxLen; omega) rfl) 0 (by omega)
  have k3 := World.ownsRow_lit (base := w2.heap.size) (e := 63) (size := 1) w2 #[.nilFunc] 1 (Nat.le_refl _) (by unfold maxLen; omega) rfl
  rw [← hw3] at k3
  have c3 : w3.cell? ⟨w2.heap.size, 0, none⟩ = some .nilFunc := World.ownsRow.cellAt k3 0 (by omega)
  have f3 := World.ownsRow.frozenAt k3 0
  have k4 := World.ownsRow.cellAt (World.ownsRow_lit (base := w2.heap.size) (e := 63) (size := 1) w2 #[.func (.func 53) #[] #[.pointer (some ⟨w.heap.size, 0, none⟩), .pointer (some ⟨w1.heap.size, 0, none⟩)]] 1 (Nat.le_refl _) (by unfold maxLen; omega) rfl) 0 (by omega)
  have B2 : Below w1.heap.size w1 w2 := by rw [hw2]; exact (Below.refl _ _).alloc (Nat.le_refl _) _
  have B1 : Below w.heap.size w w1 := by rw [hw1]; exact (Below.refl _ _).alloc (Nat.le_refl _) _
  have B4 : Below w2.heap.size w2 (w2.alloc (.cells #[.func (.func 53) #[] #[.pointer (some ⟨w.heap.size, 0, none⟩), .pointer (some ⟨w1.heap.size, 0, none⟩)]] 63)) := (Below.refl _ _).alloc (Nat.le_refl _) _
  have HB := hid (Below.next (Below.next B1 B2) B4)
  have HI := hid ((B4.cell (show w1.heap.size < w2.heap.size by omega)).trans k2)
  have HT := hid (((Below.next B2 B4).cell (show w.heap.size < w1.heap.size by omega)).trans k1)
  have HH := hid k4
  clear k1 k2 k3 k4 B1 B2 B4
  rw [e1] at HB HI HT HH
  rw [e2] at HH c3 f3
  clear e1 e2
  subst hw3
  subst hw2
  subst hw1
  go_enter Try.func31, Try.ntmps31
  go_wp2_with fail
  go_ret
  exact ⟨w.heap.size, w.heap.size + 1, w.heap.size + 1 + 1, rfl, HT.out, HI.out, HH.out, HB.out⟩

set_option maxHeartbeats 1000000 in
theorem chCoreOf_any (A : Option Addr) (c : Nat) (p : List Int) (t : Int) (w : World) (hl : p.length ≤ 1048576) (hc : Cells w A p) :
    Calls Try.prog 32 #[.slice A p.length c, .int .i64 t] w fun e w' => e = .returned (.bool (isCoreF p t)) ∧ Below w.heap.size w w' := by
  cases hg : good p
  · have h : isCoreF p t = false := by unfold isCoreF crB; rw [hg]; simp
    rw [h]
    have HG := hid hg
    clear h hg
    go_enter Try.func32, Try.ntmps32
    go_wp2_with (go_at_call 34; refine (ptGood_b _ _ _ _ hl hc _ HG.out).mono ?_; rintro e w' ⟨rfl, n, rfl⟩)
    go_ret
    exact ⟨rfl, below_drew' _ _⟩
  cases ht : inB 2 6 t
  · have h : isCoreF p t = false := by unfold isCoreF crB; rw [ht]; simp
    rw [h]
    have HG := hid hg
    have HT := hid ht
    clear h hg ht
    go_enter Try.func32, Try.ntmps32
    go_wp2_with (first | (go_at_call 34; refine (ptGood_b _ _ _ _ hl hc _ HG.out).mono ?_; rintro e w' ⟨rfl, n, rfl⟩) | (go_at_call 46; refine (chRunners_b _ _ _ HT.out).mono ?_; rintro e w' ⟨rfl, rfl⟩))
    go_ret
    exact ⟨rfl, below_drew' _ _⟩
  · have hcr : crB p t = true := by unfold crB; rw [hg, ht]; rfl
    have HG := hid hg
    have HT := hid ht
    have HCI := hid fun W (h : Cells W A p) => chIsCore_any A c p t W hcr h
    obtain ⟨b, hb⟩ : ∃ b, b = isCoreF p t := ⟨_, rfl⟩
    rw [← hb] at HCI ⊢
    clear hcr hg ht hb
    have HCW := hid fun n => (show Cells (w.drewN n) A p from hc)
    go_enter Try.func32, Try.ntmps32
    go_wp2_with (first | (go_at_call 34; refine (ptGood_b _ _ _ _ hl hc _ HG.out).mono ?_; rintro e w' ⟨rfl, n, rfl⟩) | (go_at_call 46; refine (chRunners_b _ _ _ HT.out).mono ?_; rintro e w' ⟨rfl, rfl⟩) | (go_at_call 59; refine (HCI.out _ (HCW.out _)).mono ?_; rintro e w2 ⟨rfl, b2⟩))
    go_ret
    exact ⟨rfl, Below.next (below_drew' w n) b2⟩

set_option maxHeartbeats 2000000 in
theorem impl_ReflectCore'R (A : Option Addr) (c : Nat) (p : List Int) (t i : Int) (w : World) (hl : p.length ≤ 1048576) (ho : Rd w A c p) (h64 : I64 t) :
    Calls Try.prog 9 #[.slice A p.length c, .int .i64 t, .int .i64 i] w fun e w' => ∃ A' c', e = .returned (.tuple #[.slice A' (rfF p t i).length c', .bool (rfOk p t i)]) ∧ Own w' w.heap.size A' c' (rfF p t i) ∧ Below w.heap.size w w' := by
  have HIC := hid (impl_IsCore A c p t w hl ho.cells h64)
  cases hcr : isCoreF p t
  · have h : rfOk p t i = false := by unfold rfOk; rw [hcr]; rfl
    rw [rf_no h, h]
    rw [hcr] at HIC
    obtain ⟨b, hb⟩ : ∃ b, b = crB p t := ⟨_, rfl⟩
    rw [← hb] at HIC
    clear hcr h hb ho
    go_enter Try.func9, Try.ntmps9
    go_wp2_with fail
    refine HIC.out.mono ?_
    rintro e w1 ⟨rfl, b1⟩
    go_wp2_with fail
    go_ret2
    exact ⟨none, 0, rfl, own_nil _ _, b1⟩
  have hc := core_cr hcr
  obtain ⟨hg, ht⟩ := crB_good hc
  have hin := inB_iff.1 ht
  rw [hcr, hc] at HIC
  cases hrs : rsB t i
  · have h : rfOk p t i = false := by unfold rfOk; rw [hrs]; simp
    rw [rf_no h, h]
    have HRS := hid hrs
    clear hcr h ho hc hg ht hrs hin
    go_enter Try.func9, Try.ntmps9
    go_wp2_with fail
    refine HIC.out.mono ?_
    rintro e w1 ⟨rfl, b1⟩
    go_wp2_with (go_at_call 23; refine (isResidue_b _ _ _ _ HRS.out).mono ?_; rintro e w' ⟨rfl, rfl⟩)
    go_ret2
    exact ⟨none, 0, rfl, own_nil _ _, b1⟩
  obtain ⟨t, rfl⟩ : ∃ m : Nat, t = m := ⟨t.toNat, by omega⟩
  have G := (good_iff p).1 hg
  have hok : rfOk p t i = good (rfL p t i) := by unfold rfOk; rw [hcr, hrs, Int.toNat_natCast]; rfl
  have hF : rfF p t i = if good (rfL p t i) = true then rfL p t i else [] := by
    unfold rfF; rw [hok, Int.toNat_natCast]
  rw [hok, hF]
  have HRS := hid hrs
  have HRA := hid fun W => reflectionAt_any t i W
  have HRF := hid fun T I H W h1 h2 h3 (h : Rd W A c p) => reflect_anyR T I H t i A c p W G (by omega) h1 h2 h3 h
  have HO := hid ho
  obtain ⟨Fn, hFn⟩ : ∃ Fn, Fn = if good (rfL p t i) = true then rfL p t i else [] := ⟨_, rfl⟩
  obtain ⟨gb, hgb⟩ : ∃ gb, gb = good (rfL p t i) := ⟨_, rfl⟩
  rw [← hFn, ← hgb] at HRF ⊢
  clear hcr hrs ho hc hg ht hin G hok hF hFn hgb
  go_enter Try.func9, Try.ntmps9
  go_wp2_with fail
  refine HIC.out.mono ?_
  rintro e w1 ⟨rfl, b1⟩
  go_wp2_with (first | (go_at_call 23; refine (isResidue_b _ _ _ _ HRS.out).mono ?_; rintro e w' ⟨rfl, rfl⟩) | (go_at_call 31; refine (HRA.out _).mono ?_; rintro e w2 ⟨T, I, H, rfl, c1, c2, c3, b2⟩; have B2 := hid (Below.next b1 b2); have HO2 := hid ((HO.out.below b1).below b2)) | (go_at_call 55; refine (HRF.out T I H _ c1 c2 c3 HO2.out).mono ?_; rintro e w3 ⟨A3, c3', rfl, o3, b3⟩))
  go_ret2
  exact ⟨A3, c3', rfl, o3.more B2.out.size, Below.next B2.out b3⟩
theorem impl_ReflectCore' {B : Nat} (A : Option Addr) (c : Nat) (p : List Int) (t i : Int) (w : World) (hl : p.length ≤ 1048576) (ho : Own w B A c p) (h64 : I64 t) :
    Calls Try.prog 9 #[.slice A p.length c, .int .i64 t, .int .i64 i] w fun e w' => ∃ A' c', e = .returned (.tuple #[.slice A' (rfF p t i).length c', .bool (rfOk p t i)]) ∧ Own w' w.heap.size A' c' (rfF p t i) ∧ Below w.heap.size w w' :=
  impl_ReflectCore'R A c p t i w hl (own_rd ho) h64

theorem impl_ReflectCore {B : Nat} (A : Option Addr) (c : Nat) (p : List Int) (t i : Int) (w : World) (hl : p.length ≤ 1048576) (ho : Own w B A c p) (h64 : I64 t) (_h64i : I64 i) :
    Calls Try.prog 9 #[.slice A p.length c, .int .i64 t, .int .i64 i] w fun e w' => ∃ A' c', e = .returned (.tuple #[.slice A' (rfF p t i).length c', .bool (rfOk p t i)]) ∧ Own w' w.heap.size A' c' (rfF p t i) ∧ Below w.heap.size w w' :=
  impl_ReflectCore' A c p t i w hl ho h64


set_option maxHeartbeats 2000000 in
theorem spec_ReflectCoreR (A : Option Addr) (c : Nat) (p : List Int) (t i : Int) (w : World) (hl : p.length ≤ 1048576) (ho : Rd w A c p) (_h64 : I64 t) (_h64i : I64 i) :
    Calls Try.prog 10 #[.slice A p.length c, .int .i64 t, .int .i64 i] w fun e w' => ∃ A' c', e = .returned (.tuple #[.slice A' (rfF p t i).length c', .bool (rfOk p t i)]) ∧ Own w' w.heap.size A' c' (rfF p t i) ∧ Below w.heap.size w w' := by
  have HIC := hid (chCoreOf_any A c p t w hl ho.cells)
  cases hcr : isCoreF p t
  · have h : rfOk p t i = false := by unfold rfOk; rw [hcr]; rfl
    rw [rf_no h, h]
    rw [hcr] at HIC
    clear hcr h ho
    go_enter Try.func10, Try.ntmps10
    go_wp2_with (go_at_call 32; refine HIC.out.mono ?_; rintro e w1 ⟨rfl, b1⟩)
    go_ret2
    exact ⟨none, 0, rfl, own_nil _ _, b1⟩
  have hc := core_cr hcr
  obtain ⟨hg, ht⟩ := crB_good hc
  have hin := inB_iff.1 ht
  rw [hcr] at HIC
  have hrb : inB 0 (t - 1) i = rsB t i := by
    rw [Bool.eq_iff_iff, inB_iff]; unfold rsB; simp only [Bool.and_eq_true, decide_eq_true_eq]; omega
  cases hrs : rsB t i
  · have h : rfOk p t i = false := by unfold rfOk; rw [hrs]; simp
    rw [rf_no h, h]
    have HRS := hid (hrb.trans hrs)
    clear hcr h ho hc hg ht hrs hrb
    go_enter Try.func10, Try.ntmps10
    go_wp2_with (first | (go_at_call 32; refine HIC.out.mono ?_; rintro e w1 ⟨rfl, b1⟩) | (go_at_call 27; refine (l1In_b _ _ _ _ _ HRS.out).mono ?_; rintro e w' ⟨rfl, rfl⟩))
    go_ret2
    exact ⟨none, 0, rfl, own_nil _ _, b1⟩
  obtain ⟨t, rfl⟩ : ∃ m : Nat, t = m := ⟨t.toNat, by omega⟩
  have G := (good_iff p).1 hg
  have hi := inB_iff.1 (hrb.trans hrs)
  have hok : rfOk p t i = good (rfL p t i) := by unfold rfOk; rw [hcr, hrs, Int.toNat_natCast]; rfl
  have hF : rfF p t i = if good (rfL p t i) = true then rfL p t i else [] := by
    unfold rfF; rw [hok, Int.toNat_natCast]
  rw [hok, hF]
  have HRS := hid (hrb.trans hrs)
  have HRF := hid fun W (h : Rd W A c p) => chReflect_anyR t i A c p W G (by omega) (by omega) h
  have HO := hid ho
  have h30 : (rfL p t i).length ≤ 1048576 := by
    have := rfK_le p t i
    have := G.len
    rw [show (rfL p t i).length = rfK p t i from fnRow_len _ _]; omega
  obtain ⟨R, hR⟩ : ∃ R, R = rfL p t i := ⟨_, rfl⟩
  rw [← hR] at HRF h30 ⊢
  obtain ⟨gw, hgw⟩ : ∃ gw, gw = grw p t i := ⟨_, rfl⟩
  rw [← hgw] at HRF
  clear hcr hrs hrb ho hc hg ht G hok hF hR hgw
  cases hgd : good R
  · have HGD := hid hgd
    clear hgd
    rw [if_neg (by decide)]
    go_enter Try.func10, Try.ntmps10
    go_wp2_with (first | (go_at_call 32; refine HIC.out.mono ?_; rintro e w1 ⟨rfl, b1⟩) | (go_at_call 27; refine (l1In_b _ _ _ _ _ HRS.out).mono ?_; rintro e w' ⟨rfl, rfl⟩) | (go_at_call 33; refine (HRF.out _ (HO.out.below b1)).mono ?_; rintro e w2 ⟨A2, c2, rfl, o2, b2⟩; have B2 := hid (Below.next b1 b2); have O2 := hid o2) | (go_at_call 34; refine (ptGood_b _ _ _ _ h30 O2.out.cells _ HGD.out).mono ?_; rintro e w' ⟨rfl, n, rfl⟩))
    go_ret2
    exact ⟨none, 0, rfl, own_nil _ _, below_drewN B2.out _⟩
  · have HGD := hid hgd
    clear hgd
    rw [if_pos rfl]
    go_enter Try.func10, Try.ntmps10
    go_wp2_with (first | (go_at_call 32; refine HIC.out.mono ?_; rintro e w1 ⟨rfl, b1⟩) | (go_at_call 27; refine (l1In_b _ _ _ _ _ HRS.out).mono ?_; rintro e w' ⟨rfl, rfl⟩) | (go_at_call 33; refine (HRF.out _ (HO.out.below b1)).mono ?_; rintro e w2 ⟨A2, c2, rfl, o2, b2⟩; have B2 := hid (Below.next b1 b2); have O2 := hid (o2.more b1.size)) | (go_at_call 34; refine (ptGood_b _ _ _ _ h30 O2.out.cells _ HGD.out).mono ?_; rintro e w' ⟨rfl, n, rfl⟩))
    go_ret2
    exact ⟨A2, c2, rfl, own_drewN' O2.out _, below_drewN B2.out _⟩
theorem spec_ReflectCore {B : Nat} (A : Option Addr) (c : Nat) (p : List Int) (t i : Int) (w : World) (hl : p.length ≤ 1048576) (ho : Own w B A c p) (_h64 : I64 t) (_h64i : I64 i) :
    Calls Try.prog 10 #[.slice A p.length c, .int .i64 t, .int .i64 i] w fun e w' => ∃ A' c', e = .returned (.tuple #[.slice A' (rfF p t i).length c', .bool (rfOk p t i)]) ∧ Own w' w.heap.size A' c' (rfF p t i) ∧ Below w.heap.size w w' :=
  spec_ReflectCoreR A c p t i w hl (own_rd ho) _h64 _h64i

end Go.Proofs.Ythkkiakfmbnfeaa
