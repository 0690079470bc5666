/-
  Several texts in one.
-/
import Derived.Test.YtijfefahogcfmaaGreatR26
import Derived.Test.YtijfefahogcfmaaGreatR22
import Derived.Deep.RegionHeld3
import Derived.Deep.CutRange
import Derived.Test.YtijfefahogcfmaaGreatR24
import Derived.Test.YtijfefahogcfmaaGreatR25
/-
  The model's list of all cores for two sizes: boAll.
-/
namespace Go.Proofs.YtijfefahogcfmaaGreat
open Go.RowKit

theorem ptSum_g (A : Option Addr) (xs : List Int) (c : Nat) (w : World) (h : good xs = true) (hc : Cells w A xs) :
    Calls Tryz.prog 48 #[.slice A xs.length c] w fun e w' => e = .returned (.int .i64 xs.sum) ∧ w = w' := by
  have G := (good_iff xs).1 h
  exact ptSum_any A xs c w G.len (parts_bd G) hc
theorem bsL_row (a b : Int) : ∀ (gs H : List Int), ∀ r ∈ bsL a b gs H, r.length ≤ H.length + gs.length
  | [], H => fun r hr => by rw [bsL, List.mem_singleton] at hr; subst hr; simp
  | x :: gs, H => fun r hr => by
    rw [bsL, List.mem_append] at hr
    rcases hr with hr | hr
    · have := bsL_row a b gs H r hr; simp; omega
    · split at hr
      · have := bsL_row a b gs (H ++ [x]) r hr; simp at this ⊢; omega
      · cases hr
theorem gaps9 {a b : Int} (hs : sz a b = true) : (gapsL a b).length ≤ 10 := sz_nat (p := fun a b => (gapsL a b).length ≤ 10) (by decide +kernel) hs
theorem aft_t1 {r p : List Int} (h : p.sum < r.sum) : aftB r p = true := by unfold aftB; rw [decide_eq_true h]; rfl
theorem aft_lt {r p : List Int} (h : r.sum < p.sum) : aftB r p = false := by unfold aftB; rw [decide_eq_false (by omega), decide_eq_false (by omega)]; rfl
theorem aft_eq {r p : List Int} (h : r.sum = p.sum) : aftB r p = befB p r := by unfold aftB; rw [decide_eq_false (by omega), decide_eq_true h]; rfl

set_option maxRecDepth 100000 in
set_option maxHeartbeats 4000000 in
theorem boAll_any (a b : Int) (w : World) (hs : sz a b = true) :
    Calls Tryz.prog 24 #[.int .i64 a, .int .i64 b] w fun e w' => ∃ A' c', e = .returned (.slice A' (boL a b).length c') ∧ Own2 w' w.heap.size w'.heap.size A' c' (boL a b) ∧ Below w.heap.size w w' := by
  obtain ⟨i1, hj, hy0, hy1, hy2⟩ := info_parts Tryz.infoInts
  obtain ⟨ha, hb, -⟩ := sz_iff.1 hs
  have HG := hid fun W => boGaps_any a b W hs
  have hgl := gaps9 hs
  have HGB := hid fun j (hj : j < (gapsL a b).length) => (show 1 ≤ (gapsL a b).getD j 0 ∧ (gapsL a b).getD j 0 ≤ 60 from by
    have hm : (gapsL a b).getD j 0 ∈ gapsL a b := by rw [List.getD_eq_getElem?_getD, List.getElem?_eq_getElem hj]; exact List.getElem_mem hj
    have h1 := mem_gapsL.1 hm
    have h2 := (ab49 ha hb).2
    omega)
  have HSE := hid fun Ag cg W (h : Cells W Ag (gapsL a b)) => boSets_any a b ha hb Ag cg (gapsL a b) hgl HGB.out (gapsL a b) 0 0 none 0 [] W rfl (Nat.zero_le _) (own_nil _ _) h (Nat.zero_le _)
  have hSL := Nat.le_trans (bsL_len a b (gapsL a b) []) (pow10 hgl)
  have HSR := hid fun r hr => (Nat.le_trans (bsL_row a b (gapsL a b) [] r hr) (by simp; exact hgl) : r.length ≤ 10)
  change Hid (∀ r ∈ boS a b, r.length ≤ 10) at HSR
  have HRES := hid (show boL a b = boK (boS a b) (boS a b).length from rfl)
  change (boS a b).length ≤ 1024 at hSL
  change Hid (∀ Ag cg W, Cells W Ag (gapsL a b) → Calls Tryz.prog 46 #[.slice none 0 0, .slice Ag (gapsL a b).length cg, .int .i64 0, .int .i64 a, .int .i64 b] W fun e w' => ∃ A' c', e = .returned (.slice A' (boS a b).length c') ∧ Own2 w' W.heap.size w'.heap.size A' c' (boS a b) ∧ Below W.heap.size W w') at HSE
  obtain ⟨RES, hRES⟩ : ∃ RES, RES = boL a b := ⟨_, rfl⟩
  obtain ⟨S, hS⟩ : ∃ S, S = boS a b := ⟨_, rfl⟩
  obtain ⟨G, hGG⟩ : ∃ G, G = gapsL a b := ⟨_, rfl⟩
  rw [← hRES] at HRES ⊢
  rw [← hS] at HRES HSE hSL
  rw [← hGG] at HSE HG
  have HKS := hid (boK_succ S)
  have HKL := hid (boK_len S)
  have HKG := hid (boK_good S)
  rw [← hS] at HSR
  have HSB : Hid (∀ m, m < S.length → (S.getD m []).length ≤ 1048576) := hid fun m hm => by
    have := HSR.out (S.getD m []) (by rw [List.getD_eq_getElem?_getD, List.getElem?_eq_getElem hm]; exact List.getElem_mem hm)
    omega
  clear hRES hS hGG hs HGB hgl
  go_enter Tryz.func24, Tryz.ntmps24
  go_wp2_with (first | (go_at_call 47; refine (HG.out _).mono ?_; rintro e w1 ⟨A1, c1, rfl, o1, b1⟩) | (go_at_call 46; refine (HSE.out _ _ _ o1.cells).mono ?_; rintro e wt ⟨At, ct, rfl, ot, bt⟩))
  have Bt := Below.next b1 bt
  have OT := hid ot
  have hst := Bt.size
  clear ot o1 b1 bt HG HSE
  go_loopw [5, 19] (fun v i wr => ∃ m : Nat, m ≤ S.length ∧ i = .int .i64 m ∧ (∃ P C, Push wr w.heap.size v (boK S m) P C) ∧ Below wt.heap.size wt wr) (fun _ i _ => S.length - (intOf i).toNat)
  case atStart => exact ⟨0, Nat.zero_le _, rfl, ⟨_, _, push_nil _ _⟩, Below.refl _ _⟩
  case round =>
    obtain ⟨m, hm, rfl, ⟨P, C, hpush⟩, hbel⟩ := hrel
    by_cases hlt : m < S.length
    · have HLM := hid (HKL.out m hm)
      have HL24 := hid (show (boK S m).length ≤ 1024 by rw [HLM.out]; omega)
      have HGD := hid (HKG.out m hm)
      have HK1 := hid (HKS.out m hlt)
      obtain ⟨Pt, Ct, hA1, hA2⟩ := (OT.out.below hbel).cells
      obtain ⟨b0, o, rfl, hcc⟩ := hA1 (by omega)
      have hck := hcc m hlt
      have HR0 := hid (hA2 m hlt)
      have hHl := HSB.out m hlt
      obtain ⟨H, hH⟩ : ∃ H, H = S.getD m [] := ⟨_, rfl⟩
      rw [← hH] at hck HR0 hHl HK1
      obtain ⟨Ar, hAr⟩ : ∃ Ar, Ar = Pt m := ⟨_, rfl⟩
      obtain ⟨Cr, hCr⟩ : ∃ Cr, Cr = Ct m := ⟨_, rfl⟩
      rw [← hAr, ← hCr] at hck
      rw [← hAr] at HR0
      have HBF := hid (boFrom_any Ar Cr H wr hHl HR0.out)
      have HGP := hid (ffF_good H)
      obtain ⟨p, hp⟩ : ∃ p, p = ffF H := ⟨_, rfl⟩
      obtain ⟨ok, hok⟩ : ∃ ok, ok = ffOk H := ⟨_, rfl⟩
      rw [← hp] at HBF HGP HK1
      rw [← hok] at HBF
      obtain ⟨rows, hrows⟩ : ∃ rows, rows = boK S m := ⟨_, rfl⟩
      rw [← hrows] at hpush HLM HL24 HGD HK1
      have hr24 : rows.length ≤ 1024 := HL24.out
      have hpp := hpush
      obtain ⟨A, c, rfl, -⟩ := hpp.own2
      obtain ⟨-, hc1, hc2, hc3⟩ := push_cells hpush
      have HC2 := hid hc2
      have HC3 := hid hc3
      have HP := hid hpush
      have hbs := hbel.size
      clear hcc hA1 hA2 hH hAr hCr hp hok hrows hpush hpp hc2 hc3
      go_wp2_with (go_at_call 33; refine HBF.out.mono ?_; rintro e w1 ⟨Ap, cp, rfl, op, b1⟩)
      have OP := hid op
      have B1 := hid b1
      have HP1 := hid (HP.out.below b1)
      have hs1 := b1.size
      clear op b1 HBF
      go_loopw [10] (fun u wq => ∃ k : Nat, k ≤ rows.length ∧ u = .int .i64 k ∧ Hid (kIns rows p rows.length = kIns rows p k) ∧ ∃ n, wq = w1.drewN n) (fun u _ => (intOf u).toNat)
      case atStart => exact ⟨rows.length, Nat.le_refl _, rfl, hid rfl, 0, rfl⟩
      case round =>
        obtain ⟨k, hk, rfl, HE, n, rfl⟩ := hrel
        by_cases hk0 : 0 < k
        · have HKU : Hid (kIns rows p k = if aftB (rows.getD (k - 1) []) p = true then kIns rows p (k - 1) else k) := hid (by
            obtain ⟨q, rfl⟩ : ∃ q, k = q + 1 := ⟨k - 1, by omega⟩
            rfl)
          have hAg : ∃ g, A = some ⟨g, 0, none⟩ := by
            rcases HP.out.out.2 with ⟨_, h0⟩ | ⟨g, cap, cur, hv, _⟩
            · omega
            · exact ⟨g, by injection hv⟩
          obtain ⟨g, rfl⟩ := hAg
          have hk1 : k - 1 < rows.length := by omega
          have hcr := HC3.out _ rfl (k - 1) _ (RL_get P C rows (k - 1) hk1)
          rw [addr_add0] at hcr
          have hcr2 : (w1.drewN n).cell? ⟨g, k - 1, none⟩ = some (.slice (P (k - 1)) (rows.getD (k - 1) []).length (C (k - 1))) := (B1.out.cell (World.block_lt_of_cell? _ _ hcr)).trans hcr
          have HRC := hid (show Cells (w1.drewN n) (P (k - 1)) (rows.getD (k - 1) []) from (HP1.out.row (k - 1) hk1).cells)
          have HPC := hid (show Cells (w1.drewN n) Ap p from OP.out.cells)
          have HRG := hid (HGD.out (rows.getD (k - 1) []) (by rw [List.getD_eq_getElem?_getD, List.getElem?_eq_getElem hk1]; exact List.getElem_mem hk1))
          obtain ⟨row, hrow⟩ : ∃ row, row = rows.getD (k - 1) [] := ⟨_, rfl⟩
          obtain ⟨Ak, hAk⟩ : ∃ Ak, Ak = P (k - 1) := ⟨_, rfl⟩
          obtain ⟨Ck, hCk⟩ : ∃ Ck, Ck = C (k - 1) := ⟨_, rfl⟩
          rw [← hrow, ← hAk, ← hCk] at hcr2
          rw [← hrow] at HRC HRG HKU
          rw [← hAk] at HRC
          have hek : ((k : Int) - 1).toNat = k - 1 := by omega
          have HBE := hid (chBefore_any Ap Ak cp Ck p row (w1.drewN n) (by have := ((good_iff p).1 HGP.out).len; omega) (by have := ((good_iff row).1 HRG.out).len; omega) HPC.out HRC.out)
          have HA1 := hid (aft_t1 (r := row) (p := p)); have HA2 := hid (aft_lt (r := row) (p := p)); have HA3 := hid (aft_eq (r := row) (p := p))
          have hsb1 := ((good_iff row).1 HRG.out).sum
          have hsb2 := ((good_iff p).1 HGP.out).sum
          obtain ⟨s1, hs1e⟩ : ∃ s1, s1 = row.sum := ⟨_, rfl⟩
          obtain ⟨s2, hs2e⟩ : ∃ s2, s2 = p.sum := ⟨_, rfl⟩
          have HS1 := hid hs1e; have HS2 := hid hs2e
          clear hcr hrow hAk hCk hs1e hs2e
          rcases Int.lt_trichotomy s2 s1 with hlt3 | heq3 | hgt3
          · have HAF := hid (show kIns rows p k = kIns rows p (k - 1) by rw [HKU.out, if_pos (HA1.out (by rw [← HS1.out, ← HS2.out]; exact hlt3))])
            rw [HS1.out, HS2.out] at hlt3
            go_wp2_with fail
            refine (ptSum_g _ _ _ _ HRG.out HRC.out).mono ?_
            rintro e w' ⟨rfl, rfl⟩
            go_wp2_with fail
            refine (ptSum_g _ _ _ _ HGP.out HPC.out).mono ?_
            rintro e w' ⟨rfl, rfl⟩
            go_wp2_with fail
            go_roundw
            case rel => exact ⟨k - 1, by omega, by congr 1; omega, hid (by rw [HE.out, HAF.out]), n, rfl⟩
            case measure => show ((k : Int) - 1).toNat < (k : Int).toNat; omega
          · have HA4 := hid (HA3.out (by rw [← HS1.out, ← HS2.out]; exact heq3.symm))
            rw [HS1.out, HS2.out] at heq3
            have hng : ¬ p.sum < row.sum := by omega
            have HEQ := hid heq3
            have heb : (row.sum == p.sum) = true := beq_iff_eq.2 heq3.symm
            cases hbb : befB p row
            · have HKF := hid (show kIns rows p k = k by rw [HKU.out, HA4.out, hbb]; rfl)
              rw [hbb] at HBE
              clear hbb heq3
              go_wp2_with fail
              refine (ptSum_g _ _ _ _ HRG.out HRC.out).mono ?_
              rintro e w' ⟨rfl, rfl⟩
              go_wp2_with fail
              refine (ptSum_g _ _ _ _ HGP.out HPC.out).mono ?_
              rintro e w' ⟨rfl, rfl⟩
              go_wp2_with fail
              refine (ptSum_g _ _ _ _ HRG.out HRC.out).mono ?_
              rintro e w' ⟨rfl, rfl⟩
              go_wp2_with fail
              refine (ptSum_g _ _ _ _ HGP.out HPC.out).mono ?_
              rintro e w' ⟨rfl, rfl⟩
              go_wp2_with fail
              refine HBE.out.mono ?_
              rintro e w' ⟨rfl, n2, rfl⟩
              rw [World.drewN_drewN]
              obtain ⟨n3, hn3⟩ : ∃ q, q = n + n2 := ⟨_, rfl⟩
              rw [← hn3]
              clear hn3
              have HKI := hid (show kIns rows p rows.length = k from by rw [HE.out]; exact HKF.out)
              have B1n : Below wr.heap.size wr (w1.drewN n3) := below_drewN B1.out n3
              have hs1n := B1n.size
              have hm0 := World.ownsRow_made (base := (w1.drewN n3).heap.size) (e := 22) (size := 1) (w1.drewN n3) #[] 0 (Nat.le_refl _) (by unfold maxLen; omega) rfl
              have hb0 : Below (w1.drewN n3).heap.size (w1.drewN n3) ((w1.drewN n3).alloc (.cells #[] 22)) := (Below.refl _ _).alloc (Nat.le_refl _) _
              have hcut1 := fun W => run_cut_hi (some ⟨g, 0, none⟩) rows.length c k (by omega) W
              have hcut2 := fun W => run_cut_lo (some ⟨g, 0, none⟩) rows.length c k hk W
              have HT1 := hid (cut_take HC3.out (Below.next B1n hb0) k)
              have HRL := hid (RL_len P C rows)
              have hlk : ((RL P C rows).take k).length = k * 1 := by rw [List.length_take, HRL.out]; omega
              go_wp2_with (at_builtin; refine wpList_append_opt _ rfl _ _ 43 rfl (w1.drewN n3).heap.size 22 i1 (.slice none 0 0) 1 24 Tryz.underlying43 hj hy0 hy1 hy2 rfl (by decide) _ 0 [] rfl hm0 (some ⟨g, 0, none⟩) k c ((RL P C rows).take k) rfl hlk (fun e => by have := HC2.out e; omega) HT1.out (fun u hu => RL_one P C rows u (List.mem_of_mem_take hu)) (by unfold maxLen; omega) (by omega) (by simp) ?_)
              intro v2 w2 ho2 hg2
              have hb2 : Below (w1.drewN n3).heap.size (w1.drewN n3) w2 := hb0.grown hg2 (by simp) (fun q hq => (hm0.lt q hq).1)
              have HO2 := hid ho2
              have HB2 := hid hb2
              have hs2 := hb2.size
              clear ho2 hg2 hb0 hm0 hlk HT1
              go_upto_region 10 with fail
              have own2d : (w2.drew).ownsRow w1.heap.size 22 1 v2 (0 + k) ([] ++ (RL P C rows).take k) := by rw [Nat.zero_add, List.nil_append]; exact HO2.out
              have HOD := hid own2d
              have B2d : Below w1.heap.size w1 w2.drew := below_drewN (show Below w1.heap.size w1 w2 from ⟨HB2.out.os, HB2.out.tape, HB2.out.output, HB2.out.size, HB2.out.block⟩) 1
              have hs2d := B2d.size
              have hs2e : w1.heap.size ≤ w2.heap.size := hs2d
              have HT2 := hid fun W (h : Below w1.heap.size w1 W) => cut_drop HC3.out (Below.next B1.out h) k (by rw [HRL.out]; exact hc1)
              have hld : ((RL P C rows).drop k).length = (rows.length - k) * 1 := by rw [List.length_drop, HRL.out]; omega
              have HLD := hid hld
              clear own2d hld
              go_region_law (first | (refine step_append_opt _ rfl (.tmp 70) (.tmp 72) 43 rfl w1.heap.size 22 i1 (.slice none 0 0) 1 24 Tryz.underlying43 hj hy0 hy1 hy2 rfl (by decide) v2 (0 + k) ([] ++ (RL P C rows).take k) (by simp [Act.eval]) (HOD.out.alloc _) (some ⟨w2.drew.heap.size, 0, none⟩) 1 1 [.slice Ap p.length cp] (by simp [Act.eval]) rfl (fun e => by cases e) (fun ad e => by cases e; exact one_at) (one_cellS _ _ _) (by unfold maxLen; omega) (by omega) (by simp; omega) ?_; intro v3 w3 ho3 hg3; have hb3 : Below w1.heap.size w1 w3 := (B2d.alloc B2d.size _).grown hg3 (by simp; omega) (fun q hq => (HOD.out.lt q hq).1); have HB3 := hid hb3; have hs3 := hb3.size; have HO3 := hid ho3; clear ho3 hg3 hb3) | (refine step_append_opt _ rfl (.tmp 73) (.tmp 76) 43 rfl w1.heap.size 22 i1 (.slice none 0 0) 1 24 Tryz.underlying43 hj hy0 hy1 hy2 rfl (by decide) v3 (0 + k + 1) (([] ++ (RL P C rows).take k) ++ [.slice Ap p.length cp]) (by simp [Act.eval]) HO3.out (cutA (some ⟨g, 0, none⟩) c k) (rows.length - k) (c - k) ((RL P C rows).drop k) (by simp [Act.eval]) HLD.out (fun e => by have := HC2.out (cutA_nn e); omega) (HT2.out _ HB3.out) (fun u hu => RL_one P C rows u (List.mem_of_mem_drop hu)) (by unfold maxLen; omega) (by omega) (by omega) ?_; intro v4 w4 ho4 hg4; have hb4 : Below w1.heap.size w1 w4 := HB3.out.grown hg4 (by omega) (fun q hq => (HO3.out.lt q hq).1); have HB4 := hid hb4; have HO4 := hid ho4; clear ho4 hg4 hb4))
              have hp4 : Push w4 w.heap.size v4 (insR rows k p) (insAt P k Ap) (insAt C k cp) := by
                refine HP.out.ins B1.out OP.out (by omega) hk HB4.out ?_
                have ho5 := HO4.out
                have el : 0 + k + 1 + (rows.length - k) = rows.length + 1 := by omega
                rw [List.nil_append, el] at ho5
                exact ownsRow_moreA ho5 (by omega)
              have hins : insR rows k p = boK S (m + 1) := by rw [HK1.out, insP, HKI.out]
              rw [hins] at hp4
              have HP4 := hid hp4
              have HBL := hid (show Below wt.heap.size wt w4 from Below.next hbel (Below.next B1.out HB4.out))
              clear hp4 hins
              go_wp2_with fail
              go_roundw
              case rel => exact ⟨m + 1, by omega, by go_num, ⟨_, _, HP4.out⟩, HBL.out⟩
              case measure => simp [intOf]; omega
            · have HAF := hid (show kIns rows p k = kIns rows p (k - 1) by rw [HKU.out, HA4.out, hbb]; rfl)
              rw [hbb] at HBE
              clear hbb heq3
              go_wp2_with fail
              refine (ptSum_g _ _ _ _ HRG.out HRC.out).mono ?_
              rintro e w' ⟨rfl, rfl⟩
              go_wp2_with fail
              refine (ptSum_g _ _ _ _ HGP.out HPC.out).mono ?_
              rintro e w' ⟨rfl, rfl⟩
              go_wp2_with fail
              refine (ptSum_g _ _ _ _ HRG.out HRC.out).mono ?_
              rintro e w' ⟨rfl, rfl⟩
              go_wp2_with fail
              refine (ptSum_g _ _ _ _ HGP.out HPC.out).mono ?_
              rintro e w' ⟨rfl, rfl⟩
              go_wp2_with fail
              refine HBE.out.mono ?_
              rintro e w' ⟨rfl, n2, rfl⟩
              rw [World.drewN_drewN]
              obtain ⟨n3, hn3⟩ : ∃ q, q = n + n2 := ⟨_, rfl⟩
              rw [← hn3]
              clear hn3
              go_wp2_with fail
              go_roundw
              case rel => exact ⟨k - 1, by omega, by congr 1; omega, hid (by rw [HE.out, HAF.out]), n3, rfl⟩
              case measure => show ((k : Int) - 1).toNat < (k : Int).toNat; omega
          · have HKF := hid (show kIns rows p k = k by rw [HKU.out, HA2.out (by rw [← HS1.out, ← HS2.out]; exact hgt3)]; rfl)
            rw [HS1.out, HS2.out] at hgt3
            have hng : ¬ p.sum < row.sum := by omega
            have heb : (row.sum == p.sum) = false := beq_eq_false_iff_ne.2 (by omega)
            have heb2 : ¬ row.sum = p.sum := by omega
            go_wp2_with fail
            refine (ptSum_g _ _ _ _ HRG.out HRC.out).mono ?_
            rintro e w' ⟨rfl, rfl⟩
            go_wp2_with fail
            refine (ptSum_g _ _ _ _ HGP.out HPC.out).mono ?_
            rintro e w' ⟨rfl, rfl⟩
            go_wp2_with fail
            refine (ptSum_g _ _ _ _ HRG.out HRC.out).mono ?_
            rintro e w' ⟨rfl, rfl⟩
            go_wp2_with fail
            refine (ptSum_g _ _ _ _ HGP.out HPC.out).mono ?_
            rintro e w' ⟨rfl, rfl⟩
            have HKI := hid (show kIns rows p rows.length = k from by rw [HE.out]; exact HKF.out)
            have B1n : Below wr.heap.size wr (w1.drewN n) := below_drewN B1.out n
            have hs1n := B1n.size
            have hm0 := World.ownsRow_made (base := (w1.drewN n).heap.size) (e := 22) (size := 1) (w1.drewN n) #[] 0 (Nat.le_refl _) (by unfold maxLen; omega) rfl
            have hb0 : Below (w1.drewN n).heap.size (w1.drewN n) ((w1.drewN n).alloc (.cells #[] 22)) := (Below.refl _ _).alloc (Nat.le_refl _) _
            have hcut1 := fun W => run_cut_hi (some ⟨g, 0, none⟩) rows.length c k (by omega) W
            have hcut2 := fun W => run_cut_lo (some ⟨g, 0, none⟩) rows.length c k hk W
            have HT1 := hid (cut_take HC3.out (Below.next B1n hb0) k)
            have HRL := hid (RL_len P C rows)
            have hlk : ((RL P C rows).take k).length = k * 1 := by rw [List.length_take, HRL.out]; omega
            go_wp2_with (at_builtin; refine wpList_append_opt _ rfl _ _ 43 rfl (w1.drewN n).heap.size 22 i1 (.slice none 0 0) 1 24 Tryz.underlying43 hj hy0 hy1 hy2 rfl (by decide) _ 0 [] rfl hm0 (some ⟨g, 0, none⟩) k c ((RL P C rows).take k) rfl hlk (fun e => by have := HC2.out e; omega) HT1.out (fun u hu => RL_one P C rows u (List.mem_of_mem_take hu)) (by unfold maxLen; omega) (by omega) (by simp) ?_)
            intro v2 w2 ho2 hg2
            have hb2 : Below (w1.drewN n).heap.size (w1.drewN n) w2 := hb0.grown hg2 (by simp) (fun q hq => (hm0.lt q hq).1)
            have HO2 := hid ho2
            have HB2 := hid hb2
            have hs2 := hb2.size
            clear ho2 hg2 hb0 hm0 hlk HT1
            go_upto_region 10 with fail
            have own2d : (w2.drew).ownsRow w1.heap.size 22 1 v2 (0 + k) ([] ++ (RL P C rows).take k) := by rw [Nat.zero_add, List.nil_append]; exact HO2.out
            have HOD := hid own2d
            have B2d : Below w1.heap.size w1 w2.drew := below_drewN (show Below w1.heap.size w1 w2 from ⟨HB2.out.os, HB2.out.tape, HB2.out.output, HB2.out.size, HB2.out.block⟩) 1
            have hs2d := B2d.size
            have hs2e : w1.heap.size ≤ w2.heap.size := hs2d
            have HT2 := hid fun W (h : Below w1.heap.size w1 W) => cut_drop HC3.out (Below.next B1.out h) k (by rw [HRL.out]; exact hc1)
            have hld : ((RL P C rows).drop k).length = (rows.length - k) * 1 := by rw [List.length_drop, HRL.out]; omega
            have HLD := hid hld
            clear own2d hld
            go_region_law (first | (refine step_append_opt _ rfl (.tmp 70) (.tmp 72) 43 rfl w1.heap.size 22 i1 (.slice none 0 0) 1 24 Tryz.underlying43 hj hy0 hy1 hy2 rfl (by decide) v2 (0 + k) ([] ++ (RL P C rows).take k) (by simp [Act.eval]) (HOD.out.alloc _) (some ⟨w2.drew.heap.size, 0, none⟩) 1 1 [.slice Ap p.length cp] (by simp [Act.eval]) rfl (fun e => by cases e) (fun ad e => by cases e; exact one_at) (one_cellS _ _ _) (by unfold maxLen; omega) (by omega) (by simp; omega) ?_; intro v3 w3 ho3 hg3; have hb3 : Below w1.heap.size w1 w3 := (B2d.alloc B2d.size _).grown hg3 (by simp; omega) (fun q hq => (HOD.out.lt q hq).1); have HB3 := hid hb3; have hs3 := hb3.size; have HO3 := hid ho3; clear ho3 hg3 hb3) | (refine step_append_opt _ rfl (.tmp 73) (.tmp 76) 43 rfl w1.heap.size 22 i1 (.slice none 0 0) 1 24 Tryz.underlying43 hj hy0 hy1 hy2 rfl (by decide) v3 (0 + k + 1) (([] ++ (RL P C rows).take k) ++ [.slice Ap p.length cp]) (by simp [Act.eval]) HO3.out (cutA (some ⟨g, 0, none⟩) c k) (rows.length - k) (c - k) ((RL P C rows).drop k) (by simp [Act.eval]) HLD.out (fun e => by have := HC2.out (cutA_nn e); omega) (HT2.out _ HB3.out) (fun u hu => RL_one P C rows u (List.mem_of_mem_drop hu)) (by unfold maxLen; omega) (by omega) (by omega) ?_; intro v4 w4 ho4 hg4; have hb4 : Below w1.heap.size w1 w4 := HB3.out.grown hg4 (by omega) (fun q hq => (HO3.out.lt q hq).1); have HB4 := hid hb4; have HO4 := hid ho4; clear ho4 hg4 hb4))
            have hp4 : Push w4 w.heap.size v4 (insR rows k p) (insAt P k Ap) (insAt C k cp) := by
              refine HP.out.ins B1.out OP.out (by omega) hk HB4.out ?_
              have ho5 := HO4.out
              have el : 0 + k + 1 + (rows.length - k) = rows.length + 1 := by omega
              rw [List.nil_append, el] at ho5
              exact ownsRow_moreA ho5 (by omega)
            have hins : insR rows k p = boK S (m + 1) := by rw [HK1.out, insP, HKI.out]
            rw [hins] at hp4
            have HP4 := hid hp4
            have HBL := hid (show Below wt.heap.size wt w4 from Below.next hbel (Below.next B1.out HB4.out))
            clear hp4 hins
            go_wp2_with fail
            go_roundw
            case rel => exact ⟨m + 1, by omega, by go_num, ⟨_, _, HP4.out⟩, HBL.out⟩
            case measure => simp [intOf]; omega
        · have HKZ := hid (show k = 0 by omega)
          have hkle : (k : Int) ≤ 0 := by omega
          clear hk0
          have HKI := hid (show kIns rows p rows.length = k from by rw [HE.out, HKZ.out]; rfl)
          have B1n : Below wr.heap.size wr (w1.drewN n) := below_drewN B1.out n
          have hs1n := B1n.size
          have hm0 := World.ownsRow_made (base := (w1.drewN n).heap.size) (e := 22) (size := 1) (w1.drewN n) #[] 0 (Nat.le_refl _) (by unfold maxLen; omega) rfl
          have hb0 : Below (w1.drewN n).heap.size (w1.drewN n) ((w1.drewN n).alloc (.cells #[] 22)) := (Below.refl _ _).alloc (Nat.le_refl _) _
          have hcut1 := fun W => run_cut_hi A rows.length c k (by omega) W
          have hcut2 := fun W => run_cut_lo A rows.length c k hk W
          have HT1 := hid (cut_take HC3.out (Below.next B1n hb0) k)
          have HRL := hid (RL_len P C rows)
          have hlk : ((RL P C rows).take k).length = k * 1 := by rw [List.length_take, HRL.out]; omega
          go_wp2_with (at_builtin; refine wpList_append_opt _ rfl _ _ 43 rfl (w1.drewN n).heap.size 22 i1 (.slice none 0 0) 1 24 Tryz.underlying43 hj hy0 hy1 hy2 rfl (by decide) _ 0 [] rfl hm0 A k c ((RL P C rows).take k) rfl hlk (fun e => by have := HC2.out e; omega) HT1.out (fun u hu => RL_one P C rows u (List.mem_of_mem_take hu)) (by unfold maxLen; omega) (by omega) (by simp) ?_)
          intro v2 w2 ho2 hg2
          have hb2 : Below (w1.drewN n).heap.size (w1.drewN n) w2 := hb0.grown hg2 (by simp) (fun q hq => (hm0.lt q hq).1)
          have HO2 := hid ho2
          have HB2 := hid hb2
          have hs2 := hb2.size
          clear ho2 hg2 hb0 hm0 hlk HT1
          go_upto_region 10 with fail
          have own2d : (w2.drew).ownsRow w1.heap.size 22 1 v2 (0 + k) ([] ++ (RL P C rows).take k) := by rw [Nat.zero_add, List.nil_append]; exact HO2.out
          have HOD := hid own2d
          have B2d : Below w1.heap.size w1 w2.drew := below_drewN (show Below w1.heap.size w1 w2 from ⟨HB2.out.os, HB2.out.tape, HB2.out.output, HB2.out.size, HB2.out.block⟩) 1
          have hs2d := B2d.size
          have hs2e : w1.heap.size ≤ w2.heap.size := hs2d
          have HT2 := hid fun W (h : Below w1.heap.size w1 W) => cut_drop HC3.out (Below.next B1.out h) k (by rw [HRL.out]; exact hc1)
          have hld : ((RL P C rows).drop k).length = (rows.length - k) * 1 := by rw [List.length_drop, HRL.out]; omega
          have HLD := hid hld
          clear own2d hld
          go_region_law (first | (refine step_append_opt _ rfl (.tmp 70) (.tmp 72) 43 rfl w1.heap.size 22 i1 (.slice none 0 0) 1 24 Tryz.underlying43 hj hy0 hy1 hy2 rfl (by decide) v2 (0 + k) ([] ++ (RL P C rows).take k) (by simp [Act.eval]) (HOD.out.alloc _) (some ⟨w2.drew.heap.size, 0, none⟩) 1 1 [.slice Ap p.length cp] (by simp [Act.eval]) rfl (fun e => by cases e) (fun ad e => by cases e; exact one_at) (one_cellS _ _ _) (by unfold maxLen; omega) (by omega) (by simp; omega) ?_; intro v3 w3 ho3 hg3; have hb3 : Below w1.heap.size w1 w3 := (B2d.alloc B2d.size _).grown hg3 (by simp; omega) (fun q hq => (HOD.out.lt q hq).1); have HB3 := hid hb3; have hs3 := hb3.size; have HO3 := hid ho3; clear ho3 hg3 hb3) | (refine step_append_opt _ rfl (.tmp 73) (.tmp 76) 43 rfl w1.heap.size 22 i1 (.slice none 0 0) 1 24 Tryz.underlying43 hj hy0 hy1 hy2 rfl (by decide) v3 (0 + k + 1) (([] ++ (RL P C rows).take k) ++ [.slice Ap p.length cp]) (by simp [Act.eval]) HO3.out (cutA A c k) (rows.length - k) (c - k) ((RL P C rows).drop k) (by simp [Act.eval]) HLD.out (fun e => by have := HC2.out (cutA_nn e); omega) (HT2.out _ HB3.out) (fun u hu => RL_one P C rows u (List.mem_of_mem_drop hu)) (by unfold maxLen; omega) (by omega) (by omega) ?_; intro v4 w4 ho4 hg4; have hb4 : Below w1.heap.size w1 w4 := HB3.out.grown hg4 (by omega) (fun q hq => (HO3.out.lt q hq).1); have HB4 := hid hb4; have HO4 := hid ho4; clear ho4 hg4 hb4))
          have hp4 : Push w4 w.heap.size v4 (insR rows k p) (insAt P k Ap) (insAt C k cp) := by
            refine HP.out.ins B1.out OP.out (by omega) hk HB4.out ?_
            have ho5 := HO4.out
            have el : 0 + k + 1 + (rows.length - k) = rows.length + 1 := by omega
            rw [List.nil_append, el] at ho5
            exact ownsRow_moreA ho5 (by omega)
          have hins : insR rows k p = boK S (m + 1) := by rw [HK1.out, insP, HKI.out]
          rw [hins] at hp4
          have HP4 := hid hp4
          have HBL := hid (show Below wt.heap.size wt w4 from Below.next hbel (Below.next B1.out HB4.out))
          clear hp4 hins
          go_wp2_with fail
          go_roundw
          case rel => exact ⟨m + 1, by omega, by go_num, ⟨_, _, HP4.out⟩, HBL.out⟩
          case measure => simp [intOf]; omega
    · have hml : m = S.length := by omega
      subst hml
      obtain ⟨A', c', rfl, ho⟩ := hpush.own2
      have HO := hid ho
      have hll : (boK S S.length) = RES := HRES.out.symm
      rw [hll] at HO ⊢
      clear ho hll
      go_wp2_with fail
      go_ret
      exact ⟨A', c', rfl, HO.out, Below.next Bt hbel⟩
end Go.Proofs.YtijfefahogcfmaaGreat
/-
  The order of cores: a strict weak order; the cores found are the model's, by a finite table.
-/
namespace Go.Proofs.YtijfefahogcfmaaGreat
open Go.RowKit Go.Shelf Go.Sort

theorem fcf_iff {p q : List Int} : fcf p q < 0 ↔ p.sum < q.sum ∨ (p.sum = q.sum ∧ cmpL q p < 0) := by
  unfold fcf orI cmpI
  by_cases h1 : p.sum < q.sum
  · rw [if_pos h1]; simp [h1]
  · by_cases h2 : q.sum < p.sum
    · rw [if_neg h1, if_pos h2]; simp; omega
    · rw [if_neg h1, if_neg h2]; simp; omega
theorem fcf_total {p q : List Int} (h1 : ¬ fcf p q < 0) (h2 : ¬ fcf q p < 0) : p = q := by
  rw [fcf_iff] at h1 h2
  have h3 := cmpL_anti p q
  have hs : p.sum = q.sum := by omega
  refine cmpL_zero p q ?_
  have a1 : ¬ cmpL q p < 0 := fun h => h1 (.inr ⟨hs, h⟩)
  have a2 : ¬ cmpL p q < 0 := fun h => h2 (.inr ⟨hs.symm, h⟩)
  omega
theorem fcf_irrefl (p : List Int) : ¬ fcf p p < 0 := by
  rw [fcf_iff, cmpL_refl]; omega
theorem fcf_trans {p q r : List Int} (h1 : fcf p q < 0) (h2 : fcf q r < 0) : fcf p r < 0 := by
  rw [fcf_iff] at *
  rcases h1 with h1 | ⟨h1, c1⟩
  · rcases h2 with h2 | ⟨h2, -⟩
    · left; omega
    · left; omega
  · rcases h2 with h2 | ⟨h2, c2⟩
    · left; omega
    · exact .inr ⟨by omega, cmpL_trans r q p c2 c1⟩
theorem fcf_swo : SWO (ltOf fcf) where
  irrefl p := by simp only [ltOf, decide_eq_false_iff_not]; exact fcf_irrefl p
  trans p q r h1 h2 := by
    simp only [ltOf, decide_eq_true_eq] at *
    exact fcf_trans h1 h2
  ntrans p q r h1 h2 := by
    simp only [ltOf, decide_eq_false_iff_not] at *
    intro h
    by_cases e1 : fcf q p < 0
    · by_cases e2 : fcf r q < 0
      · exact fcf_irrefl p (fcf_trans h (fcf_trans e2 e1))
      · rw [fcf_total h2 e2] at e1
        exact fcf_irrefl p (fcf_trans h e1)
    · rw [fcf_total h1 e1] at h
      exact h2 h

/-- Rows without order two ways, that are permutations of each other, are the same. -/
theorem rows_eq : ∀ {L M : List (List Int)}, L.Perm M → L.Pairwise (fun x y => ¬ fcf y x < 0) → M.Pairwise (fun x y => ¬ fcf y x < 0) → L = M
  | [], M, h, _, _ => by rw [List.nil_perm.1 h]
  | x :: L, [], h, _, _ => by have := h.length_eq; simp at this
  | x :: L, y :: M, h, h1, h2 => by
    have hxm : x ∈ y :: M := h.mem_iff.1 (List.mem_cons_self ..)
    have hym : y ∈ x :: L := h.mem_iff.2 (List.mem_cons_self ..)
    have e : x = y := by
      rcases List.mem_cons.1 hxm with e | hx
      · exact e
      · rcases List.mem_cons.1 hym with e | hy
        · exact e.symm
        · exact fcf_total (List.rel_of_pairwise_cons h2 hx) (List.rel_of_pairwise_cons h1 hy)
    subst e
    rw [rows_eq (List.Perm.cons_inv h) h1.of_cons h2.of_cons]
theorem pairs_of {L : List (List Int)} (h : ∀ i j, i < j → j < L.length → ltOf fcf (L.getD j []) (L.getD i []) = false) : L.Pairwise (fun x y => ¬ fcf y x < 0) := by
  rw [List.pairwise_iff_getElem]
  intro i j hi hj hij
  have := h i j hij hj
  rw [List.getD_eq_getElem?_getD, List.getElem?_eq_getElem hj, List.getD_eq_getElem?_getD, List.getElem?_eq_getElem hi] at this
  simp only [ltOf, decide_eq_false_iff_not] at this
  exact this

def pwB : List (List Int) → Bool
  | [] => true
  | x :: r => r.all (fun y => !decide (fcf y x < 0)) && pwB r
theorem pwB_pair : ∀ L : List (List Int), pwB L = true → L.Pairwise (fun x y => ¬ fcf y x < 0)
  | [], _ => List.Pairwise.nil
  | x :: r, h => by
    rw [pwB, Bool.and_eq_true, List.all_eq_true] at h
    exact List.Pairwise.cons (fun y hy => by have := h.1 y hy; simpa using this) (pwB_pair r h.2)
def coP (a b : Int) : List (List Int) := (coL a b).map partsL
def abChk (a b : Int) : Bool := (((coP a b).isPerm (boL a b) && pwB (boL a b)) && ((coP a b).all good && decide ((coP a b).length ≤ 100 ∧ 0 < (coP a b).length))) && (coL a b).all fun H => decide (H.length ≤ 20) && H.all (inB 0 1000)
theorem abChk_t {a b : Int} (hs : sz a b = true) : abChk a b = true := sz_nat (p := fun a b => abChk a b = true) (by decide +kernel) hs
theorem ab_parts {a b : Int} (hs : sz a b = true) : ((coP a b).Perm (boL a b) ∧ (boL a b).Pairwise (fun x y => ¬ fcf y x < 0)) ∧ ((∀ r ∈ coP a b, good r = true) ∧ (coP a b).length ≤ 100 ∧ 0 < (coP a b).length) ∧ ∀ m, m < (coL a b).length → ((coL a b).getD m []).length ≤ 20 ∧ ∀ j, j < ((coL a b).getD m []).length → 0 ≤ ((coL a b).getD m []).getD j 0 ∧ ((coL a b).getD m []).getD j 0 ≤ 1000 := by
  have h := abChk_t hs
  simp only [abChk, Bool.and_eq_true, decide_eq_true_eq, List.all_eq_true] at h
  obtain ⟨⟨⟨h1, h2⟩, h3, h4⟩, h5⟩ := h
  refine ⟨⟨List.isPerm_iff.1 h1, pwB_pair _ h2⟩, ⟨h3, h4⟩, fun m hm => ?_⟩
  have h6 := h5 ((coL a b).getD m []) (by rw [List.getD_eq_getElem?_getD, List.getElem?_eq_getElem hm]; exact List.getElem_mem hm)
  obtain ⟨R, hR⟩ : ∃ R, R = (coL a b).getD m [] := ⟨_, rfl⟩
  rw [← hR] at h6 ⊢
  refine ⟨h6.1, fun j hj => inB_iff.1 (h6.2 _ ?_)⟩
  rw [List.getD_eq_getElem?_getD, List.getElem?_eq_getElem hj]; exact List.getElem_mem hj
end Go.Proofs.YtijfefahogcfmaaGreat
