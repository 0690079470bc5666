/-
  Contracts: RegularOf of the model and the whole of the program's.
-/
import Derived.Test.YthbkonpclflkhaaLadR
import Derived.Test.YthbkonpclflkhaaLvlS
import Derived.Test.YthbkonpclflkhaaAddable
namespace Go.Proofs.Ythbkonpclflkhaa
open Go.RowKit

theorem lRow_zero (xs : List Int) (s : Nat) : lRow xs s 0 = [] := rfl
theorem lRow_succ (xs : List Int) (s n : Nat) : lRow xs s (n + 1) = lRow xs s n ++ [(lF xs s n : Int)] := by
  unfold lRow fnRow; rw [List.range_succ, List.map_append]; rfl
theorem mul_room {s n p L : Nat} (h : L = (s + 1) * (n + p + 1)) : n + s * p < L := by
  rw [h, Nat.add_mul, Nat.one_mul, Nat.mul_add, Nat.mul_add]; omega
theorem steps_le {s a j d l : Nat} (hs : 1 ≤ s) (hl : l = s * d + a) (h : a + s * j ≤ l) : j ≤ d := by
  apply Classical.byContradiction
  intro hh
  have : s * (d + 1) ≤ s * j := Nat.mul_le_mul_left s (by omega)
  rw [Nat.mul_add] at this
  omega
theorem step_back {s a j d l : Nat} (hl : l = s * d + a) (hj : j ≤ d) : l - s * (d - j) = a + s * j ∧ s * (d - j) ≤ l := by
  have h : s * d = s * (d - j) + s * j := by rw [← Nat.mul_add]; congr 1; omega
  omega

set_option maxRecDepth 100000 in
set_option maxHeartbeats 16000000 in
theorem RegularOf_m (A : Option Addr) (c : Nat) (xs : List Int) (s : Nat) (w : World) (hgd : good xs = true) (hl : xs.length ≤ 1048576) (hs : 1 ≤ s ∧ s ≤ 5) (hc : Cells w A xs) :
    Calls Try.prog 53 #[.slice A xs.length c, .int .i64 ((s + 1 : Nat) : Int)] w fun e w' => ∃ A' c', e = .returned (.tuple #[.slice A' (lRow xs s (lK xs s)).length c', .bool true]) ∧ Own w' w.heap.size A' c' (lRow xs s (lK xs s)) ∧ Below w.heap.size w w' := by
  obtain ⟨i0, hi, hz0, hz1, hz2⟩ := info_parts Try.infoInt
  have G := (good_iff xs).1 hgd
  have hlen := G.len
  have HG := hid hgd
  have HT := hid (show inB 2 6 ((s + 1 : Nat) : Int) = true from inB_iff.2 (by omega))
  have HCP := hid fun W (h : Cells W A xs) => (chPart_any A c xs 0 W (by omega) (by omega) h : Calls Try.prog 104 #[.slice A xs.length c, .int .i64 0] W fun e w' => e = .returned (.int .i64 (xs.getD 0 0)) ∧ W = w')
  have HLOW := hid fun l k (h : k < cnt8 xs s l) => cnt_low hlen hs l h
  have hp0 := G.part 0
  obtain ⟨p, hp⟩ : ∃ p : Nat, xs.getD 0 0 = p := ⟨pt xs 0, by unfold pt; omega⟩
  have hpt : pt xs 0 = p := by unfold pt; omega
  have hp30 : p ≤ 30 := by omega
  rw [hp] at HCP
  obtain ⟨L, hL⟩ : ∃ L, L = (s + 1) * (xs.length + p + 1) := ⟨_, rfl⟩
  have hL366 : L ≤ 366 := by
    have := Nat.mul_le_mul (show s + 1 ≤ 6 by omega) (show xs.length + p + 1 ≤ 61 by omega)
    omega
  have hLroom := mul_room hL
  have HROOM := hid hLroom
  obtain ⟨N, hN⟩ : ∃ N, N = xs.length + 1 := ⟨_, rfl⟩
  have hNN : N ≤ 31 := by omega
  have HNE := hid hN
  have HFIN := hid (show (fnRow N fun r => ((lr xs s L r : Nat) : Int)) = lRow xs s N from fnRow_ext N fun r _ => by rw [lr_end G hs r (by rw [hpt]; omega)])
  obtain ⟨hK1, hK2, -⟩ := lK_eq G hs
  have HK2 := hid hK2
  obtain ⟨K, hK⟩ : ∃ K, K = lK xs s := ⟨_, rfl⟩
  rw [← hK] at HK2 hK1 ⊢
  have HK1 := hid hK1
  have hmkL := run_make_row' (P := Try.prog) 22 3 (.int .i64 0) 8 Try.underlying22 Try.infoInt rfl .i64 .i64 L (by omega) (by omega)
  have hmkN := run_make_row' (P := Try.prog) 22 3 (.int .i64 0) 8 Try.underlying22 Try.infoInt rfl .i64 .i64 N (by omega) (by omega)
  have HP := hid G.part
  have HPS := hid G.pos
  have HDN := hid fun r => (by
    unfold pt
    by_cases e : r = 0
    · subst e; exact Nat.le_refl _
    · by_cases hr : r < xs.length
      · have := down_le xs G.down 0 r (by omega)
        rw [Nat.zero_add] at this; omega
      · rw [getD_beyond (show xs.length ≤ r by omega)]; simp : pt xs r ≤ pt xs 0)
  rw [hpt] at HDN
  have hNi : IntKind.i64.wrap ((xs.length : Int) + 1) = (N : Int) := by rw [IntWalk.i64_in _ (by omega)]; omega
  obtain ⟨t, ht⟩ : ∃ t : Nat, t = s + 1 := ⟨_, rfl⟩
  have hLi : IntKind.i64.wrap ((t : Int) * ((xs.length : Int) + (p : Int) + 1)) = (L : Int) := by
    have e : (t : Int) * ((xs.length : Int) + (p : Int) + 1) = (L : Int) := by rw [hL, ← ht]; simp
    rw [e, IntWalk.i64_in _ (by omega)]
  rw [← ht] at HT ⊢
  have hts : IntKind.i64.wrap ((t : Int) - 1) = (s : Int) := by rw [IntWalk.i64_in _ (by omega)]; omega
  have htlo : 2 ≤ t ∧ t ≤ 6 := by omega
  have HEND := hid (show (fnRow L fun l => ((cntT xs s xs.length l : Nat) : Int)) = fnRow L fun l => ((cnt8 xs s l : Nat) : Int) from rfl)
  have HMN := hid fun W => made_row W N (by omega)
  have HML := hid fun W => made_row W L (by omega)
  clear ht hL hLroom hK1 hK2 hp0 G hgd hp hpt hN hK
  go_enter Try.func53, Try.ntmps53
  go_wp2_with fail
  refine (ptGood_b _ _ _ _ hl hc _ HG.out).mono ?_
  rintro e w' ⟨rfl, n0, rfl⟩
  obtain ⟨w0, hw0⟩ : ∃ w0, w0 = w.drewN n0 := ⟨_, rfl⟩
  have HSZ0 := hid (show w0.heap.size = w.heap.size by rw [hw0]; rfl)
  have HBW := hid (show Below w.heap.size w w0 by rw [hw0]; exact below_drewN (Below.refl _ _) _)
  rw [← hw0]
  clear hw0
  have hc0 : Cells w0 A xs := hc.later HBW.out
  have hcA : ∀ o, Cells (w0.alloc o) A xs := fun o => hc0.later ((Below.refl w0.heap.size _).alloc (Nat.le_refl _) o)
  go_wp2_with (first | (go_at_call 82; refine (chRunners_b _ _ _ HT.out).mono ?_; rintro e w' ⟨rfl, rfl⟩) | (go_at_call 104; refine (HCP.out _ (hcA _)).mono ?_; rintro e w' ⟨rfl, rfl⟩))
  obtain ⟨w1, hw1⟩ : ∃ w1, w1 = w0.alloc (.cells (madeCells #[.int .i64 0] N) 3) := ⟨_, rfl⟩
  have hr1 := HMN.out w0
  have hz1' : w1.heap.size = w0.heap.size + 1 := by rw [hw1]; simp
  have hb1 : Below w0.heap.size w0 w1 := by rw [hw1]; exact (Below.refl _ _).alloc (Nat.le_refl _) _
  rw [← hw1] at hr1 ⊢
  have hb2 : Below w1.heap.size w1 (w1.alloc (.cells (madeCells #[.int .i64 0] L) 3)) := (Below.refl _ _).alloc (Nat.le_refl _) _
  have HR1 := hid (hr1.below hb2)
  have HR2 := hid (HML.out w1)
  obtain ⟨w2, hw2⟩ : ∃ w2, w2 = w1.alloc (.cells (madeCells #[.int .i64 0] L) 3) := ⟨_, rfl⟩
  have hz2' : w2.heap.size = w1.heap.size + 1 := by rw [hw2]; simp
  rw [← hw2] at HR1 HR2 hb2 ⊢
  have HB2 := hid (hb1.trans (hb2.mono hb1.size))
  rw [hz1'] at HR2 hz2'
  obtain ⟨g2, hg2⟩ : ∃ g, g = w0.heap.size + 1 := ⟨_, rfl⟩
  rw [← hg2] at HR2 hz2' ⊢
  obtain ⟨g1, hg1⟩ : ∃ g, g = w0.heap.size := ⟨_, rfl⟩
  rw [← hg1] at HR1 HB2 ⊢
  have HGG := hid (show g1 < g2 ∧ g1 = w.heap.size ∧ g2 < w2.heap.size by have := HSZ0.out; omega)
  have HG1E := hid hg1
  clear hw1 hr1 hz1' hb1 hb2 hw2 hz2' hg1 hg2 HSZ0 hcA
  go_loopw [40] (fun kv wr => ∃ r : Nat, r ≤ xs.length ∧ kv = .int .i64 r ∧ Hid (Own wr g1 (some ⟨g1, 0, none⟩) N (fnRow N fun _ => 0)) ∧ Hid (Own wr g2 (some ⟨g2, 0, none⟩) L (fnRow L fun l => ((cntT xs s r l : Nat) : Int))) ∧ Hid (w2.heap.size ≤ wr.heap.size) ∧ Below g1 w0 wr) (fun kv _ => xs.length - (intOf kv).toNat)
  case atStart => exact ⟨0, Nat.zero_le _, rfl, HR1, hid HR2.out, hid (Nat.le_refl _), HB2.out⟩
  case round =>
    obtain ⟨r, hr, rfl, HO1, HO2, HSZ, hbel⟩ := hrel
    obtain ⟨wo, rfl⟩ : ∃ wo : World, wo = wr := ⟨_, rfl⟩
    by_cases hlt : r < xs.length
    · obtain ⟨b, o, rfl, hcc⟩ := (hc0.later (by rw [← HG1E.out]; exact hbel)) (by omega)
      have hck := hcc r hlt
      have hp := HP.out r
      have hpp := HPS.out r hlt
      have hdn := HDN.out r
      obtain ⟨n, hn⟩ : ∃ n : Nat, xs.getD r 0 = n := ⟨pt xs r, by unfold pt; omega⟩
      have hpn : pt xs r = n := by unfold pt; omega
      rw [hn] at hck hp hpp
      have HPN := hid hpn
      rw [hpn] at hdn
      clear hcc hn hpn
      go_wp2_with fail
      go_loopw [10] (fun cv wr => ∃ k : Nat, k ≤ n ∧ cv = .int .i64 k ∧ Hid (Own wr g1 (some ⟨g1, 0, none⟩) N (fnRow N fun _ => 0)) ∧ Hid (Own wr g2 (some ⟨g2, 0, none⟩) L (fnRow L fun l => ((cntT xs s r l + if onL s l r k then 1 else 0 : Nat) : Int))) ∧ Hid (w2.heap.size ≤ wr.heap.size) ∧ Below g1 w0 wr) (fun cv _ => n - (intOf cv).toNat)
      case atStart => exact ⟨0, Nat.zero_le _, rfl, HO1, hid (by rw [lad_start]; exact HO2.out), HSZ, hbel⟩
      case round =>
        obtain ⟨k, hk, rfl, HI1, HI2, HSI, hbi⟩ := hrel
        by_cases hkn : k < n
        · have hm := mul_5 (s := s) (c := k) hs.2 (by omega)
          have hqL : r + s * k < L := by
            have := Nat.mul_le_mul_left s (show k ≤ p by omega)
            have := HROOM.out
            omega
          have hst := lad_step (xs := xs) hs.1 L r k
          have hv := cntT_le xs s (r + s * k) r
          have hmi : IntKind.i64.wrap ((s : Int) * (k : Int)) = ((s * k : Nat) : Int) := by
            have e : (s : Int) * (k : Int) = ((s * k : Nat) : Int) := by simp
            rw [e, IntWalk.i64_in _ (by omega)]
          obtain ⟨m, hme⟩ : ∃ m, m = s * k := ⟨_, rfl⟩
          rw [← hme] at hm hqL hst hv hmi
          have hqi : IntKind.i64.wrap ((r : Int) + (m : Int)) = ((r + m : Nat) : Int) := by rw [IntWalk.i64_in _ (by omega)]; omega
          obtain ⟨q, hq⟩ : ∃ q, q = r + m := ⟨_, rfl⟩
          rw [← hq] at hqL hst hv hqi
          obtain ⟨v, hve⟩ : ∃ v : Nat, v = cntT xs s r q + (if onL s q r k then 1 else 0) := ⟨_, rfl⟩
          rw [← hve] at hst
          have hv40 : v ≤ 40 := by rw [hve]; split <;> omega
          have hck2 := own_get HI2.out (k := q) (by rw [fnRow_len]; exact hqL)
          rw [fnRow_get _ _ _ hqL, ← hve] at hck2
          have hfz := own_froz HI2.out q
          have hsto := own_set HI2.out q ((v : Int) + 1)
          rw [hst] at hsto
          have HSO := hid hsto
          have hqli : (q : Int) < (L : Int) := by omega
          clear hst hsto hv hve hq hme hm
          go_wp2_with fail
          go_roundw
          case rel =>
            refine ⟨k + 1, by omega, by go_num, hid ?_, hid HSO.out, hid (by simpa using HSI.out), hbi.setCell (by have := HGG.out; show g1 ≤ g2; omega) _⟩
            exact HI1.out.keep (fun b hb _ => by
              cases hb
              exact Below.heap_setCell _ _ _ g1 (by have := HGG.out; show g1 ≠ g2; omega))
          case measure => simp [intOf]; omega
        · have hke : k = n := by omega
          have ho := HI2.out
          rw [hke, ← HPN.out, lad_end] at ho
          have HI3 := hid ho
          clear ho hke
          go_wp2_with fail
          go_roundw
          case rel => exact ⟨r + 1, by omega, by go_num, HI1, HI3, HSI, hbi⟩
          case measure => simp [intOf]; omega
    · have hre : r = xs.length := by omega
      have ho := HO2.out
      rw [hre, HEND.out] at ho
      have HC2 := hid ho
      clear ho hre HO2
      go_wp2_with fail
      go_loopw [64] (fun kv wr => ∃ l : Nat, l ≤ L ∧ kv = .int .i64 l ∧ Hid (Own wr g1 (some ⟨g1, 0, none⟩) N (fnRow N fun r => ((lr xs s l r : Nat) : Int))) ∧ Hid (Own wr g2 (some ⟨g2, 0, none⟩) L (fnRow L fun l => ((cnt8 xs s l : Nat) : Int))) ∧ Hid (w2.heap.size ≤ wr.heap.size) ∧ Below g1 w0 wr) (fun kv _ => L - (intOf kv).toNat)
      case atStart => exact ⟨0, Nat.zero_le _, rfl, HO1, HC2, HSZ, hbel⟩
      case round =>
        clear hbel HSZ HC2 HO1
        obtain ⟨l, hl1, rfl, HO, HC2, HSZ, hbel⟩ := hrel
        obtain ⟨wx, rfl⟩ : ∃ wx : World, wx = wr := ⟨_, rfl⟩
        by_cases hlt : l < L
        · have hck := own_get HC2.out (k := l) (by rw [fnRow_len]; exact hlt)
          rw [fnRow_get _ _ _ hlt] at hck
          have hcl : cnt8 xs s l ≤ 30 := by have := cntT_le xs s l xs.length; unfold cnt8; omega
          have hlow1 := HLOW.out l
          obtain ⟨n, hn⟩ : ∃ n, n = cnt8 xs s l := ⟨_, rfl⟩
          rw [← hn] at hck hcl hlow1
          have HN := hid hn
          have htd : Int.tdiv (l : Int) (s : Int) = ((l / s : Nat) : Int) := rfl
          have hdm := Nat.div_add_mod l s
          obtain ⟨a, ha⟩ : ∃ a, a = l % s := ⟨_, rfl⟩
          obtain ⟨d, hd⟩ : ∃ d, d = l / s := ⟨_, rfl⟩
          rw [← ha] at hlow1
          rw [← hd] at htd
          rw [← ha, ← hd] at hdm
          have hs0 : ¬ ((s : Int) = 0) := by omega
          have hdl : d ≤ 366 := by rw [hd]; exact Nat.le_trans (Nat.div_le_self _ _) (by omega)
          have HA := hid ha
          have HDM := hid hdm.symm
          have HLW := hid hlow1
          clear ha hd hn hdm hlow1
          have hwd : IntKind.i64.wrap (d : Int) = (d : Int) := IntWalk.i64_in _ (by omega)
          go_wp2_with fail
          go_loopw [12, 13] (fun nv cv wr => ∃ (j : Nat) (x y : Int), j ≤ n ∧ nv = .int .i64 y ∧ cv = .int .i64 x ∧ Hid (x = (d : Int) - j ∧ y = (n : Int) - j) ∧ Hid (Own wr g1 (some ⟨g1, 0, none⟩) N (fnRow N fun r => ((lrJ xs s l j r : Nat) : Int))) ∧ Hid (Own wr g2 (some ⟨g2, 0, none⟩) L (fnRow L fun l => ((cnt8 xs s l : Nat) : Int))) ∧ Hid (w2.heap.size ≤ wr.heap.size) ∧ Below g1 w0 wr) (fun nv _ _ => (intOf nv).toNat)
          case atStart => exact ⟨0, d, n, Nat.zero_le _, rfl, rfl, hid ⟨by omega, by omega⟩, hid (by simp only [lrJ_zero]; exact HO.out), HC2, HSZ, hbel⟩
          case round =>
            obtain ⟨j, x, y, hj, rfl, rfl, HXY, HOJ, HCJ, HSJ, hbj⟩ := hrel
            by_cases hjn : j < n
            · obtain ⟨hlo1, hlo2⟩ := HLW.out j hjn
              have hjd := steps_le hs.1 HDM.out hlo2
              obtain ⟨hb1, hb2⟩ := step_back HDM.out hjd
              have hqN : a + s * j < N := by have := HNE.out; omega
              have hstep := reg_step (xs := xs) hs.1 N l j
              rw [← HA.out] at hstep
              have hv := lrJ_le xs s l j (a + s * j)
              have hck1 := own_get HOJ.out (k := a + s * j) (by rw [fnRow_len]; exact hqN)
              rw [fnRow_get _ _ _ hqN] at hck1
              obtain ⟨q, hq⟩ : ∃ q, q = a + s * j := ⟨_, rfl⟩
              rw [← hq] at hqN hstep hv hck1 hb1
              obtain ⟨v, hve⟩ : ∃ v, v = lrJ xs s l j q := ⟨_, rfl⟩
              rw [← hve] at hstep hv hck1
              have hx0 : 0 ≤ x := by have := HXY.out; omega
              have hy0 : 0 < y := by have := HXY.out; omega
              have hy1 : y ≤ 30 := by have := HXY.out; omega
              have hx1 : x ≤ 366 := by have := HXY.out; omega
              have hmi : IntKind.i64.wrap ((s : Int) * x) = ((s * (d - j) : Nat) : Int) := by
                have e : (s : Int) * x = ((s * (d - j) : Nat) : Int) := by
                  rw [show x = ((d - j : Nat) : Int) by have := HXY.out; omega]; simp
                rw [e, IntWalk.i64_in _ (by omega)]
              obtain ⟨m, hme⟩ : ∃ m, m = s * (d - j) := ⟨_, rfl⟩
              rw [← hme] at hb1 hb2 hmi
              have hqi : IntKind.i64.wrap ((l : Int) - (m : Int)) = (q : Int) := by rw [IntWalk.i64_in _ (by omega)]; omega
              have hfz := own_froz HOJ.out q
              have hst := own_set HOJ.out q ((v : Int) + 1)
              rw [hstep] at hst
              have HST := hid hst
              have hqli : (q : Int) < (N : Int) := by omega
              clear hst hstep hve hq hme hb1 hb2 hlo1 hlo2
              go_wp2_with fail
              go_roundw
              case rel =>
                refine ⟨j + 1, x - 1, y - 1, by omega, rfl, rfl, hid (by have := HXY.out; omega), hid HST.out, hid ?_, hid (by simpa using HSJ.out), hbj.setCell (Nat.le_refl _) _⟩
                exact HCJ.out.keep (fun b hb _ => by
                  cases hb
                  exact Below.heap_setCell _ _ _ g2 (by have := HGG.out; show g2 ≠ g1; omega))
              case measure => simp [intOf]; omega
            · have hjn2 : j = n := by omega
              have hy0 : y = 0 := by have := HXY.out; omega
              subst hy0
              have h := HOJ.out
              rw [hjn2, HN.out] at h
              have HEJ := hid (show Own wr g1 (some ⟨g1, 0, none⟩) N (fnRow N fun r => ((lr xs s (l + 1) r : Nat) : Int)) by simpa only [lrJ_end] using h)
              clear h hjn2 hjn
              by_cases hx0 : 0 ≤ x
              · go_wp2_with fail
                go_roundw
                case rel => exact ⟨l + 1, by omega, by go_num, HEJ, HCJ, HSJ, hbj⟩
                case measure => simp [intOf]; omega
              · go_wp2_with fail
                go_roundw
                case rel => exact ⟨l + 1, by omega, by go_num, HEJ, HCJ, HSJ, hbj⟩
                case measure => simp [intOf]; omega
        · have hlL : l = L := by omega
          have h := HO.out
          rw [hlL, HFIN.out] at h
          have HF := hid h
          clear h hlL HO
          go_wp2_with fail
          have HWX := hid (show w2.heap.size ≤ wx.heap.size from HSZ.out)
          obtain ⟨wl, hwl⟩ : ∃ wl : World, wl = wx := ⟨_, rfl⟩
          rw [← hwl] at HF HWX hbel ⊢
          have HBL := hid hbel
          clear hwl hbel HC2 HSZ
          go_loopw [14, 97] (fun av kv wr => ∃ k : Nat, k ≤ N ∧ kv = .int .i64 k ∧ Hid (wr.ownsRow wl.heap.size 3 1 av (lRow xs s (min k K)).length (IL (lRow xs s (min k K)))) ∧ Below wl.heap.size wl wr) (fun _ kv _ => N - (intOf kv).toNat)
          case atStart => exact ⟨0, Nat.zero_le _, rfl, hid (by rw [Nat.zero_min]; exact World.ownsRow_nil _ _ _ _), Below.refl _ _⟩
          case round =>
            obtain ⟨k, hk, rfl, HOW, hbk⟩ := hrel
            by_cases hkN : k < N
            · have hck := own_get (HF.out.below hbk) (k := k) (by unfold lRow; rw [fnRow_len]; exact hkN)
              unfold lRow at hck
              rw [fnRow_get _ _ _ hkN] at hck
              obtain ⟨v, hv⟩ : ∃ v : Nat, v = lF xs s k := ⟨_, rfl⟩
              rw [← hv] at hck
              by_cases hv0 : 0 < v
              · have hkK := (HK2.out k).1 (by rw [← hv]; exact hv0)
                have hsn : lRow xs s (min (k + 1) K) = lRow xs s (min k K) ++ [(v : Int)] := by
                  rw [show min (k + 1) K = k + 1 by omega, show min k K = k by omega, lRow_succ, hv]
                have hlen2 : (lRow xs s (min k K)).length ≤ 30 := by unfold lRow; rw [fnRow_len]; have := HK1.out; omega
                have HSN := hid hsn
                have hvi : (0 : Int) < (v : Int) := by omega
                have hown := HOW.out
                clear hsn hv HOW
                go_wp2_with (at_builtin; refine wpList_append_own _ rfl _ _ 22 rfl wl.heap.size 3 i0 (.int .i64 0) 1 8 Try.underlying22 hi hz0 hz1 hz2 rfl (by decide) _ _ _ rfl (hown.alloc _) ⟨wr.heap.size, 0, none⟩ 1 1 [.int .i64 (v : Int)] rfl rfl one_at (one_cell _) (by unfold maxLen; omega) (by omega) (by have := hbk.size; simp; omega) ?_)
                intro v' w1 hown' hgrow _
                have hb1 : Below wl.heap.size wl w1 := (hbk.alloc hbk.size _).grown hgrow (by have := hbk.size; simp; omega) (fun q hq => (hown.lt q hq).1)
                have hown2 := own_snoc HSN.out hown'
                clear hgrow hown hown'
                go_wp2_with fail
                go_roundw
                case rel => exact ⟨k + 1, by omega, by go_num, hid hown2, hb1⟩
                case measure => simp [intOf]; omega
              · have hv00 : v = 0 := by omega
                have hkK : min (k + 1) K = min k K := by
                  have := (HK2.out k).2
                  have h2 : ¬ k < K := fun h => by have := this h; omega
                  omega
                have HKK := hid hkK
                have hvi : ¬ (0 : Int) < (v : Int) := by omega
                clear hkK hv hv00
                go_wp2_with fail
                go_roundw
                case rel => exact ⟨k + 1, by omega, by go_num, hid (by rw [HKK.out]; exact HOW.out), hbk⟩
                case measure => simp [intOf]; omega
            · have hown := HOW.out
              rw [show min k K = K by have := HK1.out; have := HNE.out; omega] at hown
              obtain ⟨A', c', rfl, ho⟩ := own_form hown rfl
              have HO5 := hid ho
              clear hown ho HOW
              go_wp2_with fail
              go_ret2
              have hle : w.heap.size ≤ wl.heap.size := by have := HGG.out; have := HWX.out; omega
              refine ⟨A', c', rfl, HO5.out.more hle, ?_⟩
              have h1 : Below g1 w0 wr := HBL.out.trans (hbk.mono (by have := HGG.out; omega))
              rw [HGG.out.2.1] at h1
              exact HBW.out.trans h1

set_option maxHeartbeats 1000000 in
theorem impl_RegularOf (A : Option Addr) (c : Nat) (xs : List Int) (t : Int) (w : World) (hl : xs.length ≤ 1048576) (hc : Cells w A xs) (_ : I64 t) :
    Calls Try.prog 54 #[.slice A xs.length c, .int .i64 t] w fun e w' => ∃ A' c', e = .returned (.tuple #[.slice A' (roF xs t).length c', .bool (giB xs t)]) ∧ Own w' w.heap.size A' c' (roF xs t) ∧ Below w.heap.size w w' := by
  cases hg : good xs
  · rw [show roF xs t = [] by simp [roF, giB, hg], show giB xs t = false by simp [giB, hg]]
    have H := hid hg; clear hg
    go_enter Try.func54, Try.ntmps54
    go_wp2_with (go_at_call 84; refine (IsPartition_b _ _ _ _ hl hc _ H.out).mono ?_; rintro e w' ⟨rfl, rfl⟩)
    go_ret2
    exact ⟨none, 0, rfl, own_nil _ _, Below.refl _ _⟩
  cases ht : inB 2 6 t
  · rw [show roF xs t = [] by simp [roF, giB, ht], show giB xs t = false by simp [giB, ht]]
    have H := hid hg
    have HT := hid ht
    clear hg ht
    go_enter Try.func54, Try.ntmps54
    go_wp2_with (first | (go_at_call 84; refine (IsPartition_b _ _ _ _ hl hc _ H.out).mono ?_; rintro e w' ⟨rfl, rfl⟩) | (go_at_call 85; refine (hasRunners_b _ _ _ HT.out).mono ?_; rintro e w' ⟨rfl, rfl⟩))
    go_ret2
    exact ⟨none, 0, rfl, own_nil _ _, Below.refl _ _⟩
  · have htb := inB_iff.1 ht
    obtain ⟨s, rfl⟩ : ∃ s : Nat, t = ((s + 1 : Nat) : Int) := ⟨t.toNat - 1, by omega⟩
    have hgi : giB xs ((s + 1 : Nat) : Int) = true := by unfold giB; rw [hg, ht]; rfl
    have e : roF xs ((s + 1 : Nat) : Int) = lRow xs s (lK xs s) := by
      unfold roF
      rw [if_pos hgi]
      rfl
    rw [e, hgi]
    exact RegularOf_t A c xs s w hg hl (by omega) hc
set_option maxHeartbeats 1000000 in
theorem spec_RegularOf (A : Option Addr) (c : Nat) (xs : List Int) (t : Int) (w : World) (hl : xs.length ≤ 1048576) (hc : Cells w A xs) (_ : I64 t) :
    Calls Try.prog 53 #[.slice A xs.length c, .int .i64 t] w fun e w' => ∃ A' c', e = .returned (.tuple #[.slice A' (roF xs t).length c', .bool (giB xs t)]) ∧ Own w' w.heap.size A' c' (roF xs t) ∧ Below w.heap.size w w' := by
  cases hg : good xs
  · rw [show roF xs t = [] by simp [roF, giB, hg], show giB xs t = false by simp [giB, hg]]
    have H := hid hg; clear hg
    go_enter Try.func53, Try.ntmps53
    go_wp2_with (go_at_call 77; refine (ptGood_b _ _ _ _ hl hc _ H.out).mono ?_; rintro e w' ⟨rfl, n0, rfl⟩)
    go_ret2
    exact ⟨none, 0, rfl, own_nil _ _, below_drew' _ _⟩
  cases ht : inB 2 6 t
  · rw [show roF xs t = [] by simp [roF, giB, ht], show giB xs t = false by simp [giB, ht]]
    have H := hid hg
    have HT := hid ht
    clear hg ht
    go_enter Try.func53, Try.ntmps53
    go_wp2_with (first | (go_at_call 77; refine (ptGood_b _ _ _ _ hl hc _ H.out).mono ?_; rintro e w' ⟨rfl, n0, rfl⟩) | (go_at_call 82; refine (chRunners_b _ _ _ HT.out).mono ?_; rintro e w' ⟨rfl, rfl⟩))
    go_ret2
    exact ⟨none, 0, rfl, own_nil _ _, below_drew' _ _⟩
  · have htb := inB_iff.1 ht
    obtain ⟨s, rfl⟩ : ∃ s : Nat, t = ((s + 1 : Nat) : Int) := ⟨t.toNat - 1, by omega⟩
    have hgi : giB xs ((s + 1 : Nat) : Int) = true := by unfold giB; rw [hg, ht]; rfl
    have e : roF xs ((s + 1 : Nat) : Int) = lRow xs s (lK xs s) := by
      unfold roF
      rw [if_pos hgi]
      rfl
    rw [e, hgi]
    exact RegularOf_m A c xs s w hg hl (by omega) hc
end Go.Proofs.Ythbkonpclflkhaa
