/-
  Contracts: levelsFrom, LevelsWith and CountCores of the program.
-/
import Derived.Test.YtnhjofcmaodamaaLw
import Derived.Test.YtnhjofcmaodamaaCountF
import Derived.Test.YtnhjofcmaodamaaCB
namespace Go.Proofs.Ytnhjofcmaodamaa
open Go.RowKit

set_option maxHeartbeats 1000000 in
theorem levelsFrom_zero (t : Nat) (s h : Int) (w : World) (_ht : 2 ≤ t ∧ t ≤ 6) (hs : -100 ≤ s ∧ s ≤ 100) (hh : 0 ≤ h ∧ h ≤ 60) :
    Calls Try.prog 135 #[.int .i64 (t : Nat), .int .i64 t, .int .i64 s, .int .i64 h] w fun e w' => ∃ A' c', e = .returned (.slice A' (lf t 0 s h).length c') ∧ Own2 w' w.heap.size w'.heap.size A' c' (lf t 0 s h) ∧ Below w.heap.size w w' := by
  rw [lf_zero]
  by_cases h1 : s = 0
  · by_cases h2 : h = 0
    · rw [if_pos ⟨h1, h2⟩]
      subst h1 h2
      go_enter Try.func135, Try.ntmps135
      go_wp2_with fail
      go_ret
      refine ⟨some ⟨w.heap.size, 0, none⟩, 1, rfl, ⟨fun _ => none, fun _ => 0, ?_, fun b hb => ?_, fun j hj => own_nil_at j hj, fun j hj b hb => by simp at hb, fun i j hij hj => ?_⟩, (Below.refl _ _).alloc (Nat.le_refl _) _⟩
      · exact World.ownsRow_lit (base := w.heap.size) (e := 22) (size := 1) w #[.slice none 0 0] 1 (Nat.le_refl _) (by unfold maxLen; omega) rfl
      · have : w.heap.size = b := by simpa using hb
        simp; omega
      · simp at hj; omega
    · rw [if_neg (fun hh => h2 hh.2)]
      subst h1
      go_enter Try.func135, Try.ntmps135
      go_wp2_with fail
      go_ret
      exact ⟨none, 0, rfl, own2_nil _ _ _, Below.refl _ _⟩
  · rw [if_neg (fun hh => h1 hh.1)]
    go_enter Try.func135, Try.ntmps135
    go_wp2_with fail
    go_ret
    exact ⟨none, 0, rfl, own2_nil _ _ _, Below.refl _ _⟩

set_option maxRecDepth 100000 in
set_option maxHeartbeats 8000000 in
theorem levelsFrom_any (t : Nat) (ht : 2 ≤ t ∧ t ≤ 6) : ∀ (r i : Nat) (s h : Int) (w : World), i + r = t → -(10 * (i : Int)) ≤ s ∧ s ≤ 10 * i → 0 ≤ h ∧ h ≤ 60 →
    Calls Try.prog 135 #[.int .i64 i, .int .i64 t, .int .i64 s, .int .i64 h] w fun e w' => ∃ A' c', e = .returned (.slice A' (lf t r s h).length c') ∧ Own2 w' w.heap.size w'.heap.size A' c' (lf t r s h) ∧ Below w.heap.size w w' := by
  obtain ⟨i1, hj, hy0, hy1, hy2⟩ := info_parts Try.infoInts
  intro r
  induction r with
  | zero =>
    intro i s h w hi hs hh
    have : i = t := by omega
    subst this
    exact levelsFrom_zero i s h w ht (by omega) hh
  | succ r ih =>
    intro i s h w hit hs hh
    have IH := hid ih; clear ih
    have hi6 : i < t := by omega
    have hti : t - (r + 1) = i := by omega
    have HSH := hid fun x (hx : -10 ≤ x ∧ x ≤ 10) W => shareOf_any t i x W ht hi6 hx
    have HSP := hid fun x => (shr_ge ht hi6 x).1
    have HSB := hid fun x (hx : -10 ≤ x ∧ x ≤ 10) => (show shr t i x ≤ 1000 by
      obtain ⟨b1, b2, b3, b4⟩ := mul3_bd ht hx
      have b5 := mul4_bd (a := 2 * (i : Int) - ((t : Int) - 1)) (by omega) hx
      rw [shr_alt]; omega)
    have HKS := hid fun K => lfK_succ t r s h K
    have HKA := hid (lfK_all t r s h)
    have HK0 := hid (show lfK t r s h 0 = [] from rfl)
    have HKL := hid fun K (hK : K ≤ 21) => (Nat.le_trans (lfK_len (t := t) r s h K hK) (pow21 (by omega)) : (lfK t r s h K).length ≤ 100000000)
    have HFN := hid fun l (hl : h - shr t i l < 0) => (show lfr t r s h l = [] by unfold lfr; rw [hti, if_pos hl])
    have HFY := hid fun l (hl : ¬ h - shr t i l < 0) => (show lfr t r s h l = lfJ (lf t r (s - l) (h - shr t i l)) l (lf t r (s - l) (h - shr t i l)).length by unfold lfr lfJ; rw [hti, if_neg hl, List.take_of_length_le (Nat.le_refl _)])
    have HML := hid fun s' h' => (Nat.le_trans (lf_len (t := t) r s' h') (pow21 (by omega)) : (lf t r s' h').length ≤ 100000000)
    have HMR := hid fun s' h' j (hj : j < (lf t r s' h').length) => (show ((lf t r s' h').getD j []).length ≤ 6 by
      have := (mem_lf (t := t) r s' h' (by omega) (show (lf t r s' h').getD j [] ∈ lf t r s' h' by rw [List.getD_eq_getElem?_getD, List.getElem?_eq_getElem hj]; exact List.getElem_mem hj)).1
      omega)
    obtain ⟨Z, hZ⟩ : ∃ Z, Z = lfK t r s h := ⟨_, rfl⟩
    rw [← hZ] at HKS HKA HK0 HKL
    rw [← HKA.out]
    obtain ⟨Y, hY⟩ : ∃ Y, Y = lfr t r s h := ⟨_, rfl⟩
    rw [← hY] at HKS HFN HFY
    obtain ⟨M, hM⟩ : ∃ M, M = lf t r := ⟨_, rfl⟩
    rw [← hM] at HFY HML HMR IH
    obtain ⟨S, hS⟩ : ∃ S, S = shr t i := ⟨_, rfl⟩
    rw [← hS] at HSH HSP HSB HFN HFY
    have hne : ¬ ((i : Int) = (t : Int)) := by omega
    clear hZ hY hM hS HKA hti
    go_enter Try.func135, Try.ntmps135
    go_wp2_with fail
    go_loopw [9, 10] (fun v xv wr => ∃ (K : Nat) (x : Int), K ≤ 21 ∧ x = (K : Int) - 10 ∧ xv = .int .i64 x ∧ (∃ P C, Push wr w.heap.size v (Z K) P C) ∧ Below w.heap.size w wr) (fun _ xv _ => (11 - intOf xv).toNat)
    case atStart => exact ⟨0, -10, by omega, by omega, rfl, by rw [HK0.out]; exact ⟨_, _, push_nil _ _⟩, Below.refl _ _⟩
    case round =>
      obtain ⟨K, x, hK, hx, rfl, ⟨P, C, hpush⟩, hbel⟩ := hrel
      obtain ⟨wo, rfl⟩ : ∃ wo : World, wo = wr := ⟨_, rfl⟩
      have HP := hid hpush; clear hpush
      have HB := hid hbel; clear hbel
      by_cases h1 : x ≤ 10
      · have hxb : -10 ≤ x ∧ x ≤ 10 := by omega
        have hsp := HSP.out x
        have hsb := HSB.out x hxb
        have HSX := hid (HSH.out x hxb)
        have HK1 := hid (show Z (K + 1) = Z K ++ Y x by rw [HKS.out, hx])
        obtain ⟨u, hu⟩ : ∃ u, u = S x := ⟨_, rfl⟩
        rw [← hu] at hsp hsb HSX
        by_cases hneg : h - u < 0
        · have HN := hid (show Z (K + 1) = Z K by rw [HK1.out, HFN.out x (by rw [← hu]; exact hneg), List.append_nil])
          have HX := hid hx
          clear hu hx
          go_wp2_with fail
          refine (HSX.out _).mono ?_
          rintro e w' ⟨rfl, rfl⟩
          go_wp2_with fail
          go_roundw
          case rel => exact ⟨K + 1, x + 1, by have := HX.out; omega, by have := HX.out; omega, by go_num, by rw [HN.out]; exact ⟨_, _, HP.out⟩, HB.out⟩
          case measure => simp [intOf]; omega
        · have hcall := IH.out (i + 1) (s - x) (h - u) wo (by omega) (by omega) ⟨by omega, by omega⟩
          rw [show ((i + 1 : Nat) : Int) = (i : Int) + 1 by omega] at hcall
          have HC := hid hcall; clear hcall
          have HY := hid (show Z (K + 1) = Z K ++ lfJ (M (s - x) (h - u)) x (M (s - x) (h - u)).length by rw [HK1.out, HFY.out x (by rw [← hu]; omega), ← hu])
          have hML := HML.out (s - x) (h - u)
          have HMX := hid (HMR.out (s - x) (h - u))
          have hKL := HKL.out K hK
          have hX := hx
          have HX := hid hX
          clear hu hx hX
          go_wp2_with fail
          refine (HSX.out _).mono ?_
          rintro e w' ⟨rfl, rfl⟩
          go_wp2_with fail
          refine HC.out.mono ?_
          rintro e wc ⟨Ac, cc, rfl, oc, bc⟩
          obtain ⟨N, hN⟩ : ∃ N, N = M (s - x) (h - u) := ⟨_, rfl⟩
          rw [← hN] at oc HY hML HMX ⊢
          obtain ⟨L, hL⟩ : ∃ L, L = N.length := ⟨_, rfl⟩
          rw [← hL] at HY hML HMX ⊢
          have HL := hid hL
          have OC := hid oc; clear oc
          have BC := hid bc; clear bc
          have HJS := hid fun j (hj : j < L) => lfJ_succ (M := N) (l := x) (j := j) (by rw [← hL]; exact hj)
          have HJL := hid fun j (hj : j ≤ L) => lfJ_len (M := N) (l := x) (j := j) (by rw [← hL]; exact hj)
          have HJ0 := hid (show lfJ N x 0 = [] from rfl)
          obtain ⟨J, hJ⟩ : ∃ J, J = lfJ N x := ⟨_, rfl⟩
          rw [← hJ] at HY HJS HJL HJ0
          clear hN hL hJ HK1
          go_wp2_with fail
          go_loopw [9, 45] (fun v jv wr => ∃ j : Nat, j ≤ L ∧ jv = .int .i64 j ∧ (∃ P C, Push wr w.heap.size v (Z K ++ J j) P C) ∧ Hid (Below w.heap.size w wr ∧ wc.heap.size ≤ wr.heap.size ∧ (∀ b, wo.heap.size ≤ b → b < wc.heap.size → wr.heap[b]? = wc.heap[b]?) ∧ ∀ q, v.ownBlock = some q → q < wo.heap.size ∨ wc.heap.size ≤ q)) (fun _ jv _ => L - (intOf jv).toNat)
          case atStart => exact ⟨0, Nat.zero_le _, rfl, ⟨_, _, by rw [HJ0.out, List.append_nil]; exact HP.out.below BC.out⟩, ⟨HB.out.trans (BC.out.mono HB.out.size), Nat.le_refl _, fun _ _ _ => rfl, fun q hq => .inl (HP.out.out.lt q hq).2⟩⟩
          case round =>
            obtain ⟨j, hjL, rfl, ⟨P2, C2, hpush⟩, HK⟩ := hrel
            have HP2 := hid hpush; clear hpush
            by_cases hlt : j < L
            · have hjl2 : (j : Int) < L := by omega
              obtain ⟨b1, b2, b3, b4⟩ := HK.out
              obtain ⟨Pc, Cc, H⟩ := OC.out.keep fun b _ hb1 hb2 => b3 b hb1 hb2
              have hll := HL.out
              obtain ⟨rr, hrr⟩ : ∃ rr, rr = N.getD j [] := ⟨_, rfl⟩
              have hrl : rr.length ≤ 6 := by rw [hrr]; exact HMX.out j hlt
              obtain ⟨tb, tof, rfl, hckr⟩ := H.top (j := j) (by omega)
              rw [← hrr] at hckr
              have hrow2 := H.row j (by omega)
              rw [← hrr] at hrow2
              obtain ⟨PA, hPA⟩ : ∃ PA, PA = Pc j := ⟨_, rfl⟩
              obtain ⟨CA, hCA⟩ : ∃ CA, CA = Cc j := ⟨_, rfl⟩
              rw [← hPA, ← hCA] at hckr hrow2
              have HCP := hid (concat_pair wr x rr PA CA hrow2.cells (fun e => (own_none (by rw [← e]; exact hrow2)).2) (by omega))
              have hsz0 := HB.out.size
              have hsz1 := b1.size
              have hlst := HJL.out j hjL
              have hlz : (Z K ++ J j).length ≤ 200000000 := by rw [List.length_append]; omega
              have HRW := hid (HJS.out j hlt)
              rw [← hrr] at HRW
              have HK2 := hid (show Below w.heap.size w wr ∧ wc.heap.size ≤ wr.heap.size ∧ (∀ b, wo.heap.size ≤ b → b < wc.heap.size → wr.heap[b]? = wc.heap[b]?) from ⟨b1, b2, b3⟩)
              have HK4 := hid b4
              clear hrr hrow2 hPA hCA H hll b1 b2 b3 b4 hlst HK
              go_wp2_with fail
              refine HCP.out.mono ?_
              rintro e w1 ⟨Ar, cr, rfl, ho1, hb1⟩
              have HO1 := hid ho1
              have HB1 := hid hb1
              have hs1 := hb1.size
              obtain ⟨r1, hr1⟩ : ∃ r1, r1 = x :: rr := ⟨_, rfl⟩
              rw [← hr1] at HRW HO1 ⊢
              obtain ⟨ZJ, hZJ⟩ : ∃ ZJ, ZJ = Z K ++ J j := ⟨_, rfl⟩
              rw [← hZJ] at HP2 hlz
              have HZJ := hid (show Z K ++ J (j + 1) = ZJ ++ [r1] by rw [HRW.out, hZJ, List.append_assoc])
              clear ho1 hb1 hr1 hckr hZJ
              go_wp2_with (at_builtin; refine wpList_append_own_at _ rfl _ _ 35 rfl w.heap.size 22 i1 (.slice none 0 0) 1 24 Try.underlying35 hj hy0 hy1 hy2 rfl (by decide) _ _ _ rfl ((HP2.out.below HB1.out).out.alloc _) ⟨w1.heap.size, 0, none⟩ 1 1 [.slice Ar r1.length cr] rfl rfl one_at (one_cellS _ _ _) (by unfold maxLen; omega) (by omega) (by simp; omega) ?_)
              intro v2 w2 hown2 hgrow2 _ hat
              have hp3 := HP2.out.push HB1.out HO1.out (by omega) hown2 hgrow2
              rw [← HZJ.out] at hp3
              have hgs := hgrow2.size
              obtain ⟨k1, k2, k3⟩ := HK2.out
              have hal : ∀ o : Obj, (w1.alloc o).heap.size = w1.heap.size + 1 := fun o => by simp
              have hb2 : Below w.heap.size w w2 := ((k1.trans (HB1.out.mono k1.size)).alloc (by omega) _).grown hgrow2 (by simp; omega) (fun q hq => (HP2.out.out.lt q hq).1)
              have HN := hid (show Below w.heap.size w w2 ∧ wc.heap.size ≤ w2.heap.size ∧ (∀ b, wo.heap.size ≤ b → b < wc.heap.size → w2.heap[b]? = wc.heap[b]?) ∧ ∀ q, v2.ownBlock = some q → q < wo.heap.size ∨ wc.heap.size ≤ q from by
                refine ⟨hb2, by rw [hal] at hgs; omega, fun b hb1 hb2 => ?_, fun q hq => ?_⟩
                · rw [hgrow2.block b (by rw [hal]; omega) (fun e => by have := HK4.out b e.symm; omega), Below.heap_alloc _ _ _ (by omega), HB1.out.block b (by omega)]
                  exact k3 b hb1 hb2
                · rcases hat with h | h
                  · exact HK4.out q (by rw [← h]; exact hq)
                  · rw [h] at hq
                    have : (w1.alloc (Obj.cells #[.slice Ar r1.length cr] 22)).heap.size = q := by simpa using hq
                    rw [hal] at this
                    omega)
              have HP3 := hid hp3
              clear hown2 hgrow2 hat hp3 hgs k1 k2 k3 hb2 hal
              go_wp2_with fail
              go_roundw
              case rel => exact ⟨j + 1, by omega, by go_num, ⟨_, _, HP3.out⟩, HN.out⟩
              case measure => simp [intOf]; omega
            · have hjl : j = L := by omega
              subst hjl
              have hnx := HP2.out
              rw [← HY.out] at hnx
              have HNX := hid hnx
              have hbr := hid HK.out.1
              clear hnx
              go_wp2_with fail
              go_roundw
              case rel => exact ⟨K + 1, x + 1, by have := HX.out; omega, by have := HX.out; omega, by go_num, ⟨_, _, HNX.out⟩, hbr.out⟩
              case measure => simp [intOf]; omega
      · have hK21 : K = 21 := by omega
        subst hK21
        have hpp := HP.out
        obtain ⟨A', c', rfl, ho⟩ := hpp.own2
        have HO := hid ho
        clear ho hpp
        go_wp2_with fail
        go_ret
        exact ⟨A', c', rfl, HO.out, HB.out⟩

def lwOk (t n : Int) : Bool := inB 2 6 t && okN n
def lwF (t n : Int) : List (List Int) := if lwOk t n then chL n (t.toNat - 1) [] else []
def lwN (t n : Int) : Int := (lwF t n).length
theorem lw_no {t n : Int} (h : lwOk t n = false) : lwF t n = [] := by simp [lwF, h]
theorem lw_yes {t n : Int} (h : lwOk t n = true) : lwF t n = chL n (t.toNat - 1) [] := by simp [lwF, h]
theorem bound_LevelsWith (t n : Int) : (lwF t n).length ≤ 1048576 ∧ tot (lwF t n) ≤ 1048576 := by
  cases h : lwOk t n
  · rw [lw_no h]; simp [tot]
  · rw [lw_yes h]
    simp only [lwOk, Bool.and_eq_true] at h
    have hin := inB_iff.1 h.1
    have h1 := chL_len (n := n) (t.toNat - 1) []
    have h2 : 9 ^ (t.toNat - 1) ≤ 59049 := by
      have : t.toNat - 1 = 1 ∨ t.toNat - 1 = 2 ∨ t.toNat - 1 = 3 ∨ t.toNat - 1 = 4 ∨ t.toNat - 1 = 5 := by omega
      rcases this with e | e | e | e | e <;> rw [e] <;> decide
    have h3 := tot_le (chL n (t.toNat - 1) []) 6 fun r hr => by
      have := (mem_chL _ _ hr).2.2.1
      simp at this; omega
    omega

set_option maxHeartbeats 1000000 in
theorem impl_LevelsWith (t n : Int) (w : World) (_ht : I64 t) (_hn : I64 n) :
    Calls Try.prog 63 #[.int .i64 t, .int .i64 n] w fun e w' => ∃ A' c', e = .returned (.tuple #[.slice A' (lwF t n).length c', .bool (lwOk t n)]) ∧ Own2 w' w.heap.size w'.heap.size A' c' (lwF t n) ∧ Below w.heap.size w w' := by
  cases h1 : inB 2 6 t
  · have h : lwOk t n = false := by simp [lwOk, h1]
    rw [lw_no h, h]
    have H1 := hid h1; clear h h1
    go_enter Try.func63, Try.ntmps63
    go_wp2_with (go_at_call 119; refine (hasRunners_b _ _ _ H1.out).mono ?_; rintro e w' ⟨rfl, rfl⟩)
    go_ret2
    exact ⟨none, 0, rfl, own2_nil _ _ _, Below.refl _ _⟩
  cases h2 : okN n
  · have h : lwOk t n = false := by simp [lwOk, h2]
    rw [lw_no h, h]
    have H1 := hid h1
    have H2 := hid h2; clear h h1 h2
    go_enter Try.func63, Try.ntmps63
    go_wp2_with (first | (go_at_call 119; refine (hasRunners_b _ _ _ H1.out).mono ?_; rintro e w' ⟨rfl, rfl⟩) | (go_at_call 134; refine (isCellNumber_b _ _ _ H2.out).mono ?_; rintro e w' ⟨rfl, rfl⟩))
    go_ret2
    exact ⟨none, 0, rfl, own2_nil _ _ _, Below.refl _ _⟩
  have h : lwOk t n = true := by simp [lwOk, h1, h2]
  have i1 := inB_iff.1 h1
  have i2 := inB_iff.1 h2
  obtain ⟨t, rfl⟩ : ∃ m : Nat, t = m := ⟨t.toNat, by omega⟩
  have hm := lw_main (t := t) (n := n) (by omega) (by omega)
  rw [lw_yes h, h, Int.toNat_natCast, ← hm]
  have HLF := hid fun W => levelsFrom_any t (by omega) t 0 0 (2 * n) W (by omega) (by omega) (by omega)
  rw [show ((0 : Nat) : Int) = 0 from rfl] at HLF
  obtain ⟨R, hR⟩ : ∃ R, R = lf t t 0 (2 * n) := ⟨_, rfl⟩
  rw [← hR] at HLF ⊢
  have H1 := hid h1
  have H2 := hid h2
  clear h h1 h2 hm hR
  go_enter Try.func63, Try.ntmps63
  go_wp2_with (first | (go_at_call 119; refine (hasRunners_b _ _ _ H1.out).mono ?_; rintro e w' ⟨rfl, rfl⟩) | (go_at_call 134; refine (isCellNumber_b _ _ _ H2.out).mono ?_; rintro e w' ⟨rfl, rfl⟩) | (go_at_call 135; refine (HLF.out _).mono ?_; rintro e w' ⟨A', c', rfl, ho, hb⟩))
  go_ret2
  exact ⟨A', c', rfl, ho, hb⟩

set_option maxHeartbeats 1000000 in
theorem impl_CountCores (t n : Int) (w : World) (ht : I64 t) (hn : I64 n) :
    Calls Try.prog 67 #[.int .i64 t, .int .i64 n] w fun e w' => e = .returned (.tuple #[.int .i64 (lwN t n), .bool (lwOk t n)]) ∧ Below w.heap.size w w' := by
  have HL := hid (impl_LevelsWith t n w ht hn)
  have HN := hid (show lwN t n = (lwF t n).length from rfl)
  obtain ⟨F, hF⟩ : ∃ F, F = lwF t n := ⟨_, rfl⟩
  obtain ⟨b, hb⟩ : ∃ b, b = lwOk t n := ⟨_, rfl⟩
  rw [← hF, ← hb] at HL
  rw [← hF] at HN
  rw [← hb, HN.out]
  clear hF hb HN
  go_enter Try.func67, Try.ntmps67
  go_wp2_with fail
  refine HL.out.mono ?_
  rintro e w1 ⟨A1, c1, rfl, o1, b1⟩
  go_wp2_with fail
  go_ret2
  exact ⟨rfl, b1⟩
end Go.Proofs.Ytnhjofcmaodamaa
