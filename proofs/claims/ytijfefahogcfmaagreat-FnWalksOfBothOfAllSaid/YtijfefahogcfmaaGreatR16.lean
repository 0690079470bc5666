/-
  Several texts in one.
-/
import Derived.Test.YtijfefahogcfmaaGreatR12
/-
  Contracts: boWalk of the model; WalkOfBoth on both sides.
-/
namespace Go.Proofs.YtijfefahogcfmaaGreat
open Go.RowKit

theorem wkL_len (a b : Int) (X : List Int) : (wkL a b X).length = (a - 1).toNat := fnRow_len _ _
theorem wkL_take (a b : Int) (X : List Int) (i : Nat) (h : i < (a - 1).toNat) : (wkL a b X).take (i + 1) = (wkL a b X).take i ++ [wkA a b X i] := by
  have hl := wkL_len a b X
  rw [List.take_succ_eq_append_getElem (by omega)]
  have e : (wkL a b X).getD i 0 = wkA a b X i := by unfold wkL; rw [fnRow_get _ _ _ h]
  rw [List.getD_eq_getElem?_getD, List.getElem?_eq_getElem (by omega)] at e
  rw [← e]; rfl

set_option maxRecDepth 100000 in
set_option maxHeartbeats 4000000 in
theorem boWalk_any (A : Option Addr) (c : Nat) (a b : Int) (xs : List Int) (w : World) (hs : sz a b = true) (hl : xs.length ≤ 1048576) (hc : Cells w A xs) :
    Calls Tryz.prog 18 #[.slice A xs.length c, .int .i64 a, .int .i64 b] w fun e w' => ∃ A' c', e = .returned (.slice A' (wkL a b xs).length c') ∧ Own w' w.heap.size A' c' (wkL a b xs) ∧ Below w.heap.size w w' := by
  obtain ⟨i0, hi0, hz0, hz1, hz2⟩ := info_parts Tryz.infoInt
  obtain ⟨ha, hb, -⟩ := sz_iff.1 hs
  obtain ⟨p1, p2⟩ := ab49 ha hb
  have HBD := hid (wk_bdN hs)
  have HEN := hid (wk_endN hs)
  have HLL := hid (wkL_len a b xs)
  have HTK := hid (wkL_take a b xs)
  obtain ⟨RES, hRES⟩ : ∃ RES, RES = wkL a b xs := ⟨_, rfl⟩
  rw [← hRES] at HLL HTK ⊢
  clear hRES hs
  obtain ⟨n, hn⟩ : ∃ n : Nat, n = (a - 1).toNat := ⟨_, rfl⟩
  rw [← hn] at HLL HTK
  have hna : a = (n : Int) + 1 := by omega
  have HNA := hid hna
  have hn6 : n ≤ 6 := by omega
  clear hn hna
  go_enter Tryz.func18, Tryz.ntmps18
  go_wp2_with fail
  go_loopw [7, 8] (fun v j wr => ∃ i : Nat, i ≤ n ∧ j = .int .i64 ((i : Int) + 1) ∧ (∃ A' c', v = .slice A' (RES.take i).length c' ∧ Own wr w.heap.size A' c' (RES.take i)) ∧ Below w.heap.size w wr) (fun _ j _ => 20 - (intOf j).toNat)
  case atStart => exact ⟨0, by omega, rfl, ⟨none, 0, rfl, own_nil _ _⟩, Below.refl _ _⟩
  case round =>
    obtain ⟨i, hi, rfl, ⟨Ag, cg, rfl, ho⟩, hbel⟩ := hrel
    have hll : (RES.take i).length ≤ i := by rw [List.length_take]; omega
    by_cases hlt : i < n
    · have HS := hid (HTK.out i hlt)
      obtain ⟨⟨⟨hm1, hm2⟩, hm3⟩, hm4, hm5⟩ := HBD.out i (by omega) (by have := HNA.out; omega)
      have HE := hid (HEN.out i (by omega) (by have := HNA.out; omega))
      obtain ⟨M, hM⟩ : ∃ M : Nat, M = (mstI a b i).toNat := ⟨_, rfl⟩
      have HWA := hid (show wkA a b xs i = wkN a b xs i M by unfold wkA; rw [hM])
      have HMI := hid (show mstI a b i = M by omega)
      have hM7 : M ≤ 7 := by omega
      have hy : (i : Int) + 1 < a := by have := HNA.out; omega
      have HM5 := hid hm5
      clear hM hm1 hm2 hm3 hm5
      obtain ⟨y, hyy⟩ : ∃ y : Int, y = (i : Int) + 1 := ⟨_, rfl⟩
      have HG := hid fun x => show gpA a b x i = a * b - a * x - b * y by rw [hyy]; rfl
      have HY := hid hyy
      have hy1 : 1 ≤ y ∧ y ≤ 10 := by omega
      rw [← hyy] at hm4 hy ⊢
      clear hyy
      obtain ⟨f, hF⟩ : ∃ f, f = RES.take i := ⟨_, rfl⟩
      rw [← hF] at ho HS hll ⊢
      have HO := hid ho
      have hl60 : f.length ≤ 60 := by omega
      have hcs := hbel.size
      clear hF ho hll
      go_wp2_with fail
      go_loop [9, 10] (fun u v => ∃ k : Nat, k ≤ M ∧ v = .int .i64 ((k : Int) + 1) ∧ u = .int .i64 (wkN a b xs i k)) (fun _ v => 20 - (intOf v).toNat)
      case atStart => exact ⟨0, by omega, rfl, rfl⟩
      case round =>
        obtain ⟨k, hk, rfl, rfl⟩ := hrel
        obtain ⟨hg1, hg2⟩ := HM5.out (k + 1) (by omega)
        have hge := HE.out (k + 1) (by omega) (by omega)
        have hwb := wkN_bd a b xs i k
        have HIN := hid (wkN_in (a := a) (b := b) (X := xs) (i := i) (k := k))
        have HOU := hid (wkN_out (a := a) (b := b) (X := xs) (i := i) (k := k))
        rw [HG.out] at HIN HOU
        rw [HG.out, HMI.out] at hge
        have hcast : (((k + 1 : Nat) : Int)) = (k : Int) + 1 := by omega
        rw [hcast] at hg1 hg2 hge
        obtain ⟨v, hv⟩ : ∃ v, v = wkN a b xs i k := ⟨_, rfl⟩
        rw [← hv] at hwb HIN HOU ⊢
        have HV := hid hv
        obtain ⟨x, hx⟩ : ∃ x : Int, x = (k : Int) + 1 := ⟨_, rfl⟩
        rw [← hx] at hg1 hg2 hge HIN HOU ⊢
        have HX := hid hx
        have hx9 : 1 ≤ x ∧ x ≤ 9 := by omega
        clear hcast hv hx
        by_cases hkl : k < M
        · have hpos : 0 < a * b - a * x - b * y := hge.2 (by have := HX.out; omega)
          clear hge
          cases hd : decide (a * b - a * x - b * y ∈ xs)
          · have HD := hid hd
            have HE1 := hid (HOU.out hd)
            clear hd HIN HOU
            go_wp2_with (go_at_call 42; refine (l1Has2_b _ _ _ _ _ hl (hc.below hbel) _ HD.out).mono ?_; rintro e w' ⟨rfl, rfl⟩)
            go_round
            case rel => exact ⟨k + 1, by omega, by rw [HX.out]; go_num, by rw [HE1.out]⟩
            case measure => show 20 - (x + 1).toNat < 20 - x.toNat; omega
          · have HD := hid hd
            have HE1 := hid (HIN.out hd)
            clear hd HIN HOU
            go_wp2_with (go_at_call 42; refine (l1Has2_b _ _ _ _ _ hl (hc.below hbel) _ HD.out).mono ?_; rintro e w' ⟨rfl, rfl⟩)
            go_round
            case rel => exact ⟨k + 1, by omega, by rw [HX.out]; go_num, by rw [HE1.out]⟩
            case measure => show 20 - (x + 1).toNat < 20 - x.toNat; omega
        · have hneg : ¬ 0 < a * b - a * x - b * y := fun h => by have := hge.1 h; have := HX.out; omega
          have HKM := hid (show k = M by omega)
          have HVA := hid (show v = wkA a b xs i by rw [HWA.out, HV.out, HKM.out])
          clear hge HIN HOU
          go_wp2_with (at_builtin; refine wpList_append_own _ rfl _ _ 22 rfl w.heap.size 3 i0 (.int .i64 0) 1 8 Tryz.underlying22 hi0 hz0 hz1 hz2 rfl (by decide) _ _ _ rfl (HO.out.alloc _) ⟨wr.heap.size, 0, none⟩ 1 1 [.int .i64 v] rfl rfl one_at (one_cell _) (by unfold maxLen; omega) (by omega) (by simp; omega) ?_)
          intro v' w4 hown' hgrow _
          have hb2 : Below w.heap.size w w4 := (hbel.alloc hbel.size _).grown hgrow (by simp; omega) (fun q hq => (HO.out.lt q hq).1)
          have hown2 := own_snoc (zs := RES.take (i + 1)) (by rw [HS.out, HVA.out]) hown'
          obtain ⟨A3, c3, rfl, ho3⟩ := own_form hown2 rfl
          have HO3 := hid ho3
          clear hgrow hown' hown2 ho3
          go_wp2_with fail
          go_roundw
          case rel => exact ⟨i + 1, by omega, by rw [HY.out]; go_num, ⟨A3, c3, rfl, HO3.out⟩, hb2⟩
          case measure => show 20 - (y + 1).toNat < 20 - y.toNat; omega
    · have hin : i = n := by omega
      subst hin
      have ht : RES.take i = RES := List.take_of_length_le (by rw [HLL.out]; exact Nat.le_refl _)
      rw [ht] at ho ⊢
      have HO := hid ho
      have hge : ¬ (i : Int) + 1 < a := by have := HNA.out; omega
      clear ht ho
      go_wp2_with fail
      go_ret
      exact ⟨Ag, cg, rfl, HO.out, hbel⟩
end Go.Proofs.YtijfefahogcfmaaGreat
/-
  Contracts: WalkOfBoth on both sides.
-/
namespace Go.Proofs.YtijfefahogcfmaaGreat
open Go.RowKit

def wbF (xs : List Int) (a b : Int) : List Int := if ibB xs a b then wkL a b (beadsL xs xs.length) else []
theorem bound_WalkOfBoth (xs : List Int) (a b : Int) : (wbF xs a b).length ≤ 1048576 := by
  unfold wbF
  split
  · rename_i h
    rw [ibB, Bool.and_eq_true, Bool.and_eq_true] at h
    obtain ⟨ha, -⟩ := sz_iff.1 h.1.2
    rw [wkL_len]; omega
  · exact Nat.zero_le _
set_option maxRecDepth 100000 in
set_option maxHeartbeats 2000000 in
theorem impl_WalkOfBoth (A : Option Addr) (c : Nat) (xs : List Int) (a b : Int) (w : World) (hl : xs.length ≤ 1048576) (hc : Cells w A xs) (_ : I64 a) (_ : I64 b) :
    Calls Tryz.prog 4 #[.slice A xs.length c, .int .i64 a, .int .i64 b] w fun e w' => ∃ A' c', e = .returned (.tuple #[.slice A' (wbF xs a b).length c', .bool (ibB xs a b)]) ∧ Own w' w.heap.size A' c' (wbF xs a b) ∧ Below w.heap.size w w' := by
  cases h : good xs && sz a b
  · have hb : ibB xs a b = false := by simp [ibB, h]
    rw [show wbF xs a b = [] by simp [wbF, hb], hb]
    have HB := hid (bothCoreOf_no A c xs a b w hl hc h)
    clear h hb
    go_enter Tryz.func4, Tryz.ntmps4
    go_wp2_with fail
    refine HB.out.mono ?_
    rintro e w1 ⟨rfl, b1⟩
    go_wp2_with fail
    go_ret2
    exact ⟨none, 0, rfl, own_nil _ _, b1.alloc b1.size _⟩
  · obtain ⟨hg, hs⟩ := Bool.and_eq_true_iff.1 h
    have he := both_eq ((good_iff xs).1 hg) hs
    have hib : ibB xs a b = clB a b (beadsL xs xs.length) := by simp [ibB, h, he]
    have hbl := beadsL_len xs xs.length
    have h30 := ((good_iff xs).1 hg).len
    have hwf : wbF xs a b = if clB a b (beadsL xs xs.length) then wkL a b (beadsL xs xs.length) else [] := by unfold wbF; rw [hib]
    rw [hwf, hib]
    have HB := hid (bothCoreOf_yes A c xs a b w hl hc hg hs)
    have HWK := hid fun A c W (h : Cells W A (beadsL xs xs.length)) => walk_any A c a b (beadsL xs xs.length) W hs (by omega) h
    rw [hbl] at HWK
    obtain ⟨L, hL⟩ : ∃ L, L = beadsL xs xs.length := ⟨_, rfl⟩
    obtain ⟨K, hK⟩ : ∃ K, K = wkL a b (beadsL xs xs.length) := ⟨_, rfl⟩
    rw [← hK] at HWK ⊢
    cases hR : clB a b (beadsL xs xs.length)
    · rw [hR] at HB
      rw [← hL] at HB
      clear h hg hs he hL hR hK hib hwf hbl
      rw [if_neg (by simp)]
      go_enter Tryz.func4, Tryz.ntmps4
      go_wp2_with fail
      refine HB.out.mono ?_
      rintro e w1 ⟨A1, c1, rfl, o1, b1⟩
      go_wp2_with fail
      go_ret2
      exact ⟨none, 0, rfl, own_nil _ _, b1.alloc b1.size _⟩
    · rw [hR] at HB
      rw [← hL] at HB HWK
      clear h hg hs he hL hR hK hib hwf hbl
      rw [if_pos rfl]
      go_enter Tryz.func4, Tryz.ntmps4
      go_wp2_with fail
      refine HB.out.mono ?_
      rintro e w1 ⟨A1, c1, rfl, o1, b1⟩
      have B2 := (Below.refl w1.heap.size w1).alloc (Nat.le_refl _) (.cells #[.slice A1 xs.length c1, .int .i64 a, .int .i64 b] 35)
      have O2 := hid (o1.below B2)
      go_wp2_with (go_at_call 15; refine (HWK.out _ _ _ O2.out.cells).mono ?_; rintro e w3 ⟨A3, c3, rfl, o3, b3⟩)
      go_ret2
      have B12 := Below.next b1 B2
      exact ⟨A3, c3, rfl, o3.more B12.size, Below.next B12 b3⟩
set_option maxRecDepth 100000 in
set_option maxHeartbeats 2000000 in
theorem spec_WalkOfBoth (A : Option Addr) (c : Nat) (xs : List Int) (a b : Int) (w : World) (hl : xs.length ≤ 1048576) (hc : Cells w A xs) (_ : I64 a) (_ : I64 b) :
    Calls Tryz.prog 5 #[.slice A xs.length c, .int .i64 a, .int .i64 b] w fun e w' => ∃ A' c', e = .returned (.tuple #[.slice A' (wbF xs a b).length c', .bool (ibB xs a b)]) ∧ Own w' w.heap.size A' c' (wbF xs a b) ∧ Below w.heap.size w w' := by
  cases ht : sz a b
  · have hb : ibB xs a b = false := by simp [ibB, ht]
    rw [show wbF xs a b = [] by simp [wbF, hb], hb]
    have HT := hid ht
    clear ht hb
    go_enter Tryz.func5, Tryz.ntmps5
    go_wp2_with (go_at_call 16; refine (boSizes_b _ _ _ _ HT.out).mono ?_; rintro e w1 ⟨rfl, rfl⟩)
    go_ret2
    exact ⟨none, 0, rfl, own_nil _ _, Below.refl _ _⟩
  have HT := hid ht
  have HI := hid fun W (h : Cells W A xs) => boIs_any A c xs a b W hl h ht
  cases hi : ibB xs a b
  · rw [show wbF xs a b = [] by simp [wbF, hi]]
    rw [hi] at HI
    clear ht hi
    go_enter Tryz.func5, Tryz.ntmps5
    go_wp2_with (first | (go_at_call 16; refine (boSizes_b _ _ _ _ HT.out).mono ?_; rintro e w1 ⟨rfl, rfl⟩) | (go_at_call 17; refine (HI.out _ hc).mono ?_; rintro e w2 ⟨rfl, b2⟩))
    go_ret2
    exact ⟨none, 0, rfl, own_nil _ _, b2⟩
  · have hg : good xs = true := by rw [ibB, Bool.and_eq_true, Bool.and_eq_true] at hi; exact hi.1.1
    have G := (good_iff xs).1 hg
    have h30 := G.len
    have hbl := beadsL_len xs xs.length
    rw [show wbF xs a b = wkL a b (beadsL xs xs.length) by simp [wbF, hi]]
    rw [hi] at HI
    have HF := hid fun W (h : Cells W A xs) => boFirst_any A c xs W G h
    have HWK := hid fun A c W (h : Cells W A (beadsL xs xs.length)) => boWalk_any A c a b (beadsL xs xs.length) W ht (by omega) h
    rw [hbl] at HWK
    obtain ⟨K, hK⟩ : ∃ K, K = wkL a b (beadsL xs xs.length) := ⟨_, rfl⟩
    rw [← hK] at HWK ⊢
    obtain ⟨L, hL⟩ : ∃ L, L = beadsL xs xs.length := ⟨_, rfl⟩
    rw [← hL] at HWK HF
    clear ht hi hg G hbl hK hL
    go_enter Tryz.func5, Tryz.ntmps5
    go_wp2_with (first | (go_at_call 16; refine (boSizes_b _ _ _ _ HT.out).mono ?_; rintro e w1 ⟨rfl, rfl⟩) | (go_at_call 17; refine (HI.out _ hc).mono ?_; rintro e w2 ⟨rfl, b2⟩) | (go_at_call 19; refine (HF.out _ (hc.below b2)).mono ?_; rintro e w3 ⟨A3, c3, rfl, o3, b3⟩) | (go_at_call 18; refine (HWK.out _ _ _ o3.cells).mono ?_; rintro e w4 ⟨A4, c4, rfl, o4, b4⟩))
    go_ret2
    have B3 := Below.next b2 b3
    exact ⟨A4, c4, rfl, o4.more B3.size, Below.next B3 b4⟩
end Go.Proofs.YtijfefahogcfmaaGreat
