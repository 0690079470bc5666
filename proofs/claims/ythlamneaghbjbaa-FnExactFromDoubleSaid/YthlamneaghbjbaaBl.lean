/-
  Contracts: BarLengths on both sides.
-/
import Derived.Test.YthlamneaghbjbaaBr
import Derived.Test.YthlamneaghbjbaaBlMath
import Derived.Test.YthlamneaghbjbaaCutI
import Derived.Test.YthlamneaghbjbaaCC
import Derived.Test.YthlamneaghbjbaaCH
import Derived.Test.YthlamneaghbjbaaBack2
import Derived.Test.YthlamneaghbjbaaMaya
namespace Go.Proofs.Ythlamneaghbjbaa
open Go.RowKit

theorem blHi_succ (x : Nat) (ys : List Int) (k : Nat) (h : k < ys.length) : blHi x (ys.take (k + 1)) = blHi x (ys.take k) ++ [(x : Int) + ys.getD k 0] := by
  unfold blHi
  rw [List.take_succ_eq_append_getElem h, List.map_append, List.getD_eq_getElem?_getD, List.getElem?_eq_getElem h]; rfl

set_option maxRecDepth 100000 in
set_option maxHeartbeats 1000000 in
theorem barLengthsAt_any (A : Option Addr) (c : Nat) (ys : List Int) (x : Nat) (w : World) (hl : ys.length ≤ 30) (hx : x ≤ 30) (hb : ∀ j, j < ys.length → 1 ≤ ys.getD j 0 ∧ ys.getD j 0 ≤ 30) (hc : Cells w A ys) :
    Calls Try.prog 132 #[.int .i64 x, .slice A ys.length c] w fun e w' => ∃ A' c', e = .returned (.slice A' (blL x ys).length c') ∧ Own w' w.heap.size A' c' (blL x ys) ∧ Below w.heap.size w w' := by
  obtain ⟨i0, hi, hz0, hz1, hz2⟩ := info_parts Try.infoInt
  have HB := hid hb; clear hb
  have HC := hid hc; clear hc
  go_enter Try.func132, Try.ntmps132
  go_wp2_with fail
  go_loopw [5, 11] (fun v i wr => ∃ k : Nat, k ≤ ys.length ∧ i = .int .i64 k ∧ wr.ownsRow w.heap.size 3 1 v (blHi x (ys.take k)).length (IL (blHi x (ys.take k))) ∧ Below w.heap.size w wr) (fun _ i _ => ys.length - (intOf i).toNat)
  case atStart => exact ⟨0, Nat.zero_le _, rfl, World.ownsRow_nil _ _ _ _, Below.refl _ _⟩
  case round =>
    obtain ⟨k, hk, rfl, hown, hbel⟩ := hrel
    by_cases hlt : k < ys.length
    · obtain ⟨b, o, rfl, hcc⟩ := (HC.out.later hbel) (by omega)
      have hck := hcc k hlt
      have hyb := HB.out k hlt
      have HE := hid (blHi_succ x ys k hlt)
      have hL := blHi_len x (ys.take k)
      rw [List.length_take] at hL
      obtain ⟨y, hy⟩ : ∃ y, y = ys.getD k 0 := ⟨_, rfl⟩
      rw [← hy] at hck hyb HE
      obtain ⟨L, hLL⟩ : ∃ L, L = blHi x (ys.take k) := ⟨_, rfl⟩
      rw [← hLL] at hown HE hL
      have HL := hid hL
      clear hcc hy hLL hL
      go_wp2_with (at_builtin; refine wpList_append_own _ rfl _ _ 22 rfl w.heap.size 3 i0 (.int .i64 0) 1 8 Try.underlying22 hi hz0 hz1 hz2 rfl (by decide) _ _ _ rfl (hown.alloc _) ⟨wr.heap.size, 0, none⟩ 1 1 [.int .i64 ((x : Int) + y)] rfl rfl one_at (one_cell _) (by have := HL.out; unfold maxLen; omega) (by have := HL.out; omega) (by have := hbel.size; simp; omega) ?_)
      intro v' w1 hown' hgrow _
      have hb1 : Below w.heap.size w w1 := (hbel.alloc hbel.size _).grown hgrow (by have := hbel.size; simp; omega) (fun q hq => (hown.lt q hq).1)
      have hown2 := own_snoc HE.out hown'
      clear hgrow hown hown'
      go_wp2_with fail
      go_roundw
      case rel => exact ⟨k + 1, by omega, by go_num, hown2, hb1⟩
      case measure => simp [intOf]; omega
    · have hke : k = ys.length := by omega
      subst hke
      rw [List.take_length] at hown
      have HO := hid hown; clear hown
      have HBl := hid hbel; clear hbel
      go_wp2_with fail
      go_loopw [5, 8] (fun v i wi => ∃ m : Nat, m ≤ x ∧ i = .int .i64 m ∧ wi.ownsRow w.heap.size 3 1 v (blHi x ys ++ blLo x ys (x - m)).length (IL (blHi x ys ++ blLo x ys (x - m))) ∧ Below w.heap.size w wi) (fun _ i _ => (intOf i).toNat)
      case atStart => exact ⟨x, Nat.le_refl _, rfl, by rw [Nat.sub_self, show blLo x ys 0 = [] from rfl, List.append_nil]; exact HO.out, HBl.out⟩
      case round =>
        obtain ⟨m, hm, rfl, hown, hbel⟩ := hrel
        by_cases h0 : 0 < m
        · have hm1 : (1 : Int) ≤ m := by omega
          obtain ⟨d, hd⟩ : ∃ d, d = x - m := ⟨_, rfl⟩
          rw [← hd] at hown
          have hwd : IntKind.i64.wrap ((x : Int) - m) = (d : Int) := by rw [IntWalk.i64_in _ (by omega)]; omega
          have HD := hid hd
          have HCN := hid (Contains_any A ys c (d : Int) wr (by omega) (HC.out.later hbel))
          have hLn : (blHi x ys ++ blLo x ys d).length ≤ 60 := by
            rw [List.length_append, blHi_len]; have := blLo_len x ys d; omega
          by_cases hmem : (d : Int) ∈ ys
          · have e : blLo x ys (x - (m - 1)) = blLo x ys d := by
              rw [show x - (m - 1) = d + 1 by omega, blLo_no hmem]
            have HE := hid e
            rw [decide_eq_true hmem] at HCN
            clear hmem e hd
            go_wp2_with (go_at_call 176; refine HCN.out.mono ?_; rintro e w' ⟨rfl, rfl⟩)
            go_roundw
            case rel => exact ⟨m - 1, by omega, by go_num, by rw [HE.out]; exact hown, hbel⟩
            case measure => simp [intOf]; omega
          · have e : blHi x ys ++ blLo x ys (x - (m - 1)) = (blHi x ys ++ blLo x ys d) ++ [(m : Int)] := by
              rw [show x - (m - 1) = d + 1 by omega, blLo_yes hmem, List.append_assoc]
              congr 3
              omega
            have HE := hid e
            rw [decide_eq_false hmem] at HCN
            obtain ⟨L, hLL⟩ : ∃ L, L = blHi x ys ++ blLo x ys d := ⟨_, rfl⟩
            rw [← hLL] at hown HE hLn
            clear hmem e hd hLL
            go_wp2_with (first | (go_at_call 176; refine HCN.out.mono ?_; rintro e w' ⟨rfl, rfl⟩) | (at_builtin; refine wpList_append_own _ rfl _ _ 22 rfl w.heap.size 3 i0 (.int .i64 0) 1 8 Try.underlying22 hi hz0 hz1 hz2 rfl (by decide) _ _ _ rfl (hown.alloc _) ⟨wr.heap.size, 0, none⟩ 1 1 [.int .i64 (m : Int)] rfl rfl one_at (one_cell _) (by unfold maxLen; omega) (by omega) (by have := hbel.size; simp; omega) ?_))
            intro v' w1 hown' hgrow _
            have hb1 : Below w.heap.size w w1 := (hbel.alloc hbel.size _).grown hgrow (by have := hbel.size; simp; omega) (fun q hq => (hown.lt q hq).1)
            have hown2 := own_snoc HE.out hown'
            clear hgrow hown hown'
            go_wp2_with fail
            go_roundw
            case rel => exact ⟨m - 1, by omega, by go_num, hown2, hb1⟩
            case measure => simp [intOf]; omega
        · have hm0 : m = 0 := by omega
          subst hm0
          rw [Nat.sub_zero] at hown
          obtain ⟨A', c', rfl, ho⟩ := own_form hown rfl
          have HO2 := hid ho
          clear hown ho
          go_wp2_with fail
          go_ret
          exact ⟨A', c', rfl, HO2.out, hbel⟩

set_option maxRecDepth 100000 in
set_option maxHeartbeats 2000000 in
theorem brLengths_any (A : Option Addr) (c : Nat) (xs : List Int) (w : World) (hs : strB xs = true) (hlc : xs.length ≤ c) (hc : Cells w A xs) :
    Calls Try.prog 130 #[.slice A xs.length c] w fun e w' => ∃ A' c', e = .returned (.slice A' (blR xs xs.length).length c') ∧ Own2 w' w.heap.size w'.heap.size A' c' (blR xs xs.length) ∧ Below w.heap.size w w' := by
  obtain ⟨i0, hi, hz0, hz1, hz2⟩ := info_parts Try.infoInt
  obtain ⟨i1, hj, hy0, hy1, hy2⟩ := info_parts Try.infoInts
  have HS := hid hs; clear hs
  have HG := hid (strB_good HS.out)
  have hlen := HG.out.len
  have HC := hid hc; clear hc
  go_enter Try.func130, Try.ntmps130
  go_wp2_with fail
  go_loopw [3, 11] (fun v i wr => ∃ k : Nat, k ≤ xs.length ∧ i = .int .i64 k ∧ (∃ P C, Push wr w.heap.size v (blR xs k) P C) ∧ Below w.heap.size w wr) (fun _ i _ => xs.length - (intOf i).toNat)
  case atStart => exact ⟨0, Nat.zero_le _, rfl, ⟨_, _, push_nil _ _⟩, Below.refl _ _⟩
  case round =>
    obtain ⟨k, hk, rfl, ⟨P, C, hpush⟩, hbel⟩ := hrel
    have HP := hid hpush; clear hpush
    have HRL := hid (blR_len xs k)
    by_cases hlt : k < xs.length
    · have hx1 := HG.out.pos k hlt
      have hx2 := HG.out.le k hlt
      obtain ⟨b, o, e, hcc⟩ := (HC.out.later hbel) (by omega)
      have hck := hcc k hlt
      obtain ⟨n, hn⟩ : ∃ n : Nat, (n : Int) = xs.getD k 0 := ⟨(xs.getD k 0).toNat, by omega⟩
      have hdr := strB_drop HS.out hlt
      have HRS := hid (blR_succ xs k)
      rw [← hn] at hck hx1 hx2 hdr HRS
      rw [Int.toNat_natCast] at HRS
      have HAL := hid (blM_all (x := n) hdr.1 (fun y hy => by have := hdr.2 y hy; omega))
      have hlds : (xs.drop (k + 1)).length = xs.length - (k + 1) := List.length_drop
      have HHAS := hid fun W z (h : Cells W A xs) (bb : Bool) (hb : decide (z ∈ xs.drop (k + 1)) = bb) => l1Has_b (cutI A c (k + 1)) (xs.drop (k + 1)) (c - (k + 1)) z W (by omega) (h.cut c (k + 1) hlc) bb hb
      rw [hlds] at HHAS
      obtain ⟨ys, hys⟩ : ∃ ys, ys = xs.drop (k + 1) := ⟨_, rfl⟩
      rw [← hys] at HRS HAL HHAS
      have hcut := fun W => runI_cut_lo1 A xs.length c k (by omega) W
      have HA := hid e
      rw [e] at hcut
      subst e
      obtain ⟨wo, rfl⟩ : ∃ wo : World, wo = wr := ⟨_, rfl⟩
      clear hcc hn hdr hlds hys
      go_wp2_with fail
      go_loopw [6, 7] (fun v i wi => ∃ m : Nat, m ≤ 2 * n ∧ i = .int .i64 m ∧ wi.ownsRow wo.heap.size 3 1 v (blM n ys (2 * n - m)).length (IL (blM n ys (2 * n - m))) ∧ Below wo.heap.size wo wi) (fun _ i _ => (intOf i).toNat)
      case atStart => exact ⟨2 * n, Nat.le_refl _, by simp, by rw [Nat.sub_self]; exact World.ownsRow_nil _ _ _ _, Below.refl _ _⟩
      case round =>
        obtain ⟨m, hm, rfl, hown, hbi⟩ := hrel
        by_cases h0 : 0 < m
        · have hm1 : (0 : Int) < m := by omega
          obtain ⟨d, hd⟩ : ∃ d, d = 2 * n - m := ⟨_, rfl⟩
          have hnd : 2 * n - (m - 1) = d + 1 := by omega
          have hmd : ((2 * n : Nat) : Int) - d = m := by omega
          rw [← hd] at hown
          have hLn := blM_len n ys d
          have HYES := hid (blM_yes (x := n) (ys := ys) (k := d))
          have HNO := hid (blM_no (x := n) (ys := ys) (k := d))
          rw [hmd] at HYES HNO
          have HH := hid fun z (bb : Bool) (hb : decide (z ∈ ys) = bb) => HHAS.out wr z (HC.out.later (Below.next hbel hbi)) bb hb
          obtain ⟨L, hLL⟩ : ∃ L, L = blM n ys d := ⟨_, rfl⟩
          rw [← hLL] at hown HYES HNO hLn
          have HND := hid hnd
          have hd60 : d ≤ 60 := by omega
          clear hLL hd hmd hnd
          cases hcb : blC n ys m
          · have HE := hid (HNO.out hcb)
            clear HYES HNO
            by_cases hmn : m ≤ n
            · have hmi : (m : Int) ≤ n := by omega
              unfold blC at hcb
              rw [if_pos hmi] at hcb
              have hcb2 : decide ((n : Int) - m ∈ ys) = true := by simpa using hcb
              have HH2 := hid (HH.out _ _ hcb2)
              clear hcb hcb2
              go_wp2_with (go_at_call 75; refine HH2.out.mono ?_; rintro e w' ⟨rfl, rfl⟩)
              go_roundw
              case rel => exact ⟨m - 1, by omega, by go_num, by rw [HND.out, HE.out]; exact hown, hbi⟩
              case measure => simp [intOf]; omega
            · have hmi : ¬ (m : Int) ≤ n := by omega
              unfold blC at hcb
              rw [if_neg hmi] at hcb
              have HH2 := hid (HH.out _ _ hcb)
              clear hcb
              go_wp2_with (go_at_call 75; refine HH2.out.mono ?_; rintro e w' ⟨rfl, rfl⟩)
              go_roundw
              case rel => exact ⟨m - 1, by omega, by go_num, by rw [HND.out, HE.out]; exact hown, hbi⟩
              case measure => simp [intOf]; omega
          · have HE := hid (HYES.out hcb)
            clear HYES HNO
            have hsz := hbi.size
            by_cases hmn : m ≤ n
            · have hmi : (m : Int) ≤ n := by omega
              unfold blC at hcb
              rw [if_pos hmi] at hcb
              have hcb2 : decide ((n : Int) - m ∈ ys) = false := by simpa using hcb
              have HH2 := hid (HH.out _ _ hcb2)
              clear hcb hcb2
              go_wp2_with (first | (go_at_call 75; refine HH2.out.mono ?_; rintro e w' ⟨rfl, rfl⟩) | (at_builtin; refine wpList_append_own _ rfl _ _ 22 rfl wo.heap.size 3 i0 (.int .i64 0) 1 8 Try.underlying22 hi hz0 hz1 hz2 rfl (by decide) _ _ _ rfl (hown.alloc _) ⟨wr.heap.size, 0, none⟩ 1 1 [.int .i64 (m : Int)] rfl rfl one_at (one_cell _) (by unfold maxLen; omega) (by omega) (by simp; omega) ?_))
              intro v' w1 hown' hgrow _
              have hb1 : Below wo.heap.size wo w1 := (hbi.alloc hbi.size _).grown hgrow (by simp; omega) (fun q hq => (hown.lt q hq).1)
              have hown2 := own_snoc HE.out hown'
              clear hgrow hown hown'
              go_wp2_with fail
              go_roundw
              case rel => exact ⟨m - 1, by omega, by go_num, by rw [HND.out]; exact hown2, hb1⟩
              case measure => simp [intOf]; omega
            · have hmi : ¬ (m : Int) ≤ n := by omega
              unfold blC at hcb
              rw [if_neg hmi] at hcb
              have HH2 := hid (HH.out _ _ hcb)
              clear hcb
              go_wp2_with (first | (go_at_call 75; refine HH2.out.mono ?_; rintro e w' ⟨rfl, rfl⟩) | (at_builtin; refine wpList_append_own _ rfl _ _ 22 rfl wo.heap.size 3 i0 (.int .i64 0) 1 8 Try.underlying22 hi hz0 hz1 hz2 rfl (by decide) _ _ _ rfl (hown.alloc _) ⟨wr.heap.size, 0, none⟩ 1 1 [.int .i64 (m : Int)] rfl rfl one_at (one_cell _) (by unfold maxLen; omega) (by omega) (by simp; omega) ?_))
              intro v' w1 hown' hgrow _
              have hb1 : Below wo.heap.size wo w1 := (hbi.alloc hbi.size _).grown hgrow (by simp; omega) (fun q hq => (hown.lt q hq).1)
              have hown2 := own_snoc HE.out hown'
              clear hgrow hown hown'
              go_wp2_with fail
              go_roundw
              case rel => exact ⟨m - 1, by omega, by go_num, by rw [HND.out]; exact hown2, hb1⟩
              case measure => simp [intOf]; omega
        · have hm0 : m = 0 := by omega
          subst hm0
          rw [Nat.sub_zero, HAL.out] at hown
          obtain ⟨Ar, cr, rfl, ho⟩ := own_form hown rfl
          clear hown
          have hsz := hbi.size
          have hsz0 := hbel.size
          obtain ⟨R, hR⟩ : ∃ R, R = blL n ys := ⟨_, rfl⟩
          rw [← hR] at ho HRS ⊢
          clear hR
          go_wp2_with (at_builtin; refine wpList_append_own _ rfl _ _ 23 rfl w.heap.size 22 i1 (.slice none 0 0) 1 24 Try.underlying23 hj hy0 hy1 hy2 rfl (by decide) _ _ _ rfl ((HP.out.below hbi).out.alloc _) ⟨wr.heap.size, 0, none⟩ 1 1 [.slice Ar R.length cr] rfl rfl one_at (one_cellS _ _ _) (by have := HRL.out; unfold maxLen; omega) (by have := HRL.out; omega) (by simp; omega) ?_)
          intro v' w1 hown' hgrow _
          have hb1 : Below w.heap.size w w1 := ((hbel.trans (hbi.mono hsz0)).alloc (by omega) _).grown hgrow (by simp; omega) (fun q hq => (HP.out.out.lt q hq).1)
          have hp2 := HP.out.push hbi ho hsz0 hown' hgrow
          rw [← HRS.out] at hp2
          have HP2 := hid hp2
          clear hown' hgrow hp2
          go_wp2_with fail
          go_roundw
          case rel => exact ⟨k + 1, by omega, by go_num, ⟨_, _, HP2.out⟩, hb1⟩
          case measure => simp [intOf]; omega
    · have hkl : k = xs.length := by omega
      subst hkl
      obtain ⟨A', c', rfl, ho⟩ := HP.out.own2
      have HO := hid ho
      clear ho
      go_wp2_with fail
      go_ret
      exact ⟨A', c', rfl, HO.out, hbel⟩

set_option maxRecDepth 100000 in
set_option maxHeartbeats 2000000 in
theorem impl_BarLengths {B : Nat} (A : Option Addr) (c : Nat) (xs : List Int) (w : World) (hl : xs.length ≤ 1048576) (ho : Own w B A c xs) :
    Calls Try.prog 65 #[.slice A xs.length c] w fun e w' => ∃ A' c', e = .returned (.tuple #[.slice A' (blF xs).length c', .bool (strB xs)]) ∧ Own2 w' w.heap.size w'.heap.size A' c' (blF xs) ∧ Below w.heap.size w w' := by
  have hlc := ho.cap
  have HC := hid ho.cells; clear ho
  cases hs : strB xs
  · rw [blF_f hs]
    have HS := hid hs; clear hs
    go_enter Try.func65, Try.ntmps65
    go_wp2_with (go_at_call 131; refine (isStrict_b _ _ _ _ hl HC.out _ HS.out).mono ?_; rintro e w' ⟨rfl, rfl⟩)
    go_ret2
    exact ⟨none, 0, rfl, own2_nil _ _ _, Below.refl _ _⟩
  rw [blF_t hs]
  have HS := hid hs; clear hs
  have HG := hid (strB_good HS.out)
  have hlen := HG.out.len
  have hmkO := run_make_row' (P := Try.prog) 23 22 (.slice none 0 0) 24 Try.underlying23 Try.infoInts rfl .i64 .i64 xs.length (by omega) (by omega)
  go_enter Try.func65, Try.ntmps65
  go_wp2_with (go_at_call 131; refine (isStrict_b _ _ _ _ hl HC.out _ HS.out).mono ?_; rintro e w' ⟨rfl, rfl⟩)
  clear hmkO
  go_loopw [15] (fun i wr => ∃ k : Nat, k ≤ xs.length ∧ i = .int .i64 k ∧ (∃ P C, Fill wr w.heap.size w.heap.size xs.length (blR xs k) P C) ∧ Below w.heap.size w wr) (fun i _ => xs.length - (intOf i).toNat)
  case atStart => exact ⟨0, Nat.zero_le _, rfl, ⟨_, _, fill_start w xs.length (by unfold maxLen; omega)⟩, (Below.refl _ _).alloc (Nat.le_refl _) _⟩
  case round =>
    obtain ⟨k, hk, rfl, ⟨P, C, hfill⟩, hbel⟩ := hrel
    obtain ⟨wo, rfl⟩ : ∃ wo : World, wo = wr := ⟨_, rfl⟩
    have HF := hid hfill; clear hfill
    have HRL := hid (blR_len xs k)
    by_cases hlt : k < xs.length
    · have hx1 := HG.out.pos k hlt
      have hx2 := HG.out.le k hlt
      obtain ⟨b, o, e, hcc⟩ := (HC.out.later hbel) (by omega)
      have hck := hcc k hlt
      obtain ⟨n, hn⟩ : ∃ n : Nat, (n : Int) = xs.getD k 0 := ⟨(xs.getD k 0).toNat, by omega⟩
      have hdr := strB_drop HS.out hlt
      have HRS := hid (blR_succ xs k)
      rw [← hn] at hck hx1 hx2 hdr HRS
      rw [Int.toNat_natCast] at HRS
      have hlds : (xs.drop (k + 1)).length = xs.length - (k + 1) := List.length_drop
      have HBL := hid (barLengthsAt_any (cutI A c (k + 1)) (c - (k + 1)) (xs.drop (k + 1)) n wo (by omega) (by omega) (fun j hj => by
        have := hdr.2 ((xs.drop (k + 1)).getD j 0) (by rw [List.getD_eq_getElem?_getD, List.getElem?_eq_getElem hj]; exact List.getElem_mem hj); omega) ((HC.out.later hbel).cut c (k + 1) hlc))
      rw [hlds] at HBL
      obtain ⟨R, hR⟩ : ∃ R, R = blL n (xs.drop (k + 1)) := ⟨_, rfl⟩
      rw [← hR] at HRS HBL
      have hcut := fun W => runI_cut_lo1 A xs.length c k (by omega) W
      rw [e] at hcut HBL
      subst e
      have HB := hid hbel; clear hbel
      clear hcc hn hdr hlds hR
      go_wp2_with fail
      refine HBL.out.mono ?_
      rintro e w4 ⟨A', c', rfl, ho, hb⟩
      have hput := HF.out.put (by rw [HRL.out]; exact hlt) hb ho
      rw [HRL.out, ← HRS.out] at hput
      obtain ⟨⟨uo, huo⟩, hfz, hf2, hbb⟩ := hput
      have HF2 := hid hf2
      have hb3 := hid (HB.out.trans hbb)
      clear hf2 hbb ho hb
      go_wp2_with fail
      go_roundw
      case rel => exact ⟨k + 1, by omega, by go_num, ⟨_, _, HF2.out⟩, hb3.out⟩
      case measure => simp [intOf]; omega
    · have hku : k = xs.length := by omega
      subst hku
      have HO := hid (HF.out.own2 HRL.out)
      clear hlt
      go_wp2_with fail
      go_ret2
      exact ⟨_, _, by rw [HRL.out]; rfl, HO.out, hbel⟩

set_option maxHeartbeats 1000000 in
theorem spec_BarLengths {B : Nat} (A : Option Addr) (c : Nat) (xs : List Int) (w : World) (hl : xs.length ≤ 1048576) (ho : Own w B A c xs) :
    Calls Try.prog 64 #[.slice A xs.length c] w fun e w' => ∃ A' c', e = .returned (.tuple #[.slice A' (blF xs).length c', .bool (strB xs)]) ∧ Own2 w' w.heap.size w'.heap.size A' c' (blF xs) ∧ Below w.heap.size w w' := by
  have hlc := ho.cap
  have HC := hid ho.cells; clear ho
  cases hs : strB xs
  · rw [blF_f hs]
    have HS := hid hs; clear hs
    go_enter Try.func64, Try.ntmps64
    go_wp2_with (go_at_call 104; refine (brIs_b _ _ _ _ hl HC.out _ HS.out).mono ?_; rintro e w' ⟨rfl, n, rfl⟩)
    go_ret2
    exact ⟨none, 0, rfl, own2_nil _ _ _, below_drew' _ _⟩
  rw [blF_t hs]
  have HS := hid hs; clear hs
  have HBL := hid fun W (h : Cells W A xs) => brLengths_any A c xs W HS.out hlc h
  have hRL := blR_len xs xs.length
  obtain ⟨R, hR⟩ : ∃ R, R = blR xs xs.length := ⟨_, rfl⟩
  rw [← hR] at HBL ⊢
  clear hRL hR
  go_enter Try.func64, Try.ntmps64
  go_wp2_with (first | (go_at_call 104; refine (brIs_b _ _ _ _ hl HC.out _ HS.out).mono ?_; rintro e w' ⟨rfl, n, rfl⟩) | (go_at_call 130; refine (HBL.out _ (by exact HC.out)).mono ?_; rintro e w2 ⟨A2, c2, rfl, o2, b2⟩))
  go_ret2
  exact ⟨A2, c2, rfl, o2, Below.next (below_drew' w n) b2⟩
theorem blF_bound (xs : List Int) : (blF xs).length ≤ 1048576 ∧ tot (blF xs) ≤ 1048576 := by
  cases hs : strB xs
  · rw [blF_f hs]; simp [tot]
  · rw [blF_t hs]
    have G := strB_good hs
    have h1 := G.len
    have h2 : ∀ r ∈ blR xs xs.length, r.length ≤ 100 := fun r hr => by
      obtain ⟨i, hi, rfl⟩ := List.mem_map.1 hr
      have hi := List.mem_range.1 hi
      have := G.le i hi
      have a := blLo_len (xs.getD i 0).toNat (xs.drop (i + 1)) (xs.getD i 0).toNat
      have b := blHi_len (xs.getD i 0).toNat (xs.drop (i + 1))
      rw [List.length_drop] at b
      unfold blL
      rw [List.length_append]; omega
    have tle : ∀ rows : List (List Int), (∀ r ∈ rows, r.length ≤ 100) → tot rows ≤ rows.length * 100 := by
      intro rows h
      induction rows with
      | nil => simp [tot]
      | cons r t ih =>
        have h1 := h r (List.mem_cons_self ..)
        have h2 := ih fun x hx => h x (List.mem_cons_of_mem _ hx)
        rw [tot, List.length_cons, Nat.add_mul]; omega
    have := tle _ h2
    rw [blR_len] at this ⊢
    omega
theorem bound_BarLengths (xs : List Int) : (blF xs).length ≤ 1048576 ∧ tot (blF xs) ≤ 1048576 := blF_bound xs
end Go.Proofs.Ythlamneaghbjbaa
