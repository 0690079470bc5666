/-
  Contracts: OddFromStrict on both sides.
-/
import Derived.Test.YthlamneaghbjbaaOdMath
import Derived.Test.YthlamneaghbjbaaRep
import Derived.Test.YthlamneaghbjbaaTkb
namespace Go.Proofs.Ythlamneaghbjbaa
open Go.RowKit

theorem ownsRow_bel {w w' : World} {B e s n : Nat} {v : Value} {xs : List Value} (h : w.ownsRow B e s v n xs) (hb : Below w.heap.size w w') : w'.ownsRow B e s v n xs := by
  refine ⟨h.1, ?_⟩
  rcases h.2 with hn | ⟨g, cap, cur, hv, hbb, hgg, rest⟩
  · exact .inl hn
  · exact .inr ⟨g, cap, cur, hv, hbb, by rw [hb.block g (Array.getElem?_eq_some_iff.1 hgg).1]; exact hgg, rest⟩

set_option maxRecDepth 100000 in
set_option maxHeartbeats 2000000 in
theorem impl_OddFromStrict (A : Option Addr) (c : Nat) (xs : List Int) (w : World) (hl : xs.length ≤ 1048576) (hc : Cells w A xs) :
    Calls Try.prog 69 #[.slice A xs.length c] w fun e w' => ∃ A' c', e = .returned (.tuple #[.slice A' (ofF xs).length c', .bool (strB xs)]) ∧ Own w' w.heap.size A' c' (ofF xs) ∧ Below w.heap.size w w' := by
  obtain ⟨i0, hi, hz0, hz1, hz2⟩ := info_parts Try.infoInt
  have HC := hid hc; clear hc
  cases hs : strB xs
  · rw [ofF_f hs]
    have HS := hid hs; clear hs
    go_enter Try.func69, Try.ntmps69
    go_wp2_with (go_at_call 131; refine (isStrict_b _ _ _ _ hl HC.out _ HS.out).mono ?_; rintro e w' ⟨rfl, rfl⟩)
    go_ret2
    exact ⟨none, 0, rfl, own_nil _ _, Below.refl _ _⟩
  rw [ofF_t hs, sortD_len]
  have HS := hid hs; clear hs
  have HG := hid (strB_good HS.out)
  have hlen := HG.out.len
  have HOL := hid fun k (h : k ≤ xs.length) => oddL_le HG.out k h
  have HSU := hid fun k => (show oddL xs (k + 1) = oddL xs k ++ List.replicate ((xs.getD k 0).toNat / od (xs.getD k 0).toNat) (od (xs.getD k 0).toNat : Int) from rfl)
  have HO0 := hid (show oddL xs 0 = [] from rfl)
  have HGP := hid fun B A' c' W (h : Own W B A' c' (oddL xs xs.length)) => gpf_any A' c' (oddL xs xs.length) W (by have := HOL.out xs.length (Nat.le_refl _); omega) h
  rw [show ((oddL xs xs.length).mergeSort fun x y => decide (x ≤ y)).reverse = sortD (oddL xs xs.length) from rfl] at HGP
  obtain ⟨O, hO⟩ : ∃ O, O = oddL xs := ⟨_, rfl⟩
  rw [← hO] at HOL HSU HO0 HGP
  rw [← hO]
  clear hO
  go_enter Try.func69, Try.ntmps69
  go_wp2_with (go_at_call 131; refine (isStrict_b _ _ _ _ hl HC.out _ HS.out).mono ?_; rintro e w' ⟨rfl, rfl⟩)
  go_loopw [4, 13] (fun v i wr => ∃ k : Nat, k ≤ xs.length ∧ i = .int .i64 k ∧ wr.ownsRow w.heap.size 3 1 v (O k).length (IL (O k)) ∧ Below w.heap.size w wr) (fun _ i _ => xs.length - (intOf i).toNat)
  case atStart => exact ⟨0, Nat.zero_le _, rfl, by rw [HO0.out]; exact World.ownsRow_nil _ _ _ _, Below.refl _ _⟩
  case round =>
    obtain ⟨k, hk, rfl, hown, hbel⟩ := hrel
    obtain ⟨wo, rfl⟩ : ∃ wo : World, wo = wr := ⟨_, rfl⟩
    by_cases hlt : k < xs.length
    · obtain ⟨b, o, rfl, hcc⟩ := (HC.out.later hbel) (by omega)
      have hck := hcc k hlt
      have hx1 := HG.out.pos k hlt
      have hx2 := HG.out.le k hlt
      have HE := hid (HSU.out k)
      obtain ⟨x, hx⟩ : ∃ x : Nat, (x : Int) = xs.getD k 0 := ⟨(xs.getD k 0).toNat, by omega⟩
      rw [← hx] at hck hx1 hx2 HE
      rw [Int.toNat_natCast] at HE
      have hOl := HOL.out k hk
      have HOW := hid hown
      have HB := hid hbel
      have hszo := hbel.size
      obtain ⟨L, hL⟩ : ∃ L, L = O k := ⟨_, rfl⟩
      rw [← hL] at HE hOl HOW
      have HLL := hid hL
      obtain ⟨ho1, ho2, ho3, ho4, _⟩ := od_ok x (by omega) (by omega)
      obtain ⟨q, hq⟩ : ∃ q, q = x / od x := ⟨_, rfl⟩
      obtain ⟨d, hd⟩ : ∃ d, d = od x := ⟨_, rfl⟩
      have HD := hid hd
      have HQ := hid hq
      rw [← hq, ← hd] at HE
      have hq30 : 1 ≤ q ∧ q ≤ 30 := by rw [hq]; exact ⟨ho4, Nat.le_trans (Nat.div_le_self _ _) (by omega)⟩
      clear hcc hown hbel hL ho3 ho4 hd hq hx
      go_wp2_with fail
      go_loop [7] (fun yv => ∃ y : Nat, 1 ≤ y ∧ y ≤ 30 ∧ yv = .int .i64 y ∧ Hid (od y = od x)) (fun yv => (intOf yv).toNat)
      case atStart => exact ⟨x, by omega, by omega, rfl, hid rfl⟩
      case round =>
        obtain ⟨y, hy1, hy2, rfl, HY⟩ := hrel
        by_cases hev : y % 2 = 0
        · obtain ⟨h1, h2⟩ := od_half y (by omega) hy1 hev
          have hr : Int.tmod (y : Int) 2 = 0 := by
            have e : Int.tmod (y : Int) 2 = ((y % 2 : Nat) : Int) := rfl
            rw [e, hev]; rfl
          obtain ⟨z, hz⟩ : ∃ z, z = y / 2 := ⟨_, rfl⟩
          have hqt : Int.tdiv (y : Int) 2 = (z : Int) := by rw [hz]; rfl
          rw [← hz] at h1 h2
          have HH := hid (h1.trans HY.out)
          have hzy : z < y := by omega
          clear hev h1 hz
          go_wp2_with fail
          go_round
          case rel => exact ⟨z, h2, by omega, by go_num, HH⟩
          case measure => simp [intOf]; omega
        · have hyo := od_odd y (by omega) (by omega)
          have hyd : y = d := by rw [HD.out, ← HY.out, hyo]
          subst hyd
          have hr : Int.tmod (y : Int) 2 = 1 := by
            have e : Int.tmod (y : Int) 2 = ((y % 2 : Nat) : Int) := rfl
            rw [e, show y % 2 = 1 by omega]; rfl
          have hne : ¬ (y : Int) = 0 := by omega
          have hqt : Int.tdiv (x : Int) (y : Int) = (q : Int) := by rw [HQ.out, ← HD.out]; rfl
          have hc1 : (wo.alloc (.cells #[.int .i64 (y : Int)] 3)).cell? ⟨wo.heap.size, 0, none⟩ = some (.int .i64 y) := World.ownsRow.cellAt (World.ownsRow_lit (base := wo.heap.size) (e := 3) (size := 1) wo #[.int .i64 (y : Int)] 1 (Nat.le_refl _) (by unfold maxLen; omega) rfl) 0 (by omega)
          have HRP := hid (repeat1_any wo.heap.size (y : Int) q 1 (wo.alloc (.cells #[.int .i64 (y : Int)] 3)) hq30.1 hq30.2 hc1)
          have HB1 := hid (show Below wo.heap.size wo (wo.alloc (.cells #[.int .i64 (y : Int)] 3)) from (Below.refl _ _).alloc (Nat.le_refl _) _)
          obtain ⟨w1, hw1⟩ : ∃ w1, w1 = wo.alloc (.cells #[.int .i64 (y : Int)] 3) := ⟨_, rfl⟩
          rw [← hw1] at HRP HB1
          have HW1 := hid hw1
          have hq0 := hq30.1
          have hq3 := hq30.2
          have HDY := hid (show O (k + 1) = L ++ List.replicate q (y : Int) from HE.out)
          clear hev hyo hc1 hw1
          have hqr : (IL (List.replicate q (y : Int))).length = q := by simp [IL]
          have HQR := hid hqr; clear hqr
          go_wp2_with (first | (go_at_call 136; rw [← HW1.out]; refine HRP.out.mono ?_; rintro e w2 ⟨A2, c2, rfl, o2, b2⟩; have B2 := Below.next HB1.out b2; obtain ⟨g2, rfl, hg2, _⟩ := o2.at_ (by rw [List.length_replicate]; omega); have HO2 := hid o2; clear o2; have HZ2 := hid (Nat.le_trans hszo B2.size)) | (at_builtin; refine wpList_append_own _ rfl _ _ 22 rfl w.heap.size 3 i0 (.int .i64 0) 1 8 Try.underlying22 hi hz0 hz1 hz2 rfl (by decide) _ _ _ rfl (ownsRow_bel HOW.out B2) ⟨g2, 0, none⟩ q c2 (IL (List.replicate q (y : Int))) rfl (by rw [HQR.out, Nat.mul_one]) (cells_news HO2.out.cells) (IL_oneD _) (by unfold maxLen; omega) (by omega) (by have := HZ2.out; omega) ?_))
          intro v' w3 hown' hgrow _
          have hb3 : Below w.heap.size w w3 := (HB.out.trans (B2.mono hszo)).grown hgrow HZ2.out (fun p hp => (HOW.out.lt p hp).1)
          have hown2 : w3.ownsRow w.heap.size 3 1 v' (O (k + 1)).length (IL (O (k + 1))) := by
            have h := hown'
            rw [HDY.out, List.length_append, List.length_replicate, show IL (L ++ List.replicate q (y : Int)) = IL L ++ IL (List.replicate q (y : Int)) by simp [IL]]
            exact h
          have HB3 := hid hb3
          clear hown' hgrow hb3
          go_wp2_with fail
          go_roundw
          case rel => exact ⟨k + 1, by omega, by go_num, hown2, HB3.out⟩
          case measure => simp [intOf]; omega
    · have hkn : k = xs.length := by omega
      subst hkn
      obtain ⟨A1, c1, rfl, ho⟩ := own_form hown rfl
      have HGQ := hid (HGP.out _ A1 c1 wo ho)
      have HB := hid hbel
      clear hown ho hbel
      go_wp2_with (go_at_call 137; refine HGQ.out.mono ?_; rintro e w3 ⟨rfl, o3, b3⟩)
      go_ret2
      exact ⟨A1, c1, rfl, o3, b3 _ _ (Nat.le_refl _) HB.out⟩

set_option maxRecDepth 100000 in
set_option maxHeartbeats 2000000 in
theorem spec_OddFromStrict (A : Option Addr) (c : Nat) (xs : List Int) (w : World) (hl : xs.length ≤ 1048576) (hc : Cells w A xs) :
    Calls Try.prog 68 #[.slice A xs.length c] w fun e w' => ∃ A' c', e = .returned (.tuple #[.slice A' (ofF xs).length c', .bool (strB xs)]) ∧ Own w' w.heap.size A' c' (ofF xs) ∧ Below w.heap.size w w' := by
  have HC := hid hc; clear hc
  cases hs : strB xs
  · rw [ofF_f hs]
    have HS := hid hs; clear hs
    go_enter Try.func68, Try.ntmps68
    go_wp2_with (go_at_call 104; refine (brIs_b _ _ _ _ hl HC.out _ HS.out).mono ?_; rintro e w' ⟨rfl, n, rfl⟩)
    go_ret2
    exact ⟨none, 0, rfl, own_nil _ _, below_drew' _ _⟩
  rw [ofF_t hs]
  have HS := hid hs; clear hs
  have HG := hid (strB_good HS.out)
  have hlen := HG.out.len
  have HOL := hid fun k (h : k ≤ xs.length) => oddL_le HG.out k h
  have HSU := hid fun k => (show oddL xs (k + 1) = oddL xs k ++ List.replicate ((xs.getD k 0).toNat / od (xs.getD k 0).toNat) (od (xs.getD k 0).toNat : Int) from rfl)
  have HO0 := hid (show oddL xs 0 = [] from rfl)
  obtain ⟨O, hO⟩ : ∃ O, O = oddL xs := ⟨_, rfl⟩
  rw [← hO] at HOL HSU HO0
  rw [← hO]
  clear hO
  go_enter Try.func68, Try.ntmps68
  go_wp2_with (go_at_call 104; refine (brIs_b _ _ _ _ hl HC.out _ HS.out).mono ?_; rintro e w' ⟨rfl, nd, rfl⟩)
  have hB0 : Below w.heap.size w (w.drewN nd) := below_drew' w nd
  go_loopw [4, 13] (fun v i wr => ∃ (k : Nat) (L : List Int) (A1 : Option Addr) (c1 : Nat), k ≤ xs.length ∧ i = .int .i64 k ∧ v = .slice A1 L.length c1 ∧ Hid (Own wr w.heap.size A1 c1 L) ∧ Hid (L.Perm (O k) ∧ L.Pairwise (· ≥ ·)) ∧ Below w.heap.size w wr) (fun _ i _ => xs.length - (intOf i).toNat)
  case atStart => exact ⟨0, [], none, 0, Nat.zero_le _, rfl, rfl, hid (own_nil _ _), hid ⟨by rw [HO0.out], by simp⟩, hB0⟩
  case round =>
    obtain ⟨k, L, A1, c1, hk, rfl, rfl, HO, HL, hbel⟩ := hrel
    obtain ⟨wo, rfl⟩ : ∃ wo : World, wo = wr := ⟨_, rfl⟩
    by_cases hlt : k < xs.length
    · obtain ⟨b, o, rfl, hcc⟩ := (HC.out.later hbel) (by omega)
      have hck := hcc k hlt
      have hx1 := HG.out.pos k hlt
      have hx2 := HG.out.le k hlt
      have HE := hid (HSU.out k)
      obtain ⟨x, hx⟩ : ∃ x : Nat, (x : Int) = xs.getD k 0 := ⟨(xs.getD k 0).toNat, by omega⟩
      rw [← hx] at hck hx1 hx2 HE
      rw [Int.toNat_natCast] at HE
      have hOl := HOL.out (k + 1) hlt
      rw [HE.out, List.length_append, List.length_replicate] at hOl
      have hLl : L.length = (O k).length := HL.out.1.length_eq
      have HB := hid hbel
      obtain ⟨ho1, ho2, ho3, ho4, _⟩ := od_ok x (by omega) (by omega)
      obtain ⟨q, hq⟩ : ∃ q, q = x / od x := ⟨_, rfl⟩
      obtain ⟨d, hd⟩ : ∃ d, d = od x := ⟨_, rfl⟩
      have HD := hid hd
      have HQ := hid hq
      rw [← hq] at hOl
      rw [← hq, ← hd] at HE
      have hq30 : 1 ≤ q ∧ q ≤ 30 := by rw [hq]; exact ⟨ho4, Nat.le_trans (Nat.div_le_self _ _) (by omega)⟩
      have HLq := hid (show L.length + q ≤ 900 by omega)
      clear hcc hbel ho3 ho4 hd hq hx hOl hLl
      go_wp2_with fail
      go_loop [6, 7] (fun yv mv => ∃ y m : Nat, 1 ≤ y ∧ y ≤ 30 ∧ yv = .int .i64 y ∧ mv = .int .i64 m ∧ m ≤ 30 ∧ Hid (od y = od x ∧ m * y = x)) (fun yv _ => (intOf yv).toNat)
      case atStart => exact ⟨x, 1, by omega, by omega, rfl, rfl, by omega, hid ⟨rfl, Nat.one_mul _⟩⟩
      case round =>
        obtain ⟨y, m, hy1, hy2, rfl, rfl, hm30, HY⟩ := hrel
        by_cases hev : y % 2 = 0
        · obtain ⟨h1, h2⟩ := od_half y (by omega) hy1 hev
          have hr : Int.tmod (y : Int) 2 = 0 := by
            have e : Int.tmod (y : Int) 2 = ((y % 2 : Nat) : Int) := rfl
            rw [e, hev]; rfl
          obtain ⟨z, hz⟩ : ∃ z, z = y / 2 := ⟨_, rfl⟩
          have hqt : Int.tdiv (y : Int) 2 = (z : Int) := by rw [hz]; rfl
          rw [← hz] at h1 h2
          have hyz : y = 2 * z := by omega
          have hmz : m * 2 * z = x := by rw [Nat.mul_assoc, ← hyz]; exact HY.out.2
          have hm2 : m * 2 ≤ x := by rw [← hmz]; exact Nat.le_mul_of_pos_right _ h2
          have HH := hid (show od z = od x ∧ m * 2 * z = x from ⟨h1.trans HY.out.1, hmz⟩)
          have hzy : z < y := by omega
          clear hev h1 hz hyz hmz
          go_wp2_with fail
          go_round
          case rel => exact ⟨z, m * 2, h2, by omega, by go_num, by go_num, by omega, HH⟩
          case measure => simp [intOf]; omega
        · have hyo := od_odd y (by omega) (by omega)
          have hyd : y = d := by rw [HD.out, ← HY.out.1, hyo]
          have hmq : m = q := by
            rw [HQ.out, ← HD.out, ← hyd]
            exact (Nat.div_eq_of_eq_mul_left (by omega) HY.out.2.symm).symm
          subst hyd
          subst hmq
          have hr : Int.tmod (y : Int) 2 = 1 := by
            have e : Int.tmod (y : Int) 2 = ((y % 2 : Nat) : Int) := rfl
            rw [e, show y % 2 = 1 by omega]; rfl
          have hq0 := hq30.1
          clear hev hyo
          go_wp2_with fail
          go_loopw [4, 7] (fun v jv wi => ∃ (j : Nat) (M : List Int) (A2 : Option Addr) (c2 : Nat), j ≤ m ∧ jv = .int .i64 ((m - j : Nat) : Int) ∧ v = .slice A2 M.length c2 ∧ Hid (Own wi w.heap.size A2 c2 M) ∧ Hid (M.Perm (L ++ List.replicate j (y : Int)) ∧ M.Pairwise (· ≥ ·)) ∧ Below w.heap.size w wi) (fun _ jv _ => (intOf jv).toNat)
          case atStart => exact ⟨0, L, A1, c1, Nat.zero_le _, rfl, rfl, HO, hid ⟨by simp, HL.out.2⟩, HB.out⟩
          case round =>
            obtain ⟨j, M, A2, c2, hj, rfl, rfl, HO2, HM, hbi⟩ := hrel
            by_cases hjl : j < m
            · obtain ⟨p, hp⟩ : ∃ p, p = m - j := ⟨_, rfl⟩
              have hp0 : (0 : Int) < (p : Int) := by omega
              have hp30 : p ≤ 30 := by omega
              have hML : M.length ≤ 900 := by
                have := HM.out.1.length_eq
                rw [List.length_append, List.length_replicate] at this
                have := HLq.out
                omega
              have HBP := hid (brPut_any A2 c2 M (y : Int) wr (by omega) HO2.out)
              have HNP := hid (show (insD M (y : Int)).Perm (L ++ List.replicate (j + 1) (y : Int)) ∧ (insD M (y : Int)).Pairwise (· ≥ ·) from ⟨by
                refine (insD_perm M (y : Int)).trans ((List.Perm.cons (y : Int) HM.out.1).trans ?_)
                rw [List.replicate_succ]
                exact List.perm_middle.symm, insD_desc HM.out.2⟩)
              have HP1 := hid (show m - (j + 1) = p - 1 by omega)
              obtain ⟨R, hR⟩ : ∃ R, R = insD M (y : Int) := ⟨_, rfl⟩
              rw [← hR] at HBP HNP
              have hszi := hbi.size
              rw [← hp]
              clear hR hp
              go_wp2_with (go_at_call 135; refine HBP.out.mono ?_; rintro e w4 ⟨A4, c4, rfl, o4, b4⟩)
              go_roundw
              case rel => exact ⟨j + 1, R, A4, c4, by omega, by rw [HP1.out]; go_num, rfl, hid (o4.more hszi), HNP, Below.next hbi b4⟩
              case measure => simp [intOf]; omega
            · have hje : j = m := by omega
              subst hje
              rw [Nat.sub_self]
              have HNP := hid (show M.Perm (O (k + 1)) ∧ M.Pairwise (· ≥ ·) from ⟨by rw [HE.out]; exact HM.out.1.trans (HL.out.1.append_right _), HM.out.2⟩)
              go_wp2_with fail
              go_roundw
              case rel => exact ⟨k + 1, M, A2, c2, by omega, by go_num, rfl, HO2, HNP, hbi⟩
              case measure => simp [intOf]; omega
    · have hkn : k = xs.length := by omega
      subst hkn
      have he : sortD (O xs.length) = L := sortD_of HL.out.1 HL.out.2
      have HEE := hid he
      clear he
      go_wp2_with fail
      go_ret2
      exact ⟨A1, c1, by rw [HEE.out]; rfl, by rw [HEE.out]; exact HO.out, hbel⟩
end Go.Proofs.Ythlamneaghbjbaa
