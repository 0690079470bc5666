/-
  Contracts: StrictFromOdd on both sides.
-/
import Derived.Test.YthlamneaghbjbaaSfMath
import Derived.Test.YthlamneaghbjbaaBlk
import Derived.Test.YthlamneaghbjbaaTkb
import Derived.Test.YthlamneaghbjbaaOd
namespace Go.Proofs.Ythlamneaghbjbaa
open Go.RowKit

theorem und31 : Try.prog.underlying 90 = some (.array 31 3) := by kernel_rfl
theorem ix31 (f : Nat → Int) (i : Nat) (hi : i < 31) (w : World) : (Instr.index 90 (.agg (ca 31 fun v => .int .i64 (f v))) (.int .i64 i)).run Try.prog w = .ok (.int .i64 (f i)) w := by
  obtain ⟨i0, hi0, hz0, hz1, hz2⟩ := info_parts Try.infoInt
  simp [Instr.index, run_underlying und31, asIntOf, go_sem, sizeOf, typeInfo, hi0, hz1]
  rw [if_pos hi, ca_get _ _ _ hi]; rfl
theorem sz31 : (Try.prog.info? 90).map (·.size) = some 31 := by kernel_rfl
theorem and_pow : ∀ m : Nat, m < 31 → ∀ k : Nat, k < 5 → bits BinOp.and IntKind.i64 (m : Int) ((2 ^ k : Nat) : Int) = if m / 2 ^ k % 2 = 1 then ((2 ^ k : Nat) : Int) else 0 := by decide +kernel
def cvA (xs : List Int) (k : Nat) : Nat → Value := fun v => .int .i64 (cntN xs (v : Int) k : Nat)
theorem cvA_upd (xs : List Int) (k x : Nat) (h : xs.getD k 0 = (x : Int)) (v : Nat) : updV (cvA xs k) x (.int .i64 ((cntN xs (x : Int) k : Nat) + 1)) v = cvA xs (k + 1) v := by
  unfold updV cvA
  by_cases e : v = x
  · subst e; rw [if_pos rfl, cntN, if_pos h]; rfl
  · rw [if_neg e, cntN, if_neg (by rw [h]; omega), Nat.add_zero]

theorem cntN_run {xs : List Int} {v : Int} {a : Nat} : ∀ d, (∀ j, a ≤ j → j < a + d → xs.getD j 0 = v) → cntN xs v (a + d) = cntN xs v a + d
  | 0, _ => rfl
  | d + 1, h => by
    rw [← Nat.add_assoc, cntN, if_pos (h (a + d) (by omega) (by omega)), cntN_run d fun j h1 h2 => h j h1 (by omega)]; omega

set_option maxRecDepth 100000 in
set_option maxHeartbeats 4000000 in
theorem impl_StrictFromOdd (A : Option Addr) (c : Nat) (xs : List Int) (w : World) (hl : xs.length ≤ 1048576) (hc : Cells w A xs) :
    Calls Try.prog 71 #[.slice A xs.length c] w fun e w' => ∃ A' c', e = .returned (.tuple #[.slice A' (sfF xs).length c', .bool (sfB xs)]) ∧ Own w' w.heap.size A' c' (sfF xs) ∧ Below w.heap.size w w' := by
  obtain ⟨i0, hi, hz0, hz1, hz2⟩ := info_parts Try.infoInt
  have HC := hid hc; clear hc
  cases hg : good xs
  · have hb : sfB xs = false := by simp [sfB, hg]
    rw [sfF_f hb, hb]
    have H := hid hg; clear hg hb
    go_enter Try.func71, Try.ntmps71
    go_wp2_with (go_at_call 105; refine (IsPartition_b _ _ _ _ hl HC.out _ H.out).mono ?_; rintro e w' ⟨rfl, rfl⟩)
    go_ret2
    exact ⟨none, 0, rfl, own_nil _ _, Below.refl _ _⟩
  have HG := hid ((good_iff xs).1 hg)
  have H := hid hg
  have hlen := HG.out.len
  have HNO := hid fun k (hk : k < xs.length) => odd_no hk
  have HYES := hid (odd_yes hg)
  have HSF := hid (fun h : sfB xs = true => sfF_t h)
  have HSN := hid (fun h : sfB xs = false => sfF_f h)
  have HCU := hid fun k x h v => cvA_upd xs k x h v
  have HGP := hid fun B A' c' W (h : Own W B A' c' (hiL xs 0 31)) => gpf_any A' c' (hiL xs 0 31) W (by have := hiL_len xs 31 0; omega) h
  rw [show ((hiL xs 0 31).mergeSort fun x y => decide (x ≤ y)).reverse = sortD (hiL xs 0 31) from rfl] at HGP
  have HGL := hid (show ∀ v, cntN xs (v : Int) xs.length ≤ 30 from fun v => by have := cntN_le xs (v : Int) xs.length; omega)
  have HHS := hid fun n => hiL_snoc xs n 0
  have HHL := hid fun n => hiL_len xs n 0
  obtain ⟨b, hb⟩ : ∃ b, b = sfB xs := ⟨_, rfl⟩
  obtain ⟨F, hF⟩ : ∃ F, F = sfF xs := ⟨_, rfl⟩
  rw [← hb] at HNO HYES
  rw [← hb, ← hF] at HSF HSN ⊢
  obtain ⟨Z, hZ⟩ : ∃ Z, Z = w.alloc (.cells #[.int .i64 0, .int .i64 0, .int .i64 0, .int .i64 0, .int .i64 0, .int .i64 0, .int .i64 0, .int .i64 0, .int .i64 0, .int .i64 0, .int .i64 0, .int .i64 0, .int .i64 0, .int .i64 0, .int .i64 0, .int .i64 0, .int .i64 0, .int .i64 0, .int .i64 0, .int .i64 0, .int .i64 0, .int .i64 0, .int .i64 0, .int .i64 0, .int .i64 0, .int .i64 0, .int .i64 0, .int .i64 0, .int .i64 0, .int .i64 0, .int .i64 0] 90) := ⟨_, rfl⟩
  have HB0 := hid (show Blk Z w.heap.size 90 31 (cvA xs 0) by rw [hZ]; exact (show Blk (w.alloc (.cells (ca 31 fun _ => .int .i64 0) 90)) w.heap.size 90 31 (cvA xs 0) from (Blk.new w 90 31 _).to fun k hk => rfl))
  have HZZ := hid hZ
  have HBZ := hid (show Below w.heap.size w Z by rw [hZ]; exact (Below.refl _ _).alloc (Nat.le_refl _) _)
  have HZS := hid (show Z.heap.size = w.heap.size + 1 by rw [hZ]; simp)
  clear hg hb hF hZ
  go_enter Try.func71, Try.ntmps71
  go_wp2_with (go_at_call 105; refine (IsPartition_b _ _ _ _ hl HC.out _ H.out).mono ?_; rintro e w' ⟨rfl, rfl⟩)
  rw [← HZZ.out]
  clear HZZ
  go_loopw [16] (fun i wr => ∃ k : Nat, k ≤ xs.length ∧ i = .int .i64 k ∧ Hid (Blk wr w.heap.size 90 31 (cvA xs k)) ∧ Hid (∀ j, j < k → Int.tmod (xs.getD j 0) 2 = 1) ∧ Below w.heap.size w wr ∧ wr.heap.size = w.heap.size + 1) (fun i _ => xs.length - (intOf i).toNat)
  case atStart => exact ⟨0, Nat.zero_le _, rfl, HB0, hid fun j hj => absurd hj (by omega), HBZ.out, HZS.out⟩
  case round =>
    obtain ⟨k, hk, rfl, HBK, HOD, hbel, hszr⟩ := hrel
    have HSZ := hid hszr; clear hszr
    by_cases hlt : k < xs.length
    · obtain ⟨b1, o1, rfl, hcc⟩ := (HC.out.later hbel) (by omega)
      have hck := hcc k hlt
      have hx1 := HG.out.pos k hlt
      have hx2 := HG.out.le k hlt
      have HNk := hid (HNO.out k hlt)
      have HCUk := hid fun x h v => HCU.out k x h v
      obtain ⟨x, hx⟩ : ∃ x : Nat, xs.getD k 0 = (x : Int) := ⟨(xs.getD k 0).toNat, by omega⟩
      have HX := hid hx
      rw [hx] at hck hx1 hx2 HNk
      have hrt : Int.tmod (x : Int) 2 = ((x % 2 : Nat) : Int) := rfl
      clear hcc hx
      by_cases hev : x % 2 = 0
      · have hr : Int.tmod (x : Int) 2 = 0 := by rw [hrt, hev]; rfl
        have hbf : b = false := HNk.out (by rw [hr]; decide)
        subst hbf
        have HF := hid (HSN.out rfl)
        clear hrt hev
        go_wp2_with fail
        go_ret2
        exact ⟨none, 0, by rw [HF.out]; rfl, by rw [HF.out]; exact own_nil _ _, hbel⟩
      · have hr : Int.tmod (x : Int) 2 = 1 := by rw [hrt, show x % 2 = 1 by omega]; rfl
        have HR := hid hr
        have hx30 : x < 31 := by omega
        have hcur := HBK.out.cell (k := x) hx30
        have hfz := HBK.out.froz x
        have hny := (HBK.out.set x (.int .i64 ((cntN xs (x : Int) k : Nat) + 1))).to (fun j _ => HCUk.out x HX.out j)
        have hcb := cntN_le xs (x : Int) k
        have hcu2 : wr.cell? ⟨w.heap.size, x, none⟩ = some (.int .i64 (cntN xs (x : Int) k : Nat)) := hcur
        obtain ⟨u, hu⟩ : ∃ u, u = cntN xs (x : Int) k := ⟨_, rfl⟩
        rw [← hu] at hcu2 hny hcb
        have HNY := hid hny
        have hxi : (x : Int) < 31 := by omega
        clear hrt hev hcur hny hu
        go_wp2_with fail
        go_roundw
        case rel => exact ⟨k + 1, by omega, by go_num, HNY, hid (fun j hj => by
          by_cases e : j = k
          · subst e; rw [HX.out]; exact HR.out
          · exact HOD.out j (by omega)), hbel.setCell (Nat.le_refl _) _, by simp only [World.setCell, Array.size_modify]; exact HSZ.out⟩
        case measure => simp [intOf]; omega
    · have hke : k = xs.length := by omega
      subst hke
      have hbt : b = true := HYES.out HOD.out
      subst hbt
      have HF := hid (HSF.out rfl)
      have HIX := hid fun i (hi : i < 31) W => ix31 (fun v => ((cntN xs (v : Int) xs.length : Nat) : Int)) i hi W
      have hblk := HBK.out
      change wr.heap[w.heap.size]? = some (.cells (ca 31 fun v => .int .i64 ((cntN xs (v : Int) xs.length : Nat) : Int)) 90 (0, 0)) at hblk
      have hcs := ca_size 31 fun v => Value.int .i64 ((cntN xs (v : Int) xs.length : Nat) : Int)
      obtain ⟨K, hK⟩ : ∃ K, K = ca 31 fun v => Value.int .i64 ((cntN xs (v : Int) xs.length : Nat) : Int) := ⟨_, rfl⟩
      rw [← hK] at HIX hblk hcs
      have HBLK := hid hblk
      have HSK := hid (show (Try.prog.info? 90).map (·.size) = some K.size by rw [hcs]; exact sz31)
      have hsw := hbel.size
      have HB := hid hbel
      clear hblk hK hcs hlt hbel hk
      go_wp2_with (refine wpList_load_row rfl 90 _ rfl w.heap.size rfl 90 K (0, 0) _ HBLK.out und31 rfl HSK.out ?_)
      go_loopw [7, 30] (fun v i wi => ∃ n : Nat, n ≤ 31 ∧ i = .int .i64 n ∧ wi.ownsRow w.heap.size 3 1 v (hiL xs 0 n).length (IL (hiL xs 0 n)) ∧ Below w.heap.size w wi) (fun _ i _ => 31 - (intOf i).toNat)
      case atStart => exact ⟨0, by omega, rfl, World.ownsRow_nil _ _ _ _, HB.out⟩
      case round =>
        obtain ⟨n, hn, rfl, hown, hbel⟩ := hrel
        obtain ⟨wo, rfl⟩ : ∃ wo : World, wo = wr := ⟨_, rfl⟩
        by_cases hlt : n < 31
        · have hix := fun W => HIX.out n hlt W
          have hm30 := HGL.out n
          have HE := hid (HHS.out n)
          rw [Nat.zero_add] at HE
          have hHl := HHL.out n
          have hin : (n : Int) < 31 := by omega
          obtain ⟨m, hm⟩ : ∃ m, m = cntN xs (n : Int) xs.length := ⟨_, rfl⟩
          rw [← hm] at hm30 HE
          have hix2 : ∀ W, (Instr.index 90 (.agg K) (.int .i64 n)).run Try.prog W = .ok (.int .i64 m) W := fun W => by rw [hix W, hm]
          obtain ⟨L, hL⟩ : ∃ L, L = hiL xs 0 n := ⟨_, rfl⟩
          rw [← hL] at hown HE hHl
          have HOW := hid hown
          have HBW := hid hbel
          clear hix hm hL hown hbel
          go_wp2_with fail
          go_loopw [7, 10] (fun v pv wi => ∃ k p : Nat, k ≤ 5 ∧ Hid (p = 2 ^ k) ∧ 1 ≤ p ∧ p ≤ 32 ∧ pv = .int .i64 p ∧ wi.ownsRow w.heap.size 3 1 v (L ++ bitsTo n m k).length (IL (L ++ bitsTo n m k)) ∧ Below w.heap.size w wi) (fun _ pv _ => 64 - (intOf pv).toNat)
          case atStart => exact ⟨0, 1, by omega, hid rfl, by omega, by omega, rfl, by rw [show bitsTo n m 0 = [] from rfl, List.append_nil]; exact HOW.out, HBW.out⟩
          case round =>
            obtain ⟨k, p, hk5, HP, hp1, hp32, rfl, hown, hbel⟩ := hrel
            have hlb := bitsTo_len n m k
            by_cases hpm : p ≤ m
            · have hk4 : k < 5 := by
                rcases Nat.lt_or_ge k 5 with h | h
                · exact h
                · have e : k = 5 := by omega
                  have := HP.out
                  rw [e] at this
                  have : p = 32 := this
                  omega
              have hand := and_pow m (by omega) k hk4
              rw [← HP.out] at hand
              have hpp : p * 2 = 2 ^ (k + 1) := by rw [HP.out, Nat.pow_succ]
              have hp16 : p * 2 ≤ 32 := by
                have : 2 ^ (k + 1) ≤ 2 ^ 5 := Nat.pow_le_pow_right (by omega) (by omega)
                omega
              have HPP := hid hpp
              have hpi : (p : Int) ≤ m := by omega
              have hsb := hbel.size
              obtain ⟨M, hM⟩ : ∃ M, M = L ++ bitsTo n m k := ⟨_, rfl⟩
              have hMl : M.length ≤ 160 := by rw [hM, List.length_append]; omega
              have HBS := hid (show L ++ bitsTo n m (k + 1) = (L ++ bitsTo n m k) ++ if m / 2 ^ k % 2 = 1 then [((n * 2 ^ k : Nat) : Int)] else [] by rw [bitsTo, List.append_assoc])
              rw [← hM] at hown HBS
              rw [← HP.out] at HBS
              clear hpp hM
              by_cases hbit : m / p % 2 = 1
              · rw [if_pos hbit] at hand HBS
                have hz9 : n * p ≤ 30 * 32 := Nat.mul_le_mul (by omega) hp32
                obtain ⟨z, hzz⟩ : ∃ z, z = n * p := ⟨_, rfl⟩
                rw [← hzz] at HBS hz9
                have hmul : (p : Int) * (n : Int) = (z : Int) := by rw [hzz, Int.natCast_mul, Int.mul_comm]
                have hmw : IntKind.i64.wrap ((p : Int) * (n : Int)) = (z : Int) := by rw [hmul]; exact IntWalk.i64_in _ (by omega)
                have hmw2 : wrap64 ((p : Int) * (n : Int)) = (z : Int) := by rw [hmul]; exact IntWalk.wrap64_in _ (by omega)
                have hp0 : ¬ (p : Int) = 0 := by omega
                have HMU := hid hmul
                clear hzz hbit hmul
                go_wp2_with (at_builtin; refine wpList_append_own _ rfl _ _ 22 rfl w.heap.size 3 i0 (.int .i64 0) 1 8 Try.underlying22 hi hz0 hz1 hz2 rfl (by decide) _ _ _ rfl (hown.alloc _) ⟨wr.heap.size, 0, none⟩ 1 1 [.int .i64 (z : Int)] rfl rfl one_at (one_cell _) (by unfold maxLen; omega) (by omega) (by simp; omega) ?_)
                intro v' w1 hown' hgrow _
                have hb1 : Below w.heap.size w w1 := (hbel.alloc hbel.size _).grown hgrow (by simp; omega) (fun q hq => (hown.lt q hq).1)
                have hown2 := own_snoc HBS.out hown'
                clear hgrow hown hown'
                go_wp2_with fail
                go_roundw
                case rel => exact ⟨k + 1, p * 2, by omega, hid HPP.out, by omega, hp16, by go_num, hown2, hb1⟩
                case measure => simp [intOf]; omega
              · rw [if_neg hbit] at hand HBS
                rw [List.append_nil] at HBS
                clear hbit
                go_wp2_with fail
                go_roundw
                case rel => exact ⟨k + 1, p * 2, by omega, hid HPP.out, by omega, hp16, by go_num, by rw [HBS.out]; exact hown, hbel⟩
                case measure => simp [intOf]; omega
            · have hbl := powL_of (v := n) (m := m) (k := k) (by rw [← HP.out]; omega) hk5
              rw [hbl, ← HE.out] at hown
              have HO2 := hid hown
              have hpi : ¬ (p : Int) ≤ m := by omega
              clear hown hbl
              go_wp2_with fail
              go_roundw
              case rel => exact ⟨n + 1, by omega, by go_num, HO2.out, hbel⟩
              case measure => simp [intOf]; omega
        · have hne : n = 31 := by omega
          subst hne
          obtain ⟨A1, c1, rfl, ho⟩ := own_form hown rfl
          have HGQ := hid (HGP.out _ A1 c1 wo ho)
          have hsl := sortD_len (hiL xs 0 31)
          have HB2 := hid hbel
          have HFN := hid (show F.length = (hiL xs 0 31).length by rw [HF.out, hsl])
          rw [← HF.out] at HGQ
          obtain ⟨N, hN⟩ : ∃ N, N = (hiL xs 0 31).length := ⟨_, rfl⟩
          rw [← hN] at HGQ HFN
          rw [← hN]
          clear hown ho hbel hsl hN
          go_wp2_with (go_at_call 137; refine HGQ.out.mono ?_; rintro e w3 ⟨rfl, o3, b3⟩)
          go_ret2
          exact ⟨A1, c1, by rw [HFN.out]; rfl, o3, b3 _ _ (Nat.le_refl _) HB2.out⟩

set_option maxRecDepth 100000 in
set_option maxHeartbeats 4000000 in
theorem spec_StrictFromOdd (A : Option Addr) (c : Nat) (xs : List Int) (w : World) (hl : xs.length ≤ 1048576) (hc : Cells w A xs) :
    Calls Try.prog 70 #[.slice A xs.length c] w fun e w' => ∃ A' c', e = .returned (.tuple #[.slice A' (sfF xs).length c', .bool (sfB xs)]) ∧ Own w' w.heap.size A' c' (sfF xs) ∧ Below w.heap.size w w' := by
  have HC := hid hc; clear hc
  cases hg : good xs
  · have hb : sfB xs = false := by simp [sfB, hg]
    rw [sfF_f hb, hb]
    have H := hid hg; clear hg hb
    go_enter Try.func70, Try.ntmps70
    go_wp2_with (go_at_call 86; refine (ptGood_b _ _ _ _ hl HC.out _ H.out).mono ?_; rintro e w' ⟨rfl, n, rfl⟩)
    go_ret2
    exact ⟨none, 0, rfl, own_nil _ _, below_drew' _ _⟩
  have HG := hid ((good_iff xs).1 hg)
  have H := hid hg
  have hlen := HG.out.len
  have HNO := hid fun k (hk : k < xs.length) => odd_no hk
  have HYES := hid (odd_yes hg)
  have HSF := hid (fun h : sfB xs = true => sfF_t h)
  have HSN := hid (fun h : sfB xs = false => sfF_f h)
  have HAN := hid fun i j (h : i ≤ j) (hj : j < xs.length) => good_anti HG.out h hj
  have HHL := hid fun v n => hiL_len xs n v
  obtain ⟨b, hb⟩ : ∃ b, b = sfB xs := ⟨_, rfl⟩
  obtain ⟨F, hF⟩ : ∃ F, F = sfF xs := ⟨_, rfl⟩
  rw [← hb] at HNO HYES
  rw [← hb, ← hF] at HSF HSN ⊢
  clear hg hb hF
  go_enter Try.func70, Try.ntmps70
  go_wp2_with (go_at_call 86; refine (ptGood_b _ _ _ _ hl HC.out _ H.out).mono ?_; rintro e w' ⟨rfl, nd, rfl⟩)
  have HB0 := hid (below_drew' w nd)
  go_loopw [4, 5] (fun v iv wr => ∃ (i d : Nat) (L : List Int) (A1 : Option Addr) (c1 : Nat), i ≤ xs.length ∧ d ≤ 31 ∧ iv = .int .i64 i ∧ v = .slice A1 L.length c1 ∧ Hid (Own wr w.heap.size A1 c1 L) ∧ Hid (L.Perm (hiL xs d (31 - d)) ∧ L.Pairwise (· ≥ ·)) ∧ Hid (∀ j, j < i → (d : Int) ≤ xs.getD j 0 ∧ Int.tmod (xs.getD j 0) 2 = 1) ∧ Hid (∀ j, i ≤ j → j < xs.length → xs.getD j 0 < d) ∧ Below w.heap.size w wr) (fun _ iv _ => xs.length - (intOf iv).toNat)
  case atStart => exact ⟨0, 31, [], none, 0, Nat.zero_le _, Nat.le_refl _, rfl, rfl, hid (own_nil _ _), hid ⟨by simp [hiL], by simp⟩, hid fun j hj => absurd hj (by omega), hid fun j _ hj => by have := HG.out.le j hj; show _ < (31 : Int); omega, HB0.out⟩
  case round =>
    obtain ⟨i, d, L, A1, c1, hi, hd31, rfl, rfl, HO, HL, HJ, HK, hbel⟩ := hrel
    obtain ⟨wo, rfl⟩ : ∃ wo : World, wo = wr := ⟨_, rfl⟩
    by_cases hlt : i < xs.length
    · obtain ⟨b1, o1, rfl, hcc⟩ := (HC.out.later hbel) (by omega)
      have hck := hcc i hlt
      have hx1 := HG.out.pos i hlt
      have hx2 := HG.out.le i hlt
      have hxd := HK.out i (Nat.le_refl _) hlt
      have HNk := hid (HNO.out i hlt)
      obtain ⟨x, hx⟩ : ∃ x : Nat, xs.getD i 0 = (x : Int) := ⟨(xs.getD i 0).toNat, by omega⟩
      have HX := hid hx
      rw [hx] at hck hx1 hx2 hxd HNk
      have HCC := hid hcc
      have hrt : Int.tmod (x : Int) 2 = ((x % 2 : Nat) : Int) := rfl
      clear hcc hx
      by_cases hev : x % 2 = 0
      · have hr : Int.tmod (x : Int) 2 = 0 := by rw [hrt, hev]; rfl
        have hbf : b = false := HNk.out (by rw [hr]; decide)
        subst hbf
        have HF := hid (HSN.out rfl)
        clear hrt hev
        go_wp2_with fail
        go_ret2
        exact ⟨none, 0, by rw [HF.out]; rfl, by rw [HF.out]; exact own_nil _ _, hbel⟩
      · have hr : Int.tmod (x : Int) 2 = 1 := by rw [hrt, show x % 2 = 1 by omega]; rfl
        have HR := hid hr
        have HB := hid hbel
        have hszo := hbel.size
        clear hrt hev hbel
        go_wp2_with fail
        go_loop [5, 7] (fun iv mv => ∃ e : Nat, i + e ≤ xs.length ∧ iv = .int .i64 ((i + e : Nat) : Int) ∧ mv = .int .i64 e ∧ Hid (∀ j, i ≤ j → j < i + e → xs.getD j 0 = (x : Int))) (fun iv _ => xs.length - (intOf iv).toNat)
        case atStart => exact ⟨0, by omega, rfl, rfl, hid fun j h1 h2 => by omega⟩
        case round =>
          obtain ⟨m, hie, rfl, rfl, HRUN⟩ := hrel
          obtain ⟨i2, hi2⟩ : ∃ i2, i2 = i + m := ⟨_, rfl⟩
          have HI2 := hid hi2
          rw [← hi2] at hie HRUN ⊢
          have him : i ≤ i2 := by omega
          have hm30 : m ≤ 30 := by omega
          clear hi2
          by_cases hgo : i2 < xs.length ∧ xs.getD i2 0 = (x : Int)
          · obtain ⟨hl2, he2⟩ := hgo
            have hck2 := HCC.out i2 hl2
            rw [he2] at hck2
            have HE2 := hid he2
            have HI3 := hid (show i + (m + 1) = i2 + 1 by have := HI2.out; omega)
            clear he2
            go_wp2_with fail
            go_round
            case rel => exact ⟨m + 1, by have := HI2.out; omega, by rw [HI3.out]; go_num, by go_num, hid fun j h1 h2 => by
              by_cases e : j = i2
              · subst e; exact HE2.out
              · exact HRUN.out j h1 (by have := HI2.out; omega)⟩
            case measure => simp [intOf]; omega
          · have him2 : i < i2 := by
              rcases Nat.lt_or_ge i i2 with h | h
              · exact h
              · have e : i2 = i := by omega
                exact absurd ⟨by omega, by rw [e]; exact HX.out⟩ hgo
            have hlow : ∀ j, i2 ≤ j → j < xs.length → xs.getD j 0 < (x : Int) := fun j h1 h2 => by
              have h3 := HAN.out i2 j h1 h2
              have h4 : xs.getD i2 0 ≤ (x : Int) := by
                have := HAN.out i i2 him (by omega)
                rw [HX.out] at this; exact this
              have h5 : xs.getD i2 0 ≠ (x : Int) := fun e => hgo ⟨by omega, e⟩
              omega
            have hcnt : cntN xs (x : Int) xs.length = m := by
              have a1 : cntN xs (x : Int) i = 0 := cntN_none (a := 0) i (by omega) fun j _ hj => by have := (HJ.out j hj).1; omega
              have a2 : cntN xs (x : Int) i2 = m := by
                have := cntN_run (xs := xs) (v := (x : Int)) (a := i) m (fun j h1 h2 => HRUN.out j h1 (by have := HI2.out; omega))
                rw [a1, Nat.zero_add, ← HI2.out] at this; exact this
              rw [cntN_none (a := i2) xs.length hie fun j h1 h2 => by have := hlow j h1 h2; omega, a2]
            have hskip : hiL xs x (31 - x) = powL x m ++ hiL xs d (31 - d) := by
              have hxn : x < d := by omega
              have e1 := hiL_skip (xs := xs) (a := x + 1) (d - (x + 1)) (31 - d) (fun v h1 h2 => cntN_none (a := 0) xs.length (by omega) fun j _ hj => by
                rcases Nat.lt_or_ge j i with h | h
                · have := (HJ.out j h).1; omega
                · have h3 := HAN.out i j h hj
                  rw [HX.out] at h3; omega)
              rw [show d - (x + 1) + (31 - d) = 30 - x by omega, show x + 1 + (d - (x + 1)) = d by omega] at e1
              rw [show 31 - x = (30 - x) + 1 by omega, hiL, hcnt, e1]
            have HLOW := hid hlow
            have HSK := hid hskip
            have hLl : L.length ≤ 155 := by
              have h1 := HL.out.1.length_eq
              have h2 := HHL.out d (31 - d)
              omega
            have hnx : (i2 < xs.length → ∃ y, xs.getD i2 0 = y ∧ ¬ y = (x : Int)) := fun h => ⟨_, rfl, fun e => hgo ⟨h, e⟩⟩
            have HXX := hid (show ∀ j, j < i2 → (x : Int) ≤ xs.getD j 0 ∧ Int.tmod (xs.getD j 0) 2 = 1 from fun j hj => by
              rcases Nat.lt_or_ge j i with h | h
              · have := HJ.out j h; exact ⟨by omega, this.2⟩
              · rw [HRUN.out j h hj]; exact ⟨Int.le_refl _, HR.out⟩)
            clear hlow hcnt hskip hgo
            by_cases hl2 : i2 < xs.length
            · obtain ⟨y, hy, hyx⟩ := hnx hl2
              have hck2 := HCC.out i2 hl2
              rw [hy] at hck2
              clear hnx hy
              go_wp2_with fail
              go_loopw [4, 7, 8] (fun v rv pv wi => ∃ (k r p : Nat) (M : List Int) (A2 : Option Addr) (c2 : Nat), k ≤ 5 ∧ r ≤ 30 ∧ p ≤ 960 ∧ Hid (r = m / 2 ^ k ∧ p = x * 2 ^ k) ∧ rv = .int .i64 r ∧ pv = .int .i64 p ∧ v = .slice A2 M.length c2 ∧ Hid (Own wi w.heap.size A2 c2 M) ∧ Hid (M.Perm (L ++ bitsTo x m k) ∧ M.Pairwise (· ≥ ·)) ∧ Below w.heap.size w wi) (fun _ rv _ _ => (intOf rv).toNat)
              case atStart => exact ⟨0, m, x, L, A1, c1, by omega, hm30, by omega, hid ⟨by simp, by simp⟩, rfl, rfl, rfl, HO, hid ⟨by simp [bitsTo], HL.out.2⟩, HB.out⟩
              case round =>
                obtain ⟨k, r, p, M, A2, c2, hk5, hr30, hp960, HRP, rfl, rfl, rfl, HO2, HM, hbi⟩ := hrel
                have hszi := hbi.size
                have hMl : M.length ≤ 160 := by
                  have h1 := HM.out.1.length_eq
                  rw [List.length_append] at h1
                  have := bitsTo_len x m k
                  omega
                by_cases hr0 : 0 < r
                · have hk4 : k < 5 := by
                    rcases Nat.lt_or_ge k 5 with h | h
                    · exact h
                    · have e : k = 5 := by omega
                      have h1 := HRP.out.1
                      rw [e, show 2 ^ 5 = 32 from rfl] at h1
                      omega
                  have hp16 : p * 2 ≤ 960 := by
                    have h1 : x * 2 ^ (k + 1) ≤ 30 * 32 := Nat.mul_le_mul (by omega) (show 2 ^ (k + 1) ≤ 32 from Nat.pow_le_pow_right (by omega) (show k + 1 ≤ 5 by omega))
                    rw [HRP.out.2, Nat.mul_assoc, ← Nat.pow_succ]; omega
                  obtain ⟨z, hz⟩ : ∃ z, z = r / 2 := ⟨_, rfl⟩
                  have hqt : Int.tdiv (r : Int) 2 = (z : Int) := by rw [hz]; rfl
                  have hzr : z < r := by omega
                  have HZ := hid (show z = m / 2 ^ (k + 1) ∧ p * 2 = x * 2 ^ (k + 1) from ⟨by rw [hz, HRP.out.1, Nat.div_div_eq_div_mul, ← Nat.pow_succ], by rw [HRP.out.2, Nat.mul_assoc, ← Nat.pow_succ]⟩)
                  have hrt : Int.tmod (r : Int) 2 = ((r % 2 : Nat) : Int) := rfl
                  have hri : (0 : Int) < r := by omega
                  clear hz
                  by_cases hbit : r % 2 = 1
                  · have hr2 : Int.tmod (r : Int) 2 = 1 := by rw [hrt, hbit]; rfl
                    have HBP := hid (brPut_any A2 c2 M (p : Int) wr (by omega) HO2.out)
                    have HNP := hid (show (insD M (p : Int)).Perm (L ++ bitsTo x m (k + 1)) ∧ (insD M (p : Int)).Pairwise (· ≥ ·) from ⟨by
                      rw [bitsTo, if_pos (by rw [← HRP.out.1]; exact hbit), ← HRP.out.2, ← List.append_assoc]
                      exact (insD_perm M (p : Int)).trans ((List.Perm.cons (p : Int) HM.out.1).trans (List.perm_append_singleton _ _).symm), insD_desc HM.out.2⟩)
                    obtain ⟨Q, hQ⟩ : ∃ Q, Q = insD M (p : Int) := ⟨_, rfl⟩
                    rw [← hQ] at HBP HNP
                    clear hQ hrt hbit
                    go_wp2_with (go_at_call 135; refine HBP.out.mono ?_; rintro e w4 ⟨A4, c4, rfl, o4, b4⟩)
                    go_roundw
                    case rel => exact ⟨k + 1, z, p * 2, Q, A4, c4, by omega, by omega, hp16, HZ, by go_num, by go_num, rfl, hid (o4.more hszi), HNP, Below.next hbi b4⟩
                    case measure => simp [intOf]; omega
                  · have hr2 : Int.tmod (r : Int) 2 = 0 := by rw [hrt, show r % 2 = 0 by omega]; rfl
                    have HNP := hid (show M.Perm (L ++ bitsTo x m (k + 1)) ∧ M.Pairwise (· ≥ ·) from ⟨by
                      rw [bitsTo, if_neg (by rw [← HRP.out.1]; exact hbit), List.append_nil]; exact HM.out.1, HM.out.2⟩)
                    clear hrt hbit
                    go_wp2_with fail
                    go_roundw
                    case rel => exact ⟨k + 1, z, p * 2, M, A2, c2, by omega, by omega, hp16, HZ, by go_num, by go_num, rfl, HO2, HNP, hbi⟩
                    case measure => simp [intOf]; omega
                · have hr00 : r = 0 := by omega
                  have hbl : bitsTo x m k = powL x m := by
                    refine powL_of ?_ hk5
                    have h1 := HRP.out.1
                    rw [hr00] at h1
                    have hp2 : 0 < 2 ^ k := Nat.pow_pos (by omega)
                    exact (Nat.div_eq_zero_iff_lt hp2).1 h1.symm
                  have HNP := hid (show M.Perm (hiL xs x (31 - x)) ∧ M.Pairwise (· ≥ ·) from ⟨by
                    rw [HSK.out, ← hbl]
                    exact HM.out.1.trans ((HL.out.1.append_right _).trans List.perm_append_comm), HM.out.2⟩)
                  have hri : ¬ (0 : Int) < r := by omega
                  clear hbl hr00 hr0
                  go_wp2_with fail
                  go_roundw
                  case rel => exact ⟨i2, x, M, A2, c2, hie, by omega, rfl, rfl, HO2, HNP, HXX, HLOW, hbi⟩
                  case measure => simp [intOf]; omega
            · clear hnx
              have hl2i : ¬ (i2 : Int) < xs.length := by omega
              go_wp2_with fail
              go_loopw [4, 7, 8] (fun v rv pv wi => ∃ (k r p : Nat) (M : List Int) (A2 : Option Addr) (c2 : Nat), k ≤ 5 ∧ r ≤ 30 ∧ p ≤ 960 ∧ Hid (r = m / 2 ^ k ∧ p = x * 2 ^ k) ∧ rv = .int .i64 r ∧ pv = .int .i64 p ∧ v = .slice A2 M.length c2 ∧ Hid (Own wi w.heap.size A2 c2 M) ∧ Hid (M.Perm (L ++ bitsTo x m k) ∧ M.Pairwise (· ≥ ·)) ∧ Below w.heap.size w wi) (fun _ rv _ _ => (intOf rv).toNat)
              case atStart => exact ⟨0, m, x, L, A1, c1, by omega, hm30, by omega, hid ⟨by simp, by simp⟩, rfl, rfl, rfl, HO, hid ⟨by simp [bitsTo], HL.out.2⟩, HB.out⟩
              case round =>
                obtain ⟨k, r, p, M, A2, c2, hk5, hr30, hp960, HRP, rfl, rfl, rfl, HO2, HM, hbi⟩ := hrel
                have hszi := hbi.size
                have hMl : M.length ≤ 160 := by
                  have h1 := HM.out.1.length_eq
                  rw [List.length_append] at h1
                  have := bitsTo_len x m k
                  omega
                by_cases hr0 : 0 < r
                · have hk4 : k < 5 := by
                    rcases Nat.lt_or_ge k 5 with h | h
                    · exact h
                    · have e : k = 5 := by omega
                      have h1 := HRP.out.1
                      rw [e, show 2 ^ 5 = 32 from rfl] at h1
                      omega
                  have hp16 : p * 2 ≤ 960 := by
                    have h1 : x * 2 ^ (k + 1) ≤ 30 * 32 := Nat.mul_le_mul (by omega) (show 2 ^ (k + 1) ≤ 32 from Nat.pow_le_pow_right (by omega) (show k + 1 ≤ 5 by omega))
                    rw [HRP.out.2, Nat.mul_assoc, ← Nat.pow_succ]; omega
                  obtain ⟨z, hz⟩ : ∃ z, z = r / 2 := ⟨_, rfl⟩
                  have hqt : Int.tdiv (r : Int) 2 = (z : Int) := by rw [hz]; rfl
                  have hzr : z < r := by omega
                  have HZ := hid (show z = m / 2 ^ (k + 1) ∧ p * 2 = x * 2 ^ (k + 1) from ⟨by rw [hz, HRP.out.1, Nat.div_div_eq_div_mul, ← Nat.pow_succ], by rw [HRP.out.2, Nat.mul_assoc, ← Nat.pow_succ]⟩)
                  have hrt : Int.tmod (r : Int) 2 = ((r % 2 : Nat) : Int) := rfl
                  have hri : (0 : Int) < r := by omega
                  clear hz
                  by_cases hbit : r % 2 = 1
                  · have hr2 : Int.tmod (r : Int) 2 = 1 := by rw [hrt, hbit]; rfl
                    have HBP := hid (brPut_any A2 c2 M (p : Int) wr (by omega) HO2.out)
                    have HNP := hid (show (insD M (p : Int)).Perm (L ++ bitsTo x m (k + 1)) ∧ (insD M (p : Int)).Pairwise (· ≥ ·) from ⟨by
                      rw [bitsTo, if_pos (by rw [← HRP.out.1]; exact hbit), ← HRP.out.2, ← List.append_assoc]
                      exact (insD_perm M (p : Int)).trans ((List.Perm.cons (p : Int) HM.out.1).trans (List.perm_append_singleton _ _).symm), insD_desc HM.out.2⟩)
                    obtain ⟨Q, hQ⟩ : ∃ Q, Q = insD M (p : Int) := ⟨_, rfl⟩
                    rw [← hQ] at HBP HNP
                    clear hQ hrt hbit
                    go_wp2_with (go_at_call 135; refine HBP.out.mono ?_; rintro e w4 ⟨A4, c4, rfl, o4, b4⟩)
                    go_roundw
                    case rel => exact ⟨k + 1, z, p * 2, Q, A4, c4, by omega, by omega, hp16, HZ, by go_num, by go_num, rfl, hid (o4.more hszi), HNP, Below.next hbi b4⟩
                    case measure => simp [intOf]; omega
                  · have hr2 : Int.tmod (r : Int) 2 = 0 := by rw [hrt, show r % 2 = 0 by omega]; rfl
                    have HNP := hid (show M.Perm (L ++ bitsTo x m (k + 1)) ∧ M.Pairwise (· ≥ ·) from ⟨by
                      rw [bitsTo, if_neg (by rw [← HRP.out.1]; exact hbit), List.append_nil]; exact HM.out.1, HM.out.2⟩)
                    clear hrt hbit
                    go_wp2_with fail
                    go_roundw
                    case rel => exact ⟨k + 1, z, p * 2, M, A2, c2, by omega, by omega, hp16, HZ, by go_num, by go_num, rfl, HO2, HNP, hbi⟩
                    case measure => simp [intOf]; omega
                · have hr00 : r = 0 := by omega
                  have hbl : bitsTo x m k = powL x m := by
                    refine powL_of ?_ hk5
                    have h1 := HRP.out.1
                    rw [hr00] at h1
                    have hp2 : 0 < 2 ^ k := Nat.pow_pos (by omega)
                    exact (Nat.div_eq_zero_iff_lt hp2).1 h1.symm
                  have HNP := hid (show M.Perm (hiL xs x (31 - x)) ∧ M.Pairwise (· ≥ ·) from ⟨by
                    rw [HSK.out, ← hbl]
                    exact HM.out.1.trans ((HL.out.1.append_right _).trans List.perm_append_comm), HM.out.2⟩)
                  have hri : ¬ (0 : Int) < r := by omega
                  clear hbl hr00 hr0
                  go_wp2_with fail
                  go_roundw
                  case rel => exact ⟨i2, x, M, A2, c2, hie, by omega, rfl, rfl, HO2, HNP, HXX, HLOW, hbi⟩
                  case measure => simp [intOf]; omega
    · have hkn : i = xs.length := by omega
      subst hkn
      have hbt : b = true := HYES.out fun j hj => (HJ.out j hj).2
      subst hbt
      have he : L = F := by
        rw [HSF.out rfl]
        refine (sortD_of (HL.out.1.trans ?_) HL.out.2).symm
        have e1 := hiL_skip (xs := xs) (a := 0) d (31 - d) (fun v _ h2 => cntN_none (a := 0) xs.length (by omega) fun j _ hj => by have := (HJ.out j hj).1; omega)
        rw [show d + (31 - d) = 31 by omega, Nat.zero_add] at e1
        rw [e1]
      have HEE := hid he
      clear he
      go_wp2_with fail
      go_ret2
      exact ⟨A1, c1, by rw [← HEE.out]; rfl, by rw [← HEE.out]; exact HO.out, hbel⟩
end Go.Proofs.Ythlamneaghbjbaa
