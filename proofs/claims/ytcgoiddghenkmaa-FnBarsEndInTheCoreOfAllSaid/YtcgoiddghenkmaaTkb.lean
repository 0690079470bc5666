/-
  Contracts: the model's insertion into a row that falls; a bar taken away on both sides.
-/
import Derived.Test.YtcgoiddghenkmaaTkbMath
import Derived.Test.YtcgoiddghenkmaaBarS
import Derived.Test.YtcgoiddghenkmaaRevI
import Derived.Test.YtcgoiddghenkmaaStrip
import Derived.Test.YtcgoiddghenkmaaCB
import Derived.Test.YtcgoiddghenkmaaMade1
namespace Go.Proofs.Ytcgoiddghenkmaa
open Go.RowKit

theorem own_take {w : World} {B : Nat} {A : Option Addr} {c : Nat} {xs : List Int} (h : Own w B A c xs) (k : Nat) : Own w B A c (xs.take k) := by
  unfold Own
  refine ⟨by simp [IL], ?_⟩
  rcases h.2 with ⟨hv, h0⟩ | ⟨g', cap, cur, hv, hB, hh, hn, hmx, hcs, htk⟩
  · injection hv with h1 h2 h3
    refine .inl ⟨?_, by rw [List.length_take]; omega⟩
    rw [h1, h3, List.length_take]
    congr 1
    omega
  · injection hv with h1 h2 h3
    subst h1; subst h3
    refine .inr ⟨g', c, cur, rfl, hB, hh, by rw [List.length_take]; omega, hmx, hcs, ?_⟩
    have e3 : IL (xs.take k) = (IL xs).take k := by simp [IL, List.map_take]
    rw [e3, ← htk, List.take_take, List.length_take]
    congr 1
    omega
theorem cutI_nn {A : Option Addr} {c k : Nat} (h : cutI A c k = none) : A = none := by
  cases A with
  | none => rfl
  | some a => unfold cutI at h; split at h <;> cases h
theorem cells_news {w : World} {ad : Addr} {xs : List Int} (hc : Cells w (some ad) xs) : ∀ k u, (IL xs)[k]? = some u → w.cell? (ad.add k) = some u := by
  intro k u hu
  have hk : k < xs.length := by
    have := (List.getElem?_eq_some_iff.1 hu).1
    simpa [IL] using this
  obtain ⟨b, o', he, hcc⟩ := hc (by omega)
  have h := hcc k hk
  rw [IL_get xs k hk] at hu
  injection he with he
  subst he
  have e : (⟨b, o', none⟩ : Addr).add k = ⟨b, o' + k, none⟩ := by unfold Addr.add; split <;> simp_all
  rw [e, h, hu]
theorem IL_oneD (xs : List Int) : ∀ u ∈ IL xs, u.oneCell' = true := by
  intro u hu
  obtain ⟨x, _, rfl⟩ := List.mem_map.1 hu
  rfl

set_option maxRecDepth 100000 in
set_option maxHeartbeats 2000000 in
theorem brPut_any {B : Nat} (A : Option Addr) (c : Nat) (xs : List Int) (x : Int) (w : World) (hl : xs.length ≤ 1000) (ho : Own w B A c xs) :
    Calls Try.prog 43 #[.slice A xs.length c, .int .i64 x] w fun e w' => ∃ A' c', e = .returned (.slice A' (insD xs x).length c') ∧ Own w' w.heap.size A' c' (insD xs x) ∧ Below w.heap.size w w' := by
  obtain ⟨i0, hi, hz0, hz1, hz2⟩ := info_parts Try.infoInt
  have hcap := ho.cap
  have HO := hid ho; clear ho
  have HRL := hid (insD_len xs x)
  have HATG := hid (insD_at xs x)
  obtain ⟨R, hR⟩ : ∃ R, R = insD xs x := ⟨_, rfl⟩
  rw [← hR] at HRL HATG ⊢
  rw [HRL.out]
  clear hR
  go_enter Try.func43, Try.ntmps43
  go_wp2_with fail
  go_loop [5] (fun i => ∃ k : Nat, k ≤ xs.length ∧ i = .int .i64 k ∧ Hid (∀ j, j < k → x < xs.getD j 0)) (fun i => xs.length - (intOf i).toNat)
  case atStart => exact ⟨0, Nat.zero_le _, rfl, hid fun j hj => absurd hj (by omega)⟩
  case round =>
    obtain ⟨k, hk, rfl, HK⟩ := hrel
    have hlt1 : (xs.take k).length = k := by rw [List.length_take]; omega
    have hld : (xs.drop k).length = xs.length - k := List.length_drop
    have hLO := l1Own_any A c (xs.take k) w (by omega) (own_take HO.out k)
    rw [hlt1] at hLO
    have HLO := hid hLO; clear hLO
    have hcutH := fun W => runI_cut_hi A xs.length c k (by omega) W
    have hcutL := fun W => runI_cut_lo A xs.length c k hk W
    have HNO := hid (show cutI A c k = none → xs.length - k = 0 ∧ c - k = 0 from fun h => by
      have hA := cutI_nn h
      have := own_none (by rw [← hA]; exact HO.out)
      omega)
    have HNW := hid (show ∀ W, Below w.heap.size w W → ∀ ad, cutI A c k = some ad → ∀ j u, (IL (xs.drop k))[j]? = some u → W.cell? (ad.add j) = some u from fun W hW ad had => cells_news (by rw [← had]; exact (HO.out.cells.later hW).cut c k hcap))
    have HID := hid (show (IL (xs.drop k)).length = xs.length - k by rw [← hld]; simp [IL])
    have HIT := hid hlt1
    have HAT := hid (HATG.out k hk HK.out)
    by_cases hgo : k < xs.length ∧ x < xs.getD k 0
    · obtain ⟨hlt, hgt⟩ := hgo
      obtain ⟨b, o, rfl, hcc⟩ := HO.out.cells (by omega)
      have hck := hcc k hlt
      have HY := hid hgt
      obtain ⟨y, hy⟩ : ∃ y, y = xs.getD k 0 := ⟨_, rfl⟩
      rw [← hy] at hck hgt
      have HE := hid hy
      clear hcc hy hcutH hcutL hlt1 hld
      go_wp2_with fail
      go_round
      case rel => exact ⟨k + 1, by omega, by go_num, hid fun j hj => by
        by_cases e : j = k
        · subst e; exact HY.out
        · exact HK.out j (by omega)⟩
      case measure => simp [intOf]; omega
    · have HE := hid (HAT.out (fun h => Int.not_lt.1 fun hx => hgo ⟨h, hx⟩))
      by_cases hlt : k < xs.length
      · obtain ⟨b, o, e, hcc⟩ := HO.out.cells (by omega)
        have hck := hcc k hlt
        have hgt : ¬ x < xs.getD k 0 := fun h => hgo ⟨hlt, h⟩
        obtain ⟨y, hy⟩ : ∃ y, y = xs.getD k 0 := ⟨_, rfl⟩
        rw [← hy] at hck hgt
        subst e
        clear hcc hy hgo hlt1 hld
        obtain ⟨L1, hL1⟩ : ∃ L1, L1 = xs.take k := ⟨_, rfl⟩
        rw [← hL1] at HLO HIT HE
        obtain ⟨L2, hL2⟩ : ∃ L2, L2 = xs.drop k := ⟨_, rfl⟩
        rw [← hL2] at HNW HID HE
        clear hL1 hL2
        go_wp2_with (first | (go_at_call 34; refine HLO.out.mono ?_; rintro e w1 ⟨A1, c1, rfl, o1, b1⟩; have o1' := own_at_len o1 HIT.out) | (at_builtin; refine wpList_append_own _ rfl _ _ 22 rfl w.heap.size 3 i0 (.int .i64 0) 1 8 Try.underlying22 hi hz0 hz1 hz2 rfl (by decide) _ _ _ rfl (o1'.alloc _) ⟨w1.heap.size, 0, none⟩ 1 1 [.int .i64 x] rfl rfl one_at (one_cell _) (by have := HIT.out; unfold maxLen; omega) (by have := HIT.out; omega) (by have := b1.size; simp; omega) ?_))
        intro v2 w2 hown2 hgrow2 _
        have hb2 : Below w.heap.size w w2 := (b1.alloc b1.size _).grown hgrow2 (by have := b1.size; simp; omega) (fun q hq => (o1'.lt q hq).1)
        have hsz2 := hb2.size
        clear hgrow2
        go_wp2_with (at_builtin; refine wpList_append_opt _ rfl _ _ 22 rfl w.heap.size 3 i0 (.int .i64 0) 1 8 Try.underlying22 hi hz0 hz1 hz2 rfl (by decide) _ _ _ rfl hown2 (cutI _ c k) (xs.length - k) (c - k) (IL L2) rfl (by rw [HID.out, Nat.mul_one]) HNO.out (HNW.out w2 hb2) (IL_oneD L2) (by have := HIT.out; unfold maxLen; omega) (by omega) (by omega) ?_)
        intro v3 w3 hown3 hgrow3
        have hb3 : Below w.heap.size w w3 := hb2.grown hgrow3 hb2.size (fun q hq => (hown2.lt q hq).1)
        have e3 : IL L1 ++ Value.int .i64 x :: IL L2 = IL R := by rw [← HE.out]; simp [IL]
        rw [e3] at hown3
        obtain ⟨A', c', rfl, ho4⟩ := own_form hown3 (by have := HRL.out; have := HIT.out; omega)
        rw [HRL.out]
        have HO4 := hid ho4
        clear hown2 hown3 hgrow3 e3 ho4 hcutH hcutL
        go_wp2_with fail
        go_ret
        exact ⟨A', c', rfl, HO4.out, hb3⟩
      · have hke : ¬ (k : Int) < xs.length := by omega
        clear hgo hlt1 hld hlt
        obtain ⟨L1, hL1⟩ : ∃ L1, L1 = xs.take k := ⟨_, rfl⟩
        rw [← hL1] at HLO HIT HE
        obtain ⟨L2, hL2⟩ : ∃ L2, L2 = xs.drop k := ⟨_, rfl⟩
        rw [← hL2] at HNW HID HE
        clear hL1 hL2
        go_wp2_with (first | (go_at_call 34; refine HLO.out.mono ?_; rintro e w1 ⟨A1, c1, rfl, o1, b1⟩; have o1' := own_at_len o1 HIT.out) | (at_builtin; refine wpList_append_own _ rfl _ _ 22 rfl w.heap.size 3 i0 (.int .i64 0) 1 8 Try.underlying22 hi hz0 hz1 hz2 rfl (by decide) _ _ _ rfl (o1'.alloc _) ⟨w1.heap.size, 0, none⟩ 1 1 [.int .i64 x] rfl rfl one_at (one_cell _) (by have := HIT.out; unfold maxLen; omega) (by have := HIT.out; omega) (by have := b1.size; simp; omega) ?_))
        intro v2 w2 hown2 hgrow2 _
        have hb2 : Below w.heap.size w w2 := (b1.alloc b1.size _).grown hgrow2 (by have := b1.size; simp; omega) (fun q hq => (o1'.lt q hq).1)
        have hsz2 := hb2.size
        clear hgrow2
        go_wp2_with (at_builtin; refine wpList_append_opt _ rfl _ _ 22 rfl w.heap.size 3 i0 (.int .i64 0) 1 8 Try.underlying22 hi hz0 hz1 hz2 rfl (by decide) _ _ _ rfl hown2 (cutI _ c k) (xs.length - k) (c - k) (IL L2) rfl (by rw [HID.out, Nat.mul_one]) HNO.out (HNW.out w2 hb2) (IL_oneD L2) (by have := HIT.out; unfold maxLen; omega) (by omega) (by omega) ?_)
        intro v3 w3 hown3 hgrow3
        have hb3 : Below w.heap.size w w3 := hb2.grown hgrow3 hb2.size (fun q hq => (hown2.lt q hq).1)
        have e3 : IL L1 ++ Value.int .i64 x :: IL L2 = IL R := by rw [← HE.out]; simp [IL]
        rw [e3] at hown3
        obtain ⟨A', c', rfl, ho4⟩ := own_form hown3 (by have := HRL.out; have := HIT.out; omega)
        rw [HRL.out]
        have HO4 := hid ho4
        clear hown2 hown3 hgrow3 e3 ho4 hcutH hcutL
        go_wp2_with fail
        go_ret
        exact ⟨A', c', rfl, HO4.out, hb3⟩
set_option maxRecDepth 100000 in
set_option maxHeartbeats 1000000 in
theorem brTake_any (A Ab : Option Addr) (c cb : Nat) (xs bar : List Int) (t : Int) (w : World) (hl : xs.length ≤ 30) (hbl : bar.length = 1 ∨ bar.length = 2) (hib : isB xs t bar = true) (hbb : ∀ j, j < bar.length → 0 ≤ bar.getD j 0 ∧ bar.getD j 0 ≤ 1000) (ht : 0 ≤ t ∧ t ≤ 1000) (hc : Cells w A xs) (hcb : Cells w Ab bar) :
    Calls Try.prog 31 #[.slice A xs.length c, .int .i64 t, .slice Ab bar.length cb] w fun e w' => ∃ A' c', e = .returned (.slice A' (tkL xs t bar).length c') ∧ Own w' w.heap.size A' c' (tkL xs t bar) ∧ Below w.heap.size w w' := by
  obtain ⟨i0, hi, hz0, hz1, hz2⟩ := info_parts Try.infoInt
  have HC := hid hc; have HCB := hid hcb; clear hc hcb
  have HH := hid fun W z (h : Cells W Ab bar) => l1Has_any Ab bar cb z W (by omega) h
  have HY := hid fun k => barRest_snoc_yes (xs := xs.take k) (bar := bar) (x := xs.getD k 0)
  have HN := hid fun k => barRest_snoc_no (xs := xs.take k) (bar := bar) (x := xs.getD k 0)
  have HTK := hid fun k (h : k < xs.length) => (show xs.take (k + 1) = xs.take k ++ [xs.getD k 0] by
    rw [List.take_succ_eq_append_getElem h, List.getD_eq_getElem?_getD, List.getElem?_eq_getElem h]; rfl)
  have HBB := hid hbb; clear hbb
  have HIB := hid hib; clear hib
  go_enter Try.func31, Try.ntmps31
  go_wp2_with fail
  go_loopw [7, 12] (fun v i wr => ∃ k : Nat, k ≤ xs.length ∧ i = .int .i64 k ∧ wr.ownsRow w.heap.size 3 1 v (barRest (xs.take k) bar).length (IL (barRest (xs.take k) bar)) ∧ Below w.heap.size w wr) (fun _ i _ => xs.length - (intOf i).toNat)
  case atStart => exact ⟨0, Nat.zero_le _, rfl, World.ownsRow_nil _ _ _ _, Below.refl _ _⟩
  case round =>
    obtain ⟨k, hk, rfl, hown, hbel⟩ := hrel
    have hRl := barRest_len (xs.take k) bar
    rw [List.length_take] at hRl
    by_cases hlt : k < xs.length
    · obtain ⟨b, o, rfl, hcc⟩ := (HC.out.later hbel) (by omega)
      have hck := hcc k hlt
      have HYk := hid (HY.out k); have HNk := hid (HN.out k)
      have HTKk := hid (HTK.out k hlt)
      have HHk := hid fun z => HH.out wr z (HCB.out.later hbel)
      obtain ⟨y, hy⟩ : ∃ y, y = xs.getD k 0 := ⟨_, rfl⟩
      rw [← hy] at hck HYk HNk HTKk
      rw [← HTKk.out] at HYk HNk
      obtain ⟨L, hL⟩ : ∃ L, L = barRest (xs.take k) bar := ⟨_, rfl⟩
      rw [← hL] at hown hRl HYk HNk
      have hL30 : L.length ≤ 30 := by omega
      clear hcc hy hL hRl
      by_cases hm : y ∈ bar
      · have HE := hid (HNk.out hm)
        have HHz := hid (HHk.out y)
        rw [decide_eq_true hm] at HHz
        clear hm
        go_wp2_with (go_at_call 40; refine HHz.out.mono ?_; rintro e w' ⟨rfl, rfl⟩)
        go_roundw
        case rel => exact ⟨k + 1, by omega, by go_num, by rw [HE.out]; exact hown, hbel⟩
        case measure => simp [intOf]; omega
      · have HE := hid (HYk.out hm)
        have HHz := hid (HHk.out y)
        rw [decide_eq_false hm] at HHz
        clear hm
        go_wp2_with (first | (go_at_call 40; refine HHz.out.mono ?_; rintro e w' ⟨rfl, rfl⟩) | (at_builtin; refine wpList_append_own _ rfl _ _ 22 rfl w.heap.size 3 i0 (.int .i64 0) 1 8 Try.underlying22 hi hz0 hz1 hz2 rfl (by decide) _ _ _ rfl (hown.alloc _) ⟨wr.heap.size, 0, none⟩ 1 1 [.int .i64 y] rfl rfl one_at (one_cell _) (by unfold maxLen; omega) (by omega) (by have := hbel.size; simp; omega) ?_))
        intro v' w1 hown' hgrow _
        have hb1 : Below w.heap.size w w1 := (hbel.alloc hbel.size _).grown hgrow (by have := hbel.size; simp; omega) (fun q hq => (hown.lt q hq).1)
        have hown2 := own_snoc HE.out hown'
        clear hgrow hown hown'
        go_wp2_with fail
        go_roundw
        case rel => exact ⟨k + 1, by omega, by go_num, hown2, hb1⟩
        case measure => simp [intOf]; omega
    · have hke : k = xs.length := by omega
      subst hke
      rw [List.take_length] at hown hRl
      obtain ⟨A1, c1, rfl, ho⟩ := own_form hown rfl
      have HO := hid ho
      have HSP := hid (show ∀ s, bar.sum = s → tkL xs t bar = if 0 < s - t then insD (barRest xs bar) (s - t) else barRest xs bar from fun s h => by subst h; rfl)
      obtain ⟨L, hL⟩ : ∃ L, L = barRest xs bar := ⟨_, rfl⟩
      rw [← hL] at HO hRl HSP
      rw [← hL]
      have hL30 : L.length ≤ 30 := by omega
      clear hown ho hRl hL
      rcases hbl with hb1 | hb2
      · obtain ⟨x, hx⟩ : ∃ x, x = bar.getD 0 0 := ⟨_, rfl⟩
        have hsum : bar.sum = x := by
          match bar, hb1, hx with
          | [z], _, hz => simpa using hz.symm
        obtain ⟨b, o, e, hcc⟩ := (HCB.out.later hbel) (by omega)
        have hck := hcc 0 (by omega)
        rw [← hx, Nat.add_zero] at hck
        have hxb := HBB.out 0 (by omega)
        rw [← hx] at hxb
        have hb1i : ((bar.length : Nat) : Int) = 1 := by omega
        have HS1 := hid (HSP.out x hsum)
        have h0l : (0 : Int) < (bar.length : Int) := by omega
        have h0n : 0 < bar.length := by omega
        subst e
        clear hcc hx hsum hb1
        by_cases hgt : t < x
        · rw [if_pos (show 0 < x - t by omega)] at HS1
          have HBP := hid (brPut_any A1 c1 L (x - t) wr (by omega) HO.out)
          have hiw : IntKind.i64.wrap (x - t) = x - t := IntWalk.i64_in _ (by omega)
          go_wp2_with (go_at_call 43; refine HBP.out.mono ?_; rintro e w2 ⟨A2, c2, rfl, o2, b2⟩)
          go_ret
          exact ⟨A2, c2, by rw [HS1.out]; rfl, by rw [HS1.out]; exact o2.more hbel.size, Below.next hbel b2⟩
        · rw [if_neg (show ¬ 0 < x - t by omega)] at HS1
          go_wp2_with fail
          go_ret
          exact ⟨A1, c1, by rw [HS1.out]; rfl, by rw [HS1.out]; exact HO.out, hbel⟩
      · have hbi : ¬ ((bar.length : Nat) : Int) = 1 := by omega
        have hn : ¬ 0 < bar.sum - t := by
          have := HIB.out
          simp only [isB, Bool.or_eq_true, Bool.and_eq_true, decide_eq_true_eq] at this
          omega
        have HS1 := hid (HSP.out _ rfl)
        rw [if_neg hn] at HS1
        clear hn hb2
        go_wp2_with fail
        go_ret
        exact ⟨A1, c1, by rw [HS1.out]; rfl, by rw [HS1.out]; exact HO.out, hbel⟩
end Go.Proofs.Ytcgoiddghenkmaa
