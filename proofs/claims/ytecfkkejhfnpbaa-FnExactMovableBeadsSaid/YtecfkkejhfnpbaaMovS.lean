/-
  Contracts: MovableBeads of the model.
-/
import Derived.Test.YtecfkkejhfnpbaaMovF
import Derived.Test.YtecfkkejhfnpbaaMaya
namespace Go.Proofs.Ytecfkkejhfnpbaa
open Go.RowKit

set_option maxRecDepth 100000 in
set_option maxHeartbeats 1000000 in
theorem abCan_any (r : Int) (A : Option Addr) (c : Nat) (xs : List Int) (a b : Int) (w : World) (hl : xs.length ≤ 1048576) (hc : Cells w A xs) (d : Bool) (hd : (decide (a ∈ xs) && (decide (0 ≤ b) && !decide (b ∈ xs))) = d) :
    Calls Try.prog 96 #[.agg #[.int .i64 r, .slice A xs.length c], .int .i64 a, .int .i64 b] w fun e w' => e = .returned (.bool d) ∧ Below w.heap.size w w' := by
  subst hd
  have hb : Below w.heap.size w (w.alloc (.cells #[.int .i64 r, .slice A xs.length c] 29)) := (Below.refl _ _).alloc (Nat.le_refl _) _
  have hcb := hc.below hb
  cases ha : decide (a ∈ xs)
  · have HA := hid ha
    clear ha
    go_enter Try.func96, Try.ntmps96
    go_wp2_with (go_at_call 105; refine (l1Has_b _ _ _ _ _ hl hcb _ HA.out).mono ?_; rintro e w' ⟨rfl, rfl⟩)
    go_ret
    exact ⟨ret_bool (by simp), hb⟩
  by_cases h0 : 0 ≤ b
  · cases hm : decide (b ∈ xs)
    all_goals
      have HA := hid ha
      have HM := hid hm
      clear ha hm
      go_enter Try.func96, Try.ntmps96
      go_wp2_with fail
      refine (l1Has_b _ _ _ _ _ hl hcb _ HA.out).mono ?_
      rintro e w' ⟨rfl, rfl⟩
      go_wp2_with fail
      refine (l1Has_b _ _ _ _ _ hl hcb _ HM.out).mono ?_
      rintro e w' ⟨rfl, rfl⟩
      go_wp2_with fail
      go_ret
      exact ⟨ret_bool (by rw [decide_eq_true h0]; rfl), hb⟩
  · have HA := hid ha
    clear ha
    go_enter Try.func96, Try.ntmps96
    go_wp2_with (go_at_call 105; refine (l1Has_b _ _ _ _ _ hl hcb _ HA.out).mono ?_; rintro e w' ⟨rfl, rfl⟩)
    go_ret
    exact ⟨ret_bool (by rw [decide_eq_false (show ¬ 0 ≤ b by omega)]; rfl), hb⟩

set_option maxRecDepth 100000 in
set_option maxHeartbeats 4000000 in
theorem spec_MovableBeads (r : Int) (A : Option Addr) (c : Nat) (xs : List Int) (w : World) (hl : xs.length ≤ 1048576) (hc : Cells w A xs) :
    Calls Try.prog 45 #[.agg #[.int .i64 r, .slice A xs.length c]] w fun e w' => ∃ A' c', e = .returned (.tuple #[.slice A' (movF r xs).length c', .bool (isAba r xs)]) ∧ Own w' w.heap.size A' c' (movF r xs) ∧ Below w.heap.size w w' := by
  obtain ⟨i0, hi, hz0, hz1, hz2⟩ := info_parts Try.infoInt
  have y0 := Box2.new w 29 (.int .i64 r) (.slice A xs.length c)
  have b0 : Below w.heap.size w (w.alloc (.cells #[.int .i64 r, .slice A xs.length c] 29)) := (Below.refl _ _).alloc (Nat.le_refl _) _
  have HIS := hid fun b (h : isAba r xs = b) => abIs_b r A c xs (w.alloc (.cells #[.int .i64 r, .slice A xs.length c] 29)) hl (hc.below b0) b h
  have h0 := y0.cell0
  have h1 := y0.cell1
  cases hab : isAba r xs
  · rw [show movF r xs = [] by simp [movF, hab]]
    have HA := hid hab
    clear hab
    go_enter Try.func45, Try.ntmps45
    go_wp2_with (go_at_call 84; refine (HIS.out _ HA.out).mono ?_; rintro e w1 ⟨rfl, b1⟩)
    go_ret2
    exact ⟨none, 0, rfl, own_nil _ _, Below.next b0 b1⟩
  rw [show movF r xs = movL r xs by simp [movF, hab]]
  have hab2 := hab
  simp only [isAba, Bool.and_eq_true] at hab2
  have ht := inB_iff.1 hab2.1
  obtain ⟨t, rfl⟩ : ∃ t : Nat, r = t := ⟨r.toNat, by omega⟩
  have ht2 : 2 ≤ t ∧ t ≤ 6 := by omega
  have GB := hid (goodB_iff.1 hab2.2)
  have hlen := GB.out.len
  have HA := hid hab
  have HY := hid y0
  unfold movL
  clear hab hab2 y0
  go_enter Try.func45, Try.ntmps45
  go_wp2_with (go_at_call 84; refine (HIS.out _ HA.out).mono ?_; rintro e w1 ⟨rfl, b1⟩; have B1 := Below.next b0 b1; have hh0 := (HY.out.next b1).cell0; have hh1 := (HY.out.next b1).cell1; have Z1 := hid (HY.out.next b1))
  go_loopw [4, 13] (fun v i wr => ∃ k : Nat, k ≤ xs.length ∧ i = .int .i64 k ∧ Hid (wr.ownsRow w.heap.size 3 1 v ((xs.take k).filter (canMv t xs)).length (IL ((xs.take k).filter (canMv t xs)))) ∧ Hid (Box2 wr w.heap.size 29 (.int .i64 t) (.slice A xs.length c)) ∧ Below w.heap.size w wr) (fun _ i _ => xs.length - (intOf i).toNat)
  case atStart => exact ⟨0, Nat.zero_le _, rfl, hid (World.ownsRow_nil _ _ _ _), Z1, B1⟩
  case round =>
    obtain ⟨k, hk, rfl, HOW, HZZ, hbw⟩ := hrel
    by_cases hlt : k < xs.length
    · obtain ⟨b, o, rfl, hcc⟩ := (hc.later hbw) (by omega)
      have hck := hcc k hlt
      have hxb := GB.out.top hlt
      have hxm : xs.getD k 0 ∈ xs := mem_getD.2 ⟨k, hlt, rfl⟩
      have hst := filt_t (p := canMv t xs) xs k hlt
      have hsf := filt_f (p := canMv t xs) xs k hlt
      have hfll := List.length_filter_le (canMv t xs) (xs.take k)
      rw [List.length_take] at hfll
      have HFL := hid (show ((xs.take k).filter (canMv t xs)).length ≤ 40 by omega)
      have hcan := abCan_any (t : Int) (some ⟨b, o, none⟩) c xs (xs.getD k 0) (xs.getD k 0 - t) wr hl (hc.later hbw) (canMv t xs (xs.getD k 0)) (by
        rw [decide_eq_true hxm, Bool.true_and]; unfold canMv; congr 1; exact decide_eq_decide.2 (by omega))
      obtain ⟨x, hx⟩ : ∃ x, x = xs.getD k 0 := ⟨_, rfl⟩
      rw [← hx] at hck hxb hst hsf hcan
      have f0 := HZZ.out.cell0
      have f1 := HZZ.out.cell1
      cases hcm : canMv t xs x
      · rw [hcm] at hcan
        have HC := hid hcan
        have HS := hid (hsf hcm)
        clear hcc hxm hst hsf hfll hx hcm hcan
        go_wp2_with (go_at_call 96; refine HC.out.mono ?_; rintro e w4 ⟨rfl, b4⟩)
        have HO2 := hid (show w4.ownsRow w.heap.size 3 1 u4 (((xs.take (k + 1)).filter (canMv t xs))).length (IL ((xs.take (k + 1)).filter (canMv t xs))) by rw [HS.out]; exact owns_below HOW.out b4)
        have HZ4 := hid (HZZ.out.next b4)
        go_roundw
        case rel => exact ⟨k + 1, by omega, by go_num, HO2, HZ4, Below.next hbw b4⟩
        case measure => simp [intOf]; omega
      · rw [hcm] at hcan
        have HC := hid hcan
        have HS := hid (hst hcm)
        clear hcc hxm hst hsf hfll hx hcm hcan
        obtain ⟨fl, hfl⟩ : ∃ fl, fl = (xs.take k).filter (canMv t xs) := ⟨_, rfl⟩
        rw [← hfl] at HS HFL HOW
        clear hfl
        go_wp2_with (first | (go_at_call 96; refine HC.out.mono ?_; rintro e w4 ⟨rfl, b4⟩; have o4 := owns_below HOW.out b4; have hbw4 := Below.next hbw b4; have HZ4 := hid (HZZ.out.next b4)) | (at_builtin; refine wpList_append_own _ rfl _ _ 22 rfl w.heap.size 3 i0 (.int .i64 0) 1 8 Try.underlying22 hi hz0 hz1 hz2 rfl (by decide) _ _ _ rfl (o4.alloc _) ⟨w4.heap.size, 0, none⟩ 1 1 [.int .i64 x] rfl rfl one_at (one_cell _) (by have := HFL.out; unfold maxLen; omega) (by have := HFL.out; omega) (by have := hbw4.size; simp; omega) ?_))
        intro v' w5 hown' hgrow _
        have hb5 : Below w.heap.size w w5 := (hbw4.alloc hbw4.size _).grown hgrow (by have := hbw4.size; simp; omega) (fun q hq => (o4.lt q hq).1)
        have hown2 := own_snoc HS.out hown'
        have HO2 := hid hown2
        have HZ5 := hid (HZ4.out.keepG hgrow (fun e => own_ne_box o4 HZ4.out e))
        clear hown' hgrow hown2
        go_wp2_with fail
        go_roundw
        case rel => exact ⟨k + 1, by omega, by go_num, HO2, HZ5, hb5⟩
        case measure => simp [intOf]; omega
    · have hkl : k = xs.length := by omega
      subst hkl
      have ho := HOW.out
      rw [List.take_of_length_le (Nat.le_refl _)] at ho
      obtain ⟨A', c', rfl, ho'⟩ := own_form ho rfl
      clear ho
      go_wp2_with fail
      go_ret2
      exact ⟨A', c', rfl, ho', hbw⟩
end Go.Proofs.Ytecfkkejhfnpbaa
