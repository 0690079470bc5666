/-
  Contracts: the model's rows of contents and of hooks.
-/
import Derived.Test.YtabnhmjiegeldaaRowsMath
import Derived.Test.YtabnhmjiegeldaaHookF
import Derived.Test.YtabnhmjiegeldaaCorners
namespace Go.Proofs.Ytabnhmjiegeldaa
open Go.RowKit

theorem cols_get' (xs : List Int) (G : Good xs) {k n m : Nat} (hk : k < xs.length) (hn : (n : Int) = xs.getD k 0) (hm : m < n) : m < (cols xs).length ∧ (m : Int) < xs.getD k 0 := by
  have h : (m : Int) < xs.getD k 0 := by omega
  exact ⟨col_lt G hk h, h⟩

set_option maxRecDepth 100000 in
set_option maxHeartbeats 2000000 in
theorem ptHooks_any (A : Option Addr) (c : Nat) (xs : List Int) (w : World) (G : Good xs) (hc : Cells w A xs) :
    Calls Try.prog 196 #[.slice A xs.length c] w fun e w' => ∃ A' c', e = .returned (.slice A' (rowsF xs (hookN xs) xs.length).length c') ∧ Own2 w' w.heap.size w'.heap.size A' c' (rowsF xs (hookN xs) xs.length) ∧ Below w.heap.size w w' := by
  obtain ⟨i0, hi, hz0, hz1, hz2⟩ := info_parts Try.infoInt
  obtain ⟨i1, hj, hy0, hy1, hy2⟩ := info_parts Try.infoInts
  have HG := hid G
  have hlen := HG.out.len
  clear G
  go_enter Try.func196, Try.ntmps196
  go_wp2_with fail
  refine (ptTurn_any _ _ _ _ HG.out hc).mono ?_
  rintro e wt ⟨At, ct, rfl, ot, bt⟩
  go_wp2_with fail
  go_loopw [4, 13] (fun v i wr => ∃ k : Nat, k ≤ xs.length ∧ i = .int .i64 k ∧ (∃ P C, Push wr wt.heap.size v (rowsF xs (hookN xs) k) P C) ∧ Below wt.heap.size wt wr) (fun _ i _ => xs.length - (intOf i).toNat)
  case atStart => exact ⟨0, Nat.zero_le _, rfl, ⟨_, _, push_nil _ _⟩, Below.refl _ _⟩
  case round =>
    obtain ⟨k, hk, rfl, ⟨P, C, hpush⟩, hbel⟩ := hrel
    have HP := hid hpush; clear hpush
    have hrl := rowsF_len xs (hookN xs) k
    have HRL := hid hrl; clear hrl
    by_cases hlt : k < xs.length
    · have hx1 := HG.out.pos k hlt
      have hx2 := HG.out.le k hlt
      have hcr : Cells wr A xs := hc.later (Below.next bt hbel)
      obtain ⟨b, o, rfl, hck⟩ := hcr.get hlt
      obtain ⟨n, hn⟩ : ∃ n : Nat, (n : Int) = xs.getD k 0 := ⟨(xs.getD k 0).toNat, by omega⟩
      rw [← hn] at hck hx1 hx2
      have HN := hid hn; clear hn
      obtain ⟨wo, rfl⟩ : ∃ wo : World, wo = wr := ⟨_, rfl⟩
      go_wp2_with fail
      go_loopw [7, 8] (fun v j wi => ∃ m : Nat, m ≤ n ∧ j = .int .i64 m ∧ wi.ownsRow wo.heap.size 3 1 v (rowF (hookN xs) k m).length (IL (rowF (hookN xs) k m)) ∧ Below wo.heap.size wo wi) (fun _ j _ => n - (intOf j).toNat)
      case atStart => exact ⟨0, Nat.zero_le _, rfl, World.ownsRow_nil _ _ _ _, Below.refl _ _⟩
      case round =>
        obtain ⟨m, hm, rfl, hown, hbi⟩ := hrel
        have hfl := rowF_len (hookN xs) k m
        have HFL := hid hfl; clear hfl
        by_cases hml : m < n
        ·
            have hmy := cols_get' xs HG.out hlt HN.out hml
            obtain ⟨b3, o3, rfl, hyc⟩ := (ot.below (Below.next hbel hbi)).cells.get hmy.1
            have hyb := col_bound xs HG.out m
            obtain ⟨y, hy⟩ : ∃ y, y = (cols xs).getD m 0 := ⟨_, rfl⟩
            rw [← hy] at hyc hyb
            have HY := hid hy; clear hy
            have hmy' : (m : Int) < ((cols xs).length : Int) := by have := hmy.1; omega
            have hv : (n : Int) - m + y - k - 1 = hookN xs k m := by unfold hookN; rw [← HN.out, HY.out]
            have HV := hid hv; clear hv hmy
            go_wp2_with (at_builtin; refine wpList_append_own _ rfl _ _ 22 rfl wo.heap.size 3 i0 (.int .i64 0) 1 8 Try.underlying22 hi hz0 hz1 hz2 rfl (by decide) _ _ _ rfl (hown.alloc _) ⟨wr.heap.size, 0, none⟩ 1 1 [.int .i64 ((n : Int) - (m : Int) + y - (k : Int) - 1)] rfl rfl one_at (one_cell _) (by have := HFL.out; unfold maxLen; omega) (by have := HFL.out; omega) (by have := hbi.size; simp; omega) ?_)
            intro v' w1 hown' hgrow _
            have hb1 : Below wo.heap.size wo w1 := (hbi.alloc hbi.size _).grown hgrow (by have := hbi.size; simp; omega) (fun q hq => (hown.lt q hq).1)
            rw [HV.out] at hown'
            have hown2 := own_snoc (rowF_succ (hookN xs) k m) hown'
            clear hgrow hown hown'
            go_wp2_with fail
            go_roundw
            case rel => exact ⟨m + 1, by omega, by go_num, hown2, hb1⟩
            case measure => simp [intOf]; omega
        · have hmn : m = n := by omega
          subst hmn
          obtain ⟨Ar, cr, rfl, ho⟩ := own_form hown rfl
          clear hown
          have hsz := hbi.size
          have hsz0 := hbel.size
          go_wp2_with (at_builtin; refine wpList_append_own _ rfl _ _ 33 rfl wt.heap.size 22 i1 (.slice none 0 0) 1 24 Try.underlying33 hj hy0 hy1 hy2 rfl (by decide) _ _ _ rfl ((HP.out.below hbi).out.alloc _) ⟨wr.heap.size, 0, none⟩ 1 1 [.slice Ar (rowF (hookN xs) k m).length cr] rfl rfl one_at (one_cellS _ _ _) (by have := HRL.out; unfold maxLen; omega) (by have := HRL.out; omega) (by simp; omega) ?_)
          intro v' w1 hown' hgrow _
          have hb1 : Below wt.heap.size wt w1 := ((hbel.trans (hbi.mono hsz0)).alloc (by omega) _).grown hgrow (by simp; omega) (fun q hq => (HP.out.out.lt q hq).1)
          have hp2 := HP.out.push hbi ho hsz0 hown' hgrow
          have hxk : (xs.getD k 0).toNat = m := by rw [← HN.out]; omega
          have e := rowsF_succ xs (hookN xs) k
          rw [hxk] at e
          rw [← e] at hp2
          have HP2 := hid hp2
          clear hown' hgrow e hxk hp2
          go_wp2_with fail
          go_roundw
          case rel => exact ⟨k + 1, by omega, by go_num, ⟨_, _, HP2.out⟩, hb1⟩
          case measure => simp [intOf]; omega
    · have hkl : k = xs.length := by omega
      subst hkl
      obtain ⟨A', c', rfl, ho⟩ := HP.out.own2
      go_wp2_with fail
      go_ret
      exact ⟨A', c', rfl, ho.more bt.size, Below.next bt hbel⟩
end Go.Proofs.Ytabnhmjiegeldaa
