/-
  Contracts: RimCells and IsCore of the program and of the model.
-/
import Derived.Test.YtecfkkejhfnpbaaCrMath
import Derived.Test.YtecfkkejhfnpbaaRowsF
import Derived.Test.YtecfkkejhfnpbaaAba
namespace Go.Proofs.Ytecfkkejhfnpbaa
open Go.RowKit

theorem crT_any (A : Option Addr) (c : Nat) (xs : List Int) (t : Int) (w : World) (hl : xs.length ≤ 1048576) (hc : Cells w A xs) (b : Bool) (h : crB xs t = b) :
    Calls Try.prog 114 #[.slice A xs.length c, .int .i64 t] w fun e w' => e = .returned (.bool b) ∧ ∃ n, w' = w.drewN n := by
  subst h
  cases ht : inB 2 6 t
  · have HT := hid ht; clear ht
    go_enter Try.func114, Try.ntmps114
    go_wp2_with (go_at_call 89; refine (abRunners_b _ _ _ HT.out).mono ?_; rintro e w' ⟨rfl, rfl⟩)
    go_ret
    exact ⟨ret_bool (by simp [crB, HT.out]), 0, rfl⟩
  · have HT := hid ht; clear ht
    go_enter Try.func114, Try.ntmps114
    go_wp2_with (first | (go_at_call 89; refine (abRunners_b _ _ _ HT.out).mono ?_; rintro e w' ⟨rfl, rfl⟩) | (go_at_call 106; refine (ptGood_any _ _ _ _ hl hc).mono ?_; rintro e w' ⟨rfl, n, rfl⟩))
    go_ret
    exact ⟨ret_bool (by simp [crB, HT.out]), n, rfl⟩

set_option maxRecDepth 100000 in
set_option maxHeartbeats 2000000 in
theorem crCells_any (A : Option Addr) (c : Nat) (xs : List Int) (t : Int) (w : World) (G : Good xs) (hc : Cells w A xs) :
    Calls Try.prog 115 #[.slice A xs.length c, .int .i64 t] w fun e w' => ∃ A' c', e = .returned (.slice A' (pairs (rimCs xs t)).length c') ∧ Own2 w' w.heap.size w'.heap.size A' c' (pairs (rimCs xs t)) ∧ Below w.heap.size w w' := by
  obtain ⟨i1, hj, hy0, hy1, hy2⟩ := info_parts Try.infoInts
  have HT := hid (hooksR_tot G)
  have hRl := hooksR_len xs
  have hptH := fun W h => ptHooks_any A c xs W G h
  change ∀ W, Cells W A xs → Calls Try.prog 141 #[.slice A xs.length c] W fun e w' => ∃ A' c', e = .returned (.slice A' (hooksR xs).length c') ∧ Own2 w' W.heap.size w'.heap.size A' c' (hooksR xs) ∧ Below W.heap.size W w' at hptH
  have hrc : rimCs xs t = hits (hooksR xs) t (hooksR xs).length := by rw [hRl]; rfl
  rw [hrc]
  have hlen := G.len
  have HH := hid hptH; clear hptH hrc G
  obtain ⟨R, hR⟩ : ∃ R, R = hooksR xs := ⟨_, rfl⟩
  rw [← hR] at HT hRl HH ⊢
  have ht9 : tot R ≤ 900 := HT.out
  have hR30 : R.length ≤ 30 := by omega
  clear hR hRl
  go_enter Try.func115, Try.ntmps115
  go_wp2_with (go_at_call 141; refine (HH.out _ hc).mono ?_; rintro e wt ⟨At, ct, rfl, ot, bt⟩)
  obtain ⟨Pt, Ct, hA1, hA2⟩ := ot.cells
  clear ot
  go_loopw [5, 6, 7, 8, 9, 13] (fun v _ _ _ _ i wr => ∃ k : Nat, k ≤ R.length ∧ i = .int .i64 k ∧ (∃ P C, Push wr wt.heap.size v (pairs (hits R t k)) P C) ∧ Below wt.heap.size wt wr) (fun _ _ _ _ _ i _ => R.length - (intOf i).toNat)
  case atStart => exact ⟨0, Nat.zero_le _, rfl, ⟨_, _, push_nil _ _⟩, Below.refl _ _⟩
  case round =>
    obtain ⟨k, hk, rfl, ⟨P, C, hpush⟩, hbel⟩ := hrel
    obtain ⟨wo, rfl⟩ : ∃ wo : World, wo = wr := ⟨_, rfl⟩
    have HP := hid hpush; clear hpush
    by_cases hlt : k < R.length
    · obtain ⟨b, o, rfl, hcc⟩ := hA1 (by omega)
      have hck0 := hcc k hlt
      have hck := (hbel.cell (World.block_lt_of_cell? wt _ hck0)).trans hck0
      have hr0 := hA2 k hlt
      have hrl : (R.getD k []).length ≤ 900 := by have := tot_take_succ R k hlt; have := tot_take_le R (k + 1); omega
      obtain ⟨r, hre⟩ : ∃ r, r = R.getD k [] := ⟨_, rfl⟩
      have HRE := hid hre
      rw [← hre] at hck hr0 hrl
      obtain ⟨Ar, hAr⟩ : ∃ Ar, Ar = Pt k := ⟨_, rfl⟩
      obtain ⟨Cr, hCr⟩ : ∃ Cr, Cr = Ct k := ⟨_, rfl⟩
      rw [← hAr, ← hCr] at hck
      rw [← hAr] at hr0
      have HR0 := hid hr0
      clear hcc hre hck0 hr0 hAr hCr
      go_wp2_with fail
      go_loopw [5, 8, 9, 20] (fun v _ _ j wi => ∃ m : Nat, m ≤ r.length ∧ j = .int .i64 m ∧ (∃ P C, Push wi wt.heap.size v (pairs (hitsAt R t k m)) P C) ∧ Below wt.heap.size wt wi) (fun _ _ _ j _ => r.length - (intOf j).toNat)
      case atStart => exact ⟨0, Nat.zero_le _, rfl, ⟨P, C, by rw [hitsAt_zero]; exact HP.out⟩, hbel⟩
      case round =>
        obtain ⟨m, hm, rfl, ⟨P2, C2, hpush2⟩, hbel2⟩ := hrel
        have HP2 := hid hpush2; clear hpush2
        have hsz2 := hbel2.size
        by_cases hml : m < r.length
        · obtain ⟨b3, o3, rfl, hcr⟩ := HR0.out (by omega)
          have hcm0 := hcr m hml
          have hcm := (hbel2.cell (World.block_lt_of_cell? wt _ hcm0)).trans hcm0
          have hbd : (hitsAt R t k m).length ≤ 900 := Nat.le_trans (hitsAt_len R t k m hlt (by rw [← HRE.out]; omega)) HT.out
          have HBD := hid hbd; clear hbd
          clear hcr hcm0
          obtain ⟨x, hx⟩ : ∃ x, x = r.getD m 0 := ⟨_, rfl⟩
          rw [← hx] at hcm
          have HX := hid hx; clear hx
          by_cases hxt : x = t
          · subst hxt
            have hs := hitsAt_t R x k m (by rw [← HRE.out, ← HX.out])
            have HS := hid hs; clear hs
            have ho2 : Own (wr.alloc (.cells #[.int .i64 k, .int .i64 m] 3)) wr.heap.size (some ⟨wr.heap.size, 0, none⟩) 2 [(k : Int), (m : Int)] := own_two wr wr.heap.size (Nat.le_refl _) k m
            have hbw : Below wr.heap.size wr (wr.alloc (.cells #[.int .i64 k, .int .i64 m] 3)) := (Below.refl _ _).alloc (Nat.le_refl _) _
            have hszw : (wr.alloc (.cells #[.int .i64 k, .int .i64 m] 3)).heap.size = wr.heap.size + 1 := by simp
            have hpl := pairs_len (hitsAt R x k m)
            have HPL := hid hpl; clear hpl
            go_wp2_with (at_builtin; refine wpList_append_own _ rfl _ _ 26 rfl wt.heap.size 22 i1 (.slice none 0 0) 1 24 Try.underlying26 hj hy0 hy1 hy2 rfl (by decide) _ _ _ rfl ((HP2.out.below hbw).out.alloc _) ⟨wr.heap.size + 1, 0, none⟩ 1 1 [.slice (some ⟨wr.heap.size, 0, none⟩) 2 2] rfl rfl (one_at_n hszw) (one_cellS _ _ _) (by have := HPL.out; have := HBD.out; unfold maxLen; omega) (by have := HPL.out; have := HBD.out; omega) (by simp; omega) ?_)
            intro v' w2 hown' hgrow _
            have hb1 : Below wt.heap.size wt w2 := ((hbel2.trans (hbw.mono hsz2)).alloc (by simp; omega) _).grown hgrow (by simp; omega) (fun q hq => (HP2.out.out.lt q hq).1)
            have hp2 := HP2.out.push hbw ho2 hsz2 hown' hgrow
            rw [← pairs_snoc, ← HS.out] at hp2
            have HP3 := hid hp2
            clear hown' hgrow hp2
            go_wp2_with fail
            go_roundw
            case rel => exact ⟨m + 1, by omega, by go_num, ⟨_, _, HP3.out⟩, hb1⟩
            case measure => simp [intOf]; omega
          · have hs := hitsAt_f R t k m (by rw [← HRE.out, ← HX.out]; exact hxt)
            have hp3 := HP2.out
            rw [← hs] at hp3
            have HP3 := hid hp3
            clear hs hp3
            go_wp2_with fail
            go_roundw
            case rel => exact ⟨m + 1, by omega, by go_num, ⟨_, _, HP3.out⟩, hbel2⟩
            case measure => simp [intOf]; omega
        · have hmr : m = r.length := by omega
          have hp3 := HP2.out
          rw [hmr, HRE.out, ← hits_succ] at hp3
          have HP3 := hid hp3
          clear hp3
          go_wp2_with fail
          go_roundw
          case rel => exact ⟨k + 1, by omega, by go_num, ⟨_, _, HP3.out⟩, hbel2⟩
          case measure => simp [intOf]; omega
    · have hkl : k = R.length := by omega
      subst hkl
      obtain ⟨A', c', rfl, ho⟩ := HP.out.own2
      go_wp2_with fail
      go_ret
      exact ⟨A', c', rfl, ho.more bt.size, Below.next bt hbel⟩

theorem crB_good {xs : List Int} {t : Int} (h : crB xs t = true) : good xs = true ∧ inB 2 6 t = true := by
  simp only [crB, Bool.and_eq_true] at h; exact h

theorem spec_RimCells (A : Option Addr) (c : Nat) (xs : List Int) (t : Int) (w : World) (hl : xs.length ≤ 1048576) (hc : Cells w A xs) (_ : I64 t) :
    Calls Try.prog 53 #[.slice A xs.length c, .int .i64 t] w fun e w' => ∃ A' c', e = .returned (.tuple #[.slice A' (rimCellsF xs t).length c', .bool (crB xs t)]) ∧ Own2 w' w.heap.size w'.heap.size A' c' (rimCellsF xs t) ∧ Below w.heap.size w w' := by
  cases hg : crB xs t
  · rw [show rimCellsF xs t = [] by simp [rimCellsF, hg]]
    have HG := hid hg; clear hg
    go_enter Try.func53, Try.ntmps53
    go_wp2_with (go_at_call 114; refine (crT_any _ _ _ _ _ hl hc _ HG.out).mono ?_; rintro e w' ⟨rfl, n, rfl⟩)
    go_ret2
    exact ⟨none, 0, rfl, own2_nil _ _ _, below_drew' _ _⟩
  · rw [show rimCellsF xs t = pairs (rimCs xs t) by simp [rimCellsF, hg]]
    have G := hid ((good_iff xs).1 (crB_good hg).1)
    have HG := hid hg; clear hg
    go_enter Try.func53, Try.ntmps53
    go_wp2_with (first | (go_at_call 114; refine (crT_any _ _ _ _ _ hl hc _ HG.out).mono ?_; rintro e w' ⟨rfl, n, rfl⟩) | (go_at_call 115; refine (crCells_any _ _ _ _ _ G.out (by exact hc)).mono ?_; rintro e w2 ⟨A2, c2, rfl, o2, b2⟩))
    go_ret2
    exact ⟨A2, c2, rfl, o2, Below.next (below_drew' w n) b2⟩

set_option maxRecDepth 100000 in
set_option maxHeartbeats 2000000 in
theorem impl_RimCells (A : Option Addr) (c : Nat) (xs : List Int) (t : Int) (w : World) (hl : xs.length ≤ 1048576) (hc : Cells w A xs) (_ : I64 t) :
    Calls Try.prog 54 #[.slice A xs.length c, .int .i64 t] w fun e w' => ∃ A' c', e = .returned (.tuple #[.slice A' (rimCellsF xs t).length c', .bool (crB xs t)]) ∧ Own2 w' w.heap.size w'.heap.size A' c' (rimCellsF xs t) ∧ Below w.heap.size w w' := by
  obtain ⟨i1, hj, hy0, hy1, hy2⟩ := info_parts Try.infoInts
  cases hgg : good xs
  · have hg : crB xs t = false := by simp [crB, hgg]
    rw [show rimCellsF xs t = [] by simp [rimCellsF, hg], hg]
    have HH := hid (impl_HooksOf A c xs w hl hc)
    rw [hgg] at HH
    clear hg hgg
    go_enter Try.func54, Try.ntmps54
    go_wp2_with (go_at_call 116; refine (HH.out).mono ?_; rintro e w2 ⟨A2, c2, rfl, o2, b2⟩)
    go_ret2
    exact ⟨none, 0, rfl, own2_nil _ _ _, b2⟩
  cases ht : inB 2 6 t
  · have hg : crB xs t = false := by simp [crB, ht]
    rw [show rimCellsF xs t = [] by simp [rimCellsF, hg], hg]
    have HH := hid (impl_HooksOf A c xs w hl hc)
    rw [hgg] at HH
    have HT := hid ht
    clear hg hgg ht
    go_enter Try.func54, Try.ntmps54
    go_wp2_with (first | (go_at_call 116; refine (HH.out).mono ?_; rintro e w2 ⟨A2, c2, rfl, o2, b2⟩) | (go_at_call 92; refine (hasRunners_b _ _ _ HT.out).mono ?_; rintro e w' ⟨rfl, rfl⟩))
    go_ret2
    exact ⟨none, 0, rfl, own2_nil _ _ _, b2⟩
  have hg : crB xs t = true := by simp [crB, hgg, ht]
  have hRl := hooksR_len xs
  rw [show rimCellsF xs t = pairs (rimCs xs t) by simp [rimCellsF, hg], hg]
  have hhf : hooksF xs = hooksR xs := hooksF_t hgg
  have G := (good_iff xs).1 hgg
  have HH := hid (impl_HooksOf A c xs w hl hc)
  rw [hgg, hhf] at HH
  have HT := hid (hooksR_tot G)
  have HTT := hid ht
  have hrc : rimCs xs t = hits (hooksR xs) t (hooksR xs).length := by rw [hRl]; rfl
  rw [hrc]
  have hlen := G.len
  clear hrc G hhf hg hgg ht
  obtain ⟨R, hR⟩ : ∃ R, R = hooksR xs := ⟨_, rfl⟩
  rw [← hR] at HT hRl HH ⊢
  have ht9 : tot R ≤ 900 := HT.out
  have hR30 : R.length ≤ 30 := by omega
  clear hR hRl
  go_enter Try.func54, Try.ntmps54
  go_wp2_with (first | (go_at_call 116; refine (HH.out).mono ?_; rintro e wt ⟨At, ct, rfl, ot, bt⟩) | (go_at_call 92; refine (hasRunners_b _ _ _ HTT.out).mono ?_; rintro e w' ⟨rfl, rfl⟩))
  obtain ⟨Pt, Ct, hA1, hA2⟩ := ot.cells
  clear ot
  go_loopw [8, 9, 10, 11, 12, 27] (fun v _ _ _ _ i wr => ∃ k : Nat, k ≤ R.length ∧ i = .int .i64 k ∧ (∃ P C, Push wr wt.heap.size v (pairs (hits R t k)) P C) ∧ Below wt.heap.size wt wr) (fun _ _ _ _ _ i _ => R.length - (intOf i).toNat)
  case atStart => exact ⟨0, Nat.zero_le _, rfl, ⟨_, _, push_nil _ _⟩, Below.refl _ _⟩
  case round =>
    obtain ⟨k, hk, rfl, ⟨P, C, hpush⟩, hbel⟩ := hrel
    obtain ⟨wo, rfl⟩ : ∃ wo : World, wo = wr := ⟨_, rfl⟩
    have HP := hid hpush; clear hpush
    by_cases hlt : k < R.length
    · obtain ⟨b, o, rfl, hcc⟩ := hA1 (by omega)
      have hck0 := hcc k hlt
      have hck := (hbel.cell (World.block_lt_of_cell? wt _ hck0)).trans hck0
      have hr0 := hA2 k hlt
      have hrl : (R.getD k []).length ≤ 900 := by have := tot_take_succ R k hlt; have := tot_take_le R (k + 1); omega
      obtain ⟨r, hre⟩ : ∃ r, r = R.getD k [] := ⟨_, rfl⟩
      have HRE := hid hre
      rw [← hre] at hck hr0 hrl
      obtain ⟨Ar, hAr⟩ : ∃ Ar, Ar = Pt k := ⟨_, rfl⟩
      obtain ⟨Cr, hCr⟩ : ∃ Cr, Cr = Ct k := ⟨_, rfl⟩
      rw [← hAr, ← hCr] at hck
      rw [← hAr] at hr0
      have HR0 := hid hr0
      clear hcc hre hck0 hr0 hAr hCr
      go_wp2_with fail
      go_loopw [8, 11, 12, 34] (fun v _ _ j wi => ∃ m : Nat, m ≤ r.length ∧ j = .int .i64 m ∧ (∃ P C, Push wi wt.heap.size v (pairs (hitsAt R t k m)) P C) ∧ Below wt.heap.size wt wi) (fun _ _ _ j _ => r.length - (intOf j).toNat)
      case atStart => exact ⟨0, Nat.zero_le _, rfl, ⟨P, C, by rw [hitsAt_zero]; exact HP.out⟩, hbel⟩
      case round =>
        obtain ⟨m, hm, rfl, ⟨P2, C2, hpush2⟩, hbel2⟩ := hrel
        have HP2 := hid hpush2; clear hpush2
        have hsz2 := hbel2.size
        by_cases hml : m < r.length
        · obtain ⟨b3, o3, rfl, hcr⟩ := HR0.out (by omega)
          have hcm0 := hcr m hml
          have hcm := (hbel2.cell (World.block_lt_of_cell? wt _ hcm0)).trans hcm0
          have hbd : (hitsAt R t k m).length ≤ 900 := Nat.le_trans (hitsAt_len R t k m hlt (by rw [← HRE.out]; omega)) HT.out
          have HBD := hid hbd; clear hbd
          clear hcr hcm0
          obtain ⟨x, hx⟩ : ∃ x, x = r.getD m 0 := ⟨_, rfl⟩
          rw [← hx] at hcm
          have HX := hid hx; clear hx
          by_cases hxt : x = t
          · subst hxt
            have hs := hitsAt_t R x k m (by rw [← HRE.out, ← HX.out])
            have HS := hid hs; clear hs
            have ho2 : Own (wr.alloc (.cells #[.int .i64 k, .int .i64 m] 3)) wr.heap.size (some ⟨wr.heap.size, 0, none⟩) 2 [(k : Int), (m : Int)] := own_two wr wr.heap.size (Nat.le_refl _) k m
            have hbw : Below wr.heap.size wr (wr.alloc (.cells #[.int .i64 k, .int .i64 m] 3)) := (Below.refl _ _).alloc (Nat.le_refl _) _
            have hszw : (wr.alloc (.cells #[.int .i64 k, .int .i64 m] 3)).heap.size = wr.heap.size + 1 := by simp
            have hpl := pairs_len (hitsAt R x k m)
            have HPL := hid hpl; clear hpl
            go_wp2_with (at_builtin; refine wpList_append_own _ rfl _ _ 26 rfl wt.heap.size 22 i1 (.slice none 0 0) 1 24 Try.underlying26 hj hy0 hy1 hy2 rfl (by decide) _ _ _ rfl ((HP2.out.below hbw).out.alloc _) ⟨wr.heap.size + 1, 0, none⟩ 1 1 [.slice (some ⟨wr.heap.size, 0, none⟩) 2 2] rfl rfl (one_at_n hszw) (one_cellS _ _ _) (by have := HPL.out; have := HBD.out; unfold maxLen; omega) (by have := HPL.out; have := HBD.out; omega) (by simp; omega) ?_)
            intro v' w2 hown' hgrow _
            have hb1 : Below wt.heap.size wt w2 := ((hbel2.trans (hbw.mono hsz2)).alloc (by simp; omega) _).grown hgrow (by simp; omega) (fun q hq => (HP2.out.out.lt q hq).1)
            have hp2 := HP2.out.push hbw ho2 hsz2 hown' hgrow
            rw [← pairs_snoc, ← HS.out] at hp2
            have HP3 := hid hp2
            clear hown' hgrow hp2
            go_wp2_with fail
            go_roundw
            case rel => exact ⟨m + 1, by omega, by go_num, ⟨_, _, HP3.out⟩, hb1⟩
            case measure => simp [intOf]; omega
          · have hs := hitsAt_f R t k m (by rw [← HRE.out, ← HX.out]; exact hxt)
            have hp3 := HP2.out
            rw [← hs] at hp3
            have HP3 := hid hp3
            clear hs hp3
            go_wp2_with fail
            go_roundw
            case rel => exact ⟨m + 1, by omega, by go_num, ⟨_, _, HP3.out⟩, hbel2⟩
            case measure => simp [intOf]; omega
        · have hmr : m = r.length := by omega
          have hp3 := HP2.out
          rw [hmr, HRE.out, ← hits_succ] at hp3
          have HP3 := hid hp3
          clear hp3
          go_wp2_with fail
          go_roundw
          case rel => exact ⟨k + 1, by omega, by go_num, ⟨_, _, HP3.out⟩, hbel2⟩
          case measure => simp [intOf]; omega
    · have hkl : k = R.length := by omega
      subst hkl
      obtain ⟨A', c', rfl, ho⟩ := HP.out.own2
      go_wp2_with fail
      go_ret2
      exact ⟨A', c', rfl, ho.more bt.size, Below.next bt hbel⟩

theorem cast0 (n : Nat) : ((n : Int) == 0) = decide (n = 0) := by rw [Bool.eq_iff_iff]; simp
def isCoreF (xs : List Int) (t : Int) : Bool := crB xs t && decide ((rimCellsF xs t).length = 0)
theorem isCoreF_t {xs : List Int} {t : Int} (h : crB xs t = true) : isCoreF xs t = decide ((rimCellsF xs t).length = 0) := by simp [isCoreF, h]
theorem impl_IsCore (A : Option Addr) (c : Nat) (xs : List Int) (t : Int) (w : World) (hl : xs.length ≤ 1048576) (hc : Cells w A xs) (h64 : I64 t) :
    Calls Try.prog 62 #[.slice A xs.length c, .int .i64 t] w fun e w' => e = .returned (.tuple #[.bool (isCoreF xs t), .bool (crB xs t)]) ∧ Below w.heap.size w w' := by
  have HH := hid (impl_RimCells A c xs t w hl hc h64)
  cases hg : crB xs t
  · have e1 : isCoreF xs t = false := by simp [isCoreF, hg]
    rw [e1]
    rw [hg] at HH
    clear e1 hg
    go_enter Try.func62, Try.ntmps62
    go_wp2_with (go_at_call 54; refine (HH.out).mono ?_; rintro e w2 ⟨A2, c2, rfl, o2, b2⟩)
    go_ret2
    exact ⟨rfl, b2⟩
  · rw [isCoreF_t hg]
    rw [hg] at HH
    have hb := (bound_RimCells xs t).1
    obtain ⟨n, hn⟩ : ∃ n, n = (rimCellsF xs t).length := ⟨_, rfl⟩
    rw [← hn] at hb ⊢
    have HN := hid hn
    clear hg hn
    go_enter Try.func62, Try.ntmps62
    go_wp2_with (go_at_call 54; refine (HH.out).mono ?_; rw [← HN.out]; rintro e w2 ⟨A2, c2, rfl, o2, b2⟩)
    go_ret2
    exact ⟨by rw [cast0]; rfl, b2⟩
theorem crIs_any (A : Option Addr) (c : Nat) (xs : List Int) (t : Int) (w : World) (G : Good xs) (hc : Cells w A xs) :
    Calls Try.prog 129 #[.slice A xs.length c, .int .i64 t] w fun e w' => e = .returned (.bool (decide ((rimCs xs t).length = 0))) ∧ Below w.heap.size w w' := by
  have HH := hid (crCells_any A c xs t w G hc)
  have hb := rimCs_len G t
  have hpl := pairs_len (rimCs xs t)
  obtain ⟨n, hn⟩ : ∃ n, n = (rimCs xs t).length := ⟨_, rfl⟩
  rw [← hn] at hb hpl ⊢
  have HN := hid hpl
  clear hn hpl
  go_enter Try.func129, Try.ntmps129
  go_wp2_with (go_at_call 115; refine (HH.out).mono ?_; rw [HN.out]; rintro e w2 ⟨A2, c2, rfl, o2, b2⟩)
  go_ret
  exact ⟨by rw [cast0]; rfl, b2⟩
theorem spec_IsCore (A : Option Addr) (c : Nat) (xs : List Int) (t : Int) (w : World) (hl : xs.length ≤ 1048576) (hc : Cells w A xs) (_ : I64 t) :
    Calls Try.prog 61 #[.slice A xs.length c, .int .i64 t] w fun e w' => e = .returned (.tuple #[.bool (isCoreF xs t), .bool (crB xs t)]) ∧ Below w.heap.size w w' := by
  cases hg : crB xs t
  · have e1 : isCoreF xs t = false := by simp [isCoreF, hg]
    rw [e1]
    have HG := hid hg; clear hg e1
    go_enter Try.func61, Try.ntmps61
    go_wp2_with (go_at_call 114; refine (crT_any _ _ _ _ _ hl hc _ HG.out).mono ?_; rintro e w' ⟨rfl, n, rfl⟩)
    go_ret2
    exact ⟨rfl, below_drew' _ _⟩
  · rw [isCoreF_t hg, show rimCellsF xs t = pairs (rimCs xs t) by simp [rimCellsF, hg], pairs_len]
    have G := hid ((good_iff xs).1 (crB_good hg).1)
    have HG := hid hg; clear hg
    have HI := hid fun W h => crIs_any A c xs t W G.out h
    obtain ⟨d, hd⟩ : ∃ d, d = decide ((rimCs xs t).length = 0) := ⟨_, rfl⟩
    rw [← hd] at HI ⊢
    clear hd
    go_enter Try.func61, Try.ntmps61
    go_wp2_with (first | (go_at_call 114; refine (crT_any _ _ _ _ _ hl hc _ HG.out).mono ?_; rintro e w' ⟨rfl, n, rfl⟩) | (go_at_call 129; refine (HI.out _ (by exact hc)).mono ?_; rintro e w2 ⟨rfl, b2⟩))
    go_ret2
    exact ⟨rfl, Below.next (below_drew' w n) b2⟩
end Go.Proofs.Ytecfkkejhfnpbaa
