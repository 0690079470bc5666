/-
  Contracts: what tells whether parts are a bar; the candidates of a part.
-/
import Derived.Test.YtcgoiddghenkmaaBr
import Derived.Test.YtcgoiddghenkmaaBarMath
import Derived.Test.YtcgoiddghenkmaaPushAp
import Derived.Test.YtcgoiddghenkmaaCutI
import Derived.Test.YtcgoiddghenkmaaBack2
import Derived.BigQuiet
import Derived.Laws.EntriesVeiled
namespace Go.Proofs.Ytcgoiddghenkmaa
open Go.RowKit

set_option maxHeartbeats 1000000 in
theorem barTest_any (A : Option Addr) (c n : Nat) (t : Int) (w : World) :
    Calls Try.prog 23 #[.slice A n c, .int .i64 t] w fun e w' => ∃ T Q, e = .returned (.func (.func 36) #[] #[.pointer (some ⟨T, 0, none⟩), .pointer (some ⟨Q, 0, none⟩)]) ∧
      w'.cell? ⟨T, 0, none⟩ = some (.int .i64 t) ∧ w'.cell? ⟨Q, 0, none⟩ = some (.slice A n c) ∧ Below w.heap.size w w' := by
  obtain ⟨w1, hw1⟩ : ∃ w1, w1 = w.alloc (.cells #[.slice A n c] 22) := ⟨_, rfl⟩
  obtain ⟨w2, hw2⟩ : ∃ w2, w2 = w1.alloc (.cells #[.int .i64 t] 3) := ⟨_, rfl⟩
  have e1 : w1.heap.size = w.heap.size + 1 := by rw [hw1]; simp
  have k1 : w1.cell? ⟨w.heap.size, 0, none⟩ = some (.slice A n c) := by
    rw [hw1]; exact World.ownsRow.cellAt (World.ownsRow_lit (base := w.heap.size) (e := 22) (size := 1) w #[.slice A n c] 1 (Nat.le_refl _) (by unfold maxLen; omega) rfl) 0 (by omega)
  have k2 : w2.cell? ⟨w1.heap.size, 0, none⟩ = some (.int .i64 t) := by
    rw [hw2]; exact World.ownsRow.cellAt (World.ownsRow_lit (base := w1.heap.size) (e := 3) (size := 1) w1 #[.int .i64 t] 1 (Nat.le_refl _) (by unfold maxLen; omega) rfl) 0 (by omega)
  have B2 : Below w1.heap.size w1 w2 := by rw [hw2]; exact (Below.refl _ _).alloc (Nat.le_refl _) _
  have B1 : Below w.heap.size w w1 := by rw [hw1]; exact (Below.refl _ _).alloc (Nat.le_refl _) _
  have HB := hid (Below.next B1 B2)
  have HT := hid ((B2.cell (show w.heap.size < w1.heap.size by omega)).trans k1)
  have HH := hid k2
  clear k1 k2 B1 B2
  rw [e1] at HH
  clear e1
  subst hw2
  subst hw1
  go_enter Try.func23, Try.ntmps23
  go_wp2_with fail
  go_ret
  exact ⟨w.heap.size + 1, w.heap.size, rfl, HH.out, HT.out, HB.out⟩

set_option maxRecDepth 100000 in
set_option maxHeartbeats 1000000 in
theorem barTest1_any (A Ar : Option Addr) (c cr : Nat) (xs r : List Int) (t : Int) (T Q : Nat) (w : World) (hl : xs.length ≤ 1048576) (hr : r.length ≤ 30) (hrb : ∀ j, j < r.length → 0 ≤ r.getD j 0 ∧ r.getD j 0 ≤ 1000) (ht : 0 ≤ t ∧ t ≤ 1000)
    (hT : w.cell? ⟨T, 0, none⟩ = some (.int .i64 t)) (hQ : w.cell? ⟨Q, 0, none⟩ = some (.slice A xs.length c)) (hc : Cells w A xs) (hcr : Cells w Ar r) :
    Calls Try.prog 36 #[.slice Ar r.length cr, .pointer (some ⟨T, 0, none⟩), .pointer (some ⟨Q, 0, none⟩)] w fun e w' => e = .returned (.bool (isB xs t r)) ∧ ∃ n, w' = w.drewN n := by
  have hsum := sum_bound r 1000 hrb
  have HCC := hid fun W (h : Cells W Ar r) => ((cellCount_any Ar r cr W hr hrb h).mono fun e w' h => (⟨h.1, h.2.symm⟩ : e = _ ∧ w' = W))
  have HCR := hid hcr
  have HX := hid fun W z (h : Cells W A xs) => Contains_any A xs c z W hl h
  have HIB := hid (show isB xs t r = (decide (r.sum - t = 0) || (decide (0 < r.sum - t) && (decide (r.length = 1) && decide (¬ (r.sum - t) ∈ xs)))) from rfl)
  have hs3 : r.sum ≤ 30000 := by have := hsum.2; omega
  have hs0 := hsum.1
  obtain ⟨s, hs⟩ : ∃ s, s = r.sum := ⟨_, rfl⟩
  rw [← hs] at HCC HIB hs3 hs0
  have HC := hid hc
  clear hs hsum hrb hcr hc
  have hwd : IntKind.i64.wrap (s - t) = s - t := IntWalk.i64_in _ (by omega)
  by_cases h0 : s - t = 0
  · have HE := hid (show isB xs t r = true by rw [HIB.out, decide_eq_true h0]; rfl)
    clear hwd
    go_enter Try.func36, Try.ntmps36
    go_wp2_with fail
    go_quiet ((go_at_call 37; exact Calls.quiet_of_same (HCC.out _ (by exact HCR.out))))
    go_wp2_with fail
    go_ret
    exact ⟨by first | exact ret_bool HE.out.symm | exact ret_bool (by rw [HE.out]; simpa using h0), _, rfl⟩
  by_cases hp : t < s
  · have hp' : 0 < s - t := by omega
    by_cases hr1 : r.length = 1
    · have hr1i : ((r.length : Nat) : Int) = 1 := by omega
      by_cases hm : s - t ∈ xs
      · have HE := hid (show isB xs t r = false by rw [HIB.out, decide_eq_false h0, decide_eq_true hp', decide_eq_true hr1, decide_eq_false (by simpa using hm)]; rfl)
        have HX1 := hid fun W (h : Cells W A xs) => (by have := HX.out W (s - t) h; rwa [decide_eq_true hm] at this : Calls Try.prog 38 #[.slice A xs.length c, .int .i64 (s - t)] W fun e w' => e = .returned (.bool true) ∧ W = w')
        clear hm hr1 hwd hp'
        go_enter Try.func36, Try.ntmps36
        go_wp2_with fail
        go_quiet ((go_at_call 37; exact Calls.quiet_of_same (HCC.out _ (by exact HCR.out))))
        go_wp2_with (go_at_call 38; refine (HX1.out _ (by exact HC.out)).mono ?_; rintro e w' ⟨rfl, rfl⟩)
        go_ret
        exact ⟨by first | exact ret_bool HE.out.symm | exact ret_bool (by rw [HE.out]; simpa using h0), _, rfl⟩
      · have HE := hid (show isB xs t r = true by rw [HIB.out, decide_eq_false h0, decide_eq_true hp', decide_eq_true hr1, decide_eq_true hm]; rfl)
        have HX1 := hid fun W (h : Cells W A xs) => (by have := HX.out W (s - t) h; rwa [decide_eq_false hm] at this : Calls Try.prog 38 #[.slice A xs.length c, .int .i64 (s - t)] W fun e w' => e = .returned (.bool false) ∧ W = w')
        clear hm hr1 hwd hp'
        go_enter Try.func36, Try.ntmps36
        go_wp2_with fail
        go_quiet ((go_at_call 37; exact Calls.quiet_of_same (HCC.out _ (by exact HCR.out))))
        go_wp2_with (go_at_call 38; refine (HX1.out _ (by exact HC.out)).mono ?_; rintro e w' ⟨rfl, rfl⟩)
        go_ret
        exact ⟨by first | exact ret_bool HE.out.symm | exact ret_bool (by rw [HE.out]; simpa using h0), _, rfl⟩
    · have hr1i : ¬ ((r.length : Nat) : Int) = 1 := by omega
      have HE := hid (show isB xs t r = false by rw [HIB.out, decide_eq_false h0, decide_eq_true hp', decide_eq_false hr1]; rfl)
      clear hr1 hwd hp'
      go_enter Try.func36, Try.ntmps36
      go_wp2_with fail
      go_quiet ((go_at_call 37; exact Calls.quiet_of_same (HCC.out _ (by exact HCR.out))))
      go_wp2_with fail
      go_ret
      exact ⟨by first | exact ret_bool HE.out.symm | exact ret_bool (by rw [HE.out]; simpa using h0), _, rfl⟩
  · have HE := hid (show isB xs t r = false by rw [HIB.out, decide_eq_false h0, decide_eq_false (by omega)]; rfl)
    clear hwd
    go_enter Try.func36, Try.ntmps36
    go_wp2_with fail
    go_quiet ((go_at_call 37; exact Calls.quiet_of_same (HCC.out _ (by exact HCR.out))))
    go_wp2_with fail
    go_ret
    exact ⟨by first | exact ret_bool HE.out.symm | exact ret_bool (by rw [HE.out]; simpa using h0), _, rfl⟩

set_option maxRecDepth 100000 in
set_option maxHeartbeats 1000000 in
theorem aloneAndWith_any (A : Option Addr) (c : Nat) (ys : List Int) (x : Int) (w : World) (hl : ys.length ≤ 30) (hc : Cells w A ys) :
    Calls Try.prog 39 #[.int .i64 x, .slice A ys.length c] w fun e w' => ∃ A' c', e = .returned (.slice A' (cand x ys).length c') ∧ Own2 w' w.heap.size w'.heap.size A' c' (cand x ys) ∧ Below w.heap.size w w' := by
  obtain ⟨i1, hj, hy0, hy1, hy2⟩ := info_parts Try.infoInts
  have HC := hid hc; clear hc
  have o1 : Own (w.alloc (.cells #[.int .i64 x] 3)) w.heap.size (some ⟨w.heap.size, 0, none⟩) 1 [x] :=
    World.ownsRow_lit (base := w.heap.size) (e := 3) (size := 1) w #[.int .i64 x] 1 (Nat.le_refl _) (by unfold maxLen; omega) rfl
  have hp1 := push_lit1 o1 (by simp)
  have hb1 : Below w.heap.size w ((w.alloc (.cells #[.int .i64 x] 3)).alloc (.cells #[.slice (some ⟨w.heap.size, 0, none⟩) 1 1] 22)) := ((Below.refl _ _).alloc (Nat.le_refl _) _).alloc (by simp) _
  have HP1 := hid hp1
  have HB1 := hid hb1
  clear o1 hp1 hb1
  go_enter Try.func39, Try.ntmps39
  go_wp2_with fail
  go_loopw [5, 13] (fun v i wr => ∃ k : Nat, k ≤ ys.length ∧ i = .int .i64 k ∧ (∃ P C, Push wr w.heap.size v (cand x (ys.take k)) P C) ∧ Below w.heap.size w wr) (fun _ i _ => ys.length - (intOf i).toNat)
  case atStart => exact ⟨0, Nat.zero_le _, rfl, ⟨_, _, by have h := HP1.out; simp at h ⊢; exact h⟩, HB1.out⟩
  case round =>
    obtain ⟨k, hk, rfl, ⟨P, C, hpush⟩, hbel⟩ := hrel
    have HP := hid hpush; clear hpush
    by_cases hlt : k < ys.length
    · obtain ⟨b, o, rfl, hcc⟩ := (HC.out.later hbel) (by omega)
      have hck := hcc k hlt
      have HE := hid (cand_take x ys k hlt)
      have hL := cand_len x (ys.take k)
      rw [List.length_take] at hL
      obtain ⟨y, hy⟩ : ∃ y, y = ys.getD k 0 := ⟨_, rfl⟩
      rw [← hy] at hck HE
      obtain ⟨L, hLL⟩ : ∃ L, L = cand x (ys.take k) := ⟨_, rfl⟩
      rw [← hLL] at HP HE hL
      have HL := hid hL
      have hsz := hbel.size
      clear hcc hy hLL hL
      have o2 : Own (wr.alloc (.cells #[.int .i64 x, .int .i64 y] 3)) wr.heap.size (some ⟨wr.heap.size, 0, none⟩) 2 [x, y] :=
        World.ownsRow_lit (base := wr.heap.size) (e := 3) (size := 1) wr #[.int .i64 x, .int .i64 y] 2 (Nat.le_refl _) (by unfold maxLen; omega) rfl
      have hbi : Below wr.heap.size wr (wr.alloc (.cells #[.int .i64 x, .int .i64 y] 3)) := (Below.refl _ _).alloc (Nat.le_refl _) _
      obtain ⟨wa, hwa⟩ : ∃ wa, wa = wr.alloc (.cells #[.int .i64 x, .int .i64 y] 3) := ⟨_, rfl⟩
      rw [← hwa] at o2 hbi
      have HO2 := hid o2
      have HBI := hid hbi
      have hza : wa.heap.size = wr.heap.size + 1 := by rw [hwa]; simp
      have HZA := hid hza
      have HWA := hid hwa
      clear o2 hbi hza hwa
      go_wp2_with (at_builtin; rw [← HWA.out]; refine wpList_append_own _ rfl _ _ 27 rfl w.heap.size 22 i1 (.slice none 0 0) 1 24 Try.underlying27 hj hy0 hy1 hy2 rfl (by decide) _ _ _ rfl ((HP.out.below HBI.out).out.alloc _) ⟨wr.heap.size + 1, 0, none⟩ 1 1 [.slice (some ⟨wr.heap.size, 0, none⟩) 2 2] rfl rfl (by rw [← HZA.out]; exact one_at) (one_cellS _ _ _) (by have := HL.out; unfold maxLen; omega) (by have := HL.out; omega) (by have := HZA.out; simp; omega) ?_)
      intro v' w1 hown' hgrow _
      have hb1 : Below w.heap.size w w1 := ((hbel.trans (HBI.out.mono hsz)).alloc (by have := HZA.out; omega) _).grown hgrow (by have := HZA.out; simp; omega) (fun q hq => (HP.out.out.lt q hq).1)
      have hp2 := HP.out.push HBI.out HO2.out hsz hown' hgrow
      rw [← HE.out] at hp2
      have HP2 := hid hp2
      clear hown' hgrow hp2
      go_wp2_with fail
      go_roundw
      case rel => exact ⟨k + 1, by omega, by go_num, ⟨_, _, HP2.out⟩, hb1⟩
      case measure => simp [intOf]; omega
    · have hkl : k = ys.length := by omega
      subst hkl
      have hpp := HP.out
      rw [List.take_length] at hpp
      obtain ⟨A', c', rfl, ho⟩ := hpp.own2
      have HO := hid ho
      clear ho hpp
      go_wp2_with fail
      go_ret
      exact ⟨A', c', rfl, HO.out, hbel⟩
end Go.Proofs.Ytcgoiddghenkmaa
