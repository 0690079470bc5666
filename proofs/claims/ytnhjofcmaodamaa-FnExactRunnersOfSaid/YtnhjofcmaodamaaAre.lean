/-
  Contracts: the parts of beads (the other side), and what tells whether a list is beads (both sides).
-/
import Derived.Test.YtnhjofcmaodamaaBeads
namespace Go.Proofs.Ytnhjofcmaodamaa
open Go.RowKit

set_option maxHeartbeats 400000 in
theorem l1Rising_any (A : Option Addr) (xs : List Int) (c : Nat) (lo hi : Int) (w : World) (hl : xs.length ≤ 1048576) (hc : Cells w A xs) :
    Calls Try.prog 117 #[.slice A xs.length c, .int .i64 lo, .int .i64 hi] w fun e w' => e = .returned (.bool (rises lo hi xs)) ∧ w = w' := by
  go_enter Try.func117, Try.ntmps117
  go_wp2_with fail
  go_loop [7, 8, 11] (fun _ _ i => ∃ k : Nat, k ≤ xs.length ∧ i = .int .i64 k ∧ Hid (∀ j, j < k → okAt lo hi xs j = true)) (fun _ _ i => xs.length - (intOf i).toNat)
  case atStart => exact ⟨0, Nat.zero_le _, rfl, hid fun j hj => by omega⟩
  case round =>
    obtain ⟨k, hk, rfl, HD⟩ := hrel
    by_cases hlt : k < xs.length
    · obtain ⟨b, o, rfl, hcc⟩ := hc (by omega)
      have hck := hcc k hlt
      have hck1 := hcc (k - 1) (by omega)
      have hek : ((k : Int) - 1).toNat = k - 1 := by omega
      have HO := hid (okAt_iff (lo := lo) (hi := hi) (xs := xs) (j := k))
      clear hcc
      obtain ⟨x, hx⟩ : ∃ x, x = xs.getD k 0 := ⟨_, rfl⟩
      obtain ⟨y, hy⟩ : ∃ y, y = xs.getD (k - 1) 0 := ⟨_, rfl⟩
      rw [← hx] at hck HO
      rw [← hy] at hck1 HO
      have HX := hid hx; clear hx
      have HY := hid hy; clear hy
      cases hin : inB lo hi x
      · have HI := hid hin; clear hin
        have hno : okAt lo hi xs k = false := by
          cases h : okAt lo hi xs k
          · rfl
          · have := HI.out; rw [inB_iff.2 (HO.out.1 h).1] at this; cases this
        have HN := hid hno; clear hno
        go_wp2_with (go_at_call 82; refine (l1In_b _ _ _ _ _ HI.out).mono ?_; rintro e w' ⟨rfl, rfl⟩)
        go_ret
        exact ⟨ret_bool (rises_no hlt HN.out).symm, rfl⟩
      · have HI := hid hin
        have hin2 := inB_iff.1 hin; clear hin
        by_cases hok : k = 0 ∨ y < x
        · have hyes := HO.out.2 ⟨hin2, hok⟩
          have HYES := hid hyes; clear hyes
          have hrel2 : ∀ j, j < k + 1 → okAt lo hi xs j = true := fun j hj => by
            by_cases h : j < k
            · exact HD.out j h
            · have : j = k := by omega
              subst this; exact HYES.out
          have HR := hid hrel2; clear hrel2
          by_cases h0 : k = 0
          · subst h0
            rw [Nat.add_zero] at hck
            go_wp2_with (go_at_call 82; refine (l1In_b _ _ _ _ _ HI.out).mono ?_; rintro e w' ⟨rfl, rfl⟩)
            go_round
            case rel => exact ⟨1, by omega, by go_num, HR.out⟩
            case measure => simp [intOf]; omega
          · have h1 : 0 < k := by omega
            have hyx : y < x := by omega
            go_wp2_with (go_at_call 82; refine (l1In_b _ _ _ _ _ HI.out).mono ?_; rintro e w' ⟨rfl, rfl⟩)
            go_round
            case rel => exact ⟨k + 1, by omega, by go_num, HR.out⟩
            case measure => simp [intOf]; omega
        · have hno : okAt lo hi xs k = false := by
            cases h : okAt lo hi xs k
            · rfl
            · exact absurd (HO.out.1 h).2 hok
          have HN := hid hno; clear hno
          have h1 : 0 < k := by omega
          have hyx : x ≤ y := by omega
          clear hok
          go_wp2_with (go_at_call 82; refine (l1In_b _ _ _ _ _ HI.out).mono ?_; rintro e w' ⟨rfl, rfl⟩)
          go_ret
          exact ⟨ret_bool (rises_no hlt HN.out).symm, rfl⟩
    · go_wp2_with fail
      go_ret
      exact ⟨ret_bool (rises_iff.2 fun j hj => HD.out j (by omega)).symm, rfl⟩

set_option maxRecDepth 100000 in
set_option maxHeartbeats 800000 in
theorem abParts_any (A : Option Addr) (cap : Nat) (xs : List Int) (w : World) (hl : xs.length ≤ 1000) (hb : ∀ j, j < xs.length → 0 ≤ xs.getD j 0 ∧ xs.getD j 0 ≤ 1000) (hc : Cells w A xs) :
    Calls Try.prog 98 #[.slice A xs.length cap] w fun e w' => ∃ A' c', e = .returned (.slice A' (partsL xs).length c') ∧ Own w' w.heap.size A' c' (partsL xs) ∧ Below w.heap.size w w' := by
  obtain ⟨i0, hi, hz0, hz1, hz2⟩ := info_parts Try.infoInt
  have HB := hid hb; clear hb
  go_enter Try.func98, Try.ntmps98
  go_wp2_with fail
  go_loopw [3, 4] (fun v i wr => ∃ k : Nat, k ≤ xs.length ∧ i = .int .i64 ((xs.length : Int) - 1 - k) ∧ wr.ownsRow w.heap.size 3 1 v (bpk xs k).length (IL (bpk xs k)) ∧ Below w.heap.size w wr) (fun _ i _ => (intOf i + 1).toNat)
  case atStart => exact ⟨0, Nat.zero_le _, by simp, World.ownsRow_nil _ _ _ _, Below.refl _ _⟩
  case round =>
    obtain ⟨k, hk, rfl, hown, hbel⟩ := hrel
    by_cases hlt : k < xs.length
    · obtain ⟨b, o, rfl, hcc⟩ := hc (by omega)
      obtain ⟨i, hie⟩ : ∃ i : Nat, i = xs.length - 1 - k := ⟨_, rfl⟩
      have hcx := hcc i (by omega)
      have hcx' : wr.cell? ⟨b, o + i, none⟩ = some (.int .i64 (xs.getD i 0)) := by
        rw [← hcx]; exact hbel.cell (World.block_lt_of_cell? w _ hcx)
      have hii : (xs.length : Int) - 1 - k = (i : Int) := by omega
      have hil : i < xs.length := by omega
      have hxb := HB.out i hil
      have hpl := pk_len xs k
      obtain ⟨x, hx⟩ : ∃ x, x = xs.getD i 0 := ⟨_, rfl⟩
      rw [← hx] at hcx' hxb
      have HY := hid (bpk_yes (xs := xs) (k := k) hie hx)
      have HN := hid (bpk_no (xs := xs) (k := k) hie hx)
      have HIE := hid hie
      rw [hii]
      clear hcc hcx hx hie
      by_cases hh : (i : Int) < x
      · go_wp2_with (at_builtin; refine wpList_append_own _ rfl _ _ 22 rfl w.heap.size 3 i0 (.int .i64 0) 1 8 Try.underlying22 hi hz0 hz1 hz2 rfl (by decide) _ _ _ rfl (hown.alloc _) ⟨wr.heap.size, 0, none⟩ 1 1 [.int .i64 (x - i)] rfl rfl one_at (one_cell _) (by unfold maxLen; omega) (by omega) (by have := hbel.size; simp; omega) ?_)
        intro v' w1 hown' hgrow _
        have hb1 : Below w.heap.size w w1 := (hbel.alloc hbel.size _).grown hgrow (by have := hbel.size; simp; omega) (fun q hq => (hown.lt q hq).1)
        have hown2 := own_snoc (HY.out hh) hown'
        clear hgrow hown hown'
        go_wp2_with fail
        go_roundw
        case rel => exact ⟨k + 1, by omega, by congr 1; omega, hown2, hb1⟩
        case measure => simp [intOf]
      · rw [← HN.out hh] at hown
        go_wp2_with fail
        go_roundw
        case rel => exact ⟨k + 1, by omega, by congr 1; omega, hown, hbel⟩
        case measure => simp [intOf]
    · have hkl : k = xs.length := by omega
      subst hkl
      have hm1 : (xs.length : Int) - 1 - (xs.length : Nat) = -1 := by omega
      rw [hm1]
      obtain ⟨A', c', rfl, ho⟩ := own_form' hown
      clear hown
      go_wp2_with fail
      go_ret
      exact ⟨A', c', rfl, ho, hbel⟩

theorem rises_bd {xs : List Int} (h : rises 0 1000 xs = true) : ∀ j, j < xs.length → 0 ≤ xs.getD j 0 ∧ xs.getD j 0 ≤ 1000 := (rises_Rises.1 h).bd

set_option maxHeartbeats 800000 in
theorem abGood_any (A : Option Addr) (xs : List Int) (c : Nat) (w : World) (hl : xs.length ≤ 1048576) (hc : Cells w A xs) :
    Calls Try.prog 156 #[.slice A xs.length c] w fun e w' => e = .returned (.bool (goodB xs)) ∧ Below w.heap.size w w' := by
  by_cases h40 : 40 < xs.length
  · rw [goodB_no_len h40]
    go_enter Try.func156, Try.ntmps156
    go_wp2_with fail
    go_ret
    exact ⟨rfl, Below.refl _ _⟩
  cases hr : rises 0 1000 xs
  · rw [goodB_no_rise hr]
    have HR := hid hr; clear hr
    go_enter Try.func156, Try.ntmps156
    go_wp2_with (go_at_call 117; refine (l1Rising_any _ _ _ _ _ _ hl hc).mono ?_; rw [HR.out]; rintro e w' ⟨rfl, rfl⟩)
    go_ret
    exact ⟨rfl, Below.refl _ _⟩
  · rw [goodB_parts (by omega) hr]
    have hb := rises_bd hr
    have HB := hid hb; clear hb
    have HR := hid hr; clear hr
    have hpl := partsL_len xs
    go_enter Try.func156, Try.ntmps156
    go_wp2_with (first | (go_at_call 117; refine (l1Rising_any _ _ _ _ _ _ hl hc).mono ?_; rw [HR.out]; rintro e w' ⟨rfl, rfl⟩) | (go_at_call 98; refine (abParts_any _ _ _ _ (by omega) HB.out hc).mono ?_; rintro e w1 ⟨A1, c1, rfl, o1, b1⟩) | (go_at_call 105; refine (ptGood_any _ _ _ _ (by omega) o1.cells).mono ?_; rintro e w2 ⟨rfl, n2, rfl⟩))
    go_ret
    exact ⟨rfl, below_drewN b1 n2⟩
theorem abGood_b (A : Option Addr) (xs : List Int) (c : Nat) (w : World) (hl : xs.length ≤ 1048576) (hc : Cells w A xs) (b : Bool) (h : goodB xs = b) :
    Calls Try.prog 156 #[.slice A xs.length c] w fun e w' => e = .returned (.bool b) ∧ Below w.heap.size w w' := by
  subst h; exact abGood_any A xs c w hl hc

set_option maxHeartbeats 800000 in
theorem AreBeads_any (A : Option Addr) (xs : List Int) (c : Nat) (w : World) (hl : xs.length ≤ 1048576) (hc : Cells w A xs) :
    Calls Try.prog 158 #[.slice A xs.length c] w fun e w' => e = .returned (.bool (goodB xs)) ∧ Below w.heap.size w w' := by
  by_cases h40 : 40 < xs.length
  · rw [goodB_no_len h40]
    go_enter Try.func158, Try.ntmps158
    go_wp2_with fail
    go_ret
    exact ⟨rfl, Below.refl _ _⟩
  have hpl := partsL_len xs
  go_enter Try.func158, Try.ntmps158
  go_wp2_with fail
  go_loop [3, 4, 10] (fun _ _ i => ∃ k : Nat, k ≤ xs.length ∧ i = .int .i64 k ∧ Hid (∀ j, j < k → okAt 0 1000 xs j = true)) (fun _ _ i => xs.length - (intOf i).toNat)
  case atStart => exact ⟨0, Nat.zero_le _, rfl, hid fun j hj => by omega⟩
  case round =>
    obtain ⟨k, hk, rfl, HD⟩ := hrel
    by_cases hlt : k < xs.length
    · obtain ⟨b, o, rfl, hcc⟩ := hc (by omega)
      have hck := hcc k hlt
      have hck1 := hcc (k - 1) (by omega)
      have hek : ((k : Int) - 1).toNat = k - 1 := by omega
      have HO := hid (okAt_iff (lo := 0) (hi := 1000) (xs := xs) (j := k))
      clear hcc
      obtain ⟨x, hx⟩ : ∃ x, x = xs.getD k 0 := ⟨_, rfl⟩
      obtain ⟨y, hy⟩ : ∃ y, y = xs.getD (k - 1) 0 := ⟨_, rfl⟩
      rw [← hx] at hck HO
      rw [← hy] at hck1 HO
      clear hx hy
      by_cases hok : (0 ≤ x ∧ x ≤ 1000) ∧ (k = 0 ∨ y < x)
      · have hyes := HO.out.2 hok
        have HYES := hid hyes; clear hyes
        have hrel2 : ∀ j, j < k + 1 → okAt 0 1000 xs j = true := fun j hj => by
          by_cases h : j < k
          · exact HD.out j h
          · have : j = k := by omega
            subst this; exact HYES.out
        have HR := hid hrel2; clear hrel2
        obtain ⟨⟨hx0, hx1⟩, hok2⟩ := hok
        by_cases h0 : k = 0
        · subst h0
          rw [Nat.add_zero] at hck
          go_wp2_with fail
          go_round
          case rel => exact ⟨1, by omega, by go_num, HR.out⟩
          case measure => simp [intOf]; omega
        · have h1 : 0 < k := by omega
          have hyx : y < x := by omega
          go_wp2_with fail
          go_round
          case rel => exact ⟨k + 1, by omega, by go_num, HR.out⟩
          case measure => simp [intOf]; omega
      · have hno : okAt 0 1000 xs k = false := by
          cases h : okAt 0 1000 xs k
          · rfl
          · exact absurd (HO.out.1 h) hok
        have HN := hid (goodB_no_rise (rises_no hlt hno)); clear hno
        by_cases hx0 : x < 0
        · go_wp2_with fail
          go_ret
          exact ⟨ret_bool HN.out.symm, Below.refl _ _⟩
        by_cases hx1 : 1000 < x
        · go_wp2_with fail
          go_ret
          exact ⟨ret_bool HN.out.symm, Below.refl _ _⟩
        have h1 : 0 < k := by omega
        have hyx : x ≤ y := by omega
        clear hok
        go_wp2_with fail
        go_ret
        exact ⟨ret_bool HN.out.symm, Below.refl _ _⟩
    · have hr : rises 0 1000 xs = true := rises_iff.2 fun j hj => HD.out j (by omega)
      have hb := rises_bd hr
      have HB := hid hb; clear hb
      have HG := hid (goodB_parts (by omega) hr); clear hr
      go_wp2_with (first | (go_at_call 103; refine (partsOf_any _ _ _ _ (by omega) HB.out hc).mono ?_; rintro e w1 ⟨A1, c1, rfl, o1, b1⟩) | (go_at_call 169; refine (IsPartition_b _ _ _ _ (by omega) o1.cells _ rfl).mono ?_; rintro e w2 ⟨rfl, rfl⟩))
      go_ret
      exact ⟨ret_bool HG.out.symm, b1⟩
theorem AreBeads_b (A : Option Addr) (xs : List Int) (c : Nat) (w : World) (hl : xs.length ≤ 1048576) (hc : Cells w A xs) (b : Bool) (h : goodB xs = b) :
    Calls Try.prog 158 #[.slice A xs.length c] w fun e w' => e = .returned (.bool b) ∧ Below w.heap.size w w' := by
  subst h; exact AreBeads_any A xs c w hl hc
end Go.Proofs.Ytnhjofcmaodamaa
