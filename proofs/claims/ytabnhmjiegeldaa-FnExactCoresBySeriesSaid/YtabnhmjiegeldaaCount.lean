/-
  Contracts: the program's table of counted partitions.
-/
import Derived.Test.YtabnhmjiegeldaaCellsOf
import Derived.Test.YtabnhmjiegeldaaTabMath
import Derived.Deep.RegionHeld3
import Derived.StillTailTactics
namespace Go.Proofs.Ytabnhmjiegeldaa
open Go.RowKit

def zeroTab : Array Value := Array.replicate 961 (.int .i64 0)
/-- Block b is a table of 961 numbers: number i is f i. -/
structure Tab (w : World) (b : Nat) (f : Nat → Int) : Prop where
  lt : b < w.heap.size
  cell : ∀ i, i < 961 → w.cell? ⟨b, i, none⟩ = some (.int .i64 (f i))
  frozen : ∀ i, w.frozen? ⟨b, i, none⟩ = false
theorem Tab.keep {w w' : World} {b : Nat} {f : Nat → Int} (h : Tab w b f) (hs : w.heap.size ≤ w'.heap.size) (hk : w'.heap[b]? = w.heap[b]?) : Tab w' b f :=
  ⟨Nat.lt_of_lt_of_le h.lt hs, fun i hi => (World.cell?_of_block (w := w) (w' := w') (a := ⟨b, i, none⟩) hk).trans (h.cell i hi), fun i => (World.frozen?_of_block (w := w) (w' := w') (a := ⟨b, i, none⟩) hk).trans (h.frozen i)⟩
theorem Tab.below {w w' : World} {b : Nat} {f : Nat → Int} (h : Tab w b f) (hb : Below w.heap.size w w') : Tab w' b f := h.keep hb.size (hb.block b h.lt)
theorem Tab.drewN {w : World} {b : Nat} {f : Nat → Int} (h : Tab w b f) (n : Nat) : Tab (w.drewN n) b f := ⟨h.lt, h.cell, h.frozen⟩
theorem Tab.set {w : World} {b : Nat} {f : Nat → Int} (h : Tab w b f) {i : Nat} (hi : i < 961) (v : Int) : Tab (w.setCell ⟨b, i, none⟩ (.int .i64 v)) b (fun j => if j = i then v else f j) := by
  refine ⟨by simp only [World.setCell, Array.size_modify]; exact h.lt, fun j hj => ?_, fun j => ?_⟩
  · by_cases e : j = i
    · subst e
      rw [if_pos rfl]
      exact World.cell?_setCell_same w _ _ (h.cell j hj)
    · rw [if_neg e]
      exact (World.cell?_setCell_other w _ _ _ (fun he => e (by injection he with _ h2 _; exact h2.symm))).trans (h.cell j hj)
  · rw [World.frozen?_setCell]; exact h.frozen j
theorem Tab.congr {w : World} {b : Nat} {f g : Nat → Int} (h : Tab w b f) (e : ∀ i, i < 961 → f i = g i) : Tab w b g := ⟨h.lt, fun i hi => by rw [← e i hi]; exact h.cell i hi, h.frozen⟩
theorem tab_zero (w : World) : Tab (w.alloc (.cells zeroTab 122)) w.heap.size (fun _ => 0) := by
  refine ⟨by simp, fun i hi => ?_, fun i => ?_⟩
  · rw [cell_of_row _ w.heap.size i zeroTab 122 (0, 0) (heap_alloc_new w _)]
    simp [zeroTab, hi]
  · exact frozen_of_row _ w.heap.size i zeroTab 122 (heap_alloc_new w _)

/-- The table's numbers while row n is filled up to column k (k - 1 the last that is right): rows before n are right; what is to come is 0, the first number 1. -/
def stT (n k : Nat) (i : Nat) : Int := if i / 31 < n ∨ i / 31 = n ∧ i % 31 < k then (T (i / 31) (i % 31) : Int) else if i = 0 then 1 else 0

theorem stT_done {n k i : Nat} (h : i / 31 < n ∨ i / 31 = n ∧ i % 31 < k) : stT n k i = T (i / 31) (i % 31) := by unfold stT; rw [if_pos h]
theorem stT_todo {n k i : Nat} (h : ¬ (i / 31 < n ∨ i / 31 = n ∧ i % 31 < k)) : stT n k i = if i = 0 then 1 else 0 := by unfold stT; rw [if_neg h]
theorem stT_first {n : Nat} (hn : n < 31) (i : Nat) : stT n 0 i = stT n 1 i := by
  by_cases h : i / 31 < n
  · rw [stT_done (k := 0) (.inl h), stT_done (k := 1) (.inl h)]
  · by_cases h2 : i / 31 = n ∧ i % 31 < 1
    · rw [stT_todo (k := 0) (by omega), stT_done (k := 1) (.inr h2)]
      have hm : i % 31 = 0 := by omega
      rw [h2.1, hm, T_zero n hn]
      by_cases hn0 : n = 0
      · rw [if_pos hn0, if_pos (by omega)]; rfl
      · rw [if_neg hn0, if_neg (by omega)]; rfl
    · rw [stT_todo (k := 0) (by omega), stT_todo (k := 1) (by omega)]
theorem stT_row (n i : Nat) : stT n 31 i = stT (n + 1) 0 i := by
  by_cases h : i / 31 < n + 1
  · rw [stT_done (n := n) (k := 31) (by omega), stT_done (n := n + 1) (k := 0) (.inl h)]
  · rw [stT_todo (n := n) (k := 31) (by omega), stT_todo (n := n + 1) (k := 0) (by omega)]
theorem stT_step {n k i : Nat} (hk : k < 31) (x : Int) (hx : x = T n k) : (if i = n * 31 + k then x else stT n k i) = stT n (k + 1) i := by
  by_cases e : i = n * 31 + k
  · rw [if_pos e, stT_done (k := k + 1) (by omega), hx, show i / 31 = n by omega, show i % 31 = k by omega]
  · rw [if_neg e]
    by_cases h : i / 31 < n ∨ i / 31 = n ∧ i % 31 < k
    · rw [stT_done h, stT_done (k := k + 1) (by omega)]
    · rw [stT_todo h, stT_todo (k := k + 1) (by omega)]
theorem stT_start (i : Nat) (_hi : i < 961) : (if i = 0 then (1 : Int) else 0) = stT 0 0 i := by rw [stT_todo (by omega)]
theorem T_no {n k : Nat} (hn : n < 31) (hk1 : 1 ≤ k) (hk : k < 31) (h : ¬ k ≤ n) : T n k = T n (k - 1) := by
  have := T_rec n hn (k - 1) (by omega)
  rw [show k - 1 + 1 = k by omega, if_neg h] at this
  exact this

theorem Try.allocTab (w : World) : (Instr.alloc 122 true (.tuple #[])).run Try.prog w = .ok (.pointer (some ⟨w.heap.size, 0, none⟩)) (w.alloc (.cells zeroTab 122)) := by kernel_rfl

set_option maxRecDepth 100000 in
set_option maxHeartbeats 1000000 in
theorem countBounded_any (w : World) :
    Calls Try.prog 126 #[] w fun e w' => e = .returned (.pointer (some ⟨w.heap.size, 0, none⟩)) ∧ Tab w' w.heap.size (fun i => (T (i / 31) (i % 31) : Int)) ∧ Below w.heap.size w w' := by
  have hal := Try.allocTab
  go_enter Try.func126, Try.ntmps126
  go_wp2_with fail
  go_loopw [6] (fun i wr => ∃ n : Nat, n ≤ 31 ∧ i = .int .i64 n ∧ Tab wr w.heap.size (stT n 0) ∧ Below w.heap.size w wr) (fun i _ => 31 - (intOf i).toNat)
  case atStart =>
    have h1 := (tab_zero w).set (show 0 < 961 by omega) 1
    rw [World.setCell_alloc_at _ _ _ _ _ rfl] at h1
    exact ⟨0, Nat.zero_le _, rfl, h1.congr stT_start, (Below.refl _ _).alloc (Nat.le_refl _) _⟩
  case round =>
    obtain ⟨n, hn, rfl, htab, hbel⟩ := hrel
    by_cases hlt : n < 31
    · obtain ⟨wo, rfl⟩ : ∃ wo : World, wo = wr := ⟨_, rfl⟩
      have HT := hid htab; clear htab
      go_wp2_with fail
      go_loopw [3] (fun j wr => ∃ k : Nat, 1 ≤ k ∧ k ≤ 31 ∧ j = .int .i64 k ∧ Tab wr w.heap.size (stT n k) ∧ Below w.heap.size w wr) (fun j _ => 31 - (intOf j).toNat)
      case atStart => exact ⟨1, Nat.le_refl _, by omega, rfl, HT.out.congr fun i _ => stT_first hlt i, hbel⟩
      case round =>
        obtain ⟨k, hk1, hk, rfl, htab, hbi⟩ := hrel
        have HT2 := hid htab; clear htab
        by_cases hkl : k < 31
        · have hv1 := HT2.out.cell (n * 31 + (k - 1)) (by omega)
          rw [stT_done (by omega), show (n * 31 + (k - 1)) / 31 = n by omega, show (n * 31 + (k - 1)) % 31 = k - 1 by omega] at hv1
          have hvb := T_bound n (by omega) (k - 1) (by omega)
          have hrec := T_rec n (by omega) (k - 1) (by omega)
          rw [show k - 1 + 1 = k by omega] at hrec
          obtain ⟨v, hv⟩ : ∃ v, v = T n (k - 1) := ⟨_, rfl⟩
          rw [← hv] at hv1 hvb hrec
          have hold := HT2.out.cell (n * 31 + k) (by omega)
          obtain ⟨ov, hov⟩ : ∃ ov, ov = stT n k (n * 31 + k) := ⟨_, rfl⟩
          rw [← hov] at hold
          have hfz := HT2.out.frozen (n * 31 + k)
          have ht1 := HT2.out.set (show n * 31 + k < 961 by omega) (v : Int)
          have HT1 := hid ht1; clear ht1
          have hw : IntKind.i64.wrap ((k : Int) - 1) = (k : Int) - 1 := IntWalk.i64_in _ (by omega)
          have hkt : ((k : Int) - 1).toNat = k - 1 := by omega
          have HREC := hid hrec; clear hrec
          have hk0 : (0 : Int) ≤ (k : Int) - 1 := by omega
          have hk31 : (k : Int) - 1 < 31 := by omega
          have hn31 : (n : Int) < 31 := by omega
          have hkk : (k : Int) < 31 := by omega
          have HV := hid hv
          clear hv hov
          by_cases hkn : k ≤ n
          · have hx := HT1.out.cell ((n - k) * 31 + k) (by omega)
            rw [if_neg (by omega), stT_done (by omega), show ((n - k) * 31 + k) / 31 = n - k by omega, show ((n - k) * 31 + k) % 31 = k by omega] at hx
            have hy := HT1.out.cell (n * 31 + k) (by omega)
            rw [if_pos rfl] at hy
            have hfz1 := HT1.out.frozen (n * 31 + k)
            have hxb := T_bound (n - k) (by omega) k (by omega)
            have hr : T n k = v + T (n - k) k := by have := HREC.out; rwa [if_pos hkn] at this
            obtain ⟨x, hxe⟩ : ∃ x, x = T (n - k) k := ⟨_, rfl⟩
            rw [← hxe] at hx hxb hr
            have ht2 := HT1.out.set (show n * 31 + k < 961 by omega) ((v : Int) + x)
            have HT3 := hid ht2; clear ht2 hxe
            have HR := hid hr; clear hr
            have hw2 : IntKind.i64.wrap ((n : Int) - k) = (n : Int) - k := IntWalk.i64_in _ (by omega)
            have hw3 : IntKind.i64.wrap ((v : Int) + x) = (v : Int) + x := IntWalk.i64_in _ (by omega)
            have hnk : ((n : Int) - k).toNat = n - k := by omega
            have hnk0 : (0 : Int) ≤ (n : Int) - k := by omega
            have hnk31 : (n : Int) - k < 31 := by omega
            go_wp2_with fail
            go_region
            all_goals go_wp2_with fail
            all_goals go_region
            all_goals go_wp2_with fail
            all_goals go_roundw
            case rel => exact ⟨k + 1, by omega, by omega, by go_num, (HT3.out.congr fun i _ => by rw [← stT_step hkl ((v : Int) + x) (by rw [HR.out]; omega)]; by_cases e : i = n * 31 + k <;> simp [e]).drewN 2, ((hbi.setCell (Nat.le_refl _) _).setCell (Nat.le_refl _) _).drew.drew⟩
            case measure => simp [intOf]; omega
          · have hTno := T_no (by omega) hk1 hkl hkn
            have HR := hid hTno; clear hTno
            go_wp2_with fail
            go_region
            all_goals go_wp2_with fail
            all_goals go_roundw
            case rel => exact ⟨k + 1, by omega, by omega, by go_num, (HT1.out.congr fun i _ => stT_step hkl (v : Int) (by rw [HR.out, HV.out])).drewN 1, (hbi.setCell (Nat.le_refl _) _).drew⟩
            case measure => simp [intOf]; omega
        · have hk31 : k = 31 := by omega
          subst hk31
          have HT4 := hid (HT2.out.congr fun i _ => stT_row n i)
          go_wp2_with fail
          go_roundw
          case rel => exact ⟨n + 1, by omega, by go_num, HT4.out, hbi⟩
          case measure => simp [intOf]; omega
    · have hn31 : n = 31 := by omega
      subst hn31
      have HT4 := hid (htab.congr fun i hi => stT_done (n := 31) (k := 0) (.inl (by omega)))
      clear htab
      go_wp2_with fail
      go_ret
      exact ⟨rfl, HT4.out, hbel⟩
end Go.Proofs.Ytabnhmjiegeldaa
