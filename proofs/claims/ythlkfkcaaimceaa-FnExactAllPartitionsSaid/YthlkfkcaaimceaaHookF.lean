/-
  Contracts: HookAt of the program and of the model.
-/
import Derived.Test.YthlkfkcaaimceaaHook
import Derived.Deep.RegionWith
namespace Go.Proofs.Ythlkfkcaaimceaa
open Go.RowKit

set_option maxRecDepth 100000 in
set_option maxHeartbeats 2000000 in
theorem ptHook_any (A : Option Addr) (c : Nat) (xs : List Int) (r k : Nat) (w : World) (G : Good xs) (hr : r < xs.length) (hk : (k : Int) < xs.getD r 0) (hc : Cells w A xs) :
    Calls Try.prog 102 #[.slice A xs.length c, .int .i64 r, .int .i64 k] w fun e w' => e = .returned (.int .i64 (hookN xs r k)) ∧ Below w.heap.size w w' := by
  have hlen := G.len
  obtain ⟨b, o, rfl, hck⟩ := hc.get hr
  have hcb := col_bound xs G k
  have hkl := col_lt G hr hk
  have hle := G.le r hr
  obtain ⟨x, hxx⟩ : ∃ x, x = xs.getD r 0 := ⟨_, rfl⟩
  obtain ⟨y, hyy⟩ : ∃ y, y = (cols xs).getD k 0 := ⟨_, rfl⟩
  have hh : hookN xs r k = x - k + y - r - 1 := by rw [hxx, hyy]; rfl
  rw [hh]; clear hh
  rw [← hxx] at hck hk hle
  rw [← hyy] at hcb
  have HY := hid hyy
  clear hyy hxx
  have hb : b < w.heap.size := World.block_lt_of_cell? w _ hck
  have HG := hid G; clear G
  have hcd : Cells w.drew (some ⟨b, o, none⟩) xs := hc
  have hw1 : IntKind.i64.wrap (x - (k : Int)) = x - k := IntWalk.i64_in _ (by omega)
  have hw2 : IntKind.i64.wrap (x - (k : Int) + y) = x - k + y := IntWalk.i64_in _ (by omega)
  have hw3 : IntKind.i64.wrap (x - (k : Int) + y - r) = x - k + y - r := IntWalk.i64_in _ (by omega)
  have hw4 : IntKind.i64.wrap (x - (k : Int) + y - r - 1) = x - k + y - r - 1 := IntWalk.i64_in _ (by omega)
  have hk0 : (0 : Int) ≤ (k : Int) := by omega
  have hr0 : (0 : Int) ≤ (r : Int) := by omega
  have hrl : (r : Int) < (xs.length : Int) := by omega
  have hkk : (k : Int) < ((cols xs).length : Int) := by omega
  go_enter Try.func102, Try.ntmps102
  go_wp2_with fail
  go_region_with (first | (go_at_call 87; refine (ptTurn_any _ _ _ _ HG.out hcd).mono ?_; rintro e w2 ⟨A2, c2, rfl, o2, b2⟩; have hS1 : w2.cell? ⟨b, o + r, none⟩ = some (.int .i64 x) := ((b2.cell hb).trans hck); obtain ⟨b3, o3, rfl, hck3⟩ := o2.cells.get hkl; rw [← HY.out] at hck3))
  all_goals go_wp2_with fail
  all_goals go_ret
  all_goals exact ⟨rfl, Below.next (below_drew' w 1) b2⟩

set_option maxHeartbeats 1000000 in
theorem spec_HookAt (A : Option Addr) (c : Nat) (xs : List Int) (r k : Int) (w : World) (hl : xs.length ≤ 1048576) (hc : Cells w A xs) (hr : I64 r) (hk : I64 k) :
    Calls Try.prog 43 #[.slice A xs.length c, .int .i64 r, .int .i64 k] w fun e w' => e = .returned (.tuple #[.int .i64 (hookF xs r k), .bool (atB xs r k)]) ∧ Below w.heap.size w w' := by
  cases hg : good xs
  · have h := at_no_good (r := r) (k := k) hg
    rw [hookF_f h, h]
    have HG := hid hg; clear hg h
    go_enter Try.func43, Try.ntmps43
    go_wp2_with (go_at_call 80; refine (ptGood_b _ _ _ _ hl hc _ HG.out).mono ?_; rintro e w' ⟨rfl, n, rfl⟩)
    go_ret2
    exact ⟨rfl, below_drew' _ _⟩
  cases hb : cellB xs r k
  · have h : atB xs r k = false := by rw [at_good hg, hb]
    rw [hookF_f h, h]
    have HG := hid hg; clear hg h
    have HB := hid hb; clear hb
    go_enter Try.func43, Try.ntmps43
    go_wp2_with (first | (go_at_call 80; refine (ptGood_b _ _ _ _ hl hc _ HG.out).mono ?_; rintro e w' ⟨rfl, n, rfl⟩) | (go_at_call 101; refine (ptCell_b _ _ _ _ _ _ HG.out hr hk (by exact hc) _ HB.out).mono ?_; rintro e w' ⟨rfl, rfl⟩))
    go_ret2
    exact ⟨rfl, below_drew' _ _⟩
  · have h : atB xs r k = true := by rw [at_good hg, hb]
    rw [hookF_t h, h]
    have G := (good_iff xs).1 hg
    have HG := hid hg; clear hg h
    obtain ⟨r', k', rfl, rfl, hr', hk'⟩ := cellB_nat hb
    have HB := hid hb; clear hb
    rw [Int.toNat_natCast, Int.toNat_natCast]
    go_enter Try.func43, Try.ntmps43
    go_wp2_with (first | (go_at_call 80; refine (ptGood_b _ _ _ _ hl hc _ HG.out).mono ?_; rintro e w' ⟨rfl, n, rfl⟩) | (go_at_call 101; refine (ptCell_b _ _ _ _ _ _ HG.out hr hk (by exact hc) _ HB.out).mono ?_; rintro e w' ⟨rfl, rfl⟩) | (go_at_call 102; refine (ptHook_any _ _ _ _ _ _ G hr' hk' (by exact hc)).mono ?_; rintro e w2 ⟨rfl, b2⟩))
    go_ret2
    exact ⟨rfl, Below.next (below_drew' w n) b2⟩
set_option maxHeartbeats 1000000 in
theorem impl_HookAt (A : Option Addr) (c : Nat) (xs : List Int) (r k : Int) (w : World) (hl : xs.length ≤ 1048576) (hc : Cells w A xs) (_hr : I64 r) (_hk : I64 k) :
    Calls Try.prog 42 #[.slice A xs.length c, .int .i64 r, .int .i64 k] w fun e w' => e = .returned (.tuple #[.int .i64 (hookF xs r k), .bool (atB xs r k)]) ∧ Below w.heap.size w w' := by
  cases h : atB xs r k
  · rw [hookF_f h]
    have HG := hid h; clear h
    go_enter Try.func42, Try.ntmps42
    go_wp2_with (go_at_call 100; refine (isCell_b _ _ _ _ _ _ hl hc _ HG.out).mono ?_; rintro e w' ⟨rfl, rfl⟩)
    go_ret2
    exact ⟨rfl, Below.refl _ _⟩
  · rw [hookF_t h]
    have hgb : good xs = true ∧ cellB xs r k = true := by simpa [atB] using h
    have G := (good_iff xs).1 hgb.1
    obtain ⟨r', k', rfl, rfl, hr', hk'⟩ := cellB_nat hgb.2
    have HG := hid h; clear h hgb
    have hkl := col_lt G hr' hk'
    have hx := G.b1000 r' hr'
    have hy := col_bound xs G k'
    have hln := G.len
    have hcl : (cols xs).length ≤ 1048576 := by rw [cols_len]; have := G.le 0 (by omega); omega
    rw [Int.toNat_natCast, Int.toNat_natCast]
    go_enter Try.func42, Try.ntmps42
    go_wp2_with fail
    refine (isCell_b _ _ _ _ _ _ hl hc _ HG.out).mono ?_
    rintro e w1 ⟨rfl, rfl⟩
    go_wp2_with fail
    refine (columnsOf_any _ _ _ _ G hc).mono ?_
    rintro e w2 ⟨A2, c2, rfl, o2, b2⟩
    go_wp2_with fail
    refine (hookOf_any _ _ _ _ _ _ _ _ _ hr' hkl hl hcl hx (by omega) (hc.below b2) o2.cells (hookN xs r' k') rfl).mono ?_
    rintro e w3 ⟨rfl, b3⟩
    go_wp2_with fail
    go_ret2
    exact ⟨rfl, Below.next b2 b3⟩
end Go.Proofs.Ythlkfkcaaimceaa
