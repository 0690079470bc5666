/-
  Contracts: ContentsOf and HooksOf of the program and of the model.
-/
import Derived.Test.YtabnhmjiegeldaaRowsImpl
import Derived.Test.YtabnhmjiegeldaaHookF
import Derived.Test.YtabnhmjiegeldaaCellsOf
namespace Go.Proofs.Ytabnhmjiegeldaa
open Go.RowKit

set_option maxHeartbeats 400000 in
/-- Only where 110 is. -/
theorem content_any (r k : Nat) (w : World) (hr : r ≤ 1000) (hk : k ≤ 1000) : Calls Try.prog 162 #[.agg #[.int .i64 r, .int .i64 k]] w fun e w' => e = .returned (.int .i64 (contN r k)) ∧ Below w.heap.size w w' := by
  go_enter Try.func162, Try.ntmps162
  go_wp2
  go_ret
  exact ⟨rfl, (Below.refl _ _).alloc (Nat.le_refl _) _⟩

set_option maxHeartbeats 1000000 in
theorem impl_ContentsOf (A : Option Addr) (c : Nat) (xs : List Int) (w : World) (hl : xs.length ≤ 1048576) (hc : Cells w A xs) :
    Calls Try.prog 110 #[.slice A xs.length c] w fun e w' => ∃ A' c', e = .returned (.tuple #[.slice A' (contF xs).length c', .bool (good xs)]) ∧ Own2 w' w.heap.size w'.heap.size A' c' (contF xs) ∧ Below w.heap.size w w' := by
  cases hg : good xs
  · rw [contF_f hg]
    have HB := hid hg; clear hg
    go_enter Try.func110, Try.ntmps110
    go_wp2_with (go_at_call 160; refine (IsPartition_b _ _ _ _ hl hc _ HB.out).mono ?_; rintro e w' ⟨rfl, rfl⟩)
    go_ret2
    exact ⟨none, 0, rfl, own2_nil _ _ _, Below.refl _ _⟩
  rw [contF_t hg]
  have G := (good_iff xs).1 hg
  have hlen := G.len
  have HB := hid hg; clear hg
  have HG := hid G; clear G
  go_enter Try.func110, Try.ntmps110
  go_wp2_with fail
  refine (IsPartition_b _ _ _ _ hl hc _ HB.out).mono ?_
  rintro e w1 ⟨rfl, rfl⟩
  go_wp2_with fail
  refine (rowsCont_any _ _ _ _ HG.out hc (fun W r k _ hr hk => content_any r k W (by omega) (by have := HG.out.le r hr; omega))).mono ?_
  rintro e w2 ⟨A2, c2, rfl, o2, b2⟩
  go_wp2_with fail
  go_ret2
  exact ⟨A2, c2, rfl, o2, b2⟩

set_option maxHeartbeats 1000000 in
theorem hookClosure_any (A A2 : Option Addr) (c c2 : Nat) (xs : List Int) (gp gc r k : Nat) (w : World) (G : Good xs) (hr : r < xs.length) (hk : (k : Int) < xs.getD r 0) (hc : Cells w A xs) (h2 : Cells w A2 (cols xs))
    (hp : w.cell? ⟨gp, 0, none⟩ = some (.slice A xs.length c)) (hq : w.cell? ⟨gc, 0, none⟩ = some (.slice A2 (cols xs).length c2)) :
    Calls Try.prog 210 #[.agg #[.int .i64 r, .int .i64 k], .pointer (some ⟨gp, 0, none⟩), .pointer (some ⟨gc, 0, none⟩)] w fun e w' => e = .returned (.int .i64 (hookN xs r k)) ∧ Below w.heap.size w w' := by
  have hkl := col_lt G hr hk
  have hx := G.b1000 r hr
  have hy := col_bound xs G k
  have hln := G.len
  have hcl : (cols xs).length ≤ 1048576 := by rw [cols_len]; have := G.le 0 (by omega); omega
  have hp' := fun o => (World.cell?_alloc_lt w o ⟨gp, 0, none⟩ (World.block_lt_of_cell? w _ hp)).trans hp
  have hq' := fun o => (World.cell?_alloc_lt w o ⟨gc, 0, none⟩ (World.block_lt_of_cell? w _ hq)).trans hq
  have HG := hid G; clear G
  have b1 : ∀ o, Below w.heap.size w (w.alloc o) := fun o => (Below.refl _ _).alloc (Nat.le_refl _) o
  have B1 := hid b1; clear b1
  go_enter Try.func210, Try.ntmps210
  go_wp2_with fail
  refine (hookOf_any _ _ _ _ _ _ _ _ _ hr hkl (by omega) hcl hx (by omega) (hc.below (B1.out _)) (h2.below (B1.out _)) (hookN xs r k) rfl).mono ?_
  rintro e w3 ⟨rfl, b3⟩
  go_wp2_with fail
  go_ret
  exact ⟨rfl, Below.next (B1.out _) b3⟩

set_option maxHeartbeats 2000000 in
theorem impl_HooksOf (A : Option Addr) (c : Nat) (xs : List Int) (w : World) (hl : xs.length ≤ 1048576) (hc : Cells w A xs) :
    Calls Try.prog 197 #[.slice A xs.length c] w fun e w' => ∃ A' c', e = .returned (.tuple #[.slice A' (hooksF xs).length c', .bool (good xs)]) ∧ Own2 w' w.heap.size w'.heap.size A' c' (hooksF xs) ∧ Below w.heap.size w w' := by
  obtain ⟨wa, hwa⟩ : ∃ wa, wa = w.alloc (.cells #[.slice A xs.length c] 22) := ⟨_, rfl⟩
  have hba : Below w.heap.size w wa := by rw [hwa]; exact (Below.refl _ _).alloc (Nat.le_refl _) _
  have hpa : wa.cell? ⟨w.heap.size, 0, none⟩ = some (.slice A xs.length c) := by rw [hwa]; exact cell_one_new w _ _ 0 _ rfl
  have hsa : wa.heap.size = w.heap.size + 1 := by rw [hwa]; simp
  have HWA := hid hwa
  have HSA := hid hsa
  have hca : Cells wa A xs := hc.below hba
  cases hg : good xs
  · rw [hooksF_f hg]
    have HB := hid hg; clear hg
    clear hwa hsa
    go_enter Try.func197, Try.ntmps197
    go_wp2_with fail
    rw [← HWA.out]
    refine (IsPartition_b _ _ _ _ hl hca _ HB.out).mono ?_
    rintro e w1 ⟨rfl, rfl⟩
    go_wp2_with fail
    go_ret2
    exact ⟨none, 0, rfl, own2_nil _ _ _, hba⟩
  rw [hooksF_t hg]
  have HG := hid ((good_iff xs).1 hg)
  have HB := hid hg; clear hg
  clear hwa hsa
  go_enter Try.func197, Try.ntmps197
  go_wp2_with fail
  rw [← HWA.out]
  refine (IsPartition_b _ _ _ _ hl hca _ HB.out).mono ?_
  rintro e w1 ⟨rfl, rfl⟩
  go_wp2_with fail
  refine (columnsOf_any _ _ _ _ HG.out hca).mono ?_
  rintro e w2 ⟨A2, c2, rfl, o2, b2⟩
  have hp2 : w2.cell? ⟨w.heap.size, 0, none⟩ = some (.slice A xs.length c) := by rw [← hpa]; exact b2.cell (by have := HSA.out; show w.heap.size < _; omega)
  obtain ⟨w3, hw3⟩ : ∃ w3, w3 = w2.alloc (.cells #[.slice A2 (cols xs).length c2] 22) := ⟨_, rfl⟩
  have HW3 := hid hw3
  have b3 : Below w2.heap.size w2 w3 := by rw [hw3]; exact (Below.refl _ _).alloc (Nat.le_refl _) _
  have hq3 : w3.cell? ⟨w2.heap.size, 0, none⟩ = some (.slice A2 (cols xs).length c2) := by rw [hw3]; exact cell_one_new w2 _ _ 0 _ rfl
  have hp3 : w3.cell? ⟨w.heap.size, 0, none⟩ = some (.slice A xs.length c) := (b3.cell (World.block_lt_of_cell? w2 _ hp2)).trans hp2
  have hp3' : (w2.alloc (.cells #[.slice A2 (cols xs).length c2] 22)).cell? ⟨w.heap.size, 0, none⟩ = some (.slice A xs.length c) := by rw [← HW3.out]; exact hp3
  have B3 : Below w.heap.size w w3 := Below.next (Below.next hba b2) b3
  clear hw3
  go_wp2_with fail
  rw [← HW3.out]
  refine (rowsHook_any _ _ _ _ _ _ HG.out (hc.below B3) (fun W r k hW hr hk => hookClosure_any _ _ _ _ _ _ _ _ _ _ HG.out hr hk ((hc.below B3).below hW) ((o2.cells.below b3).below hW) ((hW.cell (World.block_lt_of_cell? w3 _ hp3)).trans hp3) ((hW.cell (World.block_lt_of_cell? w3 _ hq3)).trans hq3))).mono ?_
  rintro e w4 ⟨A4, c4, rfl, o4, b4⟩
  go_wp2_with fail
  go_ret2
  exact ⟨A4, c4, rfl, o4.more B3.size, Below.next B3 b4⟩
end Go.Proofs.Ytabnhmjiegeldaa
