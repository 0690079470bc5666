/-
  Contracts: CharacterOf on both sides.
-/
import Derived.Test.YtmbfobcbnnalbaaChr
import Derived.Test.YtmbfobcbnnalbaaChrS
import Derived.Test.YtmbfobcbnnalbaaCyc
namespace Go.Proofs.Ytmbfobcbnnalbaa
open Go.RowKit

def chB (p cs : List Int) : Bool := (good p && cycB cs) && decide (p.sum = cs.sum)
def chF (p cs : List Int) : Int := if chB p cs then wrap64 (chM cs p) else 0
theorem chB_iff {p cs : List Int} : chB p cs = true ↔ Good p ∧ cycB cs = true ∧ p.sum = cs.sum := by
  simp only [chB, Bool.and_eq_true, decide_eq_true_eq, good_iff, and_assoc]

set_option maxRecDepth 100000 in
set_option maxHeartbeats 2000000 in
theorem impl_CharacterOf' (A A2 : Option Addr) (c c2 : Nat) (p cs : List Int) (w : World) (hl : p.length ≤ 1048576) (hc : Cells w A p) (hl2 : cs.length ≤ 1048576) (hc2 : Cells w A2 cs) :
    Calls Try.prog 48 #[.slice A p.length c, .slice A2 cs.length c2] w fun e w' => e = .returned (.tuple #[.int .i64 (chF p cs), .bool (chB p cs)]) ∧ Below w.heap.size w w' := by
  have HC := hid (impl_CellsOf A c p w hl hc)
  cases hg : good p
  · have hb : chB p cs = false := by simp [chB, hg]
    rw [show chF p cs = 0 by simp [chF, hb], hb]
    rw [hg] at HC
    have HS := hid fun W (h : Cells W A2 cs) => sumOfCycles_any A2 c2 cs W hl2 h
    obtain ⟨s1, h1⟩ : ∃ s1, s1 = cellsF p := ⟨_, rfl⟩
    obtain ⟨s2, h2⟩ : ∃ s2, s2 = cycS cs := ⟨_, rfl⟩
    obtain ⟨b2, h3⟩ : ∃ b2, b2 = cycB cs := ⟨_, rfl⟩
    rw [← h1] at HC
    rw [← h2, ← h3] at HS
    clear hg hb h1 h2 h3
    go_enter Try.func48, Try.ntmps48
    go_wp2_with (first | (go_at_call 117; refine HC.out.mono ?_; rintro e w2 ⟨rfl, b2⟩) | (go_at_call 118; refine (HS.out _ (hc2.later b2)).mono ?_; rintro e w' ⟨rfl, rfl⟩))
    go_ret2
    exact ⟨rfl, b2⟩
  rw [hg, show cellsF p = p.sum by simp [cellsF, hg]] at HC
  cases hy : cycB cs
  · have hb : chB p cs = false := by simp [chB, hy]
    rw [show chF p cs = 0 by simp [chF, hb], hb]
    have HS := hid fun W (h : Cells W A2 cs) => sumOfCycles_f A2 c2 cs W hl2 h hy
    obtain ⟨s1, h1⟩ : ∃ s1, s1 = p.sum := ⟨_, rfl⟩
    rw [← h1] at HC
    clear hg hb h1 hy
    go_enter Try.func48, Try.ntmps48
    go_wp2_with (first | (go_at_call 117; refine HC.out.mono ?_; rintro e w2 ⟨rfl, b2⟩) | (go_at_call 118; refine (HS.out _ (hc2.later b2)).mono ?_; rintro e w' ⟨rfl, rfl⟩))
    go_ret2
    exact ⟨rfl, b2⟩
  have HS := hid fun W (h : Cells W A2 cs) => sumOfCycles_t A2 c2 cs W hl2 h hy
  by_cases hs : p.sum = cs.sum
  · have hb : chB p cs = true := by simp [chB, hg, hy, hs]
    rw [show chF p cs = wrap64 (chM cs p) by simp [chF, hb], hb]
    have G := (good_iff p).1 hg
    have h12 := (cyc_len hy).2.2.1
    have HCA := hid fun W (h : Cells W A p) (h2 : Cells W A2 cs) => characterAt_any A A2 c c2 p cs W G (by omega) hy hs.symm h h2
    rw [← hs] at HS
    obtain ⟨s1, h1⟩ : ∃ s1, s1 = p.sum := ⟨_, rfl⟩
    obtain ⟨z, hz⟩ : ∃ z, z = wrap64 (chM cs p) := ⟨_, rfl⟩
    rw [← h1] at HC HS
    rw [← hz] at HCA ⊢
    clear hg hb h1 hy hs hz G h12
    go_enter Try.func48, Try.ntmps48
    go_wp2_with (first | (go_at_call 117; refine HC.out.mono ?_; rintro e w2 ⟨rfl, b2⟩) | (go_at_call 118; refine (HS.out _ (hc2.later b2)).mono ?_; rintro e w' ⟨rfl, rfl⟩) | (go_at_call 119; refine (HCA.out _ (hc.later b2) (hc2.later b2)).mono ?_; rintro e w3 ⟨rfl, b3⟩))
    go_ret2
    exact ⟨rfl, Below.next b2 b3⟩
  · have hb : chB p cs = false := by simp [chB, hs]
    rw [show chF p cs = 0 by simp [chF, hb], hb]
    obtain ⟨s1, h1⟩ : ∃ s1, s1 = p.sum := ⟨_, rfl⟩
    obtain ⟨s2, h2⟩ : ∃ s2, s2 = cs.sum := ⟨_, rfl⟩
    rw [← h1] at HC hs
    rw [← h2] at HS hs
    have hne : (s1 == s2) = false := beq_eq_false_iff_ne.2 hs
    clear hg hb h1 hy h2
    go_enter Try.func48, Try.ntmps48
    go_wp2_with (first | (go_at_call 117; refine HC.out.mono ?_; rintro e w2 ⟨rfl, b2⟩) | (go_at_call 118; refine (HS.out _ (hc2.later b2)).mono ?_; rintro e w' ⟨rfl, rfl⟩))
    go_ret2
    exact ⟨rfl, b2⟩
theorem impl_CharacterOf {B B2 : Nat} (A : Option Addr) (c : Nat) (p : List Int) (A2 : Option Addr) (c2 : Nat) (cs : List Int) (w : World) (hl : p.length ≤ 1048576) (ho : Own w B A c p) (hl2 : cs.length ≤ 1048576) (ho2 : Own w B2 A2 c2 cs) :
    Calls Try.prog 48 #[.slice A p.length c, .slice A2 cs.length c2] w fun e w' => e = .returned (.tuple #[.int .i64 (chF p cs), .bool (chB p cs)]) ∧ Below w.heap.size w w' :=
  impl_CharacterOf' A A2 c c2 p cs w hl ho.cells hl2 ho2.cells
theorem cyc_all {cs : List Int} (h : cycB cs = true) : ∀ x ∈ cs, 1 ≤ x ∧ x ≤ 12 := by
  intro x hx
  obtain ⟨j, hj, rfl⟩ := List.getElem_of_mem hx
  have := (cyc_len h).2.2.2.1 j hj
  rw [List.getD_eq_getElem?_getD, List.getElem?_eq_getElem hj] at this
  exact this

set_option maxRecDepth 100000 in
set_option maxHeartbeats 2000000 in
theorem spec_CharacterOf {B B2 : Nat} (A : Option Addr) (c : Nat) (p : List Int) (A2 : Option Addr) (c2 : Nat) (cs : List Int) (w : World) (hl : p.length ≤ 1048576) (ho : Own w B A c p) (hl2 : cs.length ≤ 1048576) (ho2 : Own w B2 A2 c2 cs) :
    Calls Try.prog 47 #[.slice A p.length c, .slice A2 cs.length c2] w fun e w' => e = .returned (.tuple #[.int .i64 (chF p cs), .bool (chB p cs)]) ∧ Below w.heap.size w w' := by
  have hc := ho.cells
  have hc2 := ho2.cells
  have hcap := own_cap ho2
  clear ho ho2
  cases hg : good p
  · have hb : chB p cs = false := by simp [chB, hg]
    rw [show chF p cs = 0 by simp [chF, hb], hb]
    have HG := hid hg
    clear hg hb
    go_enter Try.func47, Try.ntmps47
    go_wp2_with (go_at_call 90; refine (ptGood_b _ _ _ _ hl hc _ HG.out).mono ?_; rintro e w' ⟨rfl, n, rfl⟩)
    go_ret2
    exact ⟨rfl, below_drew' _ _⟩
  have HG := hid hg
  have G := (good_iff p).1 hg
  cases hy : cycB cs
  · have hb : chB p cs = false := by simp [chB, hy]
    rw [show chF p cs = 0 by simp [chF, hb], hb]
    have HY := hid hy
    clear hg hb hy G
    go_enter Try.func47, Try.ntmps47
    go_wp2_with (first | (go_at_call 90; refine (ptGood_b _ _ _ _ hl hc _ HG.out).mono ?_; rintro e w' ⟨rfl, n1, rfl⟩) | (go_at_call 115; refine (cnCycles_b _ _ _ 12 _ (by decide) hl2 (by exact hc2) _ HY.out).mono ?_; rintro e w' ⟨rfl, n2, rfl⟩))
    go_ret2
    exact ⟨rfl, by first | exact below_drew' _ _ | (rw [World.drewN_drewN]; exact below_drew' _ _) | exact Below.next (below_drew' w n1) (below_drew' _ _)⟩
  have HY := hid hy
  have HSU := hid fun W (h : Cells W A p) => ptSum_any A p c W G.len (fun j hj => by have := G.pos j hj; have := G.le j hj; omega) h
  have HSU2 := hid fun W (h : Cells W A2 cs) => ptSum_any A2 cs c2 W (bd12 (by decide) hy).1 (bd12 (by decide) hy).2 h
  by_cases hs : p.sum = cs.sum
  · have hb : chB p cs = true := by simp [chB, hg, hy, hs]
    rw [show chF p cs = wrap64 (chM cs p) by simp [chF, hb], hb]
    have h12 := cyc_len hy
    have HCA := hid fun W (h : Cells W A p) (h2 : Cells W A2 cs) => cnCharacter_any cs p A A2 c c2 W G (by omega) h12.1 hcap (cyc_all hy) h h2
    rw [← hs] at HSU2
    obtain ⟨s1, h1⟩ : ∃ s1, s1 = p.sum := ⟨_, rfl⟩
    obtain ⟨z, hz⟩ : ∃ z, z = wrap64 (chM cs p) := ⟨_, rfl⟩
    rw [← h1] at HSU HSU2
    rw [← hz] at HCA ⊢
    clear hg hb h1 hy hs hz G h12
    go_enter Try.func47, Try.ntmps47
    go_wp2_with (first | (go_at_call 90; refine (ptGood_b _ _ _ _ hl hc _ HG.out).mono ?_; rintro e w' ⟨rfl, n1, rfl⟩) | (go_at_call 115; refine (cnCycles_b _ _ _ 12 _ (by decide) hl2 (by exact hc2) _ HY.out).mono ?_; rintro e w' ⟨rfl, n2, rfl⟩))
    refine (HSU.out _ (by exact hc)).mono ?_
    rintro e w' ⟨rfl, rfl⟩
    go_wp2_with fail
    refine (HSU2.out _ (by exact hc2)).mono ?_
    rintro e w' ⟨rfl, rfl⟩
    go_wp2_with (go_at_call 116; refine (HCA.out _ (by exact hc) (by exact hc2)).mono ?_; rintro e w3 ⟨rfl, b3⟩)
    go_ret2
    exact ⟨rfl, by first | exact Below.next (below_drew' w _) b3 | exact Below.next (Below.next (below_drew' w _) (below_drew' _ _)) b3⟩
  · have hb : chB p cs = false := by simp [chB, hs]
    rw [show chF p cs = 0 by simp [chF, hb], hb]
    obtain ⟨s1, h1⟩ : ∃ s1, s1 = p.sum := ⟨_, rfl⟩
    obtain ⟨s2, h2⟩ : ∃ s2, s2 = cs.sum := ⟨_, rfl⟩
    rw [← h1] at HSU hs
    rw [← h2] at HSU2 hs
    have hne : (s1 == s2) = false := beq_eq_false_iff_ne.2 hs
    clear hg hb h1 hy h2 G
    go_enter Try.func47, Try.ntmps47
    go_wp2_with (first | (go_at_call 90; refine (ptGood_b _ _ _ _ hl hc _ HG.out).mono ?_; rintro e w' ⟨rfl, n1, rfl⟩) | (go_at_call 115; refine (cnCycles_b _ _ _ 12 _ (by decide) hl2 (by exact hc2) _ HY.out).mono ?_; rintro e w' ⟨rfl, n2, rfl⟩))
    refine (HSU.out _ (by exact hc)).mono ?_
    rintro e w' ⟨rfl, rfl⟩
    go_wp2_with fail
    refine (HSU2.out _ (by exact hc2)).mono ?_
    rintro e w' ⟨rfl, rfl⟩
    go_wp2_with fail
    go_ret2
    exact ⟨rfl, by first | exact below_drew' _ _ | exact Below.next (below_drew' w n1) (below_drew' _ _)⟩
end Go.Proofs.Ytmbfobcbnnalbaa
