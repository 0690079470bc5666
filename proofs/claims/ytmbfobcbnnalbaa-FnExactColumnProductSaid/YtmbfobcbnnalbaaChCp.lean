/-
  Contracts: products of columns of characters on both sides.
-/
import Derived.Test.YtmbfobcbnnalbaaChTab
namespace Go.Proofs.Ytmbfobcbnnalbaa
open Go.RowKit

def cpT (a b p : List Int) : Int := wrap64 (wrap64 (chM a p) * wrap64 (chM b p))
def cpB (a b : List Int) : Bool := cycB a && (cycB b && decide (a.sum = b.sum ∧ a.sum ≤ 8))
def cpF (a b : List Int) : Int := if cpB a b then swK (cpT a b) (clL a.sum.toNat) (clL a.sum.toNat).length else 0
theorem cpB_iff {a b : List Int} : cpB a b = true ↔ cycB a = true ∧ cycB b = true ∧ a.sum = b.sum ∧ a.sum ≤ 8 := by simp [cpB]
theorem cyc8_iff {xs : List Int} : cycM 8 xs = true ↔ cycB xs = true ∧ xs.sum ≤ 8 := by
  constructor
  · intro h; exact ⟨cyc8 h, (cycM_iff.1 h).2⟩
  · rintro ⟨h1, h2⟩; exact cycM_iff.2 ⟨(cycM_iff.1 h1).1, h2⟩

set_option maxRecDepth 100000 in
set_option maxHeartbeats 1000000 in
theorem cpClo_any (A Aa Ab : Option Addr) (c ca cb : Nat) (p a b : List Int) (g1 g2 : Nat) (w : World) (G : Good p) (h8 : p.sum ≤ 8) (ha : cycB a = true) (hsa : a.sum = p.sum) (hb : cycB b = true) (hsb : b.sum = p.sum) (hc : Cells w A p) (hca : Cells w Aa a) (hcb : Cells w Ab b)
    (h1 : w.cell? ⟨g1, 0, none⟩ = some (.slice Aa a.length ca)) (h2 : w.cell? ⟨g2, 0, none⟩ = some (.slice Ab b.length cb)) :
    Calls Try.prog 125 #[.slice A p.length c, .pointer (some ⟨g1, 0, none⟩), .pointer (some ⟨g2, 0, none⟩)] w fun e w' => e = .returned (.int .i64 (cpT a b p)) ∧ Below w.heap.size w w' := by
  have HA := hid fun W (h : Cells W A p) (h2 : Cells W Aa a) => characterAt_any A Aa c ca p a W G (by omega) ha hsa h h2
  have HB := hid fun W (h : Cells W A p) (h2 : Cells W Ab b) => characterAt_any A Ab c cb p b W G (by omega) hb hsb h h2
  have hg1 := World.block_lt_of_cell? w _ h1
  have hg2 := World.block_lt_of_cell? w _ h2
  have HC := hid hc; have HCA := hid hca; have HCB := hid hcb
  have HT := hid (show cpT a b p = wrap64 (wrap64 (chM a p) * wrap64 (chM b p)) from rfl)
  rw [HT.out]
  obtain ⟨z1, hz1⟩ : ∃ z1, z1 = wrap64 (chM a p) := ⟨_, rfl⟩
  obtain ⟨z2, hz2⟩ : ∃ z2, z2 = wrap64 (chM b p) := ⟨_, rfl⟩
  rw [← hz1] at HA ⊢
  rw [← hz2] at HB ⊢
  clear hz1 hz2 HT ha hb hsa hsb G h8 hc hca hcb
  go_enter Try.func125, Try.ntmps125
  go_wp2_with fail
  go_region_held3 (fun w' => w'.cell? ⟨g1, 0, none⟩ = some (.slice Aa a.length ca) ∧ w'.cell? ⟨g2, 0, none⟩ = some (.slice Ab b.length cb)) (first | exact ⟨h1, h2⟩ | exact ⟨k1, k2⟩ | exact ⟨l1, l2⟩) (first | (go_at_call_of 119 (Value.slice Aa a.length ca); refine (HA.out _ (by exact HC.out) (by exact HCA.out)).mono ?_; rintro e w7 ⟨rfl, b7⟩; have k1 := (b7.cell hg1).trans h1; have k2 := (b7.cell hg2).trans h2; have k3 := Cells.later (by exact HC.out) b7; have k4 := Cells.later (by exact HCB.out) b7) | (go_at_call_of 119 (Value.slice Ab b.length cb); refine (HB.out _ (by exact k3) (by exact k4)).mono ?_; rintro e w8 ⟨rfl, b8⟩; have l1 := (b8.cell (Nat.lt_of_lt_of_le hg1 b7.size)).trans k1; have l2 := (b8.cell (Nat.lt_of_lt_of_le hg2 b7.size)).trans k2))
  have HB8 := hid (Below.next (Below.next (below_drew' w 1) b7) b8)
  have e1 : IntKind.i64.wrap (z1 * z2) = wrap64 (z1 * z2) := IntWalk.i64_left _
  clear b7 b8 k1 k2 k3 k4
  go_wp2_with fail
  go_ret
  exact ⟨by rw [e1]; rfl, HB8.out⟩

set_option maxRecDepth 100000 in
set_option maxHeartbeats 2000000 in
theorem sumCp_any (A Aa Ab : Option Addr) (c ca cb : Nat) (R : List (List Int)) (a b : List Int) (g1 g2 : Nat) (w : World) (hl : R.length ≤ 10000) (hR : ∀ k, k < R.length → Good (R.getD k []) ∧ (R.getD k []).sum = a.sum) (h8 : a.sum ≤ 8) (ha : cycB a = true) (hb : cycB b = true) (hsb : a.sum = b.sum) (hc : Cells2 w A R) (hca : Cells w Aa a) (hcb : Cells w Ab b)
    (h1 : w.cell? ⟨g1, 0, none⟩ = some (.slice Aa a.length ca)) (h2 : w.cell? ⟨g2, 0, none⟩ = some (.slice Ab b.length cb)) :
    Calls Try.prog 112 #[.slice A R.length c, .func (.func 125) #[] #[.pointer (some ⟨g1, 0, none⟩), .pointer (some ⟨g2, 0, none⟩)]] w fun e w' => e = .returned (.int .i64 (swK (cpT a b) R R.length)) ∧ Below w.heap.size w w' := by
  have HSW := hid fun k => (show swK (cpT a b) R (k + 1) = wrap64 (swK (cpT a b) R k + cpT a b (R.getD k [])) from rfl)
  have hg1 := World.block_lt_of_cell? w _ h1
  have hg2 := World.block_lt_of_cell? w _ h2
  have HCL := hid fun k (hk : k < R.length) A' c' W (hW : Below w.heap.size w W) (h : Cells W A' (R.getD k [])) => cpClo_any A' Aa Ab c' ca cb (R.getD k []) a b g1 g2 W (hR k hk).1 (by have := (hR k hk).2; omega) ha (hR k hk).2.symm hb (by have := (hR k hk).2; omega) h (hca.later hW) (hcb.later hW) ((hW.cell hg1).trans h1) ((hW.cell hg2).trans h2)
  obtain ⟨f, hf⟩ : ∃ f, f = cpT a b := ⟨_, rfl⟩
  rw [← hf] at HSW HCL ⊢
  clear hf hR hca hcb h1 h2 ha hb hsb hg1 hg2
  go_enter Try.func112, Try.ntmps112
  go_wp2_with fail
  go_loopw [5, 10] (fun v i wr => ∃ k : Nat, k ≤ R.length ∧ i = .int .i64 k ∧ v = .int .i64 (swK f R k) ∧ Below w.heap.size w wr) (fun _ i _ => R.length - (intOf i).toNat)
  case atStart => exact ⟨0, Nat.zero_le _, rfl, rfl, Below.refl _ _⟩
  case round =>
    obtain ⟨k, hk, rfl, rfl, hbel⟩ := hrel
    by_cases hlt : k < R.length
    · have hc2 := cells2_next hc hbel
      obtain ⟨P, C, h1, h2⟩ := hc2
      obtain ⟨b, o, rfl, hcc⟩ := h1 (by omega)
      have hck := hcc k hlt
      have HCL' := hid (HCL.out k hlt (P k) (C k) wr hbel (h2 k hlt))
      have HS := hid (HSW.out k)
      obtain ⟨r, hr⟩ : ∃ r, r = R.getD k [] := ⟨_, rfl⟩
      rw [← hr] at hck HCL' HS
      obtain ⟨q, hq⟩ : ∃ q, q = f r := ⟨_, rfl⟩
      rw [← hq] at HCL' HS
      obtain ⟨s, hs0⟩ : ∃ s, s = swK f R k := ⟨_, rfl⟩
      rw [← hs0] at HS ⊢
      clear h1 h2 hcc hr hq hs0
      go_wp2_with (go_at_call 125; refine HCL'.out.mono ?_; rintro e w2 ⟨rfl, b2⟩)
      go_roundw
      case rel => exact ⟨k + 1, by omega, by go_num, by rw [HS.out], hbel.trans (b2.mono hbel.size)⟩
      case measure => simp [intOf]; omega
    · have hkl : k = R.length := by omega
      subst hkl
      go_wp2_with fail
      go_ret
      exact ⟨rfl, hbel⟩

set_option maxRecDepth 100000 in
set_option maxHeartbeats 4000000 in
theorem impl_ColumnProduct' (A : Option Addr) (c : Nat) (a : List Int) (A2 : Option Addr) (c2 : Nat) (b : List Int) (w : World) (hl : a.length ≤ 1048576) (hc : Cells w A a) (hl2 : b.length ≤ 1048576) (hc2 : Cells w A2 b) :
    Calls Try.prog 65 #[.slice A a.length c, .slice A2 b.length c2] w fun e w' => e = .returned (.tuple #[.int .i64 (cpF a b), .bool (cpB a b)]) ∧ Below w.heap.size w w' := by
  obtain ⟨w2, hw2⟩ : ∃ w2, w2 = (w.alloc (.cells #[.slice A a.length c] 22)).alloc (.cells #[.slice A2 b.length c2] 22) := ⟨_, rfl⟩
  have b2 : Below w.heap.size w w2 := by rw [hw2]; exact ((Below.refl _ _).alloc (Nat.le_refl _) _).alloc (by simp) _
  have h1 : w2.cell? ⟨w.heap.size, 0, none⟩ = some (.slice A a.length c) := by
    have h := one_at (w := w) (t := 22) 0 (.slice A a.length c) (x := .slice A a.length c) rfl
    rw [hw2, World.cell?_of_block (w := w.alloc (.cells #[.slice A a.length c] 22)) (Below.heap_alloc _ _ _ (by simp))]
    exact h
  have h2 : w2.cell? ⟨w.heap.size + 1, 0, none⟩ = some (.slice A2 b.length c2) := by
    have h := one_at (w := w.alloc (.cells #[.slice A a.length c] 22)) (t := 22) 0 (.slice A2 b.length c2) (x := .slice A2 b.length c2) rfl
    rw [World.size_alloc] at h
    rw [hw2]; exact h
  have hca := hc.below b2
  have hcb := hc2.below b2
  have HSA := hid (sumOfCycles_any A c a w2 hl hca)
  have HSB := hid (sumOfCycles_any A2 c2 b w2 hl2 hcb)
  have HW := hid hw2
  have h1r := h1
  rw [hw2] at h1r
  clear hw2
  cases hb : cpB a b
  · rw [show cpF a b = 0 by simp [cpF, hb]]
    have hor : cycB a = false ∨ cycB b = false ∨ (cycB a = true ∧ cycB b = true ∧ ¬ cycS a = cycS b) ∨ (cycB a = true ∧ cycB b = true ∧ cycS a = cycS b ∧ 8 < cycS a) := by
      cases ha : cycB a
      · exact .inl rfl
      · cases hb' : cycB b
        · exact .inr (.inl rfl)
        · have e1 : cycS a = a.sum := by simp [cycS, ha]
          have e2 : cycS b = b.sum := by simp [cycS, hb']
          simp only [cpB, ha, hb', Bool.true_and, decide_eq_false_iff_not] at hb
          by_cases e : cycS a = cycS b
          · exact .inr (.inr (.inr ⟨rfl, rfl, e, by omega⟩))
          · exact .inr (.inr (.inl ⟨rfl, rfl, e⟩))
    obtain ⟨sa, hsa⟩ : ∃ sa, sa = cycS a := ⟨_, rfl⟩
    obtain ⟨sb, hsb⟩ : ∃ sb, sb = cycS b := ⟨_, rfl⟩
    obtain ⟨ba, hba⟩ : ∃ ba, ba = cycB a := ⟨_, rfl⟩
    obtain ⟨bb, hbb⟩ : ∃ bb, bb = cycB b := ⟨_, rfl⟩
    rw [← hsa, ← hba] at HSA
    rw [← hsb, ← hbb] at HSB
    rw [← hsa, ← hba, ← hsb, ← hbb] at hor
    clear hsa hsb hba hbb hb
    rcases hor with rfl | rfl | ⟨rfl, rfl, hne⟩ | ⟨rfl, rfl, heq, h8⟩
    · go_enter Try.func65, Try.ntmps65
      go_wp2_with fail
      rw [← HW.out]
      refine HSA.out.mono ?_
      rintro e w3 ⟨rfl, rfl⟩
      go_wp2_with fail
      refine HSB.out.mono ?_
      rintro e w4 ⟨rfl, rfl⟩
      go_wp2_with fail
      go_ret2
      exact ⟨rfl, b2⟩
    · cases ba
      · go_enter Try.func65, Try.ntmps65
        go_wp2_with fail
        rw [← HW.out]
        refine HSA.out.mono ?_
        rintro e w3 ⟨rfl, rfl⟩
        go_wp2_with fail
        refine HSB.out.mono ?_
        rintro e w4 ⟨rfl, rfl⟩
        go_wp2_with fail
        go_ret2
        exact ⟨rfl, b2⟩
      · go_enter Try.func65, Try.ntmps65
        go_wp2_with fail
        rw [← HW.out]
        refine HSA.out.mono ?_
        rintro e w3 ⟨rfl, rfl⟩
        go_wp2_with fail
        refine HSB.out.mono ?_
        rintro e w4 ⟨rfl, rfl⟩
        go_wp2_with fail
        go_ret2
        exact ⟨rfl, b2⟩
    · have hne' : (sa != sb) = true := by simp; omega
      go_enter Try.func65, Try.ntmps65
      go_wp2_with fail
      rw [← HW.out]
      refine HSA.out.mono ?_
      rintro e w3 ⟨rfl, rfl⟩
      go_wp2_with fail
      refine HSB.out.mono ?_
      rintro e w4 ⟨rfl, rfl⟩
      go_wp2_with fail
      go_ret2
      exact ⟨rfl, b2⟩
    · subst heq
      have hne' : (sa != sa) = false := by simp
      go_enter Try.func65, Try.ntmps65
      go_wp2_with fail
      rw [← HW.out]
      refine HSA.out.mono ?_
      rintro e w3 ⟨rfl, rfl⟩
      go_wp2_with fail
      refine HSB.out.mono ?_
      rintro e w4 ⟨rfl, rfl⟩
      go_wp2_with fail
      go_ret2
      exact ⟨rfl, b2⟩
  · obtain ⟨ha, hb', hse, h8⟩ := cpB_iff.1 hb
    have h0 := (cyc_len ha).2.1
    obtain ⟨n, hn⟩ : ∃ n : Nat, a.sum = n := ⟨a.sum.toNat, by omega⟩
    have hn2 : b.sum = n := by omega
    rw [show cpF a b = swK (cpT a b) (clL n) (clL n).length by simp [cpF, hb, hn]]
    rw [show cycS a = n by simp [cycS, ha, hn], ha] at HSA
    rw [show cycS b = n by simp [cycS, hb', hn2], hb'] at HSB
    have HL := hid (listPartitions_any n w2 (by omega))
    change Hid (Calls Try.prog 113 #[.int .i64 n] w2 fun e w' => ∃ A' c', e = .returned (.slice A' (clL n).length c') ∧ Own2 w' w2.heap.size w'.heap.size A' c' (clL n) ∧ Below w2.heap.size w2 w') at HL
    have hrl := clL8 (n := n) (by omega)
    have HCP := hid fun A5 c5 W (hW : Below w2.heap.size w2 W) (h : Cells2 W A5 (clL n)) => sumCp_any A5 A A2 c5 c c2 (clL n) a b w.heap.size (w.heap.size + 1) W (by omega) (fun k hk => by
        have := all_row n (by omega) k hk
        exact ⟨this.1, this.2.trans hn.symm⟩) h8 ha hb' hse h (hca.later hW) (hcb.later hW) ((hW.cell (World.block_lt_of_cell? w2 _ h1)).trans h1) ((hW.cell (World.block_lt_of_cell? w2 _ h2)).trans h2)
    obtain ⟨R, hR⟩ : ∃ R, R = clL n := ⟨_, rfl⟩
    rw [← hR] at HL HCP hrl ⊢
    obtain ⟨s, hs⟩ : ∃ s, s = swK (cpT a b) R R.length := ⟨_, rfl⟩
    rw [← hs] at HCP ⊢
    have hn8 : (n : Int) ≤ 8 := by omega
    have hne' : ((n : Int) != n) = false := by simp
    clear hb ha hb' hse hn hn2 hR hs h8 h0 hc hc2 hca hcb
    go_enter Try.func65, Try.ntmps65
    go_wp2_with fail
    rw [← HW.out]
    refine HSA.out.mono ?_
    rintro e w3 ⟨rfl, rfl⟩
    go_wp2_with fail
    refine HSB.out.mono ?_
    rintro e w4 ⟨rfl, rfl⟩
    go_wp2_with fail
    refine HL.out.mono ?_
    rintro e w5 ⟨A5, c5, rfl, o5, b5⟩
    go_wp2_with fail
    refine (HCP.out A5 c5 w5 b5 o5.cells).mono ?_
    rintro e w6 ⟨rfl, b6⟩
    have HB6 := hid (Below.next (Below.next b2 b5) b6)
    clear b5 b6 o5
    go_wp2_with fail
    go_ret2
    exact ⟨rfl, HB6.out⟩
theorem impl_ColumnProduct {B B2 : Nat} (A : Option Addr) (c : Nat) (a : List Int) (A2 : Option Addr) (c2 : Nat) (b : List Int) (w : World) (hl : a.length ≤ 1048576) (ho : Own w B A c a) (hl2 : b.length ≤ 1048576) (ho2 : Own w B2 A2 c2 b) :
    Calls Try.prog 65 #[.slice A a.length c, .slice A2 b.length c2] w fun e w' => e = .returned (.tuple #[.int .i64 (cpF a b), .bool (cpB a b)]) ∧ Below w.heap.size w w' :=
  impl_ColumnProduct' A c a A2 c2 b w hl ho.cells hl2 ho2.cells

set_option maxRecDepth 100000 in
set_option maxHeartbeats 4000000 in
theorem spec_ColumnProduct {B B2 : Nat} (A : Option Addr) (c : Nat) (a : List Int) (A2 : Option Addr) (c2 : Nat) (b : List Int) (w : World) (hl : a.length ≤ 1048576) (ho : Own w B A c a) (hl2 : b.length ≤ 1048576) (ho2 : Own w B2 A2 c2 b) :
    Calls Try.prog 64 #[.slice A a.length c, .slice A2 b.length c2] w fun e w' => e = .returned (.tuple #[.int .i64 (cpF a b), .bool (cpB a b)]) ∧ Below w.heap.size w w' := by
  have hc := ho.cells
  have hcap := own_cap ho
  have hc2 := ho2.cells
  have hcap2 := own_cap ho2
  clear ho ho2
  cases hg : cycM 8 a
  · have hb : cpB a b = false := by
      cases h : cpB a b
      · rfl
      · obtain ⟨x1, _, _, x2⟩ := cpB_iff.1 h
        rw [cyc8_iff.2 ⟨x1, x2⟩] at hg; exact absurd hg (by decide)
    rw [show cpF a b = 0 by simp [cpF, hb], hb]
    have HG := hid hg
    clear hg hb
    go_enter Try.func64, Try.ntmps64
    go_wp2_with (go_at_call 115; refine (cnCycles_b _ _ _ 8 _ (by decide) hl hc _ HG.out).mono ?_; rintro e w' ⟨rfl, n, rfl⟩)
    go_ret2
    exact ⟨rfl, below_drew' _ _⟩
  have HG := hid hg
  cases hg2 : cycM 8 b
  · have hb : cpB a b = false := by
      cases h : cpB a b
      · rfl
      · obtain ⟨_, x1, x3, x2⟩ := cpB_iff.1 h
        rw [cyc8_iff.2 ⟨x1, by omega⟩] at hg2; exact absurd hg2 (by decide)
    rw [show cpF a b = 0 by simp [cpF, hb], hb]
    have HG2 := hid hg2
    clear hg hg2 hb
    go_enter Try.func64, Try.ntmps64
    go_wp2_with fail
    refine (cnCycles_b _ _ _ 8 _ (by decide) hl hc _ HG.out).mono ?_
    rintro e w' ⟨rfl, n1, rfl⟩
    go_wp2_with fail
    refine (cnCycles_b _ _ _ 8 _ (by decide) hl2 (by exact hc2) _ HG2.out).mono ?_
    rintro e w' ⟨rfl, n2, rfl⟩
    go_wp2_with fail
    go_ret2
    exact ⟨rfl, below_drew' _ _⟩
  have HG2 := hid hg2
  obtain ⟨ha, h8⟩ := cyc8_iff.1 hg
  obtain ⟨hb', h82⟩ := cyc8_iff.1 hg2
  have HSU := hid fun W (h : Cells W A a) => ptSum_any A a c W (bd12 (by decide) ha).1 (bd12 (by decide) ha).2 h
  have HSU2 := hid fun W (h : Cells W A2 b) => ptSum_any A2 b c2 W (bd12 (by decide) hb').1 (bd12 (by decide) hb').2 h
  have h0 := (cyc_len ha).2.1
  by_cases hs : a.sum = b.sum
  · have hb : cpB a b = true := cpB_iff.2 ⟨ha, hb', hs, h8⟩
    obtain ⟨n, hn⟩ : ∃ n : Nat, a.sum = n := ⟨a.sum.toNat, by omega⟩
    have hn2 : b.sum = n := by omega
    rw [show cpF a b = swK (cpT a b) (clL n) (clL n).length by simp [cpF, hb, hn], hb]
    have HL := hid fun W => ptAll_any n n n W (Nat.le_refl _) (by omega) (by omega)
    change Hid (∀ W : World, Calls Try.prog 111 #[.int .i64 n, .int .i64 n] W fun e w' => ∃ A' c', e = .returned (.slice A' (clL n).length c') ∧ Own2 w' W.heap.size w'.heap.size A' c' (clL n) ∧ Below W.heap.size W w') at HL
    have hrl := clL8 (n := n) (by omega)
    have HCA := hid fun A4 c4 p W (G : Good p) (hp : p.sum ≤ 12) (h : Cells W A4 p) (h2 : Cells W A a) => cnCharacter_any a p A4 A c4 c W G hp (cyc_len ha).1 hcap (cyc_all ha) h h2
    have HCB := hid fun A4 c4 p W (G : Good p) (hp : p.sum ≤ 12) (h : Cells W A4 p) (h2 : Cells W A2 b) => cnCharacter_any b p A4 A2 c4 c2 W G hp (cyc_len hb').1 hcap2 (cyc_all hb') h h2
    have HGO := hid fun k (hk : k < (clL n).length) => (show Good ((clL n).getD k []) ∧ ((clL n).getD k []).sum ≤ 12 by
      have := all_row n (by omega) k hk
      have e : ((clL n).getD k []).sum = n := this.2
      exact ⟨this.1, by omega⟩)
    have HSW := hid fun k => (show swK (cpT a b) (clL n) (k + 1) = wrap64 (swK (cpT a b) (clL n) k + cpT a b ((clL n).getD k [])) from rfl)
    have HRT := hid fun p => (show cpT a b p = wrap64 (wrap64 (chM a p) * wrap64 (chM b p)) from rfl)
    rw [hn] at HSU
    rw [hn2] at HSU2
    obtain ⟨R, hR⟩ : ∃ R, R = clL n := ⟨_, rfl⟩
    rw [← hR] at HL HSW HGO hrl ⊢
    obtain ⟨S, hS⟩ : ∃ S, S = swK (cpT a b) R := ⟨_, rfl⟩
    have HS0 := hid (show S 0 = 0 by rw [hS]; rfl)
    rw [← hS] at HSW ⊢
    obtain ⟨f, hf⟩ : ∃ f, f = cpT a b := ⟨_, rfl⟩
    rw [← hf] at HSW HRT
    have hne : ((n : Int) != n) = false := by simp
    clear hg hg2 hb hf hR hS hn hn2 hs ha hb' h0 h82 hcap hcap2
    go_enter Try.func64, Try.ntmps64
    go_wp2_with fail
    refine (cnCycles_b _ _ _ 8 _ (by decide) hl hc _ HG.out).mono ?_
    rintro e w' ⟨rfl, n1, rfl⟩
    go_wp2_with fail
    refine (cnCycles_b _ _ _ 8 _ (by decide) hl2 (by exact hc2) _ HG2.out).mono ?_
    rintro e w' ⟨rfl, n2, rfl⟩
    go_wp2_with fail
    refine (HSU.out _ (by exact hc)).mono ?_
    rintro e w' ⟨rfl, rfl⟩
    go_wp2_with fail
    refine (HSU2.out _ (by exact hc2)).mono ?_
    rintro e w' ⟨rfl, rfl⟩
    go_wp2_with fail
    refine (HSU.out _ (by exact hc)).mono ?_
    rintro e w' ⟨rfl, rfl⟩
    go_wp2_with (go_at_call 111; refine (HL.out _).mono ?_; rintro e w5 ⟨A5, c5, rfl, o5, b5⟩)
    have HB5 := hid (Below.next (below_drew' w (n1 + n2)) b5)
    obtain ⟨P5, C5, hat⟩ := o5
    have HAT := hid hat
    have hs5 := HB5.out.size
    clear b5 hat
    go_loopw [7, 31] (fun v i wr => ∃ k : Nat, k ≤ R.length ∧ i = .int .i64 k ∧ v = .int .i64 (S k) ∧ Hid (Below w5.heap.size w5 wr)) (fun _ i _ => R.length - (intOf i).toNat)
    case atStart => exact ⟨0, Nat.zero_le _, rfl, by rw [HS0.out], hid (Below.refl _ _)⟩
    case round =>
      obtain ⟨k, hk, rfl, rfl, HB⟩ := hrel
      by_cases hlt : k < R.length
      · have hrow := HAT.out.row k hlt
        have HGC := hid (hrow.below HB.out).cells
        obtain ⟨g, rfl, hck⟩ := own2_row (own2_bel HAT.out HB.out) hlt
        have HS := hid (HSW.out k)
        obtain ⟨hG, hp12⟩ := HGO.out k hlt
        have HCP := hid (hc.later (HB5.out.trans (HB.out.mono hs5)))
        have HCP2 := hid (hc2.later (HB5.out.trans (HB.out.mono hs5)))
        obtain ⟨cl, hcl⟩ : ∃ cl, cl = R.getD k [] := ⟨_, rfl⟩
        rw [← hcl] at hck hG hp12 HGC HS
        have HCA' := hid fun W => HCA.out (P5 k) (C5 k) cl W hG hp12
        have HCB' := hid fun W => HCB.out (P5 k) (C5 k) cl W hG hp12
        rw [HRT.out] at HS
        obtain ⟨z1, hz1⟩ : ∃ z1, z1 = wrap64 (chM a cl) := ⟨_, rfl⟩
        obtain ⟨z2, hz2⟩ : ∃ z2, z2 = wrap64 (chM b cl) := ⟨_, rfl⟩
        rw [← hz1] at HS HCA'
        rw [← hz2] at HS HCB'
        obtain ⟨y1, hy1⟩ : ∃ y1, y1 = wrap64 (z1 * z2) := ⟨_, rfl⟩
        rw [← hy1] at HS
        have e1 : IntKind.i64.wrap (z1 * z2) = y1 := (IntWalk.i64_left _).trans hy1.symm
        clear hrow hG hp12 hcl hz1 hz2 
        go_wp2_with fail
        refine (HCA'.out _ (by exact HGC.out) (by exact HCP.out)).mono ?_
        rintro e w7 ⟨rfl, b7⟩
        have k2 := Cells.later (by exact HCP2.out) b7
        have k3 := Cells.later (by exact HGC.out) b7
        go_wp2_with fail
        refine (HCB'.out _ (by exact k3) (by exact k2)).mono ?_
        rintro e w8 ⟨rfl, b8⟩
        have HB8 := hid (HB.out.trans (Below.mono (Below.next b7 b8) HB.out.size))
        have hsum : IntKind.i64.wrap (S k + y1) = S (k + 1) := by rw [HS.out]; exact IntWalk.i64_left _
        have HY1 := hid hy1
        clear b7 b8 k2 k3 hy1
        go_wp2_with fail
        go_roundw
        case rel => exact ⟨k + 1, by omega, by go_num, by first | rw [HS.out] | rw [hsum] | rw [HS.out, HY1.out], HB8.out⟩
        case measure => simp [intOf]; omega
      · have hkl : k = R.length := by omega
        subst hkl
        have hbe := HB5.out.trans (HB.out.mono HB5.out.size)
        go_wp2_with fail
        go_ret2
        exact ⟨rfl, hbe⟩
  · have hb : cpB a b = false := by
      cases h : cpB a b
      · rfl
      · exact absurd (cpB_iff.1 h).2.2.1 hs
    rw [show cpF a b = 0 by simp [cpF, hb], hb]
    obtain ⟨s1, h1⟩ : ∃ s1, s1 = a.sum := ⟨_, rfl⟩
    obtain ⟨s2, h2⟩ : ∃ s2, s2 = b.sum := ⟨_, rfl⟩
    rw [← h1] at HSU hs
    rw [← h2] at HSU2 hs
    have hne : (s1 != s2) = true := by simp; omega
    clear hg hg2 hb h1 h2 ha hb' h0 h8 h82 hcap hcap2
    go_enter Try.func64, Try.ntmps64
    go_wp2_with fail
    refine (cnCycles_b _ _ _ 8 _ (by decide) hl hc _ HG.out).mono ?_
    rintro e w' ⟨rfl, n1, rfl⟩
    go_wp2_with fail
    refine (cnCycles_b _ _ _ 8 _ (by decide) hl2 (by exact hc2) _ HG2.out).mono ?_
    rintro e w' ⟨rfl, n2, rfl⟩
    go_wp2_with fail
    refine (HSU.out _ (by exact hc)).mono ?_
    rintro e w' ⟨rfl, rfl⟩
    go_wp2_with fail
    refine (HSU2.out _ (by exact hc2)).mono ?_
    rintro e w' ⟨rfl, rfl⟩
    go_wp2_with fail
    go_ret2
    exact ⟨rfl, below_drew' _ _⟩
end Go.Proofs.Ytmbfobcbnnalbaa
