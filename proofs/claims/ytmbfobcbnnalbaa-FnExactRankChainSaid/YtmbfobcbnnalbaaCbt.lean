/-
  Contracts: CountBetween on both sides.
-/
import Derived.Test.YtmbfobcbnnalbaaUp
import Derived.Test.YtmbfobcbnnalbaaNb
import Derived.Test.YtmbfobcbnnalbaaWith1
import Derived.Test.YtmbfobcbnnalbaaCyc
namespace Go.Proofs.Ytmbfobcbnnalbaa
open Go.RowKit

def chdB (q : List Int) : Bool := good q && decide (q.sum ≤ 12)
theorem chdB_iff {q : List Int} : chdB q = true ↔ Good q ∧ q.sum ≤ 12 := by simp only [chdB, Bool.and_eq_true, decide_eq_true_eq, good_iff]
def cbB (p q : List Int) : Bool := good p && chdB q
def cbF (p q : List Int) : Int := if cbB p q then nbF p q else 0

set_option maxHeartbeats 1000000 in
theorem isChained_any (A : Option Addr) (c : Nat) (q : List Int) (w : World) (hl : q.length ≤ 1048576) (hc : Cells w A q) :
    Calls Try.prog 99 #[.slice A q.length c] w fun e w' => e = .returned (.bool (chdB q)) ∧ w = w' := by
  cases hg : good q
  · rw [show chdB q = false by simp [chdB, hg]]
    have HG := hid hg
    clear hg
    go_enter Try.func99, Try.ntmps99
    go_wp2_with (go_at_call 98; refine (IsPartition_b _ _ _ _ hl hc _ HG.out).mono ?_; rintro e w' ⟨rfl, rfl⟩)
    go_ret
    exact ⟨rfl, rfl⟩
  · have HG := hid hg
    have G := (good_iff q).1 hg
    have HCC := hid (cellCount_any A q c w G.len G.bd' hc)
    rw [show chdB q = decide (q.sum ≤ 12) by simp [chdB, hg]]
    obtain ⟨s, hs⟩ : ∃ s, s = q.sum := ⟨_, rfl⟩
    rw [← hs] at HCC ⊢
    clear hg hs G
    go_enter Try.func99, Try.ntmps99
    go_wp2_with (first | (go_at_call 98; refine (IsPartition_b _ _ _ _ hl hc _ HG.out).mono ?_; rintro e w' ⟨rfl, rfl⟩) | (go_at_call 94; refine HCC.out.mono ?_; rintro e w' ⟨rfl, rfl⟩))
    go_ret
    exact ⟨rfl, rfl⟩
theorem isChained_b (A : Option Addr) (c : Nat) (q : List Int) (w : World) (hl : q.length ≤ 1048576) (hc : Cells w A q) (b : Bool) (h : chdB q = b) :
    Calls Try.prog 99 #[.slice A q.length c] w fun e w' => e = .returned (.bool b) ∧ w = w' := by
  subst h; exact isChained_any A c q w hl hc

set_option maxRecDepth 100000 in
set_option maxHeartbeats 2000000 in
theorem impl_CountBetween' (A : Option Addr) (c : Nat) (p : List Int) (A2 : Option Addr) (c2 : Nat) (q : List Int) (w : World) (hl : p.length ≤ 1048576) (hc : Cells w A p) (hl2 : q.length ≤ 1048576) (hc2 : Cells w A2 q) :
    Calls Try.prog 34 #[.slice A p.length c, .slice A2 q.length c2] w fun e w' => e = .returned (.tuple #[.int .i64 (cbF p q), .bool (cbB p q)]) ∧ Below w.heap.size w w' := by
  cases hg : good p
  · have hb : cbB p q = false := by simp [cbB, hg]
    rw [show cbF p q = 0 by simp [cbF, hb], hb]
    have HG := hid hg
    clear hg hb
    go_enter Try.func34, Try.ntmps34
    go_wp2_with (go_at_call 98; refine (IsPartition_b _ _ _ _ hl hc _ HG.out).mono ?_; rintro e w' ⟨rfl, rfl⟩)
    go_ret2
    exact ⟨rfl, Below.refl _ _⟩
  have HG := hid hg
  cases hg2 : chdB q
  · have hb : cbB p q = false := by simp [cbB, hg2]
    rw [show cbF p q = 0 by simp [cbF, hb], hb]
    have HG2 := hid hg2
    clear hg hg2 hb
    go_enter Try.func34, Try.ntmps34
    go_wp2_with (first | (go_at_call 98; refine (IsPartition_b _ _ _ _ hl hc _ HG.out).mono ?_; rintro e w' ⟨rfl, rfl⟩) | (go_at_call 99; refine (isChained_b _ _ _ _ hl2 hc2 _ HG2.out).mono ?_; rintro e w' ⟨rfl, rfl⟩))
    go_ret2
    exact ⟨rfl, Below.refl _ _⟩
  · have hb : cbB p q = true := by simp [cbB, hg, hg2]
    rw [show cbF p q = nbF p q by simp [cbF, hb], hb]
    have HG2 := hid hg2
    obtain ⟨Gq, h12⟩ := chdB_iff.1 hg2
    have G := (good_iff p).1 hg
    have hqs := Gq.sum0
    obtain ⟨N, hN⟩ : ∃ N : Nat, q.sum = N := ⟨q.sum.toNat, by omega⟩
    have HWU := hid (waysUpTo_any A2 c2 q w Gq h12 hc2)
    rw [show q.sum.toNat = N by omega] at HWU
    have HFR := hid fun g W (hU : UP W g N q) (h : Cells W A p) => from_any A c g N p q W hN (by omega) G.len G.bd hU h
    obtain ⟨v, hv⟩ : ∃ v, v = nbF p q := ⟨_, rfl⟩
    rw [← hv] at HFR ⊢
    clear hg hg2 hb hv G Gq h12 hqs hN
    go_enter Try.func34, Try.ntmps34
    go_wp2_with (first | (go_at_call 98; refine (IsPartition_b _ _ _ _ hl hc _ HG.out).mono ?_; rintro e w' ⟨rfl, rfl⟩) | (go_at_call 99; refine (isChained_b _ _ _ _ hl2 hc2 _ HG2.out).mono ?_; rintro e w' ⟨rfl, rfl⟩) | (go_at_call 100; refine HWU.out.mono ?_; rintro e w5 ⟨rfl, u5, b5⟩) | (go_at_call 101; refine (HFR.out _ _ u5 (hc.later b5)).mono ?_; rintro e w6 ⟨rfl, b6⟩))
    go_ret2
    exact ⟨rfl, Below.next b5 b6⟩
theorem impl_CountBetween {B B2 : Nat} (A : Option Addr) (c : Nat) (p : List Int) (A2 : Option Addr) (c2 : Nat) (q : List Int) (w : World) (hl : p.length ≤ 1048576) (ho : Own w B A c p) (hl2 : q.length ≤ 1048576) (ho2 : Own w B2 A2 c2 q) :
    Calls Try.prog 34 #[.slice A p.length c, .slice A2 q.length c2] w fun e w' => e = .returned (.tuple #[.int .i64 (cbF p q), .bool (cbB p q)]) ∧ Below w.heap.size w w' :=
  impl_CountBetween' A c p A2 c2 q w hl ho.cells hl2 ho2.cells

set_option maxRecDepth 100000 in
set_option maxHeartbeats 2000000 in
theorem spec_CountBetween {B B2 : Nat} (A : Option Addr) (c : Nat) (p : List Int) (A2 : Option Addr) (c2 : Nat) (q : List Int) (w : World) (hl : p.length ≤ 1048576) (ho : Own w B A c p) (hl2 : q.length ≤ 1048576) (ho2 : Own w B2 A2 c2 q) :
    Calls Try.prog 33 #[.slice A p.length c, .slice A2 q.length c2] w fun e w' => e = .returned (.tuple #[.int .i64 (cbF p q), .bool (cbB p q)]) ∧ Below w.heap.size w w' := by
  have hc := ho.cells
  have hc2 := ho2.cells
  clear ho2
  cases hg : good p
  · have hb : cbB p q = false := by simp [cbB, hg]
    rw [show cbF p q = 0 by simp [cbF, hb], hb]
    have HG := hid hg
    clear hg hb
    go_enter Try.func33, Try.ntmps33
    go_wp2_with (go_at_call 90; refine (ptGood_b _ _ _ _ hl hc _ HG.out).mono ?_; rintro e w' ⟨rfl, n, rfl⟩)
    go_ret2
    exact ⟨rfl, below_drew' _ _⟩
  have HG := hid hg
  cases hg2 : good q
  · have hb : cbB p q = false := by simp [cbB, chdB, hg2]
    rw [show cbF p q = 0 by simp [cbF, hb], hb]
    have HG2 := hid hg2
    clear hg hg2 hb
    go_enter Try.func33, Try.ntmps33
    go_wp2_with fail
    refine (ptGood_b _ _ _ _ hl hc _ HG.out).mono ?_
    rintro e w' ⟨rfl, n1, rfl⟩
    go_wp2_with fail
    refine (ptGood_b _ _ _ _ hl2 (by exact hc2) _ HG2.out).mono ?_
    rintro e w' ⟨rfl, n2, rfl⟩
    go_wp2_with fail
    go_ret2
    exact ⟨rfl, below_drew' _ _⟩
  have HG2 := hid hg2
  have G := (good_iff p).1 hg
  have Gq := (good_iff q).1 hg2
  have HSU := hid fun W (h : Cells W A2 q) => ptSum_any A2 q c2 W Gq.len (fun j hj => by have := Gq.pos j hj; have := Gq.le j hj; omega) h
  by_cases h12 : q.sum ≤ 12
  · have hb : cbB p q = true := by simp [cbB, chdB, hg, hg2, h12]
    rw [show cbF p q = nbF p q by simp [cbF, hb], hb]
    have HCB := hid fun W (h1 : Own W B A c p) (h2 : Cells W A2 q) => cnBetween_any A2 c2 q Gq h12 _ A c p W (Nat.lt_succ_self _) G h1 h2
    obtain ⟨v, hv⟩ : ∃ v, v = nbF p q := ⟨_, rfl⟩
    rw [← hv] at HCB ⊢
    obtain ⟨s, hs⟩ : ∃ s, s = q.sum := ⟨_, rfl⟩
    rw [← hs] at HSU h12
    have h12' : ¬ 12 < s := by omega
    have HO := hid ho
    clear hg hg2 hb hv hs G Gq ho
    go_enter Try.func33, Try.ntmps33
    go_wp2_with fail
    refine (ptGood_b _ _ _ _ hl hc _ HG.out).mono ?_
    rintro e w' ⟨rfl, n1, rfl⟩
    go_wp2_with fail
    refine (ptGood_b _ _ _ _ hl2 (by exact hc2) _ HG2.out).mono ?_
    rintro e w' ⟨rfl, n2, rfl⟩
    go_wp2_with fail
    refine (HSU.out _ (by exact hc2)).mono ?_
    rintro e w' ⟨rfl, rfl⟩
    go_wp2_with fail
    refine (HCB.out _ (by exact HO.out) (by exact hc2)).mono ?_
    rintro e w5 ⟨rfl, b5⟩
    have hbe := Below.next (below_drew' w (n1 + n2)) b5
    clear b5
    go_wp2_with fail
    go_ret2
    exact ⟨rfl, hbe⟩
  · have hb : cbB p q = false := by simp [cbB, chdB, h12]
    rw [show cbF p q = 0 by simp [cbF, hb], hb]
    obtain ⟨s, hs⟩ : ∃ s, s = q.sum := ⟨_, rfl⟩
    rw [← hs] at HSU h12
    have h12' : 12 < s := by omega
    clear hg hg2 hb hs G Gq
    go_enter Try.func33, Try.ntmps33
    go_wp2_with fail
    refine (ptGood_b _ _ _ _ hl hc _ HG.out).mono ?_
    rintro e w' ⟨rfl, n1, rfl⟩
    go_wp2_with fail
    refine (ptGood_b _ _ _ _ hl2 (by exact hc2) _ HG2.out).mono ?_
    rintro e w' ⟨rfl, n2, rfl⟩
    go_wp2_with fail
    refine (HSU.out _ (by exact hc2)).mono ?_
    rintro e w' ⟨rfl, rfl⟩
    go_wp2_with fail
    go_ret2
    exact ⟨rfl, below_drew' _ _⟩
end Go.Proofs.Ytmbfobcbnnalbaa
