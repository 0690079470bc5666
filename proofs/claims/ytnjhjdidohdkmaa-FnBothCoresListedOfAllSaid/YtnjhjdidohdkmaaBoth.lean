/-
  Contracts: bothCoreOf, IsBothCore, AreClosedHooks of the program.
-/
import Derived.Test.YtnjhjdidohdkmaaBt
import Derived.Test.YtnjhjdidohdkmaaCB
import Derived.Deep.RegionHeld3
import Derived.Deep.CutRange
namespace Go.Proofs.Ytnjhjdidohdkmaa
open Go.RowKit

set_option maxRecDepth 100000 in
set_option maxHeartbeats 2000000 in
theorem bothCoreOf_no (A : Option Addr) (c : Nat) (xs : List Int) (a b : Int) (w : World) (hl : xs.length ≤ 1048576) (hc : Cells w A xs) (hno : (good xs && sz a b) = false) :
    Calls Try.prog 41 #[.slice A xs.length c, .int .i64 a, .int .i64 b] w fun e w' => e = .returned (.tuple #[.agg #[.slice none 0 0, .int .i64 0, .int .i64 0], .bool false, .bool false]) ∧ Below w.heap.size w w' := by
  have y0 := Box3.new w 44 (.slice none 0 0) (.int .i64 0) (.int .i64 0)
  have b0 : Below w.heap.size w (w.alloc (.cells #[.slice none 0 0, .int .i64 0, .int .i64 0] 44)) := (Below.refl _ _).alloc (Nat.le_refl _) _
  have HF := hid fun W (h : Cells W A xs) => FirstHooks_b A c xs W hl h _ rfl
  cases hg : good xs
  · rw [hg] at HF
    clear hno hg
    obtain ⟨f, hf⟩ : ∃ f, f = firstF xs := ⟨_, rfl⟩
    rw [← hf] at HF
    clear hf
    go_enter Try.func41, Try.ntmps41
    go_wp2_with fail
    refine (HF.out _ (hc.below b0)).mono ?_
    rintro e w1 ⟨A1, c1, rfl, o1, b1⟩
    have y1 := y0.next b1
    have f0 := y1.froz 0
    have e0 := y1.cell0
    have y2 := y1.set0 (.slice none 0 0)
    have f1 := y2.froz 1
    have e1 := y2.cell1
    have y3 := y2.set1 (.int .i64 0)
    have f2 := y3.froz 2
    have e2 := y3.cell2
    have y4 := y3.set2 (.int .i64 0)
    clear y0 y1 y2 y3
    go_wp2_with fail
    refine bodyPost_ret (results_cell3 rfl _ _ _ w.heap.size 44 #[.slice none 0 0, .int .i64 0, .int .i64 0] (0, 0) _ rfl y4 Try.underlying44 rfl (by kernel_rfl)) rfl ⟨rfl, (((Below.next b0 b1).setCell (Nat.le_refl _) _).setCell (Nat.le_refl _) _).setCell (Nat.le_refl _) _⟩
  · have hz : sz a b = false := by rw [hg] at hno; simpa using hno
    rw [hg] at HF
    have HZ := hid hz
    clear hno hg hz
    obtain ⟨f, hf⟩ : ∃ f, f = firstF xs := ⟨_, rfl⟩
    rw [← hf] at HF
    clear hf
    go_enter Try.func41, Try.ntmps41
    go_wp2_with fail
    refine (HF.out _ (hc.below b0)).mono ?_
    rintro e w1 ⟨A1, c1, rfl, o1, b1⟩
    go_wp2_with fail
    refine (AreSizes_b _ _ _ _ HZ.out).mono ?_
    rintro e w2 ⟨rfl, b2⟩
    have B2 := Below.next b1 b2
    have y1 := y0.next B2
    have f0 := y1.froz 0
    have e0 := y1.cell0
    have y2 := y1.set0 (.slice none 0 0)
    have f1 := y2.froz 1
    have e1 := y2.cell1
    have y3 := y2.set1 (.int .i64 0)
    have f2 := y3.froz 2
    have e2 := y3.cell2
    have y4 := y3.set2 (.int .i64 0)
    clear y0 y1 y2 y3
    go_wp2_with fail
    refine bodyPost_ret (results_cell3 rfl _ _ _ w.heap.size 44 #[.slice none 0 0, .int .i64 0, .int .i64 0] (0, 0) _ rfl y4 Try.underlying44 rfl (by kernel_rfl)) rfl ⟨rfl, (((Below.next b0 B2).setCell (Nat.le_refl _) _).setCell (Nat.le_refl _) _).setCell (Nat.le_refl _) _⟩

set_option maxRecDepth 100000 in
set_option maxHeartbeats 8000000 in
theorem bothCoreOf_yes (A : Option Addr) (c : Nat) (xs : List Int) (a b : Int) (w : World) (hl : xs.length ≤ 1048576) (hc : Cells w A xs) (hg : good xs = true) (hs : sz a b = true) :
    Calls Try.prog 41 #[.slice A xs.length c, .int .i64 a, .int .i64 b] w fun e w' => ∃ A' c', e = .returned (.tuple #[.agg #[.slice A' xs.length c', .int .i64 a, .int .i64 b], .bool (clB a b (beadsL xs xs.length)), .bool true]) ∧ Own w' w.heap.size A' c' (beadsL xs xs.length) ∧ Below w.heap.size w w' := by
  have y0 := hid (Box3.new w 44 (.slice none 0 0) (.int .i64 0) (.int .i64 0))
  have b0 : Below w.heap.size w (w.alloc (.cells #[.slice none 0 0, .int .i64 0, .int .i64 0] 44)) := (Below.refl _ _).alloc (Nat.le_refl _) _
  have hbl := beadsL_len xs xs.length
  have hl30 := ((good_iff xs).1 hg).len
  have HF := hid fun W (h : Cells W A xs) => FirstHooks_b A c xs W hl h _ hg
  rw [show firstF xs = beadsL xs xs.length by simp [firstF, hg], hbl] at HF
  have HC := hid fun A c W (h : Cells W A (beadsL xs xs.length)) => isClosed_any A c a b (beadsL xs xs.length) W hs (by omega) h
  rw [hbl] at HC
  obtain ⟨L, hL⟩ : ∃ L, L = beadsL xs xs.length := ⟨_, rfl⟩
  obtain ⟨R, hR⟩ : ∃ R, R = clB a b (beadsL xs xs.length) := ⟨_, rfl⟩
  rw [← hR] at HC ⊢
  rw [← hL] at HF HC hbl ⊢
  have HZ := hid hs
  have HBL := hid hbl
  clear hL hR hg hs hbl
  obtain ⟨n, hn⟩ : ∃ n, n = xs.length := ⟨_, rfl⟩
  go_enter Try.func41, Try.ntmps41
  go_wp2_with fail
  refine (HF.out _ (hc.below b0)).mono ?_
  rintro e w1 ⟨A1, c1, rfl, o1, b1⟩
  go_wp2_with fail
  refine (AreSizes_b _ _ _ _ HZ.out).mono ?_
  rintro e w2 ⟨rfl, b2⟩
  have Y2 := hid (y0.out.next (Below.next b1 b2))
  have O2 := hid (o1.below b2)
  have B2 := Below.next b0 (Below.next b1 b2)
  have ok1 := o1.block
  have b1s := b1.size
  have b2s := b2.size
  clear o1 hc HF HZ
  have Z3 := hid (Box3.new w2 44 (.slice A1 xs.length c1) (.int .i64 a) (.int .i64 b))
  have hgw : w.heap.size < w2.heap.size := Y2.out.lt
  have Y5 := hid (Y2.out.alloc (.cells #[.slice A1 xs.length c1, .int .i64 a, .int .i64 b] 44))
  have B5 := B2.alloc B2.size (.cells #[.slice A1 xs.length c1, .int .i64 a, .int .i64 b] 44)
  have O5 := hid (O2.out.below ((Below.refl w2.heap.size w2).alloc (Nat.le_refl _) (.cells #[.slice A1 xs.length c1, .int .i64 a, .int .i64 b] 44)))
  go_upto_region 5 with fail
  obtain ⟨W, hW⟩ : ∃ W, W = w2.alloc (.cells #[.slice A1 xs.length c1, .int .i64 a, .int .i64 b] 44) := ⟨_, rfl⟩
  rw [← hW] at Z3 Y5 B5 O5 ⊢
  clear hW
  have hgz : w.heap.size ≠ w2.heap.size := by omega
  have k1 : W.drew.cell? ⟨w2.heap.size, 0, none⟩ = some (.slice A1 xs.length c1) := Z3.out.cell0
  have k2 : W.drew.cell? ⟨w2.heap.size, 1, none⟩ = some (.int .i64 a) := Z3.out.cell1
  have k3 : W.drew.cell? ⟨w2.heap.size, 2, none⟩ = some (.int .i64 b) := Z3.out.cell2
  have yd : Box3 W.drew w.heap.size 44 (.slice none 0 0) (.int .i64 0) (.int .i64 0) := Y5.out
  have zd : Box3 W.drew w2.heap.size 44 (.slice A1 xs.length c1) (.int .i64 a) (.int .i64 b) := Z3.out
  have bd : Below w.heap.size w W.drew := below_drewN B5 1
  have od : Own W.drew (w.alloc (.cells #[.slice none 0 0, .int .i64 0, .int .i64 0] 44)).heap.size A1 c1 L := O5.out
  have hcd : Cells W.drew A1 L := od.cells
  have YD := hid yd; have OD := hid od; have ZD := hid zd
  have f0 := yd.froz 0
  have g0 := yd.cell0
  have y1 := yd.set0 (.slice A1 xs.length c1)
  have f1 := y1.froz 1
  have g1 := y1.cell1
  have y2 := y1.set1 (.int .i64 a)
  have f2 := y2.froz 2
  have g2 := y2.cell2
  have y3 := y2.set2 (.int .i64 b)
  have zz := ((zd.other (g' := w.heap.size) (k := 0) hgz.symm (.slice A1 xs.length c1)).other (g' := w.heap.size) (k := 1) hgz.symm (.int .i64 a)).other (g' := w.heap.size) (k := 2) hgz.symm (.int .i64 b)
  have m1 := zz.cell0
  have m2 := zz.cell1
  have m3 := zz.cell2
  have Y3 := hid y3
  clear zz zd yd y1 y2 y3 od
  go_region_with (go_at_call 62; refine (HC.out _ _ _ hcd).mono ?_; rintro e w8 ⟨rfl, b8⟩; have y8 := YD.out.next b8; have z8 := ZD.out.next b8; have n0 := z8.cell0; have n1 := z8.cell1; have n2 := z8.cell2; have f3 := y8.froz 0; have g3 := y8.cell0; have y9 := y8.set0 (.slice A1 xs.length c1); have f4 := y9.froz 1; have g4 := y9.cell1; have y10 := y9.set1 (.int .i64 a); have f5 := y10.froz 2; have g5 := y10.cell2; have y11 := y10.set2 (.int .i64 b))
  all_goals go_wp2_with fail
  all_goals
    refine bodyPost_ret (results_cell3 rfl _ _ _ w.heap.size 44 #[.slice A1 xs.length c1, .int .i64 a, .int .i64 b] (0, 0) _ rfl y11 Try.underlying44 rfl (by kernel_rfl)) rfl ⟨A1, c1, rfl, ((OD.out.below b8).keep fun q hq _ => ?_).more (by simp), (((Below.next bd b8).setCell (Nat.le_refl _) _).setCell (Nat.le_refl _) _).setCell (Nat.le_refl _) _⟩
    have hq1 := (ok1 q hq).1
    simp at hq1
    exact ((Below.heap_setCell _ _ _ q (by simp; omega)).trans (Below.heap_setCell _ _ _ q (by simp; omega))).trans (Below.heap_setCell _ _ _ q (by simp; omega))

def ibB (xs : List Int) (a b : Int) : Bool := (good xs && sz a b) && (dnB xs a && dnB xs b)
def ibOk (xs : List Int) (a b : Int) : Bool := good xs && sz a b
set_option maxRecDepth 100000 in
set_option maxHeartbeats 2000000 in
theorem impl_IsBothCore (A : Option Addr) (c : Nat) (xs : List Int) (a b : Int) (w : World) (hl : xs.length ≤ 1048576) (hc : Cells w A xs) (_ : I64 a) (_ : I64 b) :
    Calls Try.prog 20 #[.slice A xs.length c, .int .i64 a, .int .i64 b] w fun e w' => e = .returned (.tuple #[.bool (ibB xs a b), .bool (ibOk xs a b)]) ∧ Below w.heap.size w w' := by
  cases h : good xs && sz a b
  · rw [show ibB xs a b = false by simp [ibB, h], show ibOk xs a b = false from h]
    have HB := hid (bothCoreOf_no A c xs a b w hl hc h)
    clear h
    go_enter Try.func20, Try.ntmps20
    go_wp2_with fail
    refine HB.out.mono ?_
    rintro e w1 ⟨rfl, b1⟩
    go_wp2_with fail
    go_ret2
    exact ⟨rfl, b1.alloc b1.size _⟩
  · obtain ⟨hg, hs⟩ := Bool.and_eq_true_iff.1 h
    have he := both_eq ((good_iff xs).1 hg) hs
    rw [show ibB xs a b = clB a b (beadsL xs xs.length) by simp [ibB, h, he], show ibOk xs a b = true from h]
    have HB := hid (bothCoreOf_yes A c xs a b w hl hc hg hs)
    obtain ⟨L, hL⟩ : ∃ L, L = beadsL xs xs.length := ⟨_, rfl⟩
    obtain ⟨R, hR⟩ : ∃ R, R = clB a b (beadsL xs xs.length) := ⟨_, rfl⟩
    rw [← hR] at HB ⊢
    rw [← hL] at HB
    clear h hg hs he hL hR
    go_enter Try.func20, Try.ntmps20
    go_wp2_with fail
    refine HB.out.mono ?_
    rintro e w1 ⟨A1, c1, rfl, o1, b1⟩
    go_wp2_with fail
    go_ret2
    exact ⟨rfl, b1.alloc b1.size _⟩

def acB (xs : List Int) (a b : Int) : Bool := sz a b && clB a b xs
end Go.Proofs.Ytnjhjdidohdkmaa
