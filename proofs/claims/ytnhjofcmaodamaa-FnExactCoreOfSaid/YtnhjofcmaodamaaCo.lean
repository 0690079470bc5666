/-
  Contracts: CoreOf and WeightOf of the program and of the model.
-/
import Derived.Test.YtnhjofcmaodamaaCoMath
import Derived.Test.YtnhjofcmaodamaaPush
import Derived.Test.YtnhjofcmaodamaaAbDown
import Derived.Test.YtnhjofcmaodamaaEvn
import Derived.Test.YtnhjofcmaodamaaCA
namespace Go.Proofs.Ytnhjofcmaodamaa
open Go.RowKit

def coF (xs : List Int) (t : Int) : List Int := if crB xs t then coreL t.toNat xs else []
def coN (xs : List Int) (t : Int) : Int := if crB xs t then wgtN t.toNat xs else 0
theorem co_no {xs : List Int} {t : Int} (h : crB xs t = false) : coF xs t = [] ∧ coN xs t = 0 := by simp [coF, coN, h]
theorem co_yes {xs : List Int} {t : Nat} (h : crB xs t = true) : coF xs t = coreL t xs ∧ coN xs t = wgtN t xs := by simp [coF, coN, h]
theorem coreL_len {t : Nat} (ht : 0 < t) (p : List Int) : (coreL t p).length ≤ p.length := by
  unfold coreL
  have := partsL_len (dwL t (beadsL p p.length))
  rw [dwL_len ht, beadsL_len] at this; exact this
theorem bound_CoreOf (xs : List Int) (t : Int) : (coF xs t).length ≤ 1048576 := by
  unfold coF; split
  · rename_i h
    obtain ⟨hg, ht⟩ := crB_good h
    have := inB_iff.1 ht
    have := coreL_len (t := t.toNat) (by omega) xs
    have := ((good_iff xs).1 hg).len
    omega
  · simp
theorem aba_own {xs : List Int} {t : Int} : abaOk xs t xs.length = crB xs t := by
  unfold abaOk beadsOk crB
  cases hg : good xs
  · simp
  · have hl := ((good_iff xs).1 hg).len
    have : inB xs.length 40 xs.length = true := inB_iff.2 (by omega)
    rw [this]; cases inB 2 6 t <;> rfl

set_option maxRecDepth 100000 in
set_option maxHeartbeats 2000000 in
theorem pushedDown_any (A : Option Addr) (c : Nat) (xs : List Int) (t : Int) (w : World) (hl : xs.length ≤ 1048576) (hc : Cells w A xs) (h64 : I64 t) :
    Calls Try.prog 121 #[.slice A xs.length c, .int .i64 t] w fun e w' => ∃ A' c', e = .returned (.tuple #[.slice A' (coF xs t).length c', .int .i64 (coN xs t), .bool (crB xs t)]) ∧ Own w' w.heap.size A' c' (coF xs t) ∧ Below w.heap.size w w' := by
  have HE := hid fun W (h : Cells W A xs) => impl_AbacusOf A c xs t xs.length W hl h h64 (by unfold I64; omega)
  rw [aba_own] at HE
  cases hcr : crB xs t
  · obtain ⟨e1, e2⟩ := co_no hcr
    rw [e1, e2]
    rw [hcr] at HE
    clear hcr e1 e2
    go_enter Try.func121, Try.ntmps121
    go_wp2_with fail
    refine (HE.out _ hc).mono ?_
    rintro e w1 ⟨A1, c1, rfl, o1, b1⟩
    go_wp2_with fail
    go_ret3
    exact ⟨none, 0, rfl, own_nil _ _, b1.alloc b1.size _⟩
  obtain ⟨hg, ht⟩ := crB_good hcr
  have hin := inB_iff.1 ht
  obtain ⟨t, rfl⟩ : ∃ m : Nat, t = m := ⟨t.toNat, by omega⟩
  have ht2 : 2 ≤ t ∧ t ≤ 6 := by omega
  have G := (good_iff xs).1 hg
  have h30 := G.len
  obtain ⟨e1, e2⟩ := co_yes hcr
  rw [e1, e2]
  have hfl : abaF xs t xs.length = beadsL xs xs.length := by
    unfold abaF; rw [aba_own, hcr, if_pos rfl]; unfold beadsF
    rw [if_pos ⟨hg, by omega, by omega⟩]; simp
  have hR : abaR xs t xs.length = t := by unfold abaR; rw [aba_own, hcr]; rfl
  rw [hfl, hR, hcr] at HE
  have hev : goodB (beadsL xs xs.length) = true := beadsL_goodB G (Nat.le_refl _) (by omega)
  have hab : isAba t (beadsL xs xs.length) = true := by simp [isAba, ht, hev]
  obtain ⟨p1, p2, p3⟩ := ps_yes hab
  have GB := goodB_iff.1 (dw_good ht2 (goodB_iff.1 hev))
  obtain ⟨L, hL⟩ : ∃ L, L = beadsL xs xs.length := ⟨_, rfl⟩
  have hc1 : coreL t xs = partsL (dwL t L) := by rw [hL]; rfl
  have hc2 : wgtN t xs = dwM t L := by rw [hL]; rfl
  rw [hc1, hc2]
  rw [← hL] at HE hab p1 p2 p3 GB
  have hL40 : L.length ≤ 40 := by rw [hL, beadsL_len]; omega
  have HPU := hid fun A1 c1 W (h : Cells W A1 L) => impl_PushDown t A1 c1 L W (by omega) h
  rw [p1, p2, p3, hab] at HPU
  obtain ⟨D, hD⟩ : ∃ D, D = dwL t L := ⟨_, rfl⟩
  obtain ⟨M, hM⟩ : ∃ M, M = dwM t L := ⟨_, rfl⟩
  rw [← hD, ← hM] at HPU ⊢
  rw [← hD] at GB
  have hD40 := GB.len
  have HPA := hid fun A1 c1 W (h : Cells W A1 D) => partsOf_any A1 c1 D W (by omega) GB.rise.bd h
  clear hcr e1 e2 hfl hR hev hab p1 p2 p3 hL hc1 hc2 hD hM GB hin ht G hg
  go_enter Try.func121, Try.ntmps121
  go_wp2_with fail
  refine (HE.out _ hc).mono ?_
  rintro e w1 ⟨A1, c1, rfl, o1, b1⟩
  have y1 := Box2.new w1 26 (.int .i64 t) (.slice A1 L.length c1)
  have hb1 : Below w.heap.size w (w1.alloc (.cells #[.int .i64 t, .slice A1 L.length c1] 26)) := b1.alloc b1.size _
  have f1 := y1.cell0
  have f2 := y1.cell1
  have hsz := hb1.size
  have o2 := o1.cells.below (w' := w1.alloc (.cells #[.int .i64 t, .slice A1 L.length c1] 26)) ((Below.refl _ _).alloc (Nat.le_refl _) _)
  have O2 := hid o2
  clear o1 o2
  go_wp2_with fail
  refine (HPU.out _ _ _ O2.out).mono ?_
  rintro e w2 ⟨A2, c2, rfl, o3, b2⟩
  have B2 := Below.next hb1 b2
  have y2 := Box2.new w2 26 (.int .i64 t) (.slice A2 D.length c2)
  have hb2 : Below w.heap.size w (w2.alloc (.cells #[.int .i64 t, .slice A2 D.length c2] 26)) := B2.alloc B2.size _
  have f3 := y2.cell1
  have O3 := hid (o3.cells.below (w' := w2.alloc (.cells #[.int .i64 t, .slice A2 D.length c2] 26)) ((Below.refl _ _).alloc (Nat.le_refl _) _))
  have hsz2 := hb2.size
  clear f1 f2 o3 y1 y2
  go_wp2_with fail
  refine (HPA.out _ _ _ O3.out).mono ?_
  rintro e w3 ⟨A3, c3, rfl, o4, b3⟩
  have HO := hid (o4.more hsz2)
  have HB := hid (Below.next hb2 b3)
  clear o4
  go_wp2_with fail
  go_ret3
  exact ⟨A3, c3, rfl, HO.out, HB.out⟩

set_option maxHeartbeats 1000000 in
theorem impl_CoreOf (A : Option Addr) (c : Nat) (xs : List Int) (t : Int) (w : World) (hl : xs.length ≤ 1048576) (hc : Cells w A xs) (h64 : I64 t) :
    Calls Try.prog 53 #[.slice A xs.length c, .int .i64 t] w fun e w' => ∃ A' c', e = .returned (.tuple #[.slice A' (coF xs t).length c', .bool (crB xs t)]) ∧ Own w' w.heap.size A' c' (coF xs t) ∧ Below w.heap.size w w' := by
  have HE := hid (pushedDown_any A c xs t w hl hc h64)
  obtain ⟨F, hF⟩ : ∃ F, F = coF xs t := ⟨_, rfl⟩
  obtain ⟨b, hb⟩ : ∃ b, b = crB xs t := ⟨_, rfl⟩
  rw [← hF, ← hb] at HE ⊢
  clear hF hb
  go_enter Try.func53, Try.ntmps53
  go_wp2_with fail
  refine HE.out.mono ?_
  rintro e w1 ⟨A1, c1, rfl, o1, b1⟩
  go_wp2_with fail
  go_ret2
  exact ⟨A1, c1, rfl, o1, b1⟩
set_option maxHeartbeats 1000000 in
theorem impl_WeightOf (A : Option Addr) (c : Nat) (xs : List Int) (t : Int) (w : World) (hl : xs.length ≤ 1048576) (hc : Cells w A xs) (h64 : I64 t) :
    Calls Try.prog 55 #[.slice A xs.length c, .int .i64 t] w fun e w' => e = .returned (.tuple #[.int .i64 (coN xs t), .bool (crB xs t)]) ∧ Below w.heap.size w w' := by
  have HE := hid (pushedDown_any A c xs t w hl hc h64)
  obtain ⟨F, hF⟩ : ∃ F, F = coN xs t := ⟨_, rfl⟩
  obtain ⟨b, hb⟩ : ∃ b, b = crB xs t := ⟨_, rfl⟩
  rw [← hF, ← hb] at HE ⊢
  clear hF hb
  go_enter Try.func55, Try.ntmps55
  go_wp2_with fail
  refine HE.out.mono ?_
  rintro e w1 ⟨A1, c1, rfl, o1, b1⟩
  go_wp2_with fail
  go_ret2
  exact ⟨rfl, b1⟩

set_option maxRecDepth 100000 in
set_option maxHeartbeats 2000000 in
theorem crCore_any (A : Option Addr) (c : Nat) (xs : List Int) (t : Nat) (w : World) (ht : 2 ≤ t ∧ t ≤ 6) (G : Good xs) (hc : Cells w A xs) :
    Calls Try.prog 111 #[.slice A xs.length c, .int .i64 t] w fun e w' => ∃ A' c', e = .returned (.tuple #[.slice A' (coreL t xs).length c', .int .i64 (wgtN t xs)]) ∧ Own w' w.heap.size A' c' (coreL t xs) ∧ Below w.heap.size w w' := by
  have HA := hid fun W (h : Cells W A xs) => crAbacus_any A c xs t W ht G h
  have hb := mulN_bd (t := t) (n := xs.length) ht
  have h30 := G.len
  have hev : goodB (beadsL xs (mulN t xs.length)) = true := beadsL_goodB G hb.1 (by omega)
  have GB0 := goodB_iff.1 hev
  have GB := goodB_iff.1 (dw_good ht GB0)
  obtain ⟨k1, k2⟩ := core_at (t := t) (by omega) hb.1
  rw [← k1, ← k2]
  obtain ⟨L, hL⟩ : ∃ L, L = beadsL xs (mulN t xs.length) := ⟨_, rfl⟩
  rw [← hL] at HA GB GB0 ⊢
  have HDN := hid fun A1 c1 W (h : Cells W A1 L) => abDown_any t A1 c1 L W ht GB0.len GB0.rise.bd h
  obtain ⟨D, hD⟩ : ∃ D, D = dwL t L := ⟨_, rfl⟩
  obtain ⟨M, hM⟩ : ∃ M, M = dwM t L := ⟨_, rfl⟩
  rw [← hD, ← hM] at HDN ⊢
  rw [← hD] at GB
  have HPA := hid fun A1 c1 W (h : Cells W A1 D) => abParts_any A1 c1 D W (by have := GB.len; omega) GB.rise.bd h
  clear hev k1 k2 hL hD hM GB GB0 G hb
  go_enter Try.func111, Try.ntmps111
  go_wp2_with fail
  refine (HA.out _ hc).mono ?_
  rintro e w1 ⟨A1, c1, rfl, o1, b1⟩
  have O1 := hid o1.cells
  go_wp2_with fail
  refine (HDN.out _ _ _ O1.out).mono ?_
  rintro e w2 ⟨A2, c2, rfl, o3, b2⟩
  have B2 := Below.next b1 b2
  have y2 := Box2.new w2 26 (.int .i64 t) (.slice A2 D.length c2)
  have hb2 : Below w.heap.size w (w2.alloc (.cells #[.int .i64 t, .slice A2 D.length c2] 26)) := B2.alloc B2.size _
  have f3 := y2.cell1
  have O3 := hid (o3.cells.below (w' := w2.alloc (.cells #[.int .i64 t, .slice A2 D.length c2] 26)) ((Below.refl _ _).alloc (Nat.le_refl _) _))
  have hsz2 := hb2.size
  clear o1 o3 y2
  go_wp2_with fail
  refine (HPA.out _ _ _ O3.out).mono ?_
  rintro e w3 ⟨A3, c3, rfl, o4, b3⟩
  have HO := hid (o4.more hsz2)
  have HB := hid (Below.next hb2 b3)
  clear o4
  go_wp2_with fail
  go_ret2
  exact ⟨A3, c3, rfl, HO.out, HB.out⟩

theorem spec_CoreOf (A : Option Addr) (c : Nat) (xs : List Int) (t : Int) (w : World) (hl : xs.length ≤ 1048576) (hc : Cells w A xs) (_ : I64 t) :
    Calls Try.prog 52 #[.slice A xs.length c, .int .i64 t] w fun e w' => ∃ A' c', e = .returned (.tuple #[.slice A' (coF xs t).length c', .bool (crB xs t)]) ∧ Own w' w.heap.size A' c' (coF xs t) ∧ Below w.heap.size w w' := by
  cases hg : crB xs t
  · rw [(co_no hg).1]
    have HG := hid hg; clear hg
    go_enter Try.func52, Try.ntmps52
    go_wp2_with (go_at_call 93; refine (crT_any _ _ _ _ _ hl hc _ HG.out).mono ?_; rintro e w' ⟨rfl, n, rfl⟩)
    go_ret2
    exact ⟨none, 0, rfl, own_nil _ _, below_drew' _ _⟩
  · obtain ⟨hgg, ht⟩ := crB_good hg
    have hin := inB_iff.1 ht
    obtain ⟨t, rfl⟩ : ∃ m : Nat, t = m := ⟨t.toNat, by omega⟩
    have G := (good_iff xs).1 hgg
    have HC := hid fun W (h : Cells W A xs) => crCore_any A c xs t W (by omega) G h
    rw [(co_yes hg).1]
    have HG := hid hg
    obtain ⟨F, hF⟩ : ∃ F, F = coreL t xs := ⟨_, rfl⟩
    rw [← hF] at HC ⊢
    clear hg hgg ht G hF
    go_enter Try.func52, Try.ntmps52
    go_wp2_with (go_at_call 93; refine (crT_any _ _ _ _ _ hl hc _ HG.out).mono ?_; rintro e w' ⟨rfl, n, rfl⟩)
    refine (HC.out _ (hc.below (below_drew' _ n))).mono ?_
    rintro e w1 ⟨A1, c1, rfl, o1, b1⟩
    go_wp2_with fail
    go_ret2
    exact ⟨A1, c1, rfl, o1, Below.next (below_drew' _ n) b1⟩
theorem spec_WeightOf (A : Option Addr) (c : Nat) (xs : List Int) (t : Int) (w : World) (hl : xs.length ≤ 1048576) (hc : Cells w A xs) (_ : I64 t) :
    Calls Try.prog 54 #[.slice A xs.length c, .int .i64 t] w fun e w' => e = .returned (.tuple #[.int .i64 (coN xs t), .bool (crB xs t)]) ∧ Below w.heap.size w w' := by
  cases hg : crB xs t
  · rw [(co_no hg).2]
    have HG := hid hg; clear hg
    go_enter Try.func54, Try.ntmps54
    go_wp2_with (go_at_call 93; refine (crT_any _ _ _ _ _ hl hc _ HG.out).mono ?_; rintro e w' ⟨rfl, n, rfl⟩)
    go_ret2
    exact ⟨rfl, below_drew' _ _⟩
  · obtain ⟨hgg, ht⟩ := crB_good hg
    have hin := inB_iff.1 ht
    obtain ⟨t, rfl⟩ : ∃ m : Nat, t = m := ⟨t.toNat, by omega⟩
    have G := (good_iff xs).1 hgg
    have HC := hid fun W (h : Cells W A xs) => crCore_any A c xs t W (by omega) G h
    rw [(co_yes hg).2]
    have HG := hid hg
    obtain ⟨F, hF⟩ : ∃ F, F = wgtN t xs := ⟨_, rfl⟩
    rw [← hF] at HC ⊢
    clear hg hgg ht G hF
    go_enter Try.func54, Try.ntmps54
    go_wp2_with (go_at_call 93; refine (crT_any _ _ _ _ _ hl hc _ HG.out).mono ?_; rintro e w' ⟨rfl, n, rfl⟩)
    refine (HC.out _ (hc.below (below_drew' _ n))).mono ?_
    rintro e w1 ⟨A1, c1, rfl, o1, b1⟩
    go_wp2_with fail
    go_ret2
    exact ⟨rfl, Below.next (below_drew' _ n) b1⟩
end Go.Proofs.Ytnhjofcmaodamaa
