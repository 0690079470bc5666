/-
  Several texts in one.
-/
import Derived.Test.YthkkiakfmbnfeaaR03
import Derived.Test.YthkkiakfmbnfeaaR07
import Derived.Test.YthkkiakfmbnfeaaR06
import Derived.RegionTactic
import Derived.ChangeAlike
/-
  Contracts: levels reflected (both sides).
-/
namespace Go.Proofs.Ythkkiakfmbnfeaa
open Go.RowKit

set_option maxHeartbeats 400000 in
theorem isResidue_any (i t : Int) (w : World) : Calls Try.prog 23 #[.int .i64 i, .int .i64 t] w fun e w' => e = .returned (.bool (decide (0 ≤ i) && decide (i < t))) ∧ w = w' := by
  by_cases h1 : 0 ≤ i
  · by_cases h2 : i < t
    · go_enter Try.func23, Try.ntmps23
      go_wp2
      go_ret
      exact ⟨by simp [h1, h2], rfl⟩
    · go_enter Try.func23, Try.ntmps23
      go_wp2
      go_ret
      exact ⟨by simp [h2], rfl⟩
  · go_enter Try.func23, Try.ntmps23
    go_wp2
    go_ret
    exact ⟨by rw [decide_eq_false (p := 0 ≤ i) (by omega)]; first | done | rfl, rfl⟩
theorem isResidue_b (i t : Int) (w : World) (b : Bool) (h : (decide (0 ≤ i) && decide (i < t)) = b) : Calls Try.prog 23 #[.int .i64 i, .int .i64 t] w fun e w' => e = .returned (.bool b) ∧ w = w' := by
  subst h; exact isResidue_any i t w

theorem below_drew1 {B : Nat} {a w : World} (h : Below B a w) : Below B a w.drew := ⟨h.os, h.tape, h.output, h.size, h.block⟩
theorem own_drew1 {w : World} {B : Nat} {A : Option Addr} {c : Nat} {xs : List Int} (h : Own w B A c xs) : Own w.drew B A c xs := h
/-- What both sides have written before the last check: the row, whatever the order of the two stores. -/
theorem reflOwn {w : World} {B g c : Nat} {xs : List Int} (h : Own w B (some ⟨g, 0, none⟩) c xs) (i j : Nat) (x y : Int) :
    Own ((w.setCell ⟨g, i, none⟩ (.int .i64 x)).setCell ⟨g, j, none⟩ (.int .i64 y)) B (some ⟨g, 0, none⟩) c ((xs.set i x).set j y) := own_set (own_set h i x) j y

set_option maxRecDepth 100000 in
set_option maxHeartbeats 2000000 in
theorem impl_ReflectLevelsR (A : Option Addr) (c : Nat) (xs : List Int) (i : Int) (w : World) (hl : xs.length ≤ 1048576) (hc : Rd w A c xs) (_hi : I64 i) :
    Calls Try.prog 5 #[.slice A xs.length c, .int .i64 i] w fun e w' => ∃ A' c', e = .returned (.tuple #[.slice A' (reflF xs i).length c', .bool (reflB xs i)]) ∧ Own w' w.heap.size A' c' (reflF xs i) ∧ Below w.heap.size w w' := by
  cases hg : levB xs
  · have hb := reflB_a (i := i) (reflA_lev hg)
    rw [reflF_f hb, hb]
    have HG := hid hg; clear hg hb
    have HC := hid hc.cells; clear hc
    go_enter Try.func5, Try.ntmps5
    go_wp2_with (go_at_call 8; refine (IsLevels_b _ _ _ _ hl HC.out _ HG.out).mono ?_; rintro e w' ⟨rfl, rfl⟩)
    go_ret2
    exact ⟨none, 0, rfl, own_nil _ _, Below.refl _ _⟩
  cases hr : (decide (0 ≤ i) && decide (i < (xs.length : Int)))
  · have hb := reflB_a (xs := xs) (i := i) (by simp only [reflA, hg, hr]; rfl)
    rw [reflF_f hb, hb]
    have HG := hid hg; clear hg hb
    have HR := hid hr; clear hr
    have HC := hid hc.cells; clear hc
    go_enter Try.func5, Try.ntmps5
    go_wp2_with (first | (go_at_call 8; refine (IsLevels_b _ _ _ _ hl HC.out _ HG.out).mono ?_; rintro e w' ⟨rfl, rfl⟩) | (go_at_call 23; refine (isResidue_b _ _ _ _ HR.out).mono ?_; rintro e w' ⟨rfl, rfl⟩))
    go_ret2
    exact ⟨none, 0, rfl, own_nil _ _, Below.refl _ _⟩
  have ha : reflA xs i = true := by simp only [reflA, hg, hr]; rfl
  have L := levB_iff.1 hg
  have h6 := L.hi
  have h2 := L.lo
  simp only [Bool.and_eq_true, decide_eq_true_eq] at hr
  obtain ⟨m, rfl⟩ : ∃ m : Nat, i = m := ⟨i.toNat, by omega⟩
  have hm : m < xs.length := by omega
  have HB := hid (reflB_l ha)
  rw [Int.toNat_natCast] at HB
  have HR := hid (show (decide (0 ≤ (m : Int)) && decide ((m : Int) < (xs.length : Int))) = true by simp [hm])
  have hF : reflF xs m = if levB (reflL xs m) then reflL xs m else [] := by unfold reflF; rw [HB.out, Int.toNat_natCast]
  obtain ⟨r, hre⟩ : ∃ r, r = if levB (reflL xs m) then reflL xs m else [] := ⟨_, rfl⟩
  obtain ⟨q, hqe⟩ : ∃ q, q = levB (reflL xs m) := ⟨_, rfl⟩
  have hfin := fun (A : Option Addr) (c : Nat) (w0 : World) (ho : Own w0 w.heap.size A c (reflL xs m)) => ifLevels_own A c (reflL xs m) w0 (by rw [reflL_len]; omega) ho
  rw [← hre, ← hqe, reflL_len] at hfin
  rw [hF, HB.out, ← hre, ← hqe]
  have HFIN := hid hfin
  have HG := hid hg
  have HL := hid L
  clear hF hre hqe hfin hg ha hr L
  have hrl : ∀ (A : Option Addr) (c : Nat) (w1 : World), Own w1 w.heap.size A c xs → Calls Try.prog 8 #[.slice A xs.length c] w1 fun e w' => e = .returned (.bool true) ∧ w1 = w' := fun A c w1 ho => IsLevels_b A c xs w1 hl ho.cells true HG.out
  have HCL := hid (cloneR_any A c xs w hl hc)
  have HC := hid hc.cells
  clear hc hrl
  by_cases hm0 : m = 0
  · subst hm0
    have hx0 := HL.out.bd 0 (by omega)
    have hx1 := HL.out.bd (xs.length - 1) (by omega)
    have HREF := hid (show reflL xs 0 = (xs.set 0 (xs.getD (xs.length - 1) 0 + 1)).set (xs.length - 1) (xs.getD 0 0 - 1) by simp [reflL])
    have hek : ((xs.length : Int) - 1).toNat = xs.length - 1 := by omega
    have hek2 : IntKind.i64.wrap ((xs.length : Int) - 1) = ((xs.length - 1 : Nat) : Int) := by rw [IntWalk.i64_in _ (by omega)]; omega
    go_enter Try.func5, Try.ntmps5
    go_wp2_with (first | (go_at_call 8; refine (IsLevels_b _ _ _ _ hl HC.out _ HG.out).mono ?_; rintro e w' ⟨rfl, rfl⟩) | (go_at_call 23; refine (isResidue_b _ _ _ _ HR.out).mono ?_; rintro e w' ⟨rfl, rfl⟩) | (go_at_call 24; refine (HCL.out).mono ?_; rintro e w1 ⟨A1, c1, rfl, o1, b1⟩))
    obtain ⟨g, rfl, hBg, hglt⟩ := o1.at_ (by omega)
    have hcc1 := HC.out.later b1
    obtain ⟨b, o, rfl, hcc⟩ := hcc1 (by omega)
    have hck0 := hcc 0 (by omega)
    have hck1 := hcc (xs.length - 1) (by omega)
    have hcu0 := own_get o1 (k := 0) (by omega)
    have hcu1 := own_get o1 (k := xs.length - 1) (by omega)
    have hfz0 := own_froz o1 0
    have hfz1 := own_froz o1 (xs.length - 1)
    have hst := own_len (reflOwn o1 0 (xs.length - 1) (xs.getD (xs.length - 1) 0 + 1) (xs.getD 0 0 - 1)) HREF.out.symm
    have B2 : Hid (Below w.heap.size w ((w1.setCell ⟨g, 0, none⟩ (.int .i64 (xs.getD (xs.length - 1) 0 + 1))).setCell ⟨g, xs.length - 1, none⟩ (.int .i64 (xs.getD 0 0 - 1)))) := hid ((b1.setCell hBg _).setCell hBg _)
    obtain ⟨x, hx⟩ : ∃ x, x = xs.getD 0 0 := ⟨_, rfl⟩
    obtain ⟨y, hy⟩ : ∃ y, y = xs.getD (xs.length - 1) 0 := ⟨_, rfl⟩
    rw [Nat.add_zero] at hck0
    rw [← hx] at hck0 hcu0 hst hx0 B2
    rw [← hy] at hck1 hcu1 hst hx1 B2
    obtain ⟨z, hz⟩ : ∃ z, z = xs.length - 1 := ⟨_, rfl⟩
    rw [← hz] at hck1 hcu1 hst hfz1 hek hek2 B2
    have hz0 : 0 < z := by omega
    have hzl : (z : Int) < (xs.length : Int) := by omega
    have hwx : IntKind.i64.wrap (x - 1) = x - 1 := IntWalk.i64_in _ (by omega)
    have hwy : IntKind.i64.wrap (y + 1) = y + 1 := IntWalk.i64_in _ (by omega)
    have HS := hid hst
    clear hcc hcc1 hst hx hy hz hx0 hx1 o1
    go_region
    go_wp2_with (go_at_call 25; refine (HFIN.out _ _ _ (own_drew1 HS.out)).mono ?_; rintro e w' ⟨⟨A', c', rfl, ho⟩, rfl⟩)
    go_ret2
    exact ⟨A', c', rfl, ho, below_drew1 B2.out⟩
  · obtain ⟨z, rfl⟩ : ∃ z, m = z + 1 := ⟨m - 1, by omega⟩
    have hx0 := HL.out.bd z (by omega)
    have hx1 := HL.out.bd (z + 1) (by omega)
    have HREF := hid (show reflL xs (z + 1) = (xs.set z (xs.getD (z + 1) 0)).set (z + 1) (xs.getD z 0) by simp [reflL])
    have hek2 : IntKind.i64.wrap (((z + 1 : Nat) : Int) - 1) = (z : Int) := by rw [IntWalk.i64_in _ (by omega)]; omega
    obtain ⟨m, hmz⟩ : ∃ m, m = z + 1 := ⟨_, rfl⟩
    rw [← hmz] at hek2 HREF HFIN HR hm0 hx1 hm
    rw [← hmz]
    have hmi : ¬ ((m : Int) = 0) := by omega
    have hzm : z < m := by omega
    clear hmz hm0
    go_enter Try.func5, Try.ntmps5
    go_wp2_with (first | (go_at_call 8; refine (IsLevels_b _ _ _ _ hl HC.out _ HG.out).mono ?_; rintro e w' ⟨rfl, rfl⟩) | (go_at_call 23; refine (isResidue_b _ _ _ _ HR.out).mono ?_; rintro e w' ⟨rfl, rfl⟩) | (go_at_call 24; refine (HCL.out).mono ?_; rintro e w1 ⟨A1, c1, rfl, o1, b1⟩))
    obtain ⟨g, rfl, hBg, hglt⟩ := o1.at_ (by omega)
    have hcc1 := HC.out.later b1
    obtain ⟨b, o, rfl, hcc⟩ := hcc1 (by omega)
    have hck0 := hcc z (by omega)
    have hck1 := hcc m (by omega)
    have hcu0 := own_get o1 (k := z) (by omega)
    have hcu1 := own_get o1 (k := m) (by omega)
    have hfz0 := own_froz o1 z
    have hfz1 := own_froz o1 m
    have hst := own_len (reflOwn o1 z m (xs.getD m 0) (xs.getD z 0)) HREF.out.symm
    have B2 : Hid (Below w.heap.size w ((w1.setCell ⟨g, z, none⟩ (.int .i64 (xs.getD m 0))).setCell ⟨g, m, none⟩ (.int .i64 (xs.getD z 0)))) := hid ((b1.setCell hBg _).setCell hBg _)
    obtain ⟨x, hx⟩ : ∃ x, x = xs.getD z 0 := ⟨_, rfl⟩
    obtain ⟨y, hy⟩ : ∃ y, y = xs.getD m 0 := ⟨_, rfl⟩
    rw [← hx] at hck0 hcu0 hst hx0 B2
    rw [← hy] at hck1 hcu1 hst hx1 B2
    have hzl : (z : Int) < (xs.length : Int) := by omega
    have HS := hid hst
    clear hcc hcc1 hst hx hy hx0 hx1 o1
    go_region
    go_wp2_with (go_at_call 25; refine (HFIN.out _ _ _ (own_drew1 HS.out)).mono ?_; rintro e w' ⟨⟨A', c', rfl, ho⟩, rfl⟩)
    go_ret2
    exact ⟨A', c', rfl, ho, below_drew1 B2.out⟩
theorem impl_ReflectLevels {B : Nat} (A : Option Addr) (c : Nat) (xs : List Int) (i : Int) (w : World) (hl : xs.length ≤ 1048576) (hc : Own w B A c xs) (_hi : I64 i) :
    Calls Try.prog 5 #[.slice A xs.length c, .int .i64 i] w fun e w' => ∃ A' c', e = .returned (.tuple #[.slice A' (reflF xs i).length c', .bool (reflB xs i)]) ∧ Own w' w.heap.size A' c' (reflF xs i) ∧ Below w.heap.size w w' :=
  impl_ReflectLevelsR A c xs i w hl (own_rd hc) _hi

end Go.Proofs.Ythkkiakfmbnfeaa
/-
  Contracts: levels reflected, the model's side.
-/
namespace Go.Proofs.Ythkkiakfmbnfeaa
open Go.RowKit

theorem resid_inB {m : Int} {t : Nat} (b : Bool) (h : (decide (0 ≤ m) && decide (m < (t : Int))) = b) : inB 0 ((t : Int) - 1) m = b := by
  rw [← h]
  have e : decide (m ≤ (t : Int) - 1) = decide (m < (t : Int)) := by
    by_cases hh : m < (t : Int)
    · rw [decide_eq_true hh, decide_eq_true (by omega)]
    · rw [decide_eq_false hh, decide_eq_false (by omega)]
  unfold inB
  rw [e]

theorem chGood_n (A : Option Addr) (c n : Nat) (xs : List Int) (w : World) (hn : xs.length = n) (hl : n ≤ 1048576) (hc : Cells w A xs) (b : Bool) (h : levB xs = b) :
    Calls Try.prog 26 #[.slice A n c] w fun e w' => e = .returned (.bool b) ∧ w = w' := by
  subst hn; exact chGood_b A c xs w hl hc b h

set_option maxRecDepth 100000 in
set_option maxHeartbeats 2000000 in
theorem spec_ReflectLevelsR (A : Option Addr) (c : Nat) (xs : List Int) (i : Int) (w : World) (hl : xs.length ≤ 1048576) (hc : Rd w A c xs) (_hi : I64 i) :
    Calls Try.prog 6 #[.slice A xs.length c, .int .i64 i] w fun e w' => ∃ A' c', e = .returned (.tuple #[.slice A' (reflF xs i).length c', .bool (reflB xs i)]) ∧ Own w' w.heap.size A' c' (reflF xs i) ∧ Below w.heap.size w w' := by
  cases hg : levB xs
  · have hb := reflB_a (i := i) (reflA_lev hg)
    rw [reflF_f hb, hb]
    have HG := hid hg; clear hg hb
    have HC := hid hc.cells; clear hc
    go_enter Try.func6, Try.ntmps6
    go_wp2_with (go_at_call 26; refine (chGood_b _ _ _ _ hl HC.out _ HG.out).mono ?_; rintro e w' ⟨rfl, rfl⟩)
    go_ret2
    exact ⟨none, 0, rfl, own_nil _ _, Below.refl _ _⟩
  have L := levB_iff.1 hg
  have h6 := L.hi
  have h2 := L.lo
  cases hr : (decide (0 ≤ i) && decide (i < (xs.length : Int)))
  · have hb := reflB_a (xs := xs) (i := i) (by simp only [reflA, hg, hr]; rfl)
    rw [reflF_f hb, hb]
    have HG := hid hg; clear hg hb
    have HR := hid (resid_inB _ hr); clear hr
    have HC := hid hc.cells; clear hc
    go_enter Try.func6, Try.ntmps6
    go_wp2_with (first | (go_at_call 26; refine (chGood_b _ _ _ _ hl HC.out _ HG.out).mono ?_; rintro e w' ⟨rfl, rfl⟩) | (go_at_call 27; refine (l1In_b _ _ _ _ _ HR.out).mono ?_; rintro e w' ⟨rfl, rfl⟩))
    go_ret2
    exact ⟨none, 0, rfl, own_nil _ _, Below.refl _ _⟩
  have ha : reflA xs i = true := by simp only [reflA, hg, hr]; rfl
  have HR := hid (resid_inB _ hr)
  simp only [Bool.and_eq_true, decide_eq_true_eq] at hr
  obtain ⟨m, rfl⟩ : ∃ m : Nat, i = m := ⟨i.toNat, by omega⟩
  have hm : m < xs.length := by omega
  have hfb := reflB_l ha
  rw [Int.toNat_natCast] at hfb
  have hF : levB (reflL xs m) = false → reflB xs m = false ∧ reflF xs m = [] := fun h => ⟨hfb.trans h, reflF_f (hfb.trans h)⟩
  have hT : levB (reflL xs m) = true → reflB xs m = true ∧ reflF xs m = reflL xs m := fun h => ⟨hfb.trans h, by rw [reflF_t (hfb.trans h), Int.toNat_natCast]⟩
  have HF := hid hF
  have HT := hid hT
  have HG := hid hg
  have HL := hid L
  have HCL := hid (l1OwnR_any A c xs w hl hc)
  have HC := hid hc.cells
  clear hc ha hr hfb hF hT hg L
  by_cases hm0 : m = 0
  · subst hm0
    have hx0 := HL.out.bd 0 (by omega)
    have hx1 := HL.out.bd (xs.length - 1) (by omega)
    have HREF := hid (show reflL xs 0 = (xs.set 0 (xs.getD (xs.length - 1) 0 + 1)).set (xs.length - 1) (xs.getD 0 0 - 1) by simp [reflL])
    have hek : ((xs.length : Int) - 1).toNat = xs.length - 1 := by omega
    go_enter Try.func6, Try.ntmps6
    go_wp2_with (first | (go_at_call 26; refine (chGood_b _ _ _ _ hl HC.out _ HG.out).mono ?_; rintro e w' ⟨rfl, rfl⟩) | (go_at_call 27; refine (l1In_b _ _ _ _ _ HR.out).mono ?_; rintro e w' ⟨rfl, rfl⟩))
    refine (HCL.out).mono ?_
    rintro e w1 ⟨A1, c1, rfl, o1, b1⟩
    obtain ⟨g, rfl, hBg, hglt⟩ := o1.at_ (by omega)
    have hcc1 := HC.out.later b1
    obtain ⟨b, o, rfl, hcc⟩ := hcc1 (by omega)
    have hck0 := hcc 0 (by omega)
    have hck1 := hcc (xs.length - 1) (by omega)
    have hcu0 := own_get o1 (k := 0) (by omega)
    have hcu1 := own_get o1 (k := xs.length - 1) (by omega)
    have hfz0 := own_froz o1 0
    have hfz1 := own_froz o1 (xs.length - 1)
    have hne : b ≠ g := by
      have : b < w.heap.size := by
        obtain ⟨b', o', he, hcc'⟩ := HC.out (by omega)
        have := hcc' 0 (by omega)
        injection he with he; injection he with he1 he2
        subst he1
        exact World.block_lt_of_cell? w _ this
      omega
    have hst := own_len (reflOwn o1 0 (xs.length - 1) (xs.getD (xs.length - 1) 0 + 1) (xs.getD 0 0 - 1)) HREF.out.symm
    have B2 : Hid (Below w.heap.size w ((w1.setCell ⟨g, 0, none⟩ (.int .i64 (xs.getD (xs.length - 1) 0 + 1))).setCell ⟨g, xs.length - 1, none⟩ (.int .i64 (xs.getD 0 0 - 1)))) := hid ((b1.setCell hBg _).setCell hBg _)
    obtain ⟨x, hx⟩ : ∃ x, x = xs.getD 0 0 := ⟨_, rfl⟩
    obtain ⟨y, hy⟩ : ∃ y, y = xs.getD (xs.length - 1) 0 := ⟨_, rfl⟩
    rw [Nat.add_zero] at hck0
    rw [← hx] at hck0 hcu0 hst hx0 B2
    rw [← hy] at hck1 hcu1 hst hx1 B2
    obtain ⟨z, hz⟩ : ∃ z, z = xs.length - 1 := ⟨_, rfl⟩
    rw [← hz] at hck1 hcu1 hst hfz1 hek B2
    have hz0 : 0 < z := by omega
    have hz00 : ¬ (z = 0) := by omega
    have hzl : z < xs.length := by omega
    have HS := hid hst
    have HS2 := hid (by have := hst.cells; exact this)
    clear hcc hcc1 hst hx hy hz o1
    cases hq : levB (reflL xs 0)
    · obtain ⟨h1, h3⟩ := HF.out hq
      have HQ := hid hq
      have H1 := hid h1
      have H3 := hid h3
      clear hq h1 h3
      go_wp2_with (go_at_call 26; refine (chGood_n _ _ _ _ _ (reflL_len xs 0) hl HS2.out _ HQ.out).mono ?_; rintro e w' ⟨rfl, rfl⟩)
      go_ret2
      exact ⟨none, 0, by rw [H1.out, H3.out]; rfl, by rw [H3.out]; exact own_nil _ _, B2.out⟩
    · obtain ⟨h1, h3⟩ := HT.out hq
      have HQ := hid hq
      have H1 := hid h1
      have H3 := hid h3
      clear hq h1 h3
      go_wp2_with (go_at_call 26; refine (chGood_n _ _ _ _ _ (reflL_len xs 0) hl HS2.out _ HQ.out).mono ?_; rintro e w' ⟨rfl, rfl⟩)
      go_ret2
      exact ⟨some ⟨g, 0, none⟩, c1, by rw [H1.out, H3.out, reflL_len]; first | done | rfl, by rw [H3.out]; exact HS.out, B2.out⟩
  · obtain ⟨z, rfl⟩ : ∃ z, m = z + 1 := ⟨m - 1, by omega⟩
    have hx0 := HL.out.bd z (by omega)
    have hx1 := HL.out.bd (z + 1) (by omega)
    have HREF := hid (show reflL xs (z + 1) = (xs.set z (xs.getD (z + 1) 0)).set (z + 1) (xs.getD z 0) by simp [reflL])
    have hek : (((z + 1 : Nat) : Int) - 1) = (z : Int) := by omega
    obtain ⟨m, hmz⟩ : ∃ m, m = z + 1 := ⟨_, rfl⟩
    rw [← hmz] at hek HREF HR hm0 hx1 hm HF HT
    rw [← hmz]
    have hmi : 0 < (m : Int) := by omega
    have hzm : z < m := by omega
    have hzz : ¬ (z = m) := by omega
    have hekn : ((m : Int) - 1).toNat = z := by omega
    clear hmz hm0
    go_enter Try.func6, Try.ntmps6
    go_wp2_with (first | (go_at_call 26; refine (chGood_b _ _ _ _ hl HC.out _ HG.out).mono ?_; rintro e w' ⟨rfl, rfl⟩) | (go_at_call 27; refine (l1In_b _ _ _ _ _ HR.out).mono ?_; rintro e w' ⟨rfl, rfl⟩))
    refine (HCL.out).mono ?_
    rintro e w1 ⟨A1, c1, rfl, o1, b1⟩
    obtain ⟨g, rfl, hBg, hglt⟩ := o1.at_ (by omega)
    have hcc1 := HC.out.later b1
    obtain ⟨b, o, rfl, hcc⟩ := hcc1 (by omega)
    have hck0 := hcc z (by omega)
    have hck1 := hcc m (by omega)
    have hcu0 := own_get o1 (k := z) (by omega)
    have hcu1 := own_get o1 (k := m) (by omega)
    have hfz0 := own_froz o1 z
    have hfz1 := own_froz o1 m
    have hne : b ≠ g := by
      have : b < w.heap.size := by
        obtain ⟨b', o', he, hcc'⟩ := HC.out (by omega)
        have := hcc' 0 (by omega)
        injection he with he; injection he with he1 he2
        subst he1
        exact World.block_lt_of_cell? w _ this
      omega
    have hst := own_len (reflOwn o1 z m (xs.getD m 0) (xs.getD z 0)) HREF.out.symm
    have B2 : Hid (Below w.heap.size w ((w1.setCell ⟨g, z, none⟩ (.int .i64 (xs.getD m 0))).setCell ⟨g, m, none⟩ (.int .i64 (xs.getD z 0)))) := hid ((b1.setCell hBg _).setCell hBg _)
    obtain ⟨x, hx⟩ : ∃ x, x = xs.getD z 0 := ⟨_, rfl⟩
    obtain ⟨y, hy⟩ : ∃ y, y = xs.getD m 0 := ⟨_, rfl⟩
    rw [← hx] at hck0 hcu0 hst hx0 B2
    rw [← hy] at hck1 hcu1 hst hx1 B2
    have hzl : z < xs.length := by omega
    have HS := hid hst
    have HS2 := hid (by have := hst.cells; exact this)
    clear hcc hcc1 hst hx hy o1 hek
    cases hq : levB (reflL xs m)
    · obtain ⟨h1, h3⟩ := HF.out hq
      have HQ := hid hq
      have H1 := hid h1
      have H3 := hid h3
      clear hq h1 h3
      go_wp2_with (go_at_call 26; refine (chGood_n _ _ _ _ _ (reflL_len xs m) hl HS2.out _ HQ.out).mono ?_; rintro e w' ⟨rfl, rfl⟩)
      go_ret2
      exact ⟨none, 0, by rw [H1.out, H3.out]; rfl, by rw [H3.out]; exact own_nil _ _, B2.out⟩
    · obtain ⟨h1, h3⟩ := HT.out hq
      have HQ := hid hq
      have H1 := hid h1
      have H3 := hid h3
      clear hq h1 h3
      go_wp2_with (go_at_call 26; refine (chGood_n _ _ _ _ _ (reflL_len xs m) hl HS2.out _ HQ.out).mono ?_; rintro e w' ⟨rfl, rfl⟩)
      go_ret2
      exact ⟨some ⟨g, 0, none⟩, c1, by rw [H1.out, H3.out, reflL_len]; first | done | rfl, by rw [H3.out]; exact HS.out, B2.out⟩
theorem spec_ReflectLevels {B : Nat} (A : Option Addr) (c : Nat) (xs : List Int) (i : Int) (w : World) (hl : xs.length ≤ 1048576) (hc : Own w B A c xs) (_hi : I64 i) :
    Calls Try.prog 6 #[.slice A xs.length c, .int .i64 i] w fun e w' => ∃ A' c', e = .returned (.tuple #[.slice A' (reflF xs i).length c', .bool (reflB xs i)]) ∧ Own w' w.heap.size A' c' (reflF xs i) ∧ Below w.heap.size w w' :=
  spec_ReflectLevelsR A c xs i w hl (own_rd hc) _hi

end Go.Proofs.Ythkkiakfmbnfeaa
