/-
  Several texts in one.
-/
import Derived.Test.YtmjncedijddmmaaR22
import Derived.Test.YtmjncedijddmmaaR11
import Derived.RegionTactic
import Derived.ChangeAlike
import Derived.Test.YtmjncedijddmmaaR14
import Derived.Test.YtmjncedijddmmaaR08
import Derived.Test.YtmjncedijddmmaaR06
import Derived.Test.YtmjncedijddmmaaR04
/-
  Contracts: levels reflected (both sides).
-/
namespace Go.Proofs.Ytmjncedijddmmaa
open Go.RowKit

theorem below_drew1 {B : Nat} {a w : World} (h : Below B a w) : Below B a w.drew := ⟨h.os, h.tape, h.output, h.size, h.block⟩
theorem own_drew1 {w : World} {B : Nat} {A : Option Addr} {c : Nat} {xs : List Int} (h : Own w B A c xs) : Own w.drew B A c xs := h
/-- What both sides have written before the last check: the row, whatever the order of the two stores. -/
theorem reflOwn {w : World} {B g c : Nat} {xs : List Int} (h : Own w B (some ⟨g, 0, none⟩) c xs) (i j : Nat) (x y : Int) :
    Own ((w.setCell ⟨g, i, none⟩ (.int .i64 x)).setCell ⟨g, j, none⟩ (.int .i64 y)) B (some ⟨g, 0, none⟩) c ((xs.set i x).set j y) := own_set (own_set h i x) j y

end Go.Proofs.Ytmjncedijddmmaa
/-
  Contracts: levels reflected, the model's side.
-/
namespace Go.Proofs.Ytmjncedijddmmaa
open Go.RowKit

theorem resid_inB {m : Int} {t : Nat} (b : Bool) (h : (decide (0 ≤ m) && decide (m < (t : Int))) = b) : inB 0 ((t : Int) - 1) m = b := by
  rw [← h]
  have e : decide (m ≤ (t : Int) - 1) = decide (m < (t : Int)) := by
    by_cases hh : m < (t : Int)
    · rw [decide_eq_true hh, decide_eq_true (by omega)]
    · rw [decide_eq_false hh, decide_eq_false (by omega)]
  unfold inB
  rw [e]

end Go.Proofs.Ytmjncedijddmmaa
/-
  Contracts: LevelsOf of the model.
-/
namespace Go.Proofs.Ytmjncedijddmmaa
open Go.RowKit

theorem Sg_bd {f : Int → Int} (h : ∀ x, -1 ≤ f x ∧ f x ≤ 1) : ∀ (m : Nat) (a : Int), -(m : Int) ≤ Sg f a m ∧ Sg f a m ≤ m
  | 0, _ => by simp [Sg]
  | m + 1, a => by have := h a; have := Sg_bd h m (a + 1); rw [Sg]; omega
theorem eV_bd (p : List Int) (t i : Nat) (x : Int) : -1 ≤ eV p t i x ∧ eV p t i x ≤ 1 := by
  unfold eV; split
  · split <;> split <;> omega
  · omega
def lvK (xs : List Int) (t k : Nat) : List Int := fnRow t fun i => Sg (eV xs t i) (-(xs.length : Int) - 1) k
def lvN (xs : List Int) : Nat := xs.length + 1 + (xs.getD 0 0).toNat
def lvL (xs : List Int) (t : Nat) : List Int := lvK xs t (lvN xs)
theorem lvK_len (xs : List Int) (t k : Nat) : (lvK xs t k).length = t := fnRow_len _ _
theorem lvK_zero (xs : List Int) (t : Nat) : lvK xs t 0 = fnRow t (fun _ => 0) := rowF_ext _ _ _ fun _ _ => rfl
theorem lvK_succ {xs : List Int} {t k m : Nat} {x : Int} (hx : x = -(xs.length : Int) - 1 + k) (hm : x % (t : Int) = m) (hmt : m < t) :
    (lvK xs t k).set m ((lvK xs t k).getD m 0 + ((if bdB xs x = true then 1 else 0) - (if x < 0 then 1 else 0))) = lvK xs t (k + 1) := by
  unfold lvK
  rw [fnRow_get _ _ _ hmt, fnRow_set]
  refine rowF_ext _ _ _ fun j _ => ?_
  rw [Sg_snoc, ← hx]
  by_cases e : j = m
  · subst e
    rw [if_pos rfl]
    congr 1
    unfold eV; rw [if_pos hm]
  · rw [if_neg e]
    unfold eV; rw [hm, if_neg (by omega)]; omega
theorem lvK_same {xs : List Int} {t k m : Nat} {x : Int} (hx : x = -(xs.length : Int) - 1 + k) (hm : x % (t : Int) = m) (hmt : m < t)
    (h : ((if bdB xs x = true then 1 else 0) - (if x < 0 then 1 else 0) : Int) = 0) : lvK xs t k = lvK xs t (k + 1) := by
  rw [← lvK_succ hx hm hmt, h, Int.add_zero]
  apply List.ext_getElem
  · simp
  · intro j h1 h2
    rw [List.getElem_set]
    split
    · rename_i e; subst e; simp [List.getD, h1]
    · rfl
theorem lvK_bd (xs : List Int) (t k m : Nat) (h : m < t) : -(k : Int) ≤ (lvK xs t k).getD m 0 ∧ (lvK xs t k).getD m 0 ≤ k := by
  unfold lvK; rw [fnRow_get _ _ _ h]; exact Sg_bd (eV_bd xs t m) k _
def lvOk (xs : List Int) (t : Int) : Bool := crB xs t && levB (lvL xs t.toNat)
def lvF (xs : List Int) (t : Int) : List Int := if lvOk xs t then lvL xs t.toNat else []
theorem lvF_f {xs : List Int} {t : Int} (h : lvOk xs t = false) : lvF xs t = [] := by simp [lvF, h]
theorem lvF_t {xs : List Int} {t : Nat} (h : lvOk xs t = true) : lvF xs t = lvL xs t := by simp [lvF, h]
theorem lvOk_cr {xs : List Int} {t : Int} (h : crB xs t = false) : lvOk xs t = false := by simp [lvOk, h]
theorem lvOk_lev {xs : List Int} {t : Nat} (h : crB xs t = true) : lvOk xs t = levB (lvL xs t) := by simp [lvOk, h]
theorem bound_LevelsOf (xs : List Int) (t : Int) : (lvF xs t).length ≤ 1048576 := by
  unfold lvF; split
  · rename_i h
    simp only [lvOk, Bool.and_eq_true] at h
    have := inB_iff.1 (crB_good h.1).2
    unfold lvL; rw [lvK_len]; omega
  · simp

end Go.Proofs.Ytmjncedijddmmaa
