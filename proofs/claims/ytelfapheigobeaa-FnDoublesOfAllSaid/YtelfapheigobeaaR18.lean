/-
  Several texts in one.
-/
import Derived.Test.YtelfapheigobeaaR07
import Derived.Test.YtelfapheigobeaaR16
import Derived.Test.YtelfapheigobeaaR17
import Derived.Test.YtelfapheigobeaaCB
import Derived.Test.YtelfapheigobeaaCC
/-
  Bar cores and doubles as plain functions. No walk in this text.
-/
namespace Go.Proofs.Ytelfapheigobeaa

def bcR (t : Int) : Nat → List Int → List Int × Nat
  | 0, xs => (xs, 0)
  | f + 1, xs => if (brs xs t xs.length).length = 0 then (xs, 0) else ((bcR t f (tkL xs t ((brs xs t xs.length).getD 0 []))).1, (bcR t f (tkL xs t ((brs xs t xs.length).getD 0 []))).2 + 1)
def bcF (xs : List Int) (t : Int) : List Int := if brtB xs t then (bcR t 31 xs).1 else []
def dbF (xs : List Int) : List Int := if shB xs then dbL xs else []
end Go.Proofs.Ytelfapheigobeaa
/-
  Contracts: the abacus by which quotients are told, of the program and of the model.
-/
namespace Go.Proofs.Ytelfapheigobeaa
open Go.RowKit

def mulN (t n : Nat) : Nat := (n + t - 1) / t * t
theorem mulN_bd {t n : Nat} (ht : 2 ≤ t ∧ t ≤ 6) : n ≤ mulN t n ∧ mulN t n ≤ n + 5 := by
  unfold mulN
  have h1 := Nat.div_add_mod (n + t - 1) t
  have h2 := Nat.mod_lt (n + t - 1) (show 0 < t by omega)
  rw [Nat.mul_comm] at h1
  omega
theorem mulN_dvd (t n : Nat) : mulN t n % t = 0 := by unfold mulN; exact Nat.mul_mod_left _ _
def evN (xs : List Int) (t : Int) : Nat := mulN t.toNat xs.length
def evR (xs : List Int) (t : Int) : Int := if crB xs t then t else 0
def evF (xs : List Int) (t : Int) : List Int := if crB xs t then beadsL xs (evN xs t) else []
theorem ev_bd {xs : List Int} {t : Int} (ht : inB 2 6 t = true) : xs.length ≤ evN xs t ∧ evN xs t ≤ xs.length + 5 := by
  have := inB_iff.1 ht
  exact mulN_bd (t := t.toNat) (n := xs.length) (by omega)
theorem ev_ok {xs : List Int} {t : Int} (ht : inB 2 6 t = true) : abaOk xs t (evN xs t) = crB xs t := by
  have hb := ev_bd (xs := xs) ht
  unfold abaOk beadsOk crB
  cases hg : good xs
  · simp
  · have hl := ((good_iff xs).1 hg).len
    have : inB xs.length 40 (evN xs t) = true := inB_iff.2 (by omega)
    simp [this, ht]
theorem ev_R {xs : List Int} {t : Int} (ht : inB 2 6 t = true) : abaR xs t (evN xs t) = evR xs t := by unfold abaR evR; rw [ev_ok ht]
theorem ev_F {xs : List Int} {t : Int} (ht : inB 2 6 t = true) : abaF xs t (evN xs t) = evF xs t := by
  have hb := ev_bd (xs := xs) ht
  unfold abaF evF; rw [ev_ok ht]
  cases hc : crB xs t
  · rfl
  · have hg := (crB_good hc).1
    have hl := ((good_iff xs).1 hg).len
    rw [if_pos rfl, if_pos rfl]
    unfold beadsF
    rw [if_pos ⟨hg, by omega, by omega⟩]; simp

end Go.Proofs.Ytelfapheigobeaa
