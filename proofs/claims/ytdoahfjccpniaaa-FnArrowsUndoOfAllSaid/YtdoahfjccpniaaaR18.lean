/-
  Several texts in one.
-/
import Derived.Test.YtdoahfjccpniaaaR12
import Derived.Test.YtdoahfjccpniaaaR17
import Derived.Test.YtdoahfjccpniaaaR05
import Derived.Test.YtdoahfjccpniaaaR03
import Derived.Test.YtdoahfjccpniaaaCB
import Derived.Lib.FrozenHead
/-
  Contracts: LevelsOf of the model.
-/
namespace Go.Proofs.Ytdoahfjccpniaaa
open Go.RowKit

theorem Sg_bd {f : Int → Int} (h : ∀ x, -1 ≤ f x ∧ f x ≤ 1) : ∀ (m : Nat) (a : Int), -(m : Int) ≤ Sg f a m ∧ Sg f a m ≤ m
  | 0, _ => by simp [Sg]
  | m + 1, a => by have := h a; have := Sg_bd h m (a + 1); rw [Sg]; omega
theorem eV_bd (p : List Int) (t i : Nat) (x : Int) : -1 ≤ eV p t i x ∧ eV p t i x ≤ 1 := by
  unfold eV; split
  · split <;> split <;> omega
  · omega
def lvK (xs : List Int) (t k : Nat) : List Int := fnRow t fun i => Sg (eV xs t i) (-(xs.length : Int) - 1) k
def lvN (xs : List Int) : Nat := xs.length + 1 + (xs.getD 0 0).toNat
def lvL (xs : List Int) (t : Nat) : List Int := lvK xs t (lvN xs)
theorem lvK_len (xs : List Int) (t k : Nat) : (lvK xs t k).length = t := fnRow_len _ _
theorem lvK_zero (xs : List Int) (t : Nat) : lvK xs t 0 = fnRow t (fun _ => 0) := rowF_ext _ _ _ fun _ _ => rfl
theorem lvK_succ {xs : List Int} {t k m : Nat} {x : Int} (hx : x = -(xs.length : Int) - 1 + k) (hm : x % (t : Int) = m) (hmt : m < t) :
    (lvK xs t k).set m ((lvK xs t k).getD m 0 + ((if bdB xs x = true then 1 else 0) - (if x < 0 then 1 else 0))) = lvK xs t (k + 1) := by
  unfold lvK
  rw [fnRow_get _ _ _ hmt, fnRow_set]
  refine rowF_ext _ _ _ fun j _ => ?_
  rw [Sg_snoc, ← hx]
  by_cases e : j = m
  · subst e
    rw [if_pos rfl]
    congr 1
    unfold eV; rw [if_pos hm]
  · rw [if_neg e]
    unfold eV; rw [hm, if_neg (by omega)]; omega
theorem lvK_same {xs : List Int} {t k m : Nat} {x : Int} (hx : x = -(xs.length : Int) - 1 + k) (hm : x % (t : Int) = m) (hmt : m < t)
    (h : ((if bdB xs x = true then 1 else 0) - (if x < 0 then 1 else 0) : Int) = 0) : lvK xs t k = lvK xs t (k + 1) := by
  rw [← lvK_succ hx hm hmt, h, Int.add_zero]
  apply List.ext_getElem
  · simp
  · intro j h1 h2
    rw [List.getElem_set]
    split
    · rename_i e; subst e; simp [List.getD, h1]
    · rfl
theorem lvK_bd (xs : List Int) (t k m : Nat) (h : m < t) : -(k : Int) ≤ (lvK xs t k).getD m 0 ∧ (lvK xs t k).getD m 0 ≤ k := by
  unfold lvK; rw [fnRow_get _ _ _ h]; exact Sg_bd (eV_bd xs t m) k _
def lvOk (xs : List Int) (t : Int) : Bool := crB xs t && levB (lvL xs t.toNat)
def lvF (xs : List Int) (t : Int) : List Int := if lvOk xs t then lvL xs t.toNat else []
theorem lvF_f {xs : List Int} {t : Int} (h : lvOk xs t = false) : lvF xs t = [] := by simp [lvF, h]
theorem lvF_t {xs : List Int} {t : Nat} (h : lvOk xs t = true) : lvF xs t = lvL xs t := by simp [lvF, h]
theorem lvOk_cr {xs : List Int} {t : Int} (h : crB xs t = false) : lvOk xs t = false := by simp [lvOk, h]
theorem lvOk_lev {xs : List Int} {t : Nat} (h : crB xs t = true) : lvOk xs t = levB (lvL xs t) := by simp [lvOk, h]
theorem bound_LevelsOf (xs : List Int) (t : Int) : (lvF xs t).length ≤ 1048576 := by
  unfold lvF; split
  · rename_i h
    simp only [lvOk, Bool.and_eq_true] at h
    have := inB_iff.1 (crB_good h.1).2
    unfold lvL; rw [lvK_len]; omega
  · simp

set_option maxHeartbeats 1000000 in
theorem chPart_any (A : Option Addr) (c : Nat) (xs : List Int) (r : Nat) (w : World) (hl : xs.length ≤ 1048576) (hr : r ≤ 1048576) (hc : Cells w A xs) :
    Calls Try.prog 49 #[.slice A xs.length c, .int .i64 r] w fun e w' => e = .returned (.int .i64 (xs.getD r 0)) ∧ w = w' := by
  by_cases h : r < xs.length
  · obtain ⟨b, o, rfl, hcc⟩ := hc (by omega)
    have hck := hcc r h
    obtain ⟨x, hx⟩ : ∃ x, x = xs.getD r 0 := ⟨_, rfl⟩
    rw [← hx] at hck ⊢
    clear hcc hx
    go_enter Try.func49, Try.ntmps49
    go_wp2_with fail
    go_ret
    exact ⟨rfl, rfl⟩
  · rw [getD_out (by omega)]
    go_enter Try.func49, Try.ntmps49
    go_wp2_with fail
    go_ret
    exact ⟨rfl, rfl⟩

end Go.Proofs.Ytdoahfjccpniaaa
/-
  Contracts: the border word, the model's side; and plain facts on the word.
-/
namespace Go.Proofs.Ytdoahfjccpniaaa
open Go.RowKit

def pn (p : List Int) (j : Nat) : Nat := (p.getD j 0).toNat
/-- The columns that the border has passed before row number d from below. -/
def prevN (p : List Int) (d : Nat) : Nat := if d = 0 then 0 else pn p (p.length - d)
def wordUp (p : List Int) : Nat → List UInt8
  | 0 => []
  | d + 1 => wordUp p d ++ (List.replicate (pn p (p.length - 1 - d) - prevN p d) 82 ++ [85])
def wordS (p : List Int) (d a : Nat) : List UInt8 := wordUp p d ++ List.replicate (a - prevN p d) 82
theorem prev_le {p : List Int} (G : Good p) {d : Nat} (h : d < p.length) : prevN p d ≤ pn p (p.length - 1 - d) := by
  unfold prevN pn
  split
  · omega
  · have := G.down (p.length - 1 - d) (by omega)
    rw [show p.length - 1 - d + 1 = p.length - d by omega] at this
    omega
theorem prev_succ (p : List Int) (d : Nat) : prevN p (d + 1) = pn p (p.length - 1 - d) := by
  unfold prevN; rw [if_neg (by omega), show p.length - (d + 1) = p.length - 1 - d by omega]
theorem wordS_zero (p : List Int) (d : Nat) : wordS p d (prevN p d) = wordUp p d := by simp [wordS]
theorem wordS_R (p : List Int) (d a : Nat) (h : prevN p d ≤ a) : wordS p d (a + 1) = wordS p d a ++ [82] := by
  unfold wordS
  rw [show a + 1 - prevN p d = (a - prevN p d) + 1 by omega, List.replicate_succ', List.append_assoc]
theorem wordS_U (p : List Int) (d : Nat) : wordS p d (pn p (p.length - 1 - d)) ++ [85] = wordUp p (d + 1) := by
  simp [wordS, wordUp]
theorem pn_le {p : List Int} (G : Good p) (j : Nat) : pn p j ≤ 30 := by
  unfold pn
  by_cases h : j < p.length
  · have := G.le j h; omega
  · rw [List.getD_eq_getElem?_getD, List.getElem?_eq_none (by omega)]; simp
theorem wordUp_len {p : List Int} (G : Good p) : ∀ d, (wordUp p d).length ≤ 31 * d
  | 0 => by simp [wordUp]
  | d + 1 => by
    have := wordUp_len G d
    have := pn_le G (p.length - 1 - d)
    simp only [wordUp, List.length_append, List.length_replicate, List.length_cons, List.length_nil]; omega
theorem wordS_len {p : List Int} (G : Good p) (d a : Nat) (ha : a ≤ 30) : (wordS p d a).length ≤ 31 * d + 30 := by
  have := wordUp_len G d
  simp only [wordS, List.length_append, List.length_replicate]; omega
def wordL (p : List Int) : List UInt8 := wordUp p p.length
def strOf (l : List UInt8) : ByteArray := ⟨l.toArray⟩
theorem strOf_app (l m : List UInt8) : strOf l ++ strOf m = strOf (l ++ m) := by
  apply ByteArray.ext
  simp [strOf]
theorem strOf_size (l : List UInt8) : (strOf l).size = l.length := by simp [strOf, ByteArray.size]
def wordF (p : List Int) : ByteArray := if good p then strOf (wordL p) else ByteArray.empty

end Go.Proofs.Ytdoahfjccpniaaa
