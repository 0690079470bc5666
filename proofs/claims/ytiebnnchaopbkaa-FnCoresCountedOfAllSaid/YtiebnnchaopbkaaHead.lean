/-
  Closed facts on the translation's head, told by parts: the kernel alone would want more memory than is given where the head names many roots.
-/
import Derived.Test.YtiebnnchaopbkaaRows
import Derived.ProofKit
import Derived.KernelRfl
namespace Go.Proofs.Ytiebnnchaopbkaa
open Go.ChangeShapes Go.WideShapes Go.ChangeAt Go.RowKit

def blank : Char := Char.ofNat 32
theorem words_char (c : Char) (r : List Char) (h : (c == blank) = false) (w : List Char) (ws : List (List Char)) (e : wordsSigns r = w :: ws) : wordsSigns (c :: r) = (c :: w) :: ws := by
  rw [wordsSigns.eq_3, e]
  intro hc
  rw [hc] at h
  exact absurd h (by decide)
theorem words_blank (r : List Char) : wordsSigns (blank :: r) = [] :: wordsSigns r := rfl
theorem words_word : ∀ (w r : List Char), w.all (fun c => !(c == blank)) = true → wordsSigns (w ++ blank :: r) = w :: wordsSigns r
  | [], r, _ => words_blank r
  | c :: w, r, h => by
    simp only [List.all_cons, Bool.and_eq_true, Bool.not_eq_true'] at h
    exact words_char c (w ++ blank :: r) h.1 w (wordsSigns r) (words_word w r (by simpa using h.2))

def head1 : List Char := ([104, 97, 114, 110, 101, 115, 115] : List Nat).map Char.ofNat
def head2 : List Char := ([99, 51, 98, 53, 50, 49, 101, 48, 54, 48, 55, 51, 99, 53, 52, 49, 56, 53, 50, 50, 55, 49, 101, 52, 55, 55, 57, 57, 101, 102, 54, 99, 54, 99, 55, 51, 49, 98, 56, 49, 56, 54, 102, 55, 54, 50, 98, 51, 48, 97, 97, 101, 100, 51, 49, 101, 102, 51, 98, 49, 49, 98, 98, 55] : List Nat).map Char.ofNat
def head3 : List Char := ([99, 117, 116] : List Nat).map Char.ofNat
def head4 : List Char := ([97, 116, 32, 108, 111, 111, 112, 46, 101, 120, 97, 109, 112, 108, 101, 47, 103, 48, 49, 49, 51, 54, 47, 108, 97, 119, 115, 46, 70, 110, 67, 111, 114, 101, 115, 67, 111, 117, 110, 116, 101, 100, 79, 102, 65, 108, 108] : List Nat).map Char.ofNat
theorem Try.head : Try.checked.prog.initOrder = String.ofList (head1 ++ blank :: (head2 ++ blank :: (head3 ++ blank :: head4))) := by kernel_rfl
theorem Try.words : wordsSigns Try.checked.prog.initOrder.toList = head1 :: head2 :: head3 :: wordsSigns head4 := by
  rw [Try.head, String.toList_ofList, words_word _ _ (by kernel_rfl), words_word _ _ (by kernel_rfl), words_word _ _ (by kernel_rfl)]
theorem behind_of (l : List (List Char)) : behindMainWord (head1 :: head2 :: head3 :: l) = head3 :: l := by kernel_rfl
theorem Try.behind : behindMainWord (wordsSigns Try.checked.prog.initOrder.toList) = head3 :: wordsSigns head4 := by rw [Try.words]; exact behind_of _
theorem word_gc : (head3 == "gc".toList) = false := by kernel_rfl
theorem word_cut : (head3 == "cut".toList) = true := by kernel_rfl
theorem word_spec : (head3 == "spec".toList) = false := by kernel_rfl
theorem word_carried : (head3 == "carried".toList) = false := by kernel_rfl
theorem word_strip (l : List (List Char)) : stripLifts liftWords (head3 :: l) = ([], head3 :: l) := by kernel_rfl
theorem word_head (l : List (List Char)) : ((head3 :: l).head? == some "cut".toList) = true := by kernel_rfl
theorem word_no_carried (l : List (List Char)) : ((head3 :: l).head? == some "carried".toList) = false := by kernel_rfl
theorem make_of (P : Program) (l : List (List Char)) (h : behindMainWord (wordsSigns P.initOrder.toList) = head3 :: l) : P.make = some .cut := by
  unfold Program.make; rw [h]
  simp only [word_gc, word_cut, word_spec, Bool.or_false, Bool.true_or, Bool.false_eq_true, if_false, if_true]
theorem lifts_of (P : Program) (l : List (List Char)) (h : behindMainWord (wordsSigns P.initOrder.toList) = head3 :: l) : P.liftsFinal = false := by
  unfold Program.liftsFinal Program.headLifts; rw [h]
  simp only [word_no_carried, word_strip, word_head, if_true, Bool.false_and, Bool.false_or]
  rfl
theorem enter_of (P : Program) (l : List (List Char)) (h : behindMainWord (wordsSigns P.initOrder.toList) = head3 :: l) (h2 : P.laysLater = false) (h3 : P.bearsReflect = false) (h4 : P.doorFits [] = true) : P.mayEnter = true := by
  unfold Program.mayEnter; rw [h]
  simp only [word_gc, word_spec, word_carried, word_strip, word_head, h2, h3, h4, Bool.or_false, Bool.false_and, Bool.false_or, Bool.not_false, Bool.or_true, Bool.true_and, Bool.and_true]
  rfl
theorem Try.mayEnter : Try.checked.prog.mayEnter = true := enter_of _ _ Try.behind (by as_aux_lemma => kernel_rfl) (by as_aux_lemma => kernel_rfl) (by as_aux_lemma => kernel_rfl)
theorem Try.lifts : Try.checked.prog.liftsFinal = false := lifts_of _ _ Try.behind
theorem Try.make : Try.checked.prog.make = some .cut := make_of _ _ Try.behind

/-! The closed facts of a row, told one by one: those on the program alone once for all rows. -/
theorem and_t {a b : Bool} (h : a = true) (k : b = true) : (a && b) = true := by rw [h, k]; rfl
theorem Try.laidOutT : laidOutB Try.checked.prog = true := by kernel_rfl
theorem Try.mapsRowedT : mapsRowed Try.checked.prog = true := by kernel_rfl
theorem Try.plainKeysT : (true == Try.checked.prog.plainKeys) = true := by kernel_rfl
theorem Try.stopsHeardT : Try.checked.prog.stopsHeard = true := by kernel_rfl
end Go.Proofs.Ytiebnnchaopbkaa
