/-
  Several texts in one.
-/
import Derived.Test.YtmjncedijddmmaaR17
import Derived.Test.YtmjncedijddmmaaR08
import Derived.Test.YtmjncedijddmmaaR23
import Derived.Test.YtmjncedijddmmaaR25
import Derived.Test.YtmjncedijddmmaaR26
import Derived.Test.YtmjncedijddmmaaR07
import Derived.Test.YtmjncedijddmmaaR05
/-
  Contracts: letters of rows, signatures and what is left of them, the model's side.
-/
namespace Go.Proofs.Ytmjncedijddmmaa
open Go.RowKit

theorem sgM_no' {xs : List Int} {t : Nat} {i : Int} {k : Nat} (h : sgB xs t i k = 0) : ltrs (sgM xs t i (k + 1)) = ltrs (sgM xs t i k) := by rw [sgM_no h]
theorem own_take {w : World} {B : Nat} {A : Option Addr} {c : Nat} {xs : List Int} (h : Own w B A c xs) (k : Nat) (hk : k ≤ xs.length) : Own w B A c (xs.take k) := by
  cases A with
  | none =>
    obtain ⟨h0, rfl⟩ := own_none h
    rw [List.eq_nil_of_length_eq_zero h0, List.take_nil]
    exact own_nil _ _
  | some a =>
    rcases h.2 with ⟨hv, _⟩ | ⟨g, cap, cur, hv, _⟩
    · injection hv with h1; cases h1
    · injection hv with h1
      cases h1
      exact own_prefix h k hk
theorem bl_at (s : ByteArray) (k : Nat) (h : k < s.size) : (bl s).getD k 0 = s[k] := by
  rw [List.getD_eq_getElem?_getD, List.getElem?_eq_getElem (by rw [bl_len]; exact h)]
  exact bl_get s k h
end Go.Proofs.Ytmjncedijddmmaa
/-
  Contracts: what is left of a text of letters, and the rows that are left of a signature, the model's side.
-/
namespace Go.Proofs.Ytmjncedijddmmaa
open Go.RowKit

theorem redS_no {st : List (Nat × Nat)} {m : Nat × Nat} (h : ¬ (m.1 = 82 ∧ 0 < st.length ∧ (st.getD (st.length - 1) (0, 0)).1 = 65)) : redS st m = st ++ [m] := if_neg h
theorem redS_yes {st : List (Nat × Nat)} {m : Nat × Nat} (h : m.1 = 82 ∧ 0 < st.length ∧ (st.getD (st.length - 1) (0, 0)).1 = 65) : redS st m = st.take (st.length - 1) := if_pos h
theorem u8_eq {a : UInt8} {n : Nat} (_ : n < 256) (h : a.toNat = n) : a = UInt8.ofNat n := by
  rw [← h]; simp

end Go.Proofs.Ytmjncedijddmmaa
/-
  Contracts: the rows and letters that are left of a signature, the model's side.
-/
namespace Go.Proofs.Ytmjncedijddmmaa
open Go.RowKit

theorem strOf_cut (l : List UInt8) (q : Nat) (h : q < l.length) : (strOf l).extract q (q + 1) = strOf [l.getD q 0] := by
  unfold strOf
  rw [ByteArray.extract_mk, show q + 1 - q = 1 by omega, List.drop_eq_getElem_cons h, List.take_succ_cons, List.take_zero, List.getD_eq_getElem?_getD, List.getElem?_eq_getElem h]; rfl
theorem bl_strOf (l : List UInt8) : bl (strOf l) = l := by simp [bl, strOf]
theorem take_rws (L : List (Nat × Nat)) (k : Nat) (h : k < L.length) : rws (L.take (k + 1)) = rws (L.take k) ++ [((L.getD k (0, 0)).2 : Int)] := by
  rw [take_snoc_get L (0, 0) k h, rws_snoc]
theorem take_ltrs (L : List (Nat × Nat)) (k : Nat) (h : k < L.length) : ltrs (L.take (k + 1)) = ltrs (L.take k) ++ [UInt8.ofNat (L.getD k (0, 0)).1] := by
  rw [take_snoc_get L (0, 0) k h, ltrs_snoc]

end Go.Proofs.Ytmjncedijddmmaa
/-
  Contracts: the arrows of the model.
-/
namespace Go.Proofs.Ytmjncedijddmmaa
open Go.RowKit

theorem ltrs_at (L : List (Nat × Nat)) (k : Nat) (h : k < L.length) (hs : k < (strOf (ltrs L)).size) (hm : (L.getD k (0, 0)).1 < 256) : ((strOf (ltrs L))[k]).toNat = (L.getD k (0, 0)).1 := by
  have e := bl_at (strOf (ltrs L)) k hs
  rw [bl_strOf] at e
  rw [← e]
  simp only [ltrs, List.getD_eq_getElem?_getD, List.getElem?_map, List.getElem?_eq_getElem h, Option.map_some, Option.getD_some] at hm ⊢
  simp [Nat.mod_eq_of_lt hm]
theorem inc_new {xs : List Int} : (xs ++ [0]).set xs.length 1 = incL xs xs.length := by simp [incL]
theorem inc_old {xs : List Int} {r : Nat} (h : r ≠ xs.length) : xs.set r (xs.getD r 0 + 1) = incL xs r := by simp [incL, h]

theorem dec_one {p : List Int} {r : Nat} (h : p.getD r 0 = 1) : (p.set r (p.getD r 0 - 1)).take r = decL p r := by
  unfold decL
  rw [if_pos h]
  apply List.ext_getElem?
  intro j
  rw [List.getElem?_take, List.getElem?_take]
  split
  · rw [List.getElem?_set_ne (by omega)]
  · rfl
theorem dec_more {p : List Int} {r : Nat} (h : p.getD r 0 ≠ 1) : p.set r (p.getD r 0 - 1) = decL p r := by unfold decL; rw [if_neg h]
theorem cell_other {w1 w2 : World} {g r b k : Nat} {v : Value} (hb : Below w1.heap.size w1 w2) (hg : w1.heap.size ≤ g) (u : Value) (h : w1.cell? ⟨b, k, none⟩ = some v) : (w2.setCell ⟨g, r, none⟩ u).cell? ⟨b, k, none⟩ = some v := by
  rw [(hb.setCell (p := ⟨g, r, none⟩) hg u).cell (World.block_lt_of_cell? w1 _ h)]; exact h
theorem getD_set_eq {p : List Int} {r : Nat} (h : r < p.length) (x : Int) : (p.set r x).getD r 0 = x := by simp [List.getD, h]

end Go.Proofs.Ytmjncedijddmmaa
/-
  Contracts: SignatureOf, ReducedSignature, ArrowUp, ArrowDown and ArrowCounts of the model.
-/
namespace Go.Proofs.Ytmjncedijddmmaa
open Go.RowKit

def sgF (xs : List Int) (t i : Int) : ByteArray := if asB xs t i then strOf (ltrs (sig xs t.toNat i)) else ByteArray.empty
end Go.Proofs.Ytmjncedijddmmaa
/-
  Contracts: ReducedSignature and ArrowCounts of the model.
-/
namespace Go.Proofs.Ytmjncedijddmmaa
open Go.RowKit

def rdOk (s : ByteArray) : Bool := decide (s.size ≤ 100) && (bl s).all fun c => c == 65 || c == 82
def rdF (s : ByteArray) : ByteArray := if rdOk s then strOf (ltrs (red (idx (bl s)))) else ByteArray.empty
theorem rd_no {s : ByteArray} {k : Nat} (h : k < s.size) (h1 : s[k] ≠ 65) (h2 : s[k] ≠ 82) : rdOk s = false := by
  have : ((bl s).all fun c => c == 65 || c == 82) = false := by
    rw [List.all_eq_false]
    refine ⟨s[k], by rw [← bl_get s k h]; exact List.getElem_mem _, by simp [h1, h2]⟩
  simp [rdOk, this]
theorem rd_yes {s : ByteArray} (h : s.size ≤ 100) (hk : ∀ k, (h : k < s.size) → s[k] = 65 ∨ s[k] = 82) : rdOk s = true := by
  have : ((bl s).all fun c => c == 65 || c == 82) = true := by
    rw [List.all_eq_true]
    intro c hc
    obtain ⟨k, hkl, rfl⟩ := List.getElem_of_mem hc
    rw [bl_len] at hkl
    rw [bl_get s k hkl]
    rcases hk k hkl with e | e <;> simp [e]
  simp [rdOk, this, h]

end Go.Proofs.Ytmjncedijddmmaa
