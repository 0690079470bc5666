/-
  Contract: the partition of a border word, the model's side.
-/
import Derived.Test.YtjhcbbafldflaaaDoorFromMath
import Derived.Test.YtjhcbbafldflaaaDoorCB
namespace Go.Proofs.YtjhcbbafldflaaaDoor
open Go.RowKit

def bl (s : ByteArray) : List UInt8 := s.data.toList
theorem bl_len (s : ByteArray) : (bl s).length = s.size := by
  show s.data.toList.length = s.data.size
  exact Array.length_toList
theorem bl_get (s : ByteArray) (k : Nat) (h : k < s.size) : (bl s)[k]'(by rw [bl_len]; exact h) = s[k] := by
  show s.data.toList[k]'_ = s.data[k]'_
  exact Array.getElem_toList _
def ruB (l : List UInt8) : Bool := l.all fun c => c == 82 || c == 85
theorem ruB_iff (l : List UInt8) : ruB l = true ↔ RU l := by simp [ruB, RU]
def fromP (s : ByteArray) : List Int := (fb (bl s)).1
def fromOK (s : ByteArray) : Bool := decide (s.size ≤ 60) && (ruB (bl s) && (good (fromP s) && decide (wordL (fromP s) = bl s)))
def fromF (s : ByteArray) : List Int := if fromOK s then fromP s else []
theorem from_no {s : ByteArray} (h : fromOK s = false) : fromF s = [] := by simp [fromF, h]
theorem from_yes {s : ByteArray} (h : fromOK s = true) : fromF s = fromP s := by simp [fromF, h]
theorem bound_FromBorder (s : ByteArray) : (fromF s).length ≤ 1048576 := by
  unfold fromF
  split
  · rename_i h
    have h60 : s.size ≤ 60 := by simp only [fromOK, Bool.and_eq_true, decide_eq_true_eq] at h; exact h.1
    have := (fb_len (bl s)).2.2
    rw [bl_len] at this
    unfold fromP; omega
  · simp
theorem strOf_bl (s : ByteArray) : strOf (bl s) = s := by cases s; simp [strOf, bl]
theorem no_ru {s : ByteArray} {k : Nat} (h : k < s.size) (h1 : s[k] ≠ 82) (h2 : s[k] ≠ 85) : fromOK s = false := by
  have : ¬ RU (bl s) := fun hr => by
    have := hr (s[k]) (by rw [← bl_get s k h]; exact List.getElem_mem _)
    rcases this with e | e
    · exact h1 e
    · exact h2 e
  have e : ruB (bl s) = false := by cases hb : ruB (bl s); rfl; exact absurd ((ruB_iff _).1 hb) this
  simp [fromOK, e]
theorem ru_take {s : ByteArray} {k : Nat} (h : k < s.size) (hr : RU ((bl s).take k)) (hc : s[k] = 82 ∨ s[k] = 85) : RU ((bl s).take (k + 1)) := by
  rw [List.take_succ_eq_append_getElem (by rw [bl_len]; exact h), bl_get s k h]
  intro c hc'
  rcases List.mem_append.1 hc' with h1 | h1
  · exact hr c h1
  · simp at h1; subst h1; exact hc
theorem fb_next (s : ByteArray) (k : Nat) (h : k < s.size) : fb ((bl s).take (k + 1)) = fbStep (fb ((bl s).take k)) s[k] := by
  rw [fb_take _ _ (by rw [bl_len]; exact h), bl_get s k h]
theorem bytes_ne {a b : ByteArray} (h : a ≠ b) : (a.toList == b.toList) = false := by
  rw [beq_eq_false_iff_ne]
  intro e
  rw [ByteArray.toList_eq, ByteArray.toList_eq] at e
  exact h (ByteArray.ext (Array.toList_inj.1 e))

end Go.Proofs.YtjhcbbafldflaaaDoor
