/-
  Several texts in one.
-/
import Derived.Test.YtkbdlhmkiolegaaR19
import Derived.Test.YtkbdlhmkiolegaaCB
/-
  The partition that a border word tells: plain mathematics.
-/
namespace Go.Proofs.Ytkbdlhmkiolegaa
open Go.RowKit

def fbStep (s : List Int × Nat) (c : UInt8) : List Int × Nat :=
  if c = 82 then (s.1, s.2 + 1) else if c = 85 then ((s.2 : Int) :: s.1, s.2) else s
def fb (l : List UInt8) : List Int × Nat := l.foldl fbStep ([], 0)
def RU (l : List UInt8) : Prop := ∀ c ∈ l, c = 82 ∨ c = 85
theorem fb_snoc (l : List UInt8) (c : UInt8) : fb (l ++ [c]) = fbStep (fb l) c := by simp [fb, List.foldl_append]
theorem fb_R (l : List UInt8) : fb (l ++ [82]) = ((fb l).1, (fb l).2 + 1) := by rw [fb_snoc]; rfl
theorem fb_U (l : List UInt8) : fb (l ++ [85]) = (((fb l).2 : Int) :: (fb l).1, (fb l).2) := by rw [fb_snoc]; rfl
/-- The columns passed before the row that is drawn next. -/
def hd (p : List Int) : Nat := prevN p p.length
theorem hd_nil : hd [] = 0 := rfl
theorem hd_cons (x : Nat) (p : List Int) : hd ((x : Int) :: p) = x := by simp [hd, prevN, pn]
theorem pn_cons (x : Int) (p : List Int) (j : Nat) : pn (x :: p) (j + 1) = pn p j := by simp [pn]
theorem prevN_cons (x : Int) (p : List Int) (d : Nat) (h : d ≤ p.length) : prevN (x :: p) d = prevN p d := by
  unfold prevN
  split
  · rfl
  · rw [List.length_cons, show p.length + 1 - d = (p.length - d) + 1 by omega, pn_cons]
theorem wordUp_cons (x : Int) (p : List Int) : ∀ d, d ≤ p.length → wordUp (x :: p) d = wordUp p d
  | 0, _ => rfl
  | d + 1, h => by
    simp only [wordUp]
    rw [wordUp_cons x p d (by omega), prevN_cons x p d (by omega), List.length_cons, show p.length + 1 - 1 - d = (p.length - 1 - d) + 1 by omega, pn_cons]
theorem wordL_cons (x : Nat) (p : List Int) : wordL ((x : Int) :: p) = wordL p ++ (List.replicate (x - hd p) 82 ++ [85]) := by
  unfold wordL
  rw [List.length_cons]
  simp only [wordUp]
  rw [wordUp_cons _ p p.length (Nat.le_refl _), prevN_cons _ p p.length (Nat.le_refl _), List.length_cons, show p.length + 1 - 1 - p.length = 0 by omega]
  simp [pn, hd]
theorem rev_ind {α : Type} {P : List α → Prop} (h0 : P []) (h1 : ∀ l c, P l → P (l ++ [c])) (l : List α) : P l := by
  rw [← List.reverse_reverse l]
  induction l.reverse with
  | nil => exact h0
  | cons c t ih => rw [List.reverse_cons]; exact h1 _ _ ih
theorem fb_word (l : List UInt8) : RU l → hd (fb l).1 ≤ (fb l).2 ∧ wordL (fb l).1 ++ List.replicate ((fb l).2 - hd (fb l).1) 82 = l := by
  refine rev_ind (P := fun l => RU l → hd (fb l).1 ≤ (fb l).2 ∧ wordL (fb l).1 ++ List.replicate ((fb l).2 - hd (fb l).1) 82 = l) (fun _ => ⟨Nat.le_refl _, rfl⟩) ?_ l
  intro l c ih h
  obtain ⟨h1, h2⟩ := ih fun x hx => h x (by simp [hx])
  rcases h c (by simp) with rfl | rfl
  · rw [fb_R]
    refine ⟨Nat.le_succ_of_le h1, ?_⟩
    show wordL (fb l).1 ++ List.replicate ((fb l).2 + 1 - hd (fb l).1) 82 = l ++ [82]
    rw [show (fb l).2 + 1 - hd (fb l).1 = (fb l).2 - hd (fb l).1 + 1 by omega, List.replicate_succ', ← List.append_assoc, h2]
  · rw [fb_U]
    show hd (((fb l).2 : Int) :: (fb l).1) ≤ (fb l).2 ∧ wordL (((fb l).2 : Int) :: (fb l).1) ++ List.replicate ((fb l).2 - hd (((fb l).2 : Int) :: (fb l).1)) 82 = l ++ [85]
    rw [hd_cons, wordL_cons, ← List.append_assoc, h2]
    exact ⟨Nat.le_refl _, by simp⟩
theorem fb_len (l : List UInt8) : (fb l).1.length = l.count 85 ∧ (fb l).2 ≤ l.length ∧ (fb l).1.length ≤ l.length := by
  refine rev_ind (P := fun l => (fb l).1.length = l.count 85 ∧ (fb l).2 ≤ l.length ∧ (fb l).1.length ≤ l.length) ⟨rfl, Nat.le_refl _, Nat.le_refl _⟩ ?_ l
  rintro l c ⟨h1, h2, h3⟩
  rw [fb_snoc, List.count_append, List.length_append]
  unfold fbStep
  split
  · rename_i h; subst h; refine ⟨?_, ?_, ?_⟩ <;> simp_all <;> omega
  · split
    · rename_i h; subst h; refine ⟨?_, ?_, ?_⟩ <;> simp_all <;> omega
    · rename_i h; refine ⟨?_, ?_, ?_⟩ <;> simp_all <;> omega
def ends (l : List UInt8) : Prop := l = [] ∨ (l.head? = some 82 ∧ l.getLast? = some 85)
theorem wordUp_head (p : List Int) (h : 0 < pn p (p.length - 1)) : ∀ d, (wordUp p (d + 1)).head? = some 82
  | 0 => by
    simp only [wordUp, prevN, Nat.sub_zero, List.nil_append]
    obtain ⟨k, hk⟩ : ∃ k, pn p (p.length - 1) = k + 1 := ⟨_, (Nat.succ_pred_eq_of_pos h).symm⟩
    rw [hk]; simp [List.replicate_succ]
  | d + 1 => by
    have ih := wordUp_head p h d
    rw [wordUp]
    rw [List.head?_append, ih]; rfl
theorem word_ends (p : List Int) (G : Good p) : ends (wordL p) := by
  rcases Nat.eq_zero_or_pos p.length with h | h
  · left; unfold wordL; rw [h]; rfl
  · right
    obtain ⟨k, hk⟩ : ∃ k, p.length = k + 1 := ⟨_, (Nat.succ_pred_eq_of_pos h).symm⟩
    unfold wordL
    have hp : 0 < pn p (p.length - 1) := by have := G.pos (p.length - 1) (by omega); unfold pn; omega
    refine ⟨by rw [hk]; exact wordUp_head p hp k, ?_⟩
    rw [hk, wordUp, ← List.append_assoc, List.getLast?_concat]
theorem fb_ends (l : List UInt8) (hr : RU l) (G : Good (fb l).1) : wordL (fb l).1 = l ↔ ends l := by
  constructor
  · intro h; rw [← h]; exact word_ends _ G
  · intro h
    obtain ⟨h1, h2⟩ := fb_word l hr
    have e : (fb l).2 = hd (fb l).1 := by
      rcases h with rfl | ⟨_, h⟩
      · rfl
      · have hne : l ≠ [] := by rintro rfl; simp at h
        obtain ⟨m, hm⟩ : ∃ m, l = m ++ [85] := ⟨l.dropLast, by
          rw [List.getLast?_eq_some_getLast hne] at h
          have := List.dropLast_concat_getLast hne
          rw [Option.some.inj h] at this; exact this.symm⟩
        rw [hm, fb_U]; exact (hd_cons _ _).symm
    rw [e, Nat.sub_self, List.replicate_zero, List.append_nil] at h2
    exact h2
theorem fb_take (l : List UInt8) (i : Nat) (h : i < l.length) : fb (l.take (i + 1)) = fbStep (fb (l.take i)) l[i] := by
  rw [List.take_succ_eq_append_getElem h, fb_snoc]
end Go.Proofs.Ytkbdlhmkiolegaa
/-
  Contract: the partition of a border word, the model's side.
-/
namespace Go.Proofs.Ytkbdlhmkiolegaa
open Go.RowKit

def bl (s : ByteArray) : List UInt8 := s.data.toList
theorem bl_len (s : ByteArray) : (bl s).length = s.size := by
  show s.data.toList.length = s.data.size
  exact Array.length_toList
theorem bl_get (s : ByteArray) (k : Nat) (h : k < s.size) : (bl s)[k]'(by rw [bl_len]; exact h) = s[k] := by
  show s.data.toList[k]'_ = s.data[k]'_
  exact Array.getElem_toList _
def ruB (l : List UInt8) : Bool := l.all fun c => c == 82 || c == 85
theorem ruB_iff (l : List UInt8) : ruB l = true ↔ RU l := by simp [ruB, RU]
def fromP (s : ByteArray) : List Int := (fb (bl s)).1
def fromOK (s : ByteArray) : Bool := decide (s.size ≤ 60) && (ruB (bl s) && (good (fromP s) && decide (wordL (fromP s) = bl s)))
def fromF (s : ByteArray) : List Int := if fromOK s then fromP s else []
theorem from_no {s : ByteArray} (h : fromOK s = false) : fromF s = [] := by simp [fromF, h]
theorem from_yes {s : ByteArray} (h : fromOK s = true) : fromF s = fromP s := by simp [fromF, h]
theorem bound_FromBorder (s : ByteArray) : (fromF s).length ≤ 1048576 := by
  unfold fromF
  split
  · rename_i h
    have h60 : s.size ≤ 60 := by simp only [fromOK, Bool.and_eq_true, decide_eq_true_eq] at h; exact h.1
    have := (fb_len (bl s)).2.2
    rw [bl_len] at this
    unfold fromP; omega
  · simp
theorem strOf_bl (s : ByteArray) : strOf (bl s) = s := by cases s; simp [strOf, bl]
theorem no_ru {s : ByteArray} {k : Nat} (h : k < s.size) (h1 : s[k] ≠ 82) (h2 : s[k] ≠ 85) : fromOK s = false := by
  have : ¬ RU (bl s) := fun hr => by
    have := hr (s[k]) (by rw [← bl_get s k h]; exact List.getElem_mem _)
    rcases this with e | e
    · exact h1 e
    · exact h2 e
  have e : ruB (bl s) = false := by cases hb : ruB (bl s); rfl; exact absurd ((ruB_iff _).1 hb) this
  simp [fromOK, e]
theorem ru_take {s : ByteArray} {k : Nat} (h : k < s.size) (hr : RU ((bl s).take k)) (hc : s[k] = 82 ∨ s[k] = 85) : RU ((bl s).take (k + 1)) := by
  rw [List.take_succ_eq_append_getElem (by rw [bl_len]; exact h), bl_get s k h]
  intro c hc'
  rcases List.mem_append.1 hc' with h1 | h1
  · exact hr c h1
  · simp at h1; subst h1; exact hc
theorem fb_next (s : ByteArray) (k : Nat) (h : k < s.size) : fb ((bl s).take (k + 1)) = fbStep (fb ((bl s).take k)) s[k] := by
  rw [fb_take _ _ (by rw [bl_len]; exact h), bl_get s k h]
theorem bytes_ne {a b : ByteArray} (h : a ≠ b) : (a.toList == b.toList) = false := by
  rw [beq_eq_false_iff_ne]
  intro e
  rw [ByteArray.toList_eq, ByteArray.toList_eq] at e
  exact h (ByteArray.ext (Array.toList_inj.1 e))

end Go.Proofs.Ytkbdlhmkiolegaa
/-
  Slices of ints cut at a place.
-/
namespace Go.Proofs.Ytkbdlhmkiolegaa
open Go.RowKit

def cutI (A : Option Addr) (c k : Nat) : Option Addr := if c = k then A else A.map (·.add (k * 1))
theorem cutI_zero (A : Option Addr) : A.map (·.add (0 * 1)) = A := by cases A <;> rfl
theorem sizeIntI (w : World) : (sizeOf (Try.prog.elem 22)).run Try.prog w = .ok 1 w := by
  obtain ⟨i1, hj, hy0, hy1, hy2⟩ := info_parts Try.infoInt
  have e : Try.prog.elem 22 = 3 := by kernel_rfl
  rw [e]
  simp [sizeOf, typeInfo, hj, hy1]
theorem undIntI : Try.prog.underlying 22 = some (.slice (Try.prog.elem 22)) := by kernel_rfl
theorem runI_cut_hi (A : Option Addr) (len c k : Nat) (hk : k ≤ c) (w : World) :
    (Instr.slice 22 (.slice A len c) none (some (.int .i64 k)) none).run Try.prog w = .ok (.slice A k c) w := by
  rw [run_slice_h (ht := undIntI) (kh := .i64) (h := (k : Int)) (h0 := by omega) (h2 := by omega), sizeIntI]
  simp only [Result.andThen, sliced, Int.toNat_natCast, Nat.sub_zero]
  congr 2
  split
  · rfl
  · exact cutI_zero A
theorem runI_cut_lo (A : Option Addr) (len c k : Nat) (hk : k ≤ len) (w : World) :
    (Instr.slice 22 (.slice A len c) (some (.int .i64 k)) none none).run Try.prog w = .ok (.slice (cutI A c k) (len - k) (c - k)) w := by
  rw [run_slice_l (ht := undIntI) (kl := .i64) (l := (k : Int)) (h0 := by omega) (h1 := by omega), sizeIntI]
  simp only [Result.andThen, sliced, Int.toNat_natCast]
  rfl
theorem runI_cut_lo1 (A : Option Addr) (len c k : Nat) (hk : k + 1 ≤ len) (w : World) :
    (Instr.slice 22 (.slice A len c) (some (.int .i64 ((k : Int) + 1))) none none).run Try.prog w = .ok (.slice (cutI A c (k + 1)) (len - (k + 1)) (c - (k + 1))) w := by
  have h := runI_cut_lo A len c (k + 1) hk w
  rwa [Int.natCast_add] at h
theorem Own.cap {w : World} {B : Nat} {A : Option Addr} {c : Nat} {xs : List Int} (h : Own w B A c xs) : xs.length ≤ c := by
  rcases h.2 with ⟨_, h0⟩ | ⟨g, cap, cur, hv, _, _, hcap, _⟩
  · omega
  · injection hv with h1 _ h3
    omega
theorem Cells.cut {w : World} {A : Option Addr} {xs : List Int} (h : Cells w A xs) (c k : Nat) (hc : xs.length ≤ c) : Cells w (cutI A c k) (xs.drop k) := by
  intro h0
  rw [List.length_drop] at h0
  obtain ⟨b, o, e, hh⟩ := h (by omega)
  refine ⟨b, o + k, ?_, fun j hj => ?_⟩
  · unfold cutI; rw [if_neg (by omega), e, Nat.mul_one, Option.map_some]; congr 1; unfold Addr.add; split <;> simp_all
  · rw [List.length_drop] at hj
    rw [Nat.add_assoc, hh (k + j) (by omega), List.getD_eq_getElem?_getD, List.getD_eq_getElem?_getD, List.getElem?_drop]
theorem Cells.cutHi {w : World} {A : Option Addr} {xs : List Int} (h : Cells w A xs) (k : Nat) : Cells w A (xs.take k) := by
  intro h0
  rw [List.length_take] at h0
  obtain ⟨b, o, e, hh⟩ := h (by omega)
  refine ⟨b, o, e, fun j hj => ?_⟩
  rw [List.length_take] at hj
  rw [hh j (by omega), List.getD_eq_getElem?_getD, List.getD_eq_getElem?_getD, List.getElem?_take, if_pos (by omega)]
end Go.Proofs.Ytkbdlhmkiolegaa
