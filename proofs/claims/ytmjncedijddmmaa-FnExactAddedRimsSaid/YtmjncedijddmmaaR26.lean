/-
  Several texts in one.
-/
import Derived.Test.YtmjncedijddmmaaR25
import Derived.Test.YtmjncedijddmmaaCB
import Derived.Test.YtmjncedijddmmaaR07
import Derived.Test.YtmjncedijddmmaaR11
/-
  Contract: the partition of a border word, the model's side.
-/
namespace Go.Proofs.Ytmjncedijddmmaa
open Go.RowKit

def bl (s : ByteArray) : List UInt8 := s.data.toList
theorem bl_len (s : ByteArray) : (bl s).length = s.size := by
  show s.data.toList.length = s.data.size
  exact Array.length_toList
theorem bl_get (s : ByteArray) (k : Nat) (h : k < s.size) : (bl s)[k]'(by rw [bl_len]; exact h) = s[k] := by
  show s.data.toList[k]'_ = s.data[k]'_
  exact Array.getElem_toList _
def ruB (l : List UInt8) : Bool := l.all fun c => c == 82 || c == 85
theorem ruB_iff (l : List UInt8) : ruB l = true ↔ RU l := by simp [ruB, RU]
def fromP (s : ByteArray) : List Int := (fb (bl s)).1
def fromOK (s : ByteArray) : Bool := decide (s.size ≤ 60) && (ruB (bl s) && (good (fromP s) && decide (wordL (fromP s) = bl s)))
def fromF (s : ByteArray) : List Int := if fromOK s then fromP s else []
theorem from_no {s : ByteArray} (h : fromOK s = false) : fromF s = [] := by simp [fromF, h]
theorem from_yes {s : ByteArray} (h : fromOK s = true) : fromF s = fromP s := by simp [fromF, h]
theorem bound_FromBorder (s : ByteArray) : (fromF s).length ≤ 1048576 := by
  unfold fromF
  split
  · rename_i h
    have h60 : s.size ≤ 60 := by simp only [fromOK, Bool.and_eq_true, decide_eq_true_eq] at h; exact h.1
    have := (fb_len (bl s)).2.2
    rw [bl_len] at this
    unfold fromP; omega
  · simp
theorem strOf_bl (s : ByteArray) : strOf (bl s) = s := by cases s; simp [strOf, bl]
theorem no_ru {s : ByteArray} {k : Nat} (h : k < s.size) (h1 : s[k] ≠ 82) (h2 : s[k] ≠ 85) : fromOK s = false := by
  have : ¬ RU (bl s) := fun hr => by
    have := hr (s[k]) (by rw [← bl_get s k h]; exact List.getElem_mem _)
    rcases this with e | e
    · exact h1 e
    · exact h2 e
  have e : ruB (bl s) = false := by cases hb : ruB (bl s); rfl; exact absurd ((ruB_iff _).1 hb) this
  simp [fromOK, e]
theorem ru_take {s : ByteArray} {k : Nat} (h : k < s.size) (hr : RU ((bl s).take k)) (hc : s[k] = 82 ∨ s[k] = 85) : RU ((bl s).take (k + 1)) := by
  rw [List.take_succ_eq_append_getElem (by rw [bl_len]; exact h), bl_get s k h]
  intro c hc'
  rcases List.mem_append.1 hc' with h1 | h1
  · exact hr c h1
  · simp at h1; subst h1; exact hc
theorem fb_next (s : ByteArray) (k : Nat) (h : k < s.size) : fb ((bl s).take (k + 1)) = fbStep (fb ((bl s).take k)) s[k] := by
  rw [fb_take _ _ (by rw [bl_len]; exact h), bl_get s k h]
theorem bytes_ne {a b : ByteArray} (h : a ≠ b) : (a.toList == b.toList) = false := by
  rw [beq_eq_false_iff_ne]
  intro e
  rw [ByteArray.toList_eq, ByteArray.toList_eq] at e
  exact h (ByteArray.ext (Array.toList_inj.1 e))

end Go.Proofs.Ytmjncedijddmmaa
/-
  Slices of ints cut at a place.
-/
namespace Go.Proofs.Ytmjncedijddmmaa
open Go.RowKit

def cutI (A : Option Addr) (c k : Nat) : Option Addr := if c = k then A else A.map (·.add (k * 1))
theorem cutI_zero (A : Option Addr) : A.map (·.add (0 * 1)) = A := by cases A <;> rfl
theorem sizeIntI (w : World) : (sizeOf (Try.prog.elem 22)).run Try.prog w = .ok 1 w := by
  obtain ⟨i1, hj, hy0, hy1, hy2⟩ := info_parts Try.infoInt
  have e : Try.prog.elem 22 = 3 := by kernel_rfl
  rw [e]
  simp [sizeOf, typeInfo, hj, hy1]
theorem undIntI : Try.prog.underlying 22 = some (.slice (Try.prog.elem 22)) := by kernel_rfl
theorem runI_cut_hi (A : Option Addr) (len c k : Nat) (hk : k ≤ c) (w : World) :
    (Instr.slice 22 (.slice A len c) none (some (.int .i64 k)) none).run Try.prog w = .ok (.slice A k c) w := by
  rw [run_slice_h (ht := undIntI) (kh := .i64) (h := (k : Int)) (h0 := by omega) (h2 := by omega), sizeIntI]
  simp only [Result.andThen, sliced, Int.toNat_natCast, Nat.sub_zero]
  congr 2
  split
  · rfl
  · exact cutI_zero A
theorem runI_cut_lo (A : Option Addr) (len c k : Nat) (hk : k ≤ len) (w : World) :
    (Instr.slice 22 (.slice A len c) (some (.int .i64 k)) none none).run Try.prog w = .ok (.slice (cutI A c k) (len - k) (c - k)) w := by
  rw [run_slice_l (ht := undIntI) (kl := .i64) (l := (k : Int)) (h0 := by omega) (h1 := by omega), sizeIntI]
  simp only [Result.andThen, sliced, Int.toNat_natCast]
  rfl
theorem runI_cut_lo1 (A : Option Addr) (len c k : Nat) (hk : k + 1 ≤ len) (w : World) :
    (Instr.slice 22 (.slice A len c) (some (.int .i64 ((k : Int) + 1))) none none).run Try.prog w = .ok (.slice (cutI A c (k + 1)) (len - (k + 1)) (c - (k + 1))) w := by
  have h := runI_cut_lo A len c (k + 1) hk w
  rwa [Int.natCast_add] at h
theorem Own.cap {w : World} {B : Nat} {A : Option Addr} {c : Nat} {xs : List Int} (h : Own w B A c xs) : xs.length ≤ c := by
  rcases h.2 with ⟨_, h0⟩ | ⟨g, cap, cur, hv, _, _, hcap, _⟩
  · omega
  · injection hv with h1 _ h3
    omega
theorem Cells.cut {w : World} {A : Option Addr} {xs : List Int} (h : Cells w A xs) (c k : Nat) (hc : xs.length ≤ c) : Cells w (cutI A c k) (xs.drop k) := by
  intro h0
  rw [List.length_drop] at h0
  obtain ⟨b, o, e, hh⟩ := h (by omega)
  refine ⟨b, o + k, ?_, fun j hj => ?_⟩
  · unfold cutI; rw [if_neg (by omega), e, Nat.mul_one, Option.map_some]; congr 1; unfold Addr.add; split <;> simp_all
  · rw [List.length_drop] at hj
    rw [Nat.add_assoc, hh (k + j) (by omega), List.getD_eq_getElem?_getD, List.getD_eq_getElem?_getD, List.getElem?_drop]
theorem Cells.cutHi {w : World} {A : Option Addr} {xs : List Int} (h : Cells w A xs) (k : Nat) : Cells w A (xs.take k) := by
  intro h0
  rw [List.length_take] at h0
  obtain ⟨b, o, e, hh⟩ := h (by omega)
  refine ⟨b, o, e, fun j hj => ?_⟩
  rw [List.length_take] at hj
  rw [hh j (by omega), List.getD_eq_getElem?_getD, List.getD_eq_getElem?_getD, List.getElem?_take, if_pos (by omega)]
end Go.Proofs.Ytmjncedijddmmaa
/-
  Contracts: a copy of any row of ints that a caller has: slices.Clone and the model's own.
-/
namespace Go.Proofs.Ytmjncedijddmmaa
open Go.RowKit

theorem cellsNewsC {w : World} {ad : Addr} {xs : List Int} (hc : Cells w (some ad) xs) : ∀ k u, (IL xs)[k]? = some u → w.cell? (ad.add k) = some u := by
  intro k u hu
  have hk : k < xs.length := by
    have := (List.getElem?_eq_some_iff.1 hu).1
    simpa [IL] using this
  obtain ⟨b, o', he, hcc⟩ := hc (by omega)
  have h := hcc k hk
  rw [IL_get xs k hk] at hu
  injection he with he
  subst he
  have e : (⟨b, o', none⟩ : Addr).add k = ⟨b, o' + k, none⟩ := by unfold Addr.add; split <;> simp_all
  rw [e, h, hu]

theorem cloneC_any (A : Option Addr) (c : Nat) (xs : List Int) (w : World) (hl : xs.length ≤ 1048576) (hno : A = none → xs.length = 0 ∧ c = 0) (hc : Cells w A xs) :
    Calls Try.prog 64 #[.slice A xs.length c] w fun e w' => ∃ A' c', e = .returned (.slice A' xs.length c') ∧ Own w' w.heap.size A' c' xs ∧ Below w.heap.size w w' := by
  cases A with
  | none =>
    obtain ⟨h0, rfl⟩ := hno rfl
    have e : xs = [] := List.eq_nil_of_length_eq_zero h0
    subst e
    exact cloneOwn_any (B := w.heap.size) none 0 [] w (by simp) (own_nil _ _)
  | some ad =>
    obtain ⟨i0, hi, hz0, hz1, hz2⟩ := info_parts Try.infoInt
    have hm0 := World.ownsRow_made (base := w.heap.size) (e := 3) (size := 1) w #[] 0 (Nat.le_refl _) (by unfold maxLen; omega) rfl
    have hb0 : Below w.heap.size w (w.alloc (.cells #[] 3)) := (Below.refl _ _).alloc (Nat.le_refl _) _
    have hat := cellsNewsC (hc.later hb0)
    have hnil := fun w => Lib.run_eql_slice_nil (P := Try.prog) w 22 3 (some ad) xs.length c 0 0 Try.underlying22
    go_enter Try.func64, Try.ntmps64
    go_wp2_with (at_builtin; refine wpList_append_own _ rfl _ _ 22 rfl w.heap.size 3 i0 (.int .i64 0) 1 8 Try.underlying22 hi hz0 hz1 hz2 rfl (by decide) _ 0 [] rfl hm0 ad xs.length c (IL xs) rfl (by simp [IL]) hat (IL_oneC xs) (by unfold maxLen; omega) (by omega) (by simp) ?_)
    intro v' w1 hown' hgrow _
    have hb1 : Below w.heap.size w w1 := hb0.grown hgrow (by simp) (fun q hq => (hm0.lt q hq).1)
    obtain ⟨A', c', rfl, ho'⟩ := own_form hown' rfl
    clear hown' hgrow
    go_wp2_with fail
    go_ret
    exact ⟨A', c', rfl, ho', hb1⟩
end Go.Proofs.Ytmjncedijddmmaa
