/-
  Several texts in one.
-/
import Derived.Test.YtiebnnchaopbkaaR22
import Derived.Test.YtiebnnchaopbkaaR11
import Derived.Test.YtiebnnchaopbkaaCB
/-
  GreatestBoth on both sides.
-/
namespace Go.Proofs.Ytiebnnchaopbkaa
open Go.RowKit

theorem gaps_okN : ∀ a < 8, ∀ b < 8, sz ((a : Nat) : Int) ((b : Nat) : Int) = true → ffOk (gapsL (a : Int) (b : Int)) = true := by decide +kernel
theorem sz_nat {p : Int → Int → Prop} (h : ∀ a < 8, ∀ b < 8, sz ((a : Nat) : Int) ((b : Nat) : Int) = true → p (a : Int) (b : Int)) {a b : Int} (hs : sz a b = true) : p a b := by
  obtain ⟨ha, hb, -⟩ := sz_iff.1 hs
  have := h a.toNat (by omega) b.toNat (by omega)
  rw [Int.toNat_of_nonneg (by omega), Int.toNat_of_nonneg (by omega)] at this
  exact this hs
theorem gaps_ok {a b : Int} (hs : sz a b = true) : ffOk (gapsL a b) = true := sz_nat (p := fun a b => ffOk (gapsL a b) = true) gaps_okN hs
def greatF (a b : Int) : List Int := if sz a b then partsL (gapsL a b) else []
theorem gapsL_len {a b : Int} (hs : sz a b = true) : (gapsL a b).length ≤ 30 := by
  have := gaps_ok hs
  simp only [ffOk, Bool.and_eq_true, decide_eq_true_eq] at this
  exact this.1
theorem bound_GreatestBoth (a b : Int) : (greatF a b).length ≤ 1048576 := by
  unfold greatF
  split
  · rename_i h
    have := gapsL_len h
    have := partsL_len (gapsL a b); omega
  · exact Nat.zero_le _

end Go.Proofs.Ytiebnnchaopbkaa
/-
  Whether a list has a number: slices.Contains at []int and at firstHooks, the model's l1Has.
-/
namespace Go.Proofs.Ytiebnnchaopbkaa
open Go.RowKit

/-- Whether n - s is among the hooks, or n is at most s. -/
def hbB (xs : List Int) (n s : Int) : Bool := decide (n ≤ s) || decide (n - s ∈ xs)
end Go.Proofs.Ytiebnnchaopbkaa
/-
  Closed gaps: contracts of isClosed (program) and boClosed (model), AreClosedHooks on both sides.
-/
namespace Go.Proofs.Ytiebnnchaopbkaa
open Go.RowKit

/-- Whether the number at j, behind the one before it, is a gap that the others allow. -/
def okC (a b : Int) (xs : List Int) (j : Nat) : Bool := (decide (j = 0) || decide (xs.getD (j - 1) 0 < xs.getD j 0)) && (decide (xs.getD j 0 ∈ gapsL a b) && (hbB xs (xs.getD j 0) a && hbB xs (xs.getD j 0) b))
def clB (a b : Int) (xs : List Int) : Bool := (List.range xs.length).all (okC a b xs)
theorem clB_iff {a b : Int} {xs : List Int} : clB a b xs = true ↔ ∀ j, j < xs.length → okC a b xs j = true := by
  unfold clB; rw [List.all_eq_true]
  exact ⟨fun h j hj => h j (List.mem_range.2 hj), fun h j hj => h j (List.mem_range.1 hj)⟩
theorem clB_no {a b : Int} {xs : List Int} {k : Nat} (hk : k < xs.length) (h : okC a b xs k = false) : clB a b xs = false := by
  cases e : clB a b xs
  · rfl
  · have := clB_iff.1 e k hk; rw [this] at h; cases h
theorem mem_gapsL {a b x : Int} : x ∈ gapsL a b ↔ 1 ≤ x ∧ x < a * b ∧ sumA a b x = false := by
  unfold gapsL gpL
  simp only [List.mem_map, List.mem_filter, List.mem_range, gpN, Bool.and_eq_true, decide_eq_true_eq, Bool.not_eq_true']
  constructor
  · rintro ⟨n, ⟨h1, h2, h3⟩, rfl⟩
    exact ⟨by omega, by omega, h3⟩
  · rintro ⟨h1, h2, h3⟩
    exact ⟨x.toNat, ⟨by omega, by omega, by rw [Int.toNat_of_nonneg (by omega)]; exact h3⟩, Int.toNat_of_nonneg (by omega)⟩
theorem okC_parts {a b : Int} {xs : List Int} {j : Nat} : okC a b xs j = true ↔ (j = 0 ∨ xs.getD (j - 1) 0 < xs.getD j 0) ∧ xs.getD j 0 ∈ gapsL a b ∧ hbB xs (xs.getD j 0) a = true ∧ hbB xs (xs.getD j 0) b = true := by
  simp only [okC, Bool.and_eq_true, Bool.or_eq_true, decide_eq_true_eq]
theorem gpL_mono (f : Nat → Bool) (k : Nat) : ∀ m, (gpL f k).length ≤ (gpL f (k + m)).length
  | 0 => Nat.le_refl _
  | m + 1 => by
    have := gpL_mono f k m
    cases h : f (k + m)
    · rw [show k + (m + 1) = (k + m) + 1 from rfl, gpL_f h]; exact this
    · rw [show k + (m + 1) = (k + m) + 1 from rfl, gpL_t h, List.length_append]; omega
theorem gpL_mono' (f : Nat → Bool) {k m : Nat} (h : k ≤ m) : (gpL f k).length ≤ (gpL f m).length := by
  have := gpL_mono f k (m - k); rwa [show k + (m - k) = m by omega] at this
theorem cl_rank {a b : Int} {xs : List Int} (h : clB a b xs = true) : ∀ j, j < xs.length → j + 1 ≤ (gpL (gpN a b) ((xs.getD j 0).toNat + 1)).length
  | 0, hj => by
    obtain ⟨-, hm, -⟩ := okC_parts.1 (clB_iff.1 h 0 hj)
    obtain ⟨h1, h2, h3⟩ := mem_gapsL.1 hm
    rw [gpL_t (by simp only [gpN]; rw [Int.toNat_of_nonneg (by omega), h3, decide_eq_true (by omega)]; rfl), List.length_append]
    show 0 + 1 ≤ _ + 1
    omega
  | j + 1, hj => by
    have ih := cl_rank h j (by omega)
    obtain ⟨ho, hm, -⟩ := okC_parts.1 (clB_iff.1 h (j + 1) hj)
    obtain ⟨h1, h2, h3⟩ := mem_gapsL.1 hm
    have hlt : xs.getD j 0 < xs.getD (j + 1) 0 := by
      rcases ho with ho | ho
      · omega
      · exact ho
    have hm2 := (okC_parts.1 (clB_iff.1 h j (by omega))).2.1
    have h4 := (mem_gapsL.1 hm2).1
    have := gpL_mono' (gpN a b) (k := (xs.getD j 0).toNat + 1) (m := (xs.getD (j + 1) 0).toNat) (by omega)
    rw [gpL_t (k := (xs.getD (j + 1) 0).toNat) (by simp only [gpN]; rw [Int.toNat_of_nonneg (by omega), h3, decide_eq_true (by omega)]; rfl), List.length_append]
    show _ ≤ _ + 1
    omega
theorem cl_len {a b : Int} {xs : List Int} (hs : sz a b = true) (h : clB a b xs = true) : xs.length ≤ 30 := by
  rcases Nat.eq_zero_or_pos xs.length with h0 | h0
  · omega
  have h1 := cl_rank h (xs.length - 1) (by omega)
  have hm := (okC_parts.1 (clB_iff.1 h (xs.length - 1) (by omega))).2.1
  obtain ⟨h2, h3, -⟩ := mem_gapsL.1 hm
  have h4 := gpL_mono' (gpN a b) (k := (xs.getD (xs.length - 1) 0).toNat + 1) (m := (a * b).toNat) (by omega)
  have h5 := gapsL_len hs
  unfold gapsL at h5
  omega
theorem cl_rises {a b : Int} {xs : List Int} (h : clB a b xs = true) : Rises 1 (a * b) xs := by
  refine ⟨fun j hj => ?_, fun j hj => ?_⟩
  · have := mem_gapsL.1 (okC_parts.1 (clB_iff.1 h j hj)).2.1
    omega
  · rcases (okC_parts.1 (clB_iff.1 h (j + 1) hj)).1 with ho | ho
    · omega
    · exact ho
/-- The other side's test of one number. -/
def okS (a b : Int) (xs : List Int) (x : Int) : Bool := !(sumA a b x) && (hbB xs x a && hbB xs x b)
def clS (a b : Int) (xs : List Int) : Bool := decide (xs.length ≤ 30) && (rises 1 (a * b) xs && (List.range xs.length).all fun j => okS a b xs (xs.getD j 0))
theorem sum_ab {a b : Int} (hs : sz a b = true) : sumA a b (a * b) = true := sz_nat (p := fun a b => sumA a b (a * b) = true) (by decide +kernel) hs
theorem clS_eq {a b : Int} {xs : List Int} (hs : sz a b = true) : clS a b xs = clB a b xs := by
  rw [Bool.eq_iff_iff]
  simp only [clS, Bool.and_eq_true, decide_eq_true_eq, List.all_eq_true, List.mem_range, okS, Bool.not_eq_true', rises_Rises]
  constructor
  · rintro ⟨-, R, h⟩
    refine clB_iff.2 fun j hj => okC_parts.2 ⟨?_, ?_, (h j hj).2⟩
    · rcases Nat.eq_zero_or_pos j with h0 | h0
      · exact .inl h0
      · have := R.up (j - 1) (by omega)
        rw [show j - 1 + 1 = j by omega] at this
        exact .inr this
    · have h1 := R.bd j hj
      refine mem_gapsL.2 ⟨h1.1, ?_, (h j hj).1⟩
      by_cases e : xs.getD j 0 = a * b
      · exfalso; have := (h j hj).1; rw [e, sum_ab hs] at this; cases this
      · omega
  · intro h
    refine ⟨cl_len hs h, cl_rises h, fun j hj => ?_⟩
    obtain ⟨-, h1, h2⟩ := okC_parts.1 (clB_iff.1 h j hj)
    exact ⟨(mem_gapsL.1 h1).2.2, h2⟩

/-! The model's side. -/
/-! The program's side. -/
/-- A block of three cells: a core for two sizes. -/
def Box3 (W : World) (g : Nat) (t : TypeId) (a b c : Value) : Prop := W.heap[g]? = some (.cells #[a, b, c] t (0, 0))
theorem Box3.lt {W : World} {g : Nat} {t : TypeId} {a b c : Value} (h : Box3 W g t a b c) : g < W.heap.size := (Array.getElem?_eq_some_iff.1 h).1
theorem Box3.cell0 {W : World} {g : Nat} {t : TypeId} {a b c : Value} (h : Box3 W g t a b c) : W.cell? ⟨g, 0, none⟩ = some a := by simp [World.cell?, show W.heap[g]? = _ from h]
theorem Box3.cell1 {W : World} {g : Nat} {t : TypeId} {a b c : Value} (h : Box3 W g t a b c) : W.cell? ⟨g, 1, none⟩ = some b := by simp [World.cell?, show W.heap[g]? = _ from h]
theorem Box3.cell2 {W : World} {g : Nat} {t : TypeId} {a b c : Value} (h : Box3 W g t a b c) : W.cell? ⟨g, 2, none⟩ = some c := by simp [World.cell?, show W.heap[g]? = _ from h]
theorem Box3.new (W : World) (t : TypeId) (a b c : Value) : Box3 (W.alloc (.cells #[a, b, c] t)) W.heap.size t a b c := World.alloc_heap_new W _
theorem Box3.next {W W' : World} {g : Nat} {t : TypeId} {a b c : Value} (h : Box3 W g t a b c) (hb : Below W.heap.size W W') : Box3 W' g t a b c := (hb.block g h.lt).trans h
theorem Box3.froz {W : World} {g : Nat} {t : TypeId} {a b c : Value} (h : Box3 W g t a b c) (k : Nat) : W.frozen? ⟨g, k, none⟩ = false := by simp [World.frozen?, show W.heap[g]? = _ from h]
theorem Box3.keep {W W' : World} {g : Nat} {t : TypeId} {a b c : Value} (h : Box3 W g t a b c) (hk : W'.heap[g]? = W.heap[g]?) : Box3 W' g t a b c := hk.trans h
theorem Box3.alloc {W : World} {g : Nat} {t : TypeId} {a b c : Value} (h : Box3 W g t a b c) (o : Obj) : Box3 (W.alloc o) g t a b c := h.keep ((World.grownBy_alloc W o none).block g h.lt (by simp))
theorem Box3.set0 {W : World} {g : Nat} {t : TypeId} {a b c : Value} (v : Value) (h : Box3 W g t a b c) : Box3 (W.setCell ⟨g, 0, none⟩ v) g t v b c := by
  obtain ⟨hlt, hk⟩ := Array.getElem?_eq_some_iff.1 h
  show (W.heap.modify g _)[g]? = _
  rw [Array.getElem?_eq_getElem (by rw [Array.size_modify]; exact hlt), Array.getElem_modify_self, hk]
  rfl
theorem Box3.set1 {W : World} {g : Nat} {t : TypeId} {a b c : Value} (v : Value) (h : Box3 W g t a b c) : Box3 (W.setCell ⟨g, 1, none⟩ v) g t a v c := by
  obtain ⟨hlt, hk⟩ := Array.getElem?_eq_some_iff.1 h
  show (W.heap.modify g _)[g]? = _
  rw [Array.getElem?_eq_getElem (by rw [Array.size_modify]; exact hlt), Array.getElem_modify_self, hk]
  rfl
theorem Box3.set2 {W : World} {g : Nat} {t : TypeId} {a b c : Value} (v : Value) (h : Box3 W g t a b c) : Box3 (W.setCell ⟨g, 2, none⟩ v) g t a b v := by
  obtain ⟨hlt, hk⟩ := Array.getElem?_eq_some_iff.1 h
  show (W.heap.modify g _)[g]? = _
  rw [Array.getElem?_eq_getElem (by rw [Array.size_modify]; exact hlt), Array.getElem_modify_self, hk]
  rfl
theorem Box3.other {W : World} {g g' k : Nat} {t : TypeId} {a b c : Value} (h : Box3 W g t a b c) (hne : g ≠ g') (v : Value) : Box3 (W.setCell ⟨g', k, none⟩ v) g t a b c := h.keep (Below.heap_setCell _ _ _ g (fun e => hne (by rw [e])))

end Go.Proofs.Ytiebnnchaopbkaa
