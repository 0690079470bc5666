/-
  Contracts: RunnersOf of the program.
-/
import Derived.Test.YtnhjofcmaodamaaRnI
import Derived.Test.YtnhjofcmaodamaaRnS
import Derived.Test.YtnhjofcmaodamaaAba2
namespace Go.Proofs.Ytnhjofcmaodamaa
open Go.RowKit

theorem Gr.place {w w5 : World} {B g t : Nat} {rows : List (List Int)} {P : Nat → Option Addr} {C : Nat → Nat} (h : Gr w B g t rows P C) {i : Nat} (hi : i < t) {A' : Option Addr} {c' : Nat} {r : List Int}
    (hb : Below w.heap.size w w5) (ho : Own w5 w.heap.size A' c' r) (hB : B ≤ w.heap.size) :
    Gr (w5.setCell ⟨g, i, none⟩ (.slice A' r.length c')) B g t (rows.set i r) (setAt P i A') (setAt C i c') := by
  have hil : i < rows.length := by rw [h.len]; exact hi
  have h5 := h.below hb
  have ho' := ho.more hB
  have hgne : ∀ {A : Option Addr} {c : Nat} {x : List Int}, Own w5 B A c x → A.map Addr.block ≠ some g := fun h2 => row_ne h5.out h2
  refine ⟨by rw [List.length_set]; exact h.len, ?_, fun j hj => ?_, fun a b hab hb' c hc => ?_⟩
  · have hst := (World.ownsRow.stored h5.out i (.slice A' r.length c')).1
    rw [RL_set P C rows i hil r A' c'] at hst
    exact hst
  · by_cases e : j = i
    · subst e
      rw [setAt_eq, setAt_eq]
      have : (rows.set j r).getD j [] = r := by simp [List.getD, hil]
      rw [this]
      exact ho'.keep fun b hb _ => Below.heap_setCell _ _ _ b (fun e2 => hgne ho' (by rw [hb]; exact congrArg some e2))
    · rw [setAt_ne P A' e, setAt_ne C c' e]
      have : (rows.set i r).getD j [] = rows.getD j [] := by
        rw [List.getD_eq_getElem?_getD, List.getD_eq_getElem?_getD, List.getElem?_set_ne (fun hh => e hh.symm)]
      rw [this]
      have hj5 := h5.row j hj
      exact hj5.keep fun b hb _ => Below.heap_setCell _ _ _ b (fun e2 => hgne hj5 (by rw [hb]; exact congrArg some e2))
  · have old : ∀ j, j < t → ∀ b, (P j).map Addr.block = some b → b < w.heap.size := fun j hj b hb => ((h.row j hj).block b hb).2
    have new : ∀ b, A'.map Addr.block = some b → w.heap.size ≤ b := fun b hb => (ho.block b hb).1
    by_cases ea : a = i
    · subst ea
      rw [setAt_eq] at hc
      rw [setAt_ne P A' (by omega)]
      intro hbb
      have := new c hc; have := old b hb' c hbb; omega
    · rw [setAt_ne P A' ea] at hc
      by_cases eb : b = i
      · subst eb
        rw [setAt_eq]
        intro hbb
        have := new c hbb; have := old a (by omega) c hc; omega
      · rw [setAt_ne P A' eb]
        exact h.apart a b hab hb' c hc
def midR (f : Nat → List Int) (t k : Nat) : List (List Int) := (List.range t).map fun j => if j < k then f j else []
theorem midR_len (f : Nat → List Int) (t k : Nat) : (midR f t k).length = t := by simp [midR]
theorem midR_set (f : Nat → List Int) (t k : Nat) : (midR f t k).set k (f k) = midR f t (k + 1) := by
  apply List.ext_getElem
  · simp [midR]
  · intro j h1 h2
    rw [List.getElem_set]
    simp only [midR, List.getElem_map, List.getElem_range]
    by_cases e : k = j
    · subst e; simp
    · rw [if_neg e]
      by_cases h3 : j < k
      · rw [if_pos h3, if_pos (by omega)]
      · rw [if_neg h3, if_neg (by omega)]
theorem midR_zero (f : Nat → List Int) (t : Nat) : midR f t 0 = rnS t [] := by simp [midR, rnS, rnL]
theorem midR_all (f : Nat → List Int) (t : Nat) : midR f t t = (List.range t).map f := by
  unfold midR
  exact List.map_congr_left fun j hj => by rw [if_pos (List.mem_range.1 hj)]

theorem div_lt_of_mod {t : Nat} (ht : 0 < t) {a b : Int} (hm : a % (t : Int) = b % (t : Int)) (hab : a < b) : a / (t : Int) < b / (t : Int) := by
  have h1 := Int.mul_ediv_add_emod a t
  have h2 := Int.mul_ediv_add_emod b t
  have hlt : (t : Int) * (a / t) < (t : Int) * (b / t) := by omega
  exact Int.lt_of_mul_lt_mul_left hlt (by omega)
theorem rn_same {t : Nat} {xs : List Int} (ht : 2 ≤ t ∧ t ≤ 6) (G : GoodB xs) {i : Nat} (hi : i < t) : rwL (lnB (bitsK t xs xs.length) i) 36 = rnL t xs i := by
  have hbd : ∀ j, j < xs.length → 0 ≤ xs.getD j 0 ∧ xs.getD j 0 < (t : Int) * 36 := fun j hj => by have := G.top hj; omega
  refine pw_ext ?_ ?_ fun x => ?_
  · unfold rwL
    rw [List.pairwise_map]
    refine List.Pairwise.imp ?_ ((List.pairwise_lt_range).filter _)
    intro a b hab; omega
  · unfold rnL
    rw [List.pairwise_map]
    have hp : (xs.filter fun x => decide (x % (t : Int) = (i : Int))).Pairwise (· < ·) := (rise_pw G.rise.up).filter _
    refine List.Pairwise.imp_of_mem ?_ hp
    intro a b ha hb hab
    have h1 := (List.mem_filter.1 ha).2
    have h2 := (List.mem_filter.1 hb).2
    rw [decide_eq_true_eq] at h1 h2
    exact div_lt_of_mod (by omega) (by rw [h1, h2]) hab
  · unfold rwL rnL
    rw [List.mem_map, List.mem_map]
    constructor
    · rintro ⟨r, hr, rfl⟩
      obtain ⟨h1, h2⟩ := List.mem_filter.1 hr
      have hr36 := List.mem_range.1 h1
      have hn1 : (t * r + i) % t = i := by rw [Nat.mul_add_mod, Nat.mod_eq_of_lt hi]
      have hn2 : (t * r + i) / t = r := by rw [Nat.mul_add_div (by omega), Nat.div_eq_of_lt hi]; omega
      have hlt : t * r + i < t * 36 := by
        have : t * (r + 1) ≤ t * 36 := Nat.mul_le_mul_left _ (by omega)
        rw [Nat.mul_add, Nat.mul_one] at this; omega
      have hb := bits_at (t := t) (by omega) hbd hlt
      have hq : atQ t (t * r + i) = 36 * i + r := by unfold atQ; rw [hn1, hn2]
      rw [hq] at hb
      unfold lnB at h2
      rw [hb, decide_eq_true_eq] at h2
      refine ⟨_, List.mem_filter.2 ⟨h2, ?_⟩, ?_⟩
      · rw [decide_eq_true_eq]; exact congrArg Int.ofNat hn1
      · exact congrArg Int.ofNat hn2
    · rintro ⟨y, hy, rfl⟩
      obtain ⟨h1, h2⟩ := List.mem_filter.1 hy
      rw [decide_eq_true_eq] at h2
      obtain ⟨j, hj, e⟩ := mem_getD.1 h1
      have hyb := hbd j hj
      rw [e] at hyb
      obtain ⟨n, rfl⟩ : ∃ n : Nat, y = n := ⟨y.toNat, by omega⟩
      have hn : n < t * 36 := by omega
      have hmod : n % t = i := by have : ((n % t : Nat) : Int) = (i : Int) := h2; omega
      have hb := bits_at (t := t) (by omega) hbd hn
      rw [decide_eq_true h1] at hb
      refine ⟨n / t, List.mem_filter.2 ⟨List.mem_range.2 (by rw [Nat.div_lt_iff_lt_mul (by omega), Nat.mul_comm]; exact hn), ?_⟩, rfl⟩
      unfold lnB; unfold atQ at hb; rw [hmod] at hb; exact hb
def roF (r : Int) (xs : List Int) : List (List Int) := if isAba r xs then rnS r.toNat xs else []
theorem bound_RunnersOf (r : Int) (xs : List Int) : (roF r xs).length ≤ 1048576 ∧ tot (roF r xs) ≤ 1048576 := by
  unfold roF
  split
  · rename_i h
    simp only [isAba, Bool.and_eq_true] at h
    have h1 := inB_iff.1 h.1
    have h2 := (goodB_iff.1 h.2).len
    refine ⟨by rw [rnS_len]; omega, ?_⟩
    have key : ∀ (l : List Nat), tot (l.map (rnL r.toNat xs)) ≤ l.length * xs.length := by
      intro l
      induction l with
      | nil => simp [tot]
      | cons a q ih =>
        have := rnL_len r.toNat xs a
        simp only [List.map_cons, tot, List.length_cons, Nat.add_mul]
        omega
    have := key (List.range r.toNat)
    rw [List.length_range] at this
    have h3 : r.toNat * xs.length ≤ 6 * 40 := Nat.mul_le_mul (by omega) h2
    unfold rnS; omega
  · simp [tot]
end Go.Proofs.Ytnhjofcmaodamaa
