/-
  Plain facts: texts of partitions read back. No program's run in this text.
-/
import Derived.Test.YtjhcbbafldflaaaDoorSpwMath
import Derived.Test.YtjhcbbafldflaaaDoorChnMath
namespace Go.Proofs.YtjhcbbafldflaaaDoor
open Go.RowKit Go.Shelf

def strL (s : ByteArray) : List UInt8 := s.data.toList
def zT : ByteArray := ⟨#[48]⟩
/-- What the model reads; what the program reads. -/
def pmL (b : UInt8) (s : ByteArray) : List Int := (spW b (strL s)).map rdW
def snB (b : UInt8) (s : ByteArray) : Bool := (spW b (strL s)).all okW
def snV (b : UInt8) (s : ByteArray) : List Int := (spW b (strL s)).map vW
theorem ptT_jn {p : List Int} (h0 : p ≠ []) : ptT p = jnT ⟨#[43]⟩ p := by
  have := txK_jn p p.length (Nat.le_refl _)
  rw [List.take_of_length_le (Nat.le_refl _)] at this
  unfold ptT
  rw [if_neg (by intro h; exact h0 (List.eq_nil_of_length_eq_zero h)), this]; rfl
theorem map_dg {p : List Int} {f : List UInt8 → Int} (hf : ∀ n, n < 100 → f (dgL n) = (n : Int)) (hb : ∀ j, j < p.length → 0 ≤ p.getD j 0 ∧ p.getD j 0 < 100) : (p.map fun x => dgL x.toNat).map f = p := by
  rw [List.map_map]
  apply List.ext_getElem
  · simp
  · intro j h1 h2
    have := hb j h2
    rw [List.getD_eq_getElem?_getD, List.getElem?_eq_getElem h2] at this
    simp only [Option.getD_some] at this
    rw [List.getElem_map]
    show f (dgL (p[j]).toNat) = p[j]
    rw [hf _ (by omega)]; omega
theorem read_all {b : UInt8} (h : ∀ n, n < 100 → b ∉ dgL n) {p : List Int} (hp : p ≠ []) (hb : ∀ j, j < p.length → 0 ≤ p.getD j 0 ∧ p.getD j 0 < 100) :
    pmL b (jnT ⟨#[b]⟩ p) = p ∧ snB b (jnT ⟨#[b]⟩ p) = true ∧ snV b (jnT ⟨#[b]⟩ p) = p := by
  have e := spW_dg b hp hb h
  unfold pmL snB snV strL
  rw [e]
  refine ⟨map_dg (fun n hn => (rd_chk n hn).2.2) hb, ?_, map_dg (fun n hn => (rd_chk n hn).2.1) hb⟩
  rw [List.all_eq_true]
  intro w hw
  obtain ⟨x, hx, rfl⟩ := List.mem_map.1 hw
  obtain ⟨j, hj, rfl⟩ := List.getElem_of_mem hx
  have := hb j hj
  rw [List.getD_eq_getElem?_getD, List.getElem?_eq_getElem hj] at this
  exact (rd_chk _ (by simp at this; omega)).1
theorem snV_ne (b : UInt8) (s : ByteArray) : snV b s ≠ [] ∧ pmL b s ≠ [] := by
  have := spW_ne b (strL s)
  unfold snV pmL
  simp [this]
def ppB (s : ByteArray) : Bool := decide (s = zT) || (good (pmL 43 s) && decide (ptT (pmL 43 s) = s))
def ppF (s : ByteArray) : List Int := if s = zT then [] else if ppB s then pmL 43 s else []
theorem part_bd {p : List Int} (G : Good p) : ∀ j, j < p.length → 0 ≤ p.getD j 0 ∧ p.getD j 0 < 100 := fun j hj => ⟨by have := G.pos j hj; omega, by have := G.le j hj; omega⟩
theorem pp_zero : ppB zT = true ∧ ppF zT = [] := by simp [ppB, ppF]
/-- What the program finds is what the model finds. -/
theorem pp_impl {s : ByteArray} (hs : s ≠ zT) : ppB s = (snB 43 s && (good (snV 43 s) && decide (ptT (snV 43 s) = s))) ∧ (ppB s = true → ppF s = snV 43 s) := by
  have e0 : ppB s = (good (pmL 43 s) && decide (ptT (pmL 43 s) = s)) := by simp [ppB, hs]
  have key : ∀ p : List Int, p ≠ [] → good p = true → ptT p = s → pmL 43 s = p ∧ snB 43 s = true ∧ snV 43 s = p := fun p hp hg ht => by
    have G := (good_iff p).1 hg
    rw [← ht, ptT_jn hp]
    exact read_all (fun n hn => (dg_chk n hn).1) hp (part_bd G)
  have h1 : ppB s = true → snB 43 s = true ∧ snV 43 s = pmL 43 s ∧ good (pmL 43 s) = true ∧ ptT (pmL 43 s) = s := fun h => by
    rw [e0, Bool.and_eq_true, decide_eq_true_eq] at h
    obtain ⟨_, k2, k3⟩ := key _ (snV_ne 43 s).2 h.1 h.2
    exact ⟨k2, k3, h.1, h.2⟩
  refine ⟨?_, fun h => by rw [ppF, if_neg hs, if_pos h, (h1 h).2.1]⟩
  cases h : ppB s
  · cases hh : (snB 43 s && (good (snV 43 s) && decide (ptT (snV 43 s) = s)))
    · rfl
    · exfalso
      rw [Bool.and_eq_true, Bool.and_eq_true, decide_eq_true_eq] at hh
      obtain ⟨k1, _, _⟩ := key _ (snV_ne 43 s).1 hh.2.1 hh.2.2
      rw [e0, k1, hh.2.1, decide_eq_true hh.2.2] at h
      cases h
  · obtain ⟨k1, k2, k3, k4⟩ := h1 h
    rw [k1, k2, k3, decide_eq_true k4]; rfl
theorem numT_le (x : Nat) (h : 1 ≤ x) : (numT x).size + 1 ≤ 2 * x := by
  unfold numT
  split
  · rw [digT_size]; omega
  · rw [ByteArray.size_append, digT_size, digT_size]; omega
theorem tx_short {p : List Int} (G : Good p) : ∀ k, k < p.length → ((txK p (k + 1)).size : Int) + 1 ≤ 2 * (p.take (k + 1)).sum
  | 0, h => by
    have h1 := G.pos 0 h
    have h2 := numT_le (p.getD 0 0).toNat (by omega)
    have e := sum_take_succ p 0 h
    rw [List.take_zero, List.sum_nil] at e
    rw [e, txK, if_pos rfl, ByteArray.size_append]
    have : (txK p 0).size = 0 := rfl
    omega
  | k + 1, h => by
    have ih := tx_short G k (by omega)
    have h1 := G.pos (k + 1) h
    have h2 := numT_le (p.getD (k + 1) 0).toNat (by omega)
    have e := sum_take_succ p (k + 1) h
    rw [e, txK, if_neg (by omega), ByteArray.size_append, ByteArray.size_append]
    have : (ByteArray.mk #[43]).size = 1 := rfl
    omega
theorem pp_short {s : ByteArray} (h : ppB s = true) : s.size < 60 := by
  unfold ppB at h
  rw [Bool.or_eq_true, decide_eq_true_eq, Bool.and_eq_true, decide_eq_true_eq] at h
  rcases h with h | ⟨hg, ht⟩
  · subst h; decide
  · have G := (good_iff _).1 hg
    have hne := (snV_ne 43 s).2
    have hl : 0 < (pmL 43 s).length := List.length_pos_iff.2 hne
    have := tx_short G ((pmL 43 s).length - 1) (by omega)
    rw [show (pmL 43 s).length - 1 + 1 = (pmL 43 s).length by omega, List.take_of_length_le (Nat.le_refl _)] at this
    have e : ptT (pmL 43 s) = txK (pmL 43 s) (pmL 43 s).length := by unfold ptT; rw [if_neg (by omega)]
    rw [← e, ht] at this
    have := G.sum
    omega
theorem pp_len {s : ByteArray} (h : 30 < (spW 43 (strL s)).length) : good (pmL 43 s) = false := by
  cases hg : good (pmL 43 s)
  · rfl
  · have := ((good_iff _).1 hg).len
    unfold pmL at this
    rw [List.length_map] at this; omega
end Go.Proofs.YtjhcbbafldflaaaDoor
