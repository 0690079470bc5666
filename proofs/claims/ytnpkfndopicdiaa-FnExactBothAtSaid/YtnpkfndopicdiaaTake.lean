/-
  Contracts: PartitionWith of the program.
-/
import Derived.Test.YtnpkfndopicdiaaRankF
import Derived.Test.YtnpkfndopicdiaaTakeMath
import Derived.Test.YtnpkfndopicdiaaCC
namespace Go.Proofs.Ytnpkfndopicdiaa
open Go.RowKit

theorem own_lower {w : World} {B B' : Nat} {A : Option Addr} {c : Nat} {xs : List Int} (h : Own w B A c xs) (hb : B' ≤ B) : Own w B' A c xs :=
  ⟨h.1, h.2.imp id fun ⟨g, cap, cur, a, b, r⟩ => ⟨g, cap, cur, a, Nat.le_trans hb b, r⟩⟩
def withB (n r : Int) : Bool := okN n && decide (0 ≤ r) && decide (r < (T n.toNat n.toNat : Int))
def withF (n r : Int) : List Int := if withB n r then pa n.toNat n.toNat n.toNat r.toNat else []
theorem withF_f {n r : Int} (h : withB n r = false) : withF n r = [] := by simp [withF, h]
theorem withB_iff {n r : Int} : withB n r = true ↔ ∃ m q : Nat, n = m ∧ r = q ∧ m ≤ 30 ∧ q < T m m := by
  constructor
  · intro h
    simp only [withB, Bool.and_eq_true, decide_eq_true_eq] at h
    obtain ⟨⟨h1, h2⟩, h3⟩ := h
    obtain ⟨m, rfl, hm⟩ := okN_nat h1
    rw [Int.toNat_natCast] at h3
    exact ⟨m, r.toNat, rfl, by omega, hm, by omega⟩
  · rintro ⟨m, q, rfl, rfl, hm, hq⟩
    simp only [withB, Bool.and_eq_true, decide_eq_true_eq, Int.toNat_natCast]
    exact ⟨⟨inB_iff.2 (by omega), by omega⟩, by omega⟩
theorem withF_t {m q : Nat} (hm : m ≤ 30) (hq : q < T m m) : withF m q = pa m m m q := by
  have h : withB m q = true := withB_iff.2 ⟨m, q, rfl, rfl, hm, hq⟩
  simp [withF, h]
theorem pa_len : ∀ f n m r, (pa f n m r).length ≤ f := by
  intro f
  induction f with
  | zero => intro n m r; simp [pa]
  | succ f ih =>
    intro n m r
    rw [pa]
    split
    · simp
    · simp; exact ih _ _ _
theorem withF_len (n r : Int) : (withF n r).length ≤ 30 := by
  cases h : withB n r
  · rw [withF_f h]; simp
  · obtain ⟨m, q, rfl, rfl, hm, hq⟩ := withB_iff.1 h
    rw [withF_t hm hq]; have := pa_len m m m q; omega

end Go.Proofs.Ytnpkfndopicdiaa
