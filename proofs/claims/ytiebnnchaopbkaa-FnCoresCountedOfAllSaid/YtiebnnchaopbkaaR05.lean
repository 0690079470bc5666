/-
  Several texts in one.
-/
import Derived.Test.YtiebnnchaopbkaaCE
import Derived.Test.YtiebnnchaopbkaaCB
import Derived.Test.YtiebnnchaopbkaaCA
/-
  Contracts: one bead of a board moved down (the first one that can be), and all of them.
-/
namespace Go.Proofs.Ytiebnnchaopbkaa
open Go.RowKit

/-- Whether a bead of a line can be moved down by a row. -/
def dnOk (f : Nat → Bool) (r : Nat) : Bool := canPut f r ((r : Int) - 1)
def dnR (f : Nat → Bool) (r : Nat) : Nat → Bool := putR f r ((r : Int) - 1)
theorem dnR_no {f : Nat → Bool} {r : Nat} (h : dnOk f r = false) : dnR f r = f := by unfold dnR putR; unfold dnOk at h; rw [h]; simp
theorem dnOk_iff {f : Nat → Bool} {r : Nat} (hr : r < 36) : dnOk f r = true ↔ 0 < r ∧ f r = true ∧ f (r - 1) = false := by
  unfold dnOk canPut
  simp only [Bool.and_eq_true, decide_eq_true_eq, Int.toNat_natCast, Bool.not_eq_true']
  rw [show ((r : Int) - 1).toNat = r - 1 by omega]
  constructor
  · rintro ⟨h1, h2, h3, h4⟩; exact ⟨by omega, h3, h4⟩
  · rintro ⟨h1, h2, h3⟩; exact ⟨by omega, by omega, h2, h3⟩
theorem dnR_yes {f : Nat → Bool} {r : Nat} (h : dnOk f r = true) : dnR f r = updB (updB f r false) (r - 1) true := by
  unfold dnR putR; unfold dnOk at h; rw [h]
  simp only [if_true, Int.toNat_natCast]
  rw [show ((r : Int) - 1).toNat = r - 1 by omega]
/-- A board lowered: the same if no bead can go down, or one of them down. -/
def Low (t : Nat) (F G : Nat → Bool) : Prop :=
  (G = F ∧ ∀ i, i < t → ∀ r, r < 36 → dnOk (lnB F i) r = false) ∨ ∃ i r, i < t ∧ r < 36 ∧ dnOk (lnB F i) r = true ∧ G = setLn F i (dnR (lnB F i) r)

/-- A part of a block loaded at once, its cells told by a function. -/
theorem wpList_load_midc {P : Program} {ops : Array Oper} {rest : List Oper} {op : Oper} {a : Act} {w : World} {Q : Exit → Act → World → Prop} (hgd : op.guard = none) (ty : TypeId) (x : Operand) (ho : op.op = .load ty x)
    (b o : Nat) (hx : a.eval x = .pointer (some ⟨b, o, none⟩)) (n : Nat) (c : Nat → Value) (d : TypeDesc) (hc : w.rangeAt b o (caL n c))
    (hu : P.underlying ty = some d) (hd : d.isRow = true) (hi : (P.info? ty).map (·.size) = some (caL n c).length)
    (h : wpList P ops Q rest (a.put op.dst (.agg (ca n c))) w) : wpList P ops Q (op :: rest) a w :=
  wpList_load_mid hgd ty x ho b o hx (caL n c) d hc hu hd hi h

end Go.Proofs.Ytiebnnchaopbkaa
/-
  Contracts: the model's insertion into a row that rises.
-/
namespace Go.Proofs.Ytiebnnchaopbkaa
open Go.RowKit

theorem IL_oneX (xs : List Int) : ∀ u ∈ IL xs, u.oneCell' = true := by
  intro u hu
  obtain ⟨x, _, rfl⟩ := List.mem_map.1 hu
  rfl
theorem Cells.at' {w : World} {A : Option Addr} {xs : List Int} (h : Cells w A xs) {j : Nat} (hj : j < xs.length) : ∃ b o, A = some ⟨b, o, none⟩ ∧ w.cell? ⟨b, o + j, none⟩ = some (.int .i64 (xs.getD j 0)) := by
  obtain ⟨b, o, e, hh⟩ := h (by omega)
  exact ⟨b, o, e, hh j hj⟩
/-- The row with one number more, ahead of the first one that is not less. -/
def insL : List Int → Int → List Int
  | [], x => [x]
  | y :: r, x => if y < x then y :: insL r x else x :: y :: r
theorem insL_len (xs : List Int) (x : Int) : (insL xs x).length = xs.length + 1 := by
  induction xs with
  | nil => rfl
  | cons y r ih => unfold insL; split <;> simp [ih]
theorem insL_at (xs : List Int) (x : Int) (k : Nat) (hk : k ≤ xs.length) (h1 : ∀ j, j < k → xs.getD j 0 < x) (h2 : k < xs.length → ¬ xs.getD k 0 < x) : xs.take k ++ x :: xs.drop k = insL xs x := by
  induction xs generalizing k with
  | nil => simp at hk; subst hk; rfl
  | cons y r ih =>
    cases k with
    | zero =>
      have := h2 (by simp)
      rw [List.getD_cons_zero] at this
      unfold insL
      rw [if_neg this]; rfl
    | succ k =>
      have h0 := h1 0 (by omega)
      rw [List.getD_cons_zero] at h0
      unfold insL
      rw [if_pos h0, ← ih k (by simpa using hk) (fun j hj => by simpa using h1 (j + 1) (by omega)) (fun hj => by simpa using h2 (by simp; omega))]
      rfl

theorem news_at {w W : World} {A : Option Addr} {xs : List Int} {b o : Nat} (hc : Cells w A xs) (hA : A = some ⟨b, o, none⟩) (hW : Below w.heap.size w W) (j : Nat) (hj : j < xs.length) : W.cell? ⟨b, o + j, none⟩ = some (.int .i64 (xs.getD j 0)) := by
  obtain ⟨b', o', he, hcc'⟩ := hc (by omega)
  rw [hA] at he
  injection he with he; injection he with h1 h2
  subst h1; subst h2
  have h := hcc' j hj
  rw [hW.cell (World.block_lt_of_cell? w _ h), h]
theorem addr_add (b o j : Nat) : (⟨b, o, none⟩ : Addr).add j = ⟨b, o + j, none⟩ := by unfold Addr.add; split <;> simp_all
theorem news_take {w W : World} {xs : List Int} {b o : Nat} (hc : Cells w (some ⟨b, o, none⟩) xs) (hW : Below w.heap.size w W) (k : Nat) : ∀ j u, (IL (xs.take k))[j]? = some u → W.cell? ((⟨b, o, none⟩ : Addr).add j) = some u := by
  intro j u hu
  have hj : j < (xs.take k).length := by have := (List.getElem?_eq_some_iff.1 hu).1; simpa [IL] using this
  rw [List.length_take] at hj
  rw [addr_add, news_at hc rfl hW j (by omega), ← hu, IL_get _ j (by rw [List.length_take]; exact hj)]
  congr 2
  rw [List.getD_eq_getElem?_getD, List.getD_eq_getElem?_getD, List.getElem?_take, if_pos (by omega)]
theorem news_drop {w W : World} {xs : List Int} {b o : Nat} (hc : Cells w (some ⟨b, o, none⟩) xs) (hW : Below w.heap.size w W) (k : Nat) (ad : Addr) (had : k < xs.length → ad = ⟨b, o + k, none⟩) : ∀ j u, (IL (xs.drop k))[j]? = some u → W.cell? (ad.add j) = some u := by
  intro j u hu
  have hj : j < (xs.drop k).length := by have := (List.getElem?_eq_some_iff.1 hu).1; simpa [IL] using this
  rw [List.length_drop] at hj
  rw [had (by omega), addr_add, Nat.add_assoc, news_at hc rfl hW (k + j) (by omega), ← hu, IL_get _ j (by rw [List.length_drop]; exact hj)]
  congr 2
  rw [List.getD_eq_getElem?_getD, List.getD_eq_getElem?_getD, List.getElem?_drop]

end Go.Proofs.Ytiebnnchaopbkaa
