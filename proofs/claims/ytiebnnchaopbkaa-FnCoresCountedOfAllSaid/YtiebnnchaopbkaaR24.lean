/-
  Several texts in one.
-/
import Derived.Test.YtiebnnchaopbkaaCB
import Derived.Test.YtiebnnchaopbkaaR23
import Derived.Test.YtiebnnchaopbkaaR08
import Derived.Test.YtiebnnchaopbkaaCH
/-
  Rows that a call made are appended to rows that grow, all of them.
-/
namespace Go.Proofs.Ytiebnnchaopbkaa
open Go.RowKit

def glue {α : Type} (P : Nat → α) (k : Nat) (P2 : Nat → α) : Nat → α := fun j => if j < k then P j else P2 (j - k)
theorem glue_lt {α : Type} (P : Nat → α) {k j : Nat} (P2 : Nat → α) (h : j < k) : glue P k P2 j = P j := if_pos h
theorem glue_ge {α : Type} (P : Nat → α) (k j : Nat) (P2 : Nat → α) : glue P k P2 (k + j) = P2 j := by
  unfold glue; rw [if_neg (by omega)]; congr 1; omega
theorem getD_app_lt (a b : List (List Int)) {j : Nat} (h : j < a.length) : (a ++ b).getD j [] = a.getD j [] := by
  rw [List.getD_eq_getElem?_getD, List.getElem?_append_left h, ← List.getD_eq_getElem?_getD]
theorem getD_app_ge (a b : List (List Int)) (j : Nat) : (a ++ b).getD (a.length + j) [] = b.getD j [] := by
  rw [List.getD_eq_getElem?_getD, List.getElem?_append_right (by omega), List.getD_eq_getElem?_getD]; congr 2; omega
theorem RL_app (P P2 : Nat → Option Addr) (C C2 : Nat → Nat) (a b : List (List Int)) : RL (glue P a.length P2) (glue C a.length C2) (a ++ b) = RL P C a ++ RL P2 C2 b := by
  unfold RL
  rw [List.length_append, List.range_add, List.map_append, List.map_map]
  congr 1
  · refine List.map_congr_left fun j hj => ?_
    have hj' : j < a.length := List.mem_range.1 hj
    rw [glue_lt P P2 hj', glue_lt C C2 hj', getD_app_lt a b hj']
  · refine List.map_congr_left fun j _ => ?_
    simp only [Function.comp]
    rw [glue_ge, glue_ge, getD_app_ge]
/-- Rows that a call made are appended, all of them. -/
theorem Push.pushAll {w0 w1 w2 : World} {B S : Nat} {v v' : Value} {rows rows2 : List (List Int)} {P P2 : Nat → Option Addr} {C C2 : Nat → Nat} {A : Option Addr} {c : Nat}
    (h : Push w0 B v rows P C) (hb : Below w0.heap.size w0 w1) (H : Own2At w1 w0.heap.size S A c rows2 P2 C2) (hB : B ≤ w0.heap.size)
    (ho : w2.ownsRow B 28 1 v' (rows.length + rows2.length) (RL P C rows ++ RL P2 C2 rows2)) (hg : w1.grownBy w2 v.ownBlock) :
    Push w2 B v' (rows ++ rows2) (glue P rows.length P2) (glue C rows.length C2) := by
  have h1 := h.below hb
  have keep : ∀ {A' : Option Addr} {c' : Nat} {r' : List Int}, Own w1 B A' c' r' → Own w2 B A' c' r' := fun {A' c' r'} hx =>
    hx.keep fun b hbb hlt => hg.block b hlt (fun e => row_ne' h1.out hx b hbb e.symm)
  refine ⟨by rw [RL_app, List.length_append]; exact ho, fun j hj => ?_, fun i j hij hj b hbi => ?_⟩
  · rw [List.length_append] at hj
    by_cases e : j < rows.length
    · rw [glue_lt P P2 e, glue_lt C C2 e, getD_app_lt _ _ e]
      exact keep (h1.row j e)
    · obtain ⟨d, rfl⟩ : ∃ d, j = rows.length + d := ⟨j - rows.length, by omega⟩
      rw [glue_ge, glue_ge, getD_app_ge]
      exact keep ((H.row d (by omega)).more hB)
  · rw [List.length_append] at hj
    by_cases e : j < rows.length
    · rw [glue_lt P P2 (show i < rows.length by omega)] at hbi
      rw [glue_lt P P2 e]
      exact h.apart i j hij e b hbi
    · obtain ⟨d, rfl⟩ : ∃ d, j = rows.length + d := ⟨j - rows.length, by omega⟩
      rw [glue_ge]
      by_cases e2 : i < rows.length
      · rw [glue_lt P P2 e2] at hbi
        intro he
        have := ((H.row d (by omega)).block b he).1
        have := ((h.row i e2).block b hbi).2
        omega
      · obtain ⟨d2, rfl⟩ : ∃ d2, i = rows.length + d2 := ⟨i - rows.length, by omega⟩
        rw [glue_ge] at hbi
        exact H.apart d2 d (by omega) (by omega) b hbi
theorem RL_one (P : Nat → Option Addr) (C : Nat → Nat) (rows : List (List Int)) : ∀ u ∈ RL P C rows, u.oneCell' = true := by
  intro u hu
  obtain ⟨j, _, rfl⟩ := List.mem_map.1 hu
  rfl
theorem own2_none {w : World} {B S c : Nat} {rows : List (List Int)} {P : Nat → Option Addr} {C : Nat → Nat} (h : Own2At w B S none c rows P C) : rows.length = 0 ∧ c = 0 := by
  rcases h.out.2 with ⟨hv, h0⟩ | ⟨g, cap, cur, hv, _⟩
  · injection hv with _ _ h3; exact ⟨h0, h3⟩
  · injection hv with h1; cases h1
theorem own2_news {w : World} {B S c : Nat} {ad : Addr} {rows : List (List Int)} {P : Nat → Option Addr} {C : Nat → Nat} (h : Own2At w B S (some ad) c rows P C) : ∀ k u, (RL P C rows)[k]? = some u → w.cell? (ad.add k) = some u := by
  rcases h.out.2 with ⟨hv, h0⟩ | ⟨g, cap, cur, hv, _⟩
  · injection hv with h1; cases h1
  · injection hv with h1
    cases h1
    intro k u hk
    exact World.ownsRow.cells h.out (g := g) rfl k u hk
theorem own2_one {w : World} {B c : Nat} {A : Option Addr} {V : List Int} (hB : B ≤ w.heap.size) (h : Own w B A c V) :
    Own2 (w.alloc (.cells #[.slice A V.length c] 28)) B (w.alloc (.cells #[.slice A V.length c] 28)).heap.size (some ⟨w.heap.size, 0, none⟩) 1 [V] := by
  have hz : (w.alloc (.cells #[.slice A V.length c] 28)).heap.size = w.heap.size + 1 := by simp
  refine ⟨fun _ => A, fun _ => c, World.ownsRow_lit (base := B) (e := 28) (size := 1) w #[.slice A V.length c] 1 hB (by unfold maxLen; omega) rfl, fun b hb => ?_, fun j hj => ?_, fun j _ b hb => ?_, fun i j hij hj => ?_⟩
  · have : w.heap.size = b := by simpa using hb
    omega
  · have : j = 0 := by simpa using hj
    subst this
    exact h.below ((Below.refl _ _).alloc (Nat.le_refl _) _)
  · have := (h.block b hb).2
    omega
  · simp at hj; omega
end Go.Proofs.Ytiebnnchaopbkaa
/-
  Sets of closed gaps: the model's boSets.
-/
namespace Go.Proofs.Ytiebnnchaopbkaa
open Go.RowKit

/-- All closed gaps that go on H with some of the gaps. -/
def bsL (a b : Int) : List Int → List Int → List (List Int)
  | [], H => [H]
  | x :: gs, H => bsL a b gs H ++ (if (hbB H x a && hbB H x b) = true then bsL a b gs (H ++ [x]) else [])
theorem bsL_len (a b : Int) : ∀ (gs H : List Int), (bsL a b gs H).length ≤ 2 ^ gs.length
  | [], H => Nat.le_refl _
  | x :: gs, H => by
    rw [bsL, List.length_append, List.length_cons, Nat.pow_succ]
    have h1 := bsL_len a b gs H
    split
    · have h2 := bsL_len a b gs (H ++ [x]); omega
    · simp; omega
theorem pow10 {n : Nat} (h : n ≤ 10) : 2 ^ n ≤ 1024 := by
  rcases (show n = 0 ∨ n = 1 ∨ n = 2 ∨ n = 3 ∨ n = 4 ∨ n = 5 ∨ n = 6 ∨ n = 7 ∨ n = 8 ∨ n = 9 ∨ n = 10 by omega) with rfl | rfl | rfl | rfl | rfl | rfl | rfl | rfl | rfl | rfl | rfl <;> decide

end Go.Proofs.Ytiebnnchaopbkaa
/-
  Slices of rows cut at a place; a row put between rows.
-/
namespace Go.Proofs.Ytiebnnchaopbkaa
open Go.RowKit

def cutA (A : Option Addr) (c k : Nat) : Option Addr := if c = k then A else A.map (·.add (k * 1))
theorem addr_zero (a : Addr) : a.add 0 = a := rfl
theorem map_zero (A : Option Addr) : A.map (·.add (0 * 1)) = A := by cases A <;> rfl
theorem sizeInts (w : World) : (sizeOf (Try.prog.elem 22)).run Try.prog w = .ok 1 w := by
  obtain ⟨i1, hj, hy0, hy1, hy2⟩ := info_parts Try.infoInts
  have e : Try.prog.elem 22 = 28 := by kernel_rfl
  rw [e]
  simp [sizeOf, typeInfo, hj, hy1]
theorem undInts : Try.prog.underlying 22 = some (.slice (Try.prog.elem 22)) := by kernel_rfl
theorem run_cut_hi (A : Option Addr) (len c k : Nat) (hk : k ≤ c) (w : World) :
    (Instr.slice 22 (.slice A len c) none (some (.int .i64 k)) none).run Try.prog w = .ok (.slice A k c) w := by
  rw [run_slice_h (ht := undInts) (kh := .i64) (h := (k : Int)) (h0 := by omega) (h2 := by omega), sizeInts]
  simp only [Result.andThen, sliced, Int.toNat_natCast, Nat.sub_zero]
  congr 2
  split
  · rfl
  · exact map_zero A
theorem run_cut_lo (A : Option Addr) (len c k : Nat) (hk : k ≤ len) (w : World) :
    (Instr.slice 22 (.slice A len c) (some (.int .i64 k)) none none).run Try.prog w = .ok (.slice (cutA A c k) (len - k) (c - k)) w := by
  rw [run_slice_l (ht := undInts) (kl := .i64) (l := (k : Int)) (h0 := by omega) (h1 := by omega), sizeInts]
  simp only [Result.andThen, sliced, Int.toNat_natCast]
  rfl
theorem cutA_none (c k : Nat) : cutA none c k = none := by unfold cutA; split <;> rfl
theorem cutA_nn {A : Option Addr} {c k : Nat} (h : cutA A c k = none) : A = none := by
  cases A with
  | none => rfl
  | some a => unfold cutA at h; split at h <;> cases h
theorem cutA_some {ad : Addr} {c k : Nat} (h : k < c) : cutA (some ad) c k = some (ad.add k) := by
  unfold cutA; rw [if_neg (by omega), Nat.mul_one]; rfl

/-! A row put between rows. -/
def insAt {α : Type} (P : Nat → α) (k : Nat) (a : α) : Nat → α := fun j => if j < k then P j else if j = k then a else P (j - 1)
theorem insAt_lt {α : Type} (P : Nat → α) {k j : Nat} (a : α) (h : j < k) : insAt P k a j = P j := if_pos h
theorem insAt_eq {α : Type} (P : Nat → α) (k : Nat) (a : α) : insAt P k a k = a := by unfold insAt; rw [if_neg (by omega), if_pos rfl]
theorem insAt_gt {α : Type} (P : Nat → α) {k j : Nat} (a : α) (h : k < j) : insAt P k a j = P (j - 1) := by unfold insAt; rw [if_neg (by omega), if_neg (by omega)]
def insR (rows : List (List Int)) (k : Nat) (r : List Int) : List (List Int) := rows.take k ++ r :: rows.drop k
theorem insR_len {rows : List (List Int)} {k : Nat} (hk : k ≤ rows.length) (r : List Int) : (insR rows k r).length = rows.length + 1 := by
  unfold insR; rw [List.length_append, List.length_cons, List.length_take, List.length_drop]; omega
theorem insR_lt {rows : List (List Int)} {k j : Nat} (hk : k ≤ rows.length) (r : List Int) (h : j < k) : (insR rows k r).getD j [] = rows.getD j [] := by
  unfold insR
  rw [List.getD_eq_getElem?_getD, List.getElem?_append_left (by rw [List.length_take]; omega), List.getElem?_take, if_pos h, ← List.getD_eq_getElem?_getD]
theorem insR_eq {rows : List (List Int)} {k : Nat} (hk : k ≤ rows.length) (r : List Int) : (insR rows k r).getD k [] = r := by
  unfold insR
  rw [List.getD_eq_getElem?_getD, List.getElem?_append_right (by rw [List.length_take]; omega), List.length_take, show k - min k rows.length = 0 by omega]; rfl
theorem insR_gt {rows : List (List Int)} {k j : Nat} (hk : k ≤ rows.length) (r : List Int) (h : k < j) : (insR rows k r).getD j [] = rows.getD (j - 1) [] := by
  unfold insR
  rw [List.getD_eq_getElem?_getD, List.getElem?_append_right (by rw [List.length_take]; omega), List.length_take, show j - min k rows.length = (j - 1 - k) + 1 by omega, List.getElem?_cons_succ, List.getElem?_drop, show k + (j - 1 - k) = j - 1 by omega, ← List.getD_eq_getElem?_getD]
theorem RL_ins (P : Nat → Option Addr) (C : Nat → Nat) (rows : List (List Int)) (k : Nat) (hk : k ≤ rows.length) (r : List Int) (A : Option Addr) (c : Nat) :
    RL (insAt P k A) (insAt C k c) (insR rows k r) = (RL P C rows).take k ++ [.slice A r.length c] ++ (RL P C rows).drop k := by
  apply List.ext_getElem?
  intro j
  by_cases hj : j < rows.length + 1
  · rw [RL_get _ _ _ _ (by rw [insR_len hk]; exact hj)]
    have hRl := RL_len P C rows
    by_cases h1 : j < k
    · rw [insAt_lt P A h1, insAt_lt C c h1, insR_lt hk r h1, List.append_assoc, List.getElem?_append_left (by rw [List.length_take]; omega), List.getElem?_take, if_pos h1, RL_get _ _ _ _ (by omega)]
    · by_cases h2 : j = k
      · subst h2
        rw [insAt_eq, insAt_eq, insR_eq hk, List.append_assoc, List.getElem?_append_right (by rw [List.length_take]; omega), List.length_take, show j - min j (RL P C rows).length = 0 by omega]; rfl
      · rw [insAt_gt P A (by omega), insAt_gt C c (by omega), insR_gt hk r (by omega), List.getElem?_append_right (by simp; omega), List.length_append, List.length_take, List.length_singleton, List.getElem?_drop, show k + (j - (min k (RL P C rows).length + 1)) = j - 1 by omega, RL_get _ _ _ _ (by omega)]
  · rw [List.getElem?_eq_none (by rw [RL_len, insR_len hk]; omega), List.getElem?_eq_none (by simp [RL_len]; omega)]
/-- One row between others: it was made behind the world w0; the new outer row lies behind w1. -/
theorem Push.ins {w0 w1 w2 : World} {B : Nat} {v v' : Value} {rows : List (List Int)} {P : Nat → Option Addr} {C : Nat → Nat} {A : Option Addr} {c k : Nat} {r : List Int}
    (h : Push w0 B v rows P C) (hb : Below w0.heap.size w0 w1) (hr : Own w1 w0.heap.size A c r) (hB : B ≤ w0.heap.size) (hk : k ≤ rows.length)
    (hb2 : Below w1.heap.size w1 w2) (ho : w2.ownsRow B 28 1 v' (rows.length + 1) ((RL P C rows).take k ++ [.slice A r.length c] ++ (RL P C rows).drop k)) :
    Push w2 B v' (insR rows k r) (insAt P k A) (insAt C k c) := by
  have h1 := h.below hb
  refine ⟨by rw [RL_ins P C rows k hk, insR_len hk]; exact ho, fun j hj => ?_, fun i j hij hj b hbi => ?_⟩
  · rw [insR_len hk] at hj
    by_cases e1 : j < k
    · rw [insAt_lt P A e1, insAt_lt C c e1, insR_lt hk r e1]
      exact (h1.row j (by omega)).below hb2
    · by_cases e2 : j = k
      · subst e2
        rw [insAt_eq, insAt_eq, insR_eq hk]
        exact (hr.below hb2).more hB
      · rw [insAt_gt P A (by omega), insAt_gt C c (by omega), insR_gt hk r (by omega)]
        exact (h1.row (j - 1) (by omega)).below hb2
  · rw [insR_len hk] at hj
    have old : ∀ i b, i < rows.length → (P i).map Addr.block = some b → b < w0.heap.size := fun i b hi hbb => ((h.row i hi).block b hbb).2
    have new : ∀ b, A.map Addr.block = some b → w0.heap.size ≤ b := fun b hbb => (hr.block b hbb).1
    by_cases e1 : j < k
    · rw [insAt_lt P A (show i < k by omega)] at hbi
      rw [insAt_lt P A e1]
      exact h.apart i j hij (by omega) b hbi
    · by_cases e2 : j = k
      · subst e2
        rw [insAt_lt P A hij] at hbi
        rw [insAt_eq]
        intro he
        have := new b he
        have := old i b (by omega) hbi
        omega
      · rw [insAt_gt P A (by omega)]
        by_cases e3 : i < k
        · rw [insAt_lt P A e3] at hbi
          exact h.apart i (j - 1) (by omega) (by omega) b hbi
        · by_cases e4 : i = k
          · subst e4
            rw [insAt_eq] at hbi
            intro he
            have := new b hbi
            have := old (j - 1) b (by omega) he
            omega
          · rw [insAt_gt P A (by omega)] at hbi
            exact h.apart (i - 1) (j - 1) (by omega) (by omega) b hbi
/-- What the cells of the old outer row hold, in a world behind. -/
theorem push_cells {w : World} {B : Nat} {A : Option Addr} {len c : Nat} {rows : List (List Int)} {P : Nat → Option Addr} {C : Nat → Nat} (h : Push w B (.slice A len c) rows P C) :
    len = rows.length ∧ len ≤ c ∧ (A = none → rows.length = 0 ∧ c = 0) ∧ ∀ ad, A = some ad → ∀ j u, (RL P C rows)[j]? = some u → w.cell? (ad.add j) = some u := by
  rcases h.out.2 with ⟨hv, h0⟩ | ⟨g, cap, cur, hv, hb, hg, rest⟩
  · injection hv with h1 h2 h3
    subst h1; subst h2; subst h3
    exact ⟨h0.symm, Nat.le_refl _, fun _ => ⟨h0, rfl⟩, fun ad e => by cases e⟩
  · injection hv with h1 h2 h3
    subst h1; subst h3
    refine ⟨h2, by omega, (fun e => by cases e), fun ad e => ?_⟩
    cases e
    intro k u hk
    exact World.ownsRow.cells h.out (g := g) (by rw [h2]; rfl) k u hk
end Go.Proofs.Ytiebnnchaopbkaa
