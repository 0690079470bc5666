/-
  Several texts in one.
-/
import Derived.Test.YtkbdlhmkiolegaaR04
import Derived.Test.YtkbdlhmkiolegaaR06
import Derived.Test.YtkbdlhmkiolegaaR03
import Derived.Test.YtkbdlhmkiolegaaCB
/-
  Slices of rows cut at a place; a row put between rows.
-/
namespace Go.Proofs.Ytkbdlhmkiolegaa
open Go.RowKit

def cutA (A : Option Addr) (c k : Nat) : Option Addr := if c = k then A else A.map (·.add (k * 1))
theorem addr_zero (a : Addr) : a.add 0 = a := rfl
theorem map_zero (A : Option Addr) : A.map (·.add (0 * 1)) = A := by cases A <;> rfl
theorem sizeInts (w : World) : (sizeOf (Try.prog.elem 23)).run Try.prog w = .ok 1 w := by
  obtain ⟨i1, hj, hy0, hy1, hy2⟩ := info_parts Try.infoInts
  have e : Try.prog.elem 23 = 22 := by kernel_rfl
  rw [e]
  simp [sizeOf, typeInfo, hj, hy1]
theorem undInts : Try.prog.underlying 23 = some (.slice (Try.prog.elem 23)) := by kernel_rfl
theorem run_cut_hi (A : Option Addr) (len c k : Nat) (hk : k ≤ c) (w : World) :
    (Instr.slice 23 (.slice A len c) none (some (.int .i64 k)) none).run Try.prog w = .ok (.slice A k c) w := by
  rw [run_slice_h (ht := undInts) (kh := .i64) (h := (k : Int)) (h0 := by omega) (h2 := by omega), sizeInts]
  simp only [Result.andThen, sliced, Int.toNat_natCast, Nat.sub_zero]
  congr 2
  split
  · rfl
  · exact map_zero A
theorem run_cut_lo (A : Option Addr) (len c k : Nat) (hk : k ≤ len) (w : World) :
    (Instr.slice 23 (.slice A len c) (some (.int .i64 k)) none none).run Try.prog w = .ok (.slice (cutA A c k) (len - k) (c - k)) w := by
  rw [run_slice_l (ht := undInts) (kl := .i64) (l := (k : Int)) (h0 := by omega) (h1 := by omega), sizeInts]
  simp only [Result.andThen, sliced, Int.toNat_natCast]
  rfl
theorem cutA_none (c k : Nat) : cutA none c k = none := by unfold cutA; split <;> rfl
theorem cutA_nn {A : Option Addr} {c k : Nat} (h : cutA A c k = none) : A = none := by
  cases A with
  | none => rfl
  | some a => unfold cutA at h; split at h <;> cases h
theorem cutA_some {ad : Addr} {c k : Nat} (h : k < c) : cutA (some ad) c k = some (ad.add k) := by
  unfold cutA; rw [if_neg (by omega), Nat.mul_one]; rfl

/-! A row put between rows. -/
def insAt {α : Type} (P : Nat → α) (k : Nat) (a : α) : Nat → α := fun j => if j < k then P j else if j = k then a else P (j - 1)
theorem insAt_lt {α : Type} (P : Nat → α) {k j : Nat} (a : α) (h : j < k) : insAt P k a j = P j := if_pos h
theorem insAt_eq {α : Type} (P : Nat → α) (k : Nat) (a : α) : insAt P k a k = a := by unfold insAt; rw [if_neg (by omega), if_pos rfl]
theorem insAt_gt {α : Type} (P : Nat → α) {k j : Nat} (a : α) (h : k < j) : insAt P k a j = P (j - 1) := by unfold insAt; rw [if_neg (by omega), if_neg (by omega)]
def insR (rows : List (List Int)) (k : Nat) (r : List Int) : List (List Int) := rows.take k ++ r :: rows.drop k
theorem insR_len {rows : List (List Int)} {k : Nat} (hk : k ≤ rows.length) (r : List Int) : (insR rows k r).length = rows.length + 1 := by
  unfold insR; rw [List.length_append, List.length_cons, List.length_take, List.length_drop]; omega
theorem insR_lt {rows : List (List Int)} {k j : Nat} (hk : k ≤ rows.length) (r : List Int) (h : j < k) : (insR rows k r).getD j [] = rows.getD j [] := by
  unfold insR
  rw [List.getD_eq_getElem?_getD, List.getElem?_append_left (by rw [List.length_take]; omega), List.getElem?_take, if_pos h, ← List.getD_eq_getElem?_getD]
theorem insR_eq {rows : List (List Int)} {k : Nat} (hk : k ≤ rows.length) (r : List Int) : (insR rows k r).getD k [] = r := by
  unfold insR
  rw [List.getD_eq_getElem?_getD, List.getElem?_append_right (by rw [List.length_take]; omega), List.length_take, show k - min k rows.length = 0 by omega]; rfl
theorem insR_gt {rows : List (List Int)} {k j : Nat} (hk : k ≤ rows.length) (r : List Int) (h : k < j) : (insR rows k r).getD j [] = rows.getD (j - 1) [] := by
  unfold insR
  rw [List.getD_eq_getElem?_getD, List.getElem?_append_right (by rw [List.length_take]; omega), List.length_take, show j - min k rows.length = (j - 1 - k) + 1 by omega, List.getElem?_cons_succ, List.getElem?_drop, show k + (j - 1 - k) = j - 1 by omega, ← List.getD_eq_getElem?_getD]
theorem RL_ins (P : Nat → Option Addr) (C : Nat → Nat) (rows : List (List Int)) (k : Nat) (hk : k ≤ rows.length) (r : List Int) (A : Option Addr) (c : Nat) :
    RL (insAt P k A) (insAt C k c) (insR rows k r) = (RL P C rows).take k ++ [.slice A r.length c] ++ (RL P C rows).drop k := by
  apply List.ext_getElem?
  intro j
  by_cases hj : j < rows.length + 1
  · rw [RL_get _ _ _ _ (by rw [insR_len hk]; exact hj)]
    have hRl := RL_len P C rows
    by_cases h1 : j < k
    · rw [insAt_lt P A h1, insAt_lt C c h1, insR_lt hk r h1, List.append_assoc, List.getElem?_append_left (by rw [List.length_take]; omega), List.getElem?_take, if_pos h1, RL_get _ _ _ _ (by omega)]
    · by_cases h2 : j = k
      · subst h2
        rw [insAt_eq, insAt_eq, insR_eq hk, List.append_assoc, List.getElem?_append_right (by rw [List.length_take]; omega), List.length_take, show j - min j (RL P C rows).length = 0 by omega]; rfl
      · rw [insAt_gt P A (by omega), insAt_gt C c (by omega), insR_gt hk r (by omega), List.getElem?_append_right (by simp; omega), List.length_append, List.length_take, List.length_singleton, List.getElem?_drop, show k + (j - (min k (RL P C rows).length + 1)) = j - 1 by omega, RL_get _ _ _ _ (by omega)]
  · rw [List.getElem?_eq_none (by rw [RL_len, insR_len hk]; omega), List.getElem?_eq_none (by simp [RL_len]; omega)]
/-- One row between others: it was made behind the world w0; the new outer row lies behind w1. -/
theorem Push.ins {w0 w1 w2 : World} {B : Nat} {v v' : Value} {rows : List (List Int)} {P : Nat → Option Addr} {C : Nat → Nat} {A : Option Addr} {c k : Nat} {r : List Int}
    (h : Push w0 B v rows P C) (hb : Below w0.heap.size w0 w1) (hr : Own w1 w0.heap.size A c r) (hB : B ≤ w0.heap.size) (hk : k ≤ rows.length)
    (hb2 : Below w1.heap.size w1 w2) (ho : w2.ownsRow B 22 1 v' (rows.length + 1) ((RL P C rows).take k ++ [.slice A r.length c] ++ (RL P C rows).drop k)) :
    Push w2 B v' (insR rows k r) (insAt P k A) (insAt C k c) := by
  have h1 := h.below hb
  refine ⟨by rw [RL_ins P C rows k hk, insR_len hk]; exact ho, fun j hj => ?_, fun i j hij hj b hbi => ?_⟩
  · rw [insR_len hk] at hj
    by_cases e1 : j < k
    · rw [insAt_lt P A e1, insAt_lt C c e1, insR_lt hk r e1]
      exact (h1.row j (by omega)).below hb2
    · by_cases e2 : j = k
      · subst e2
        rw [insAt_eq, insAt_eq, insR_eq hk]
        exact (hr.below hb2).more hB
      · rw [insAt_gt P A (by omega), insAt_gt C c (by omega), insR_gt hk r (by omega)]
        exact (h1.row (j - 1) (by omega)).below hb2
  · rw [insR_len hk] at hj
    have old : ∀ i b, i < rows.length → (P i).map Addr.block = some b → b < w0.heap.size := fun i b hi hbb => ((h.row i hi).block b hbb).2
    have new : ∀ b, A.map Addr.block = some b → w0.heap.size ≤ b := fun b hbb => (hr.block b hbb).1
    by_cases e1 : j < k
    · rw [insAt_lt P A (show i < k by omega)] at hbi
      rw [insAt_lt P A e1]
      exact h.apart i j hij (by omega) b hbi
    · by_cases e2 : j = k
      · subst e2
        rw [insAt_lt P A hij] at hbi
        rw [insAt_eq]
        intro he
        have := new b he
        have := old i b (by omega) hbi
        omega
      · rw [insAt_gt P A (by omega)]
        by_cases e3 : i < k
        · rw [insAt_lt P A e3] at hbi
          exact h.apart i (j - 1) (by omega) (by omega) b hbi
        · by_cases e4 : i = k
          · subst e4
            rw [insAt_eq] at hbi
            intro he
            have := new b hbi
            have := old (j - 1) b (by omega) he
            omega
          · rw [insAt_gt P A (by omega)] at hbi
            exact h.apart (i - 1) (j - 1) (by omega) (by omega) b hbi
/-- What the cells of the old outer row hold, in a world behind. -/
theorem push_cells {w : World} {B : Nat} {A : Option Addr} {len c : Nat} {rows : List (List Int)} {P : Nat → Option Addr} {C : Nat → Nat} (h : Push w B (.slice A len c) rows P C) :
    len = rows.length ∧ len ≤ c ∧ (A = none → rows.length = 0 ∧ c = 0) ∧ ∀ ad, A = some ad → ∀ j u, (RL P C rows)[j]? = some u → w.cell? (ad.add j) = some u := by
  rcases h.out.2 with ⟨hv, h0⟩ | ⟨g, cap, cur, hv, hb, hg, rest⟩
  · injection hv with h1 h2 h3
    subst h1; subst h2; subst h3
    exact ⟨h0.symm, Nat.le_refl _, fun _ => ⟨h0, rfl⟩, fun ad e => by cases e⟩
  · injection hv with h1 h2 h3
    subst h1; subst h3
    refine ⟨h2, by omega, (fun e => by cases e), fun ad e => ?_⟩
    cases e
    intro k u hk
    exact World.ownsRow.cells h.out (g := g) (by rw [h2]; rfl) k u hk
end Go.Proofs.Ytkbdlhmkiolegaa
/-
  The model's order of partitions; a place in an ordered list.
-/
namespace Go.Proofs.Ytkbdlhmkiolegaa
open Go.RowKit

def befB : List Int → List Int → Bool
  | x :: p, y :: q => if x = y then befB p q else decide (y < x)
  | _, _ => false
theorem befB_end {p q : List Int} {k : Nat} (h : p.length ≤ k ∨ q.length ≤ k) : befB (p.drop k) (q.drop k) = false := by
  rcases h with h | h
  · rw [List.drop_eq_nil_of_le h]; rfl
  · rw [List.drop_eq_nil_of_le h]; cases p.drop k <;> rfl
theorem drop_getD (xs : List Int) (k : Nat) (h : k < xs.length) : xs.drop k = xs.getD k 0 :: xs.drop (k + 1) := by
  rw [List.drop_eq_getElem_cons h, List.getD_eq_getElem?_getD, List.getElem?_eq_getElem h]; rfl
theorem befB_eq {p q : List Int} {k : Nat} (h1 : k < p.length) (h2 : k < q.length) (h : p.getD k 0 = q.getD k 0) : befB (p.drop k) (q.drop k) = befB (p.drop (k + 1)) (q.drop (k + 1)) := by
  rw [drop_getD p k h1, drop_getD q k h2, befB, if_pos h]
theorem befB_ne {p q : List Int} {k : Nat} (h1 : k < p.length) (h2 : k < q.length) (h : p.getD k 0 ≠ q.getD k 0) : befB (p.drop k) (q.drop k) = decide (q.getD k 0 < p.getD k 0) := by
  rw [drop_getD p k h1, drop_getD q k h2, befB, if_neg h]

/-! The place of a partition. -/
def aftB (row p : List Int) : Bool := decide (p.sum < row.sum) || (decide (row.sum = p.sum) && befB p row)
def kIns (rows : List (List Int)) (p : List Int) : Nat → Nat
  | 0 => 0
  | k + 1 => if aftB (rows.getD k []) p = true then kIns rows p k else k + 1
theorem kIns_le (rows : List (List Int)) (p : List Int) : ∀ k, kIns rows p k ≤ k
  | 0 => Nat.le_refl _
  | k + 1 => by
    have := kIns_le rows p k
    rw [kIns]; split <;> omega
def insP (rows : List (List Int)) (p : List Int) : List (List Int) := insR rows (kIns rows p rows.length) p
theorem insP_len (rows : List (List Int)) (p : List Int) : (insP rows p).length = rows.length + 1 := insR_len (kIns_le _ _ _) p
def boK (S : List (List Int)) (m : Nat) : List (List Int) := ((S.take m).map ffF).foldl insP []
theorem boK_succ (S : List (List Int)) (m : Nat) (h : m < S.length) : boK S (m + 1) = insP (boK S m) (ffF (S.getD m [])) := by
  unfold boK
  rw [List.take_succ_eq_append_getElem h, List.map_append, List.foldl_append, List.getD_eq_getElem?_getD, List.getElem?_eq_getElem h]; rfl
theorem boK_len (S : List (List Int)) : ∀ m, m ≤ S.length → (boK S m).length = m
  | 0, _ => rfl
  | m + 1, h => by rw [boK_succ S m h, insP_len, boK_len S m (by omega)]
theorem ffF_good (H : List Int) : good (ffF H) = true := by
  unfold ffF
  split
  · rename_i h
    simp only [ffOk, Bool.and_eq_true] at h
    exact h.2.2
  · rfl
theorem insR_all {Q : List Int → Prop} {rows : List (List Int)} {p : List Int} (k : Nat) (h : ∀ r ∈ rows, Q r) (hp : Q p) : ∀ r ∈ insR rows k p, Q r := by
  intro r hr
  unfold insR at hr
  rw [List.mem_append, List.mem_cons] at hr
  rcases hr with hr | rfl | hr
  · exact h r (List.mem_of_mem_take hr)
  · exact hp
  · exact h r (List.mem_of_mem_drop hr)
theorem boK_good (S : List (List Int)) : ∀ m, m ≤ S.length → ∀ r ∈ boK S m, good r = true
  | 0, _ => fun r hr => by cases hr
  | m + 1, h => by
    rw [boK_succ S m h]
    exact insR_all _ (boK_good S m (by omega)) (ffF_good _)
def boS (a b : Int) : List (List Int) := bsL a b (gapsL a b) []
def boL (a b : Int) : List (List Int) := boK (boS a b) (boS a b).length

theorem addr_add0 (g k : Nat) : (⟨g, 0, none⟩ : Addr).add k = ⟨g, k, none⟩ := by
  unfold Addr.add
  split
  · rename_i h; subst h; rfl
  · simp
theorem addr_add_add (a : Addr) (k j : Nat) : (a.add k).add j = a.add (k + j) := by
  unfold Addr.add
  by_cases h1 : k = 0
  · subst h1; simp
  · by_cases h2 : j = 0
    · subst h2; simp [h1]
    · rw [if_neg h1, if_neg h2, if_neg (by omega)]; simp [Nat.add_assoc]
theorem cut_take {w W : World} {A : Option Addr} {L : List Value} (h : ∀ ad, A = some ad → ∀ j u, L[j]? = some u → w.cell? (ad.add j) = some u) (hW : Below w.heap.size w W) (k : Nat) :
    ∀ ad, A = some ad → ∀ j u, (L.take k)[j]? = some u → W.cell? (ad.add j) = some u := by
  intro ad e j u hu
  rw [List.getElem?_take] at hu
  split at hu
  · have h1 := h ad e j u hu
    rw [hW.cell (World.block_lt_of_cell? w _ h1), h1]
  · cases hu
theorem cut_drop {w W : World} {A : Option Addr} {L : List Value} {c : Nat} (h : ∀ ad, A = some ad → ∀ j u, L[j]? = some u → w.cell? (ad.add j) = some u) (hW : Below w.heap.size w W) (k : Nat) (hc : L.length ≤ c) :
    ∀ ad, cutA A c k = some ad → ∀ j u, (L.drop k)[j]? = some u → W.cell? (ad.add j) = some u := by
  intro ad e j u hu
  rw [List.getElem?_drop] at hu
  have hj := (List.getElem?_eq_some_iff.1 hu).1
  cases A with
  | none => rw [cutA_none] at e; cases e
  | some a0 =>
    rw [cutA_some (by omega)] at e
    cases e
    have h1 := h a0 rfl (k + j) u hu
    rw [addr_add_add, hW.cell (World.block_lt_of_cell? w _ h1), h1]
end Go.Proofs.Ytkbdlhmkiolegaa
/-
  Contracts: CountsOf of the program and of the model.
-/
namespace Go.Proofs.Ytkbdlhmkiolegaa
open Go.RowKit

def cnt (r : Nat) (xs : List Int) (j : Nat) : Int := ((xs.filter fun x => decide (x % (r : Int) = (j : Int))).length : Nat)
def cntL (r : Nat) (xs : List Int) : List Int := fnRow r (cnt r xs)
def cntK (r : Nat) (xs : List Int) (k : Nat) : List Int := cntL r (xs.take k)
theorem cntK_zero (r : Nat) (xs : List Int) : cntK r xs 0 = fnRow r (fun _ => 0) := rowF_ext _ _ _ fun j _ => by simp [cnt]
theorem cntK_all (r : Nat) (xs : List Int) : cntK r xs xs.length = cntL r xs := by unfold cntK; rw [List.take_of_length_le (Nat.le_refl _)]
theorem cntK_len (r : Nat) (xs : List Int) (k : Nat) : (cntK r xs k).length = r := fnRow_len _ _
theorem cntK_succ (r : Nat) (xs : List Int) (k m : Nat) (hk : k < xs.length) (hm : xs.getD k 0 % (r : Int) = (m : Int)) (hmr : m < r) : (cntK r xs k).set m ((cntK r xs k).getD m 0 + 1) = cntK r xs (k + 1) := by
  unfold cntK cntL
  rw [fnRow_get _ _ _ hmr, fnRow_set]
  refine rowF_ext _ _ _ fun j _ => ?_
  rw [List.take_succ_eq_append_getElem hk]
  have e : xs[k] = xs.getD k 0 := by simp [List.getD, hk]
  unfold cnt
  rw [e, List.filter_append, List.length_append]
  by_cases h : j = m
  · subst h
    rw [if_pos rfl]
    simp only [List.filter_cons, List.filter_nil, hm, decide_true, if_true, List.length_singleton]
    omega
  · rw [if_neg h]
    have : ¬ xs.getD k 0 % (r : Int) = (j : Int) := by rw [hm]; omega
    simp only [List.filter_cons, List.filter_nil, this, decide_false, Bool.false_eq_true, if_false, List.length_nil]
    omega
theorem cntK_bd (r : Nat) (xs : List Int) (k m : Nat) (hm : m < r) : 0 ≤ (cntK r xs k).getD m 0 ∧ (cntK r xs k).getD m 0 ≤ k := by
  unfold cntK cntL
  rw [fnRow_get _ _ _ hm]
  unfold cnt
  have := List.length_filter_le (fun x => decide (x % (r : Int) = (m : Int))) (xs.take k)
  have h2 : (xs.take k).length ≤ k := by rw [List.length_take]; omega
  omega
def countsF (r : Int) (xs : List Int) : List Int := if isAba r xs then cntL r.toNat xs else []
theorem bound_CountsOf (r : Int) (xs : List Int) : (countsF r xs).length ≤ 1048576 := by
  unfold countsF; split
  · rename_i h
    simp only [isAba, Bool.and_eq_true] at h
    have := inB_iff.1 h.1
    unfold cntL; rw [fnRow_len]; omega
  · simp

end Go.Proofs.Ytkbdlhmkiolegaa
