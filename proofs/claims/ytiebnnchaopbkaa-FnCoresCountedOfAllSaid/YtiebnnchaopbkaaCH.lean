/-
  Several texts in one.
-/
import Derived.Test.YtiebnnchaopbkaaCB
import Derived.Test.YtiebnnchaopbkaaCA
import Derived.Deep.RegionHeld3
import Derived.StillTailTactics
import Derived.Test.YtiebnnchaopbkaaCC
/-
  Contracts: the program's table of counted partitions.
-/
namespace Go.Proofs.Ytiebnnchaopbkaa
open Go.RowKit

def zeroTab : Array Value := Array.replicate 961 (.int .i64 0)
/-- Block b is a table of 961 numbers: number i is f i. -/
structure Tab (w : World) (b : Nat) (f : Nat → Int) : Prop where
  lt : b < w.heap.size
  cell : ∀ i, i < 961 → w.cell? ⟨b, i, none⟩ = some (.int .i64 (f i))
  frozen : ∀ i, w.frozen? ⟨b, i, none⟩ = false
theorem Tab.keep {w w' : World} {b : Nat} {f : Nat → Int} (h : Tab w b f) (hs : w.heap.size ≤ w'.heap.size) (hk : w'.heap[b]? = w.heap[b]?) : Tab w' b f :=
  ⟨Nat.lt_of_lt_of_le h.lt hs, fun i hi => (World.cell?_of_block (w := w) (w' := w') (a := ⟨b, i, none⟩) hk).trans (h.cell i hi), fun i => (World.frozen?_of_block (w := w) (w' := w') (a := ⟨b, i, none⟩) hk).trans (h.frozen i)⟩
theorem Tab.below {w w' : World} {b : Nat} {f : Nat → Int} (h : Tab w b f) (hb : Below w.heap.size w w') : Tab w' b f := h.keep hb.size (hb.block b h.lt)
theorem Tab.drewN {w : World} {b : Nat} {f : Nat → Int} (h : Tab w b f) (n : Nat) : Tab (w.drewN n) b f := ⟨h.lt, h.cell, h.frozen⟩
theorem Tab.set {w : World} {b : Nat} {f : Nat → Int} (h : Tab w b f) {i : Nat} (hi : i < 961) (v : Int) : Tab (w.setCell ⟨b, i, none⟩ (.int .i64 v)) b (fun j => if j = i then v else f j) := by
  refine ⟨by simp only [World.setCell, Array.size_modify]; exact h.lt, fun j hj => ?_, fun j => ?_⟩
  · by_cases e : j = i
    · subst e
      rw [if_pos rfl]
      exact World.cell?_setCell_same w _ _ (h.cell j hj)
    · rw [if_neg e]
      exact (World.cell?_setCell_other w _ _ _ (fun he => e (by injection he with _ h2 _; exact h2.symm))).trans (h.cell j hj)
  · rw [World.frozen?_setCell]; exact h.frozen j
theorem Tab.congr {w : World} {b : Nat} {f g : Nat → Int} (h : Tab w b f) (e : ∀ i, i < 961 → f i = g i) : Tab w b g := ⟨h.lt, fun i hi => by rw [← e i hi]; exact h.cell i hi, h.frozen⟩
/-- The table's numbers while row n is filled up to column k (k - 1 the last that is right): rows before n are right; what is to come is 0, the first number 1. -/
def stT (n k : Nat) (i : Nat) : Int := if i / 31 < n ∨ i / 31 = n ∧ i % 31 < k then (T (i / 31) (i % 31) : Int) else if i = 0 then 1 else 0

theorem stT_done {n k i : Nat} (h : i / 31 < n ∨ i / 31 = n ∧ i % 31 < k) : stT n k i = T (i / 31) (i % 31) := by unfold stT; rw [if_pos h]
theorem stT_todo {n k i : Nat} (h : ¬ (i / 31 < n ∨ i / 31 = n ∧ i % 31 < k)) : stT n k i = if i = 0 then 1 else 0 := by unfold stT; rw [if_neg h]
theorem stT_first {n : Nat} (hn : n < 31) (i : Nat) : stT n 0 i = stT n 1 i := by
  by_cases h : i / 31 < n
  · rw [stT_done (k := 0) (.inl h), stT_done (k := 1) (.inl h)]
  · by_cases h2 : i / 31 = n ∧ i % 31 < 1
    · rw [stT_todo (k := 0) (by omega), stT_done (k := 1) (.inr h2)]
      have hm : i % 31 = 0 := by omega
      rw [h2.1, hm, T_zero n hn]
      by_cases hn0 : n = 0
      · rw [if_pos hn0, if_pos (by omega)]; rfl
      · rw [if_neg hn0, if_neg (by omega)]; rfl
    · rw [stT_todo (k := 0) (by omega), stT_todo (k := 1) (by omega)]
theorem stT_row (n i : Nat) : stT n 31 i = stT (n + 1) 0 i := by
  by_cases h : i / 31 < n + 1
  · rw [stT_done (n := n) (k := 31) (by omega), stT_done (n := n + 1) (k := 0) (.inl h)]
  · rw [stT_todo (n := n) (k := 31) (by omega), stT_todo (n := n + 1) (k := 0) (by omega)]
theorem stT_step {n k i : Nat} (hk : k < 31) (x : Int) (hx : x = T n k) : (if i = n * 31 + k then x else stT n k i) = stT n (k + 1) i := by
  by_cases e : i = n * 31 + k
  · rw [if_pos e, stT_done (k := k + 1) (by omega), hx, show i / 31 = n by omega, show i % 31 = k by omega]
  · rw [if_neg e]
    by_cases h : i / 31 < n ∨ i / 31 = n ∧ i % 31 < k
    · rw [stT_done h, stT_done (k := k + 1) (by omega)]
    · rw [stT_todo h, stT_todo (k := k + 1) (by omega)]
theorem stT_start (i : Nat) (_hi : i < 961) : (if i = 0 then (1 : Int) else 0) = stT 0 0 i := by rw [stT_todo (by omega)]
theorem T_no {n k : Nat} (hn : n < 31) (hk1 : 1 ≤ k) (hk : k < 31) (h : ¬ k ≤ n) : T n k = T n (k - 1) := by
  have := T_rec n hn (k - 1) (by omega)
  rw [show k - 1 + 1 = k by omega, if_neg h] at this
  exact this

end Go.Proofs.Ytiebnnchaopbkaa
/-
  Contracts: the model's table of counted partitions.
-/
namespace Go.Proofs.Ytiebnnchaopbkaa
open Go.RowKit

def tF (m j : Nat) : Int := (T m j : Int)
def rowsT (n k : Nat) : List (List Int) := (List.range k).map fun m => rowF tF m (n + 1)
theorem rowsT_len (n k : Nat) : (rowsT n k).length = k := by simp [rowsT]
theorem rowsT_succ (n k : Nat) : rowsT n (k + 1) = rowsT n k ++ [rowF tF k (n + 1)] := by simp [rowsT, List.range_succ]
theorem rowsT_get (n k m : Nat) (h : m < k) : (rowsT n k).getD m [] = rowF tF m (n + 1) := by
  rw [List.getD_eq_getElem?_getD, rowsT, List.getElem?_map, List.getElem?_range h]; rfl
def part (ys : List Int) (k : Nat) : List Value := IL (ys.take k) ++ List.replicate (ys.length - k) (.int .i64 0)
theorem part_set (ys : List Int) (k : Nat) (hk : k < ys.length) : (part ys k).set k (.int .i64 (ys.getD k 0)) = part ys (k + 1) := by
  unfold part
  have hl : (IL (ys.take k)).length = k := by simp [IL]; omega
  rw [List.set_append_right _ _ (by omega), hl, Nat.sub_self]
  obtain ⟨m, hm⟩ : ∃ m, ys.length - k = m + 1 := ⟨ys.length - k - 1, by omega⟩
  rw [hm, show ys.length - (k + 1) = m by omega, List.replicate_succ, List.set_cons_zero, ← IL_snoc ys k hk, List.append_assoc]; rfl
theorem part_len (ys : List Int) (k : Nat) (hk : k ≤ ys.length) : (part ys k).length = ys.length := by simp [part, IL]; omega
theorem part_get (ys : List Int) (k j : Nat) (hj : j < k) (hk : k ≤ ys.length) : (part ys k)[j]? = some (.int .i64 (ys.getD j 0)) := by
  unfold part
  rw [List.getElem?_append_left (by simp [IL]; omega), IL_get _ j (by simp; omega), getD_take ys k j hj]
theorem part_full (ys : List Int) : part ys ys.length = IL ys := by simp [part]
theorem part_zero (ys : List Int) : part ys 0 = List.replicate ys.length (.int .i64 0) := by simp [part, IL]
theorem part_one (ys : List Int) (h : 0 < ys.length) (h0 : ys.getD 0 0 = 0) : part ys 1 = List.replicate ys.length (.int .i64 0) := by
  have := part_set ys 0 h
  rw [h0, part_zero] at this
  rw [← this]
  obtain ⟨m, hm⟩ : ∃ m, ys.length = m + 1 := ⟨ys.length - 1, by omega⟩
  rw [hm, List.replicate_succ, List.set_cons_zero]
theorem tF_get (m n j : Nat) (h : j < n + 1) : (rowF tF m (n + 1)).getD j 0 = T m j := rowF_get tF m (n + 1) j h

end Go.Proofs.Ytiebnnchaopbkaa
/-
  Contracts: CountPartitions of the program and of the model.
-/
namespace Go.Proofs.Ytiebnnchaopbkaa
open Go.RowKit

def okN (n : Int) : Bool := inB 0 30 n
def countF (n : Int) : Int := if okN n then (T n.toNat n.toNat : Int) else 0
theorem countF_t (n : Nat) (h : n ≤ 30) : countF n = T n n := by
  have e : okN n = true := inB_iff.2 (by omega)
  simp [countF, e]
theorem countF_f {n : Int} (h : okN n = false) : countF n = 0 := by simp [countF, h]
theorem okN_nat {n : Int} (h : okN n = true) : ∃ m : Nat, n = m ∧ m ≤ 30 := by
  have := inB_iff.1 h
  exact ⟨n.toNat, by omega, by omega⟩

set_option maxHeartbeats 400000 in
theorem ptCells_any (n : Int) (w : World) : Calls Try.prog 45 #[.int .i64 n] w fun e w' => e = .returned (.bool (okN n)) ∧ w = w' := by
  go_enter Try.func45, Try.ntmps45
  go_wp2_with (go_at_call 70; refine (l1In_any _ _ _ _).mono ?_; rintro e w' ⟨rfl, rfl⟩)
  go_ret
  exact ⟨rfl, rfl⟩
theorem ptCells_b (n : Int) (w : World) (b : Bool) (h : okN n = b) : Calls Try.prog 45 #[.int .i64 n] w fun e w' => e = .returned (.bool b) ∧ w = w' := by
  subst h; exact ptCells_any n w

set_option maxHeartbeats 400000 in
theorem isCellNumber_any (n : Int) (w : World) : Calls Try.prog 27 #[.int .i64 n] w fun e w' => e = .returned (.bool (okN n)) ∧ w = w' := by
  by_cases h1 : 0 ≤ n
  · by_cases h2 : n ≤ 30
    · go_enter Try.func27, Try.ntmps27
      go_wp2
      go_ret
      exact ⟨by simp [okN, inB, h1, h2], rfl⟩
    · go_enter Try.func27, Try.ntmps27
      go_wp2
      go_ret
      exact ⟨by simp [okN, inB]; omega, rfl⟩
  · go_enter Try.func27, Try.ntmps27
    go_wp2
    go_ret
    exact ⟨by simp [okN, inB]; omega, rfl⟩
theorem isCellNumber_b (n : Int) (w : World) (b : Bool) (h : okN n = b) : Calls Try.prog 27 #[.int .i64 n] w fun e w' => e = .returned (.bool b) ∧ w = w' := by
  subst h; exact isCellNumber_any n w

end Go.Proofs.Ytiebnnchaopbkaa
/-
  Contracts: RankPartition of the program and of the model.
-/
namespace Go.Proofs.Ytiebnnchaopbkaa
open Go.RowKit

theorem T_sat : ∀ n, n < 31 → ∀ k, k < 31 → n ≤ k → T n k = T n n := by decide +kernel
theorem T_min {l m : Nat} (hl : l < 31) (hm : m < 31) : T l (min l m) = T l m := by
  rcases Nat.le_total l m with h | h
  · rw [Nat.min_eq_left h, T_sat l hl m hm h]
  · rw [Nat.min_eq_right h]
def rk : Nat → Nat → List Int → Int
  | _, _, [] => 0
  | l, m, x :: t => ((T l m : Int) - T l x.toNat) + rk (l - x.toNat) x.toNat t
def rankF (xs : List Int) : Int := if good xs then rk xs.sum.toNat xs.sum.toNat xs else 0
theorem rankF_t {xs : List Int} (h : good xs = true) : rankF xs = rk xs.sum.toNat xs.sum.toNat xs := by simp [rankF, h]
theorem rankF_f {xs : List Int} (h : good xs = false) : rankF xs = 0 := by simp [rankF, h]
theorem sum_drop_nonneg {xs : List Int} (G : Good xs) (k : Nat) : 0 ≤ (xs.drop k).sum := by
  refine (sum_bound (xs.drop k) 30 fun j hj => ?_).1
  rw [List.length_drop] at hj
  rw [getD_drop]
  have := G.pos (k + j) (by omega); have := G.le (k + j) (by omega); omega
theorem sum_drop {xs : List Int} {k : Nat} (h : k < xs.length) : (xs.drop k).sum = xs.getD k 0 + (xs.drop (k + 1)).sum := by rw [drop_cons xs k h, List.sum_cons]

end Go.Proofs.Ytiebnnchaopbkaa
/-
  Contracts: RankPartition of the model.
-/
namespace Go.Proofs.Ytiebnnchaopbkaa
open Go.RowKit

/-- The model's table stands at A: row m, column j holds T m j. -/
structure RowsAt (w : World) (b o : Nat) (P : Nat → Option Addr) (C : Nat → Nat) (N : Nat) : Prop where
  top : ∀ m, m ≤ N → w.cell? ⟨b, o + m, none⟩ = some (.slice (P m) (N + 1) (C m))
  row : ∀ m, m ≤ N → ∃ b' o', P m = some ⟨b', o', none⟩ ∧ ∀ j, j ≤ N → w.cell? ⟨b', o' + j, none⟩ = some (.int .i64 (T m j))
theorem RowsAt.of {w : World} {B S : Nat} {A : Option Addr} {c N : Nat} (h : Own2 w B S A c (rowsT N (N + 1))) : ∃ b o P C, A = some ⟨b, o, none⟩ ∧ RowsAt w b o P C N := by
  obtain ⟨P, C, h1, h2⟩ := h.cells
  rw [rowsT_len] at h1 h2
  obtain ⟨b, o, rfl, hcc⟩ := h1 (by omega)
  refine ⟨b, o, P, C, rfl, fun m hm => ?_, fun m hm => ?_⟩
  · have hck := hcc m (by omega)
    rw [rowsT_get N (N + 1) m (by omega), rowF_len] at hck
    exact hck
  · have hrow := h2 m (by omega)
    rw [rowsT_get N (N + 1) m (by omega)] at hrow
    obtain ⟨b3, o3, e3, _⟩ := hrow.get (j := 0) (by rw [rowF_len]; omega)
    refine ⟨b3, o3, e3, fun j hj => ?_⟩
    obtain ⟨b4, o4, e4, h4⟩ := hrow.get (j := j) (by rw [rowF_len]; omega)
    rw [e3] at e4
    cases e4
    rw [tF_get m N j (by omega)] at h4
    exact h4
theorem RowsAt.drewN {w : World} {b o : Nat} {P : Nat → Option Addr} {C : Nat → Nat} {N : Nat} (h : RowsAt w b o P C N) (n : Nat) : RowsAt (w.drewN n) b o P C N := ⟨h.top, h.row⟩
theorem RowsAt.below {w w' : World} {b o : Nat} {P : Nat → Option Addr} {C : Nat → Nat} {N : Nat} (h : RowsAt w b o P C N) (hb : Below w.heap.size w w') : RowsAt w' b o P C N := by
  refine ⟨fun m hm => ?_, fun m hm => ?_⟩
  · have := h.top m hm
    rw [← this]; exact World.cell?_of_block (w := w) (hb.block _ (World.block_lt_of_cell? w _ this))
  · obtain ⟨b', o', e, hj⟩ := h.row m hm
    refine ⟨b', o', e, fun j hjn => ?_⟩
    have := hj j hjn
    rw [← this]; exact World.cell?_of_block (w := w) (hb.block _ (World.block_lt_of_cell? w _ this))

end Go.Proofs.Ytiebnnchaopbkaa
/-
  Plain facts: the partition with a rank. No program in this text.
-/
namespace Go.Proofs.Ytiebnnchaopbkaa
theorem T_up : ∀ n, n < 31 → ∀ k, k < 30 → T n k ≤ T n (k + 1) := by decide +kernel
theorem T_same : ∀ n, n < 31 → ∀ k, k < 30 → n ≤ k → T n (k + 1) = T n k := by decide +kernel
theorem T_none : ∀ n, n < 31 → 1 ≤ n → T n 0 = 0 := by decide +kernel
theorem T_step {n k : Nat} (hn : n < 31) (hk : k < 30) (h : k + 1 ≤ n) : T n (k + 1) = T n k + T (n - (k + 1)) (k + 1) := by
  have := T_rec n hn k hk
  rw [if_pos h] at this; exact this
def pk (n : Nat) : Nat → Nat → Nat × Nat
  | 0, r => (0, r)
  | x + 1, r => if T n (x + 1) - T n x ≤ r then pk n x (r - (T n (x + 1) - T n x)) else (x + 1, r)
theorem pk_yes {n x r : Nat} (h : T n (x + 1) - T n x ≤ r) : pk n (x + 1) r = pk n x (r - (T n (x + 1) - T n x)) := by rw [pk, if_pos h]
theorem pk_no {n x r : Nat} (h : ¬ T n (x + 1) - T n x ≤ r) : pk n (x + 1) r = (x + 1, r) := by rw [pk, if_neg h]
def pa : Nat → Nat → Nat → Nat → List Int
  | 0, _, _, _ => []
  | f + 1, n, m, r => if n = 0 then [] else ((pk n m r).1 : Int) :: pa f (n - (pk n m r).1) (pk n m r).1 (pk n m r).2
theorem pa_zero (f m r : Nat) : pa f 0 m r = [] := by cases f <;> simp [pa]
theorem pa_next {f n m r p q : Nat} (hf : n ≤ f) (h1 : 1 ≤ n) (h : pk n m r = (p, q)) : ∃ f', f = f' + 1 ∧ pa f n m r = (p : Int) :: pa f' (n - p) p q := by
  obtain ⟨f', rfl⟩ : ∃ f', f = f' + 1 := ⟨f - 1, by omega⟩
  exact ⟨f', rfl, by rw [pa, if_neg (by omega), h]⟩
/-- Down from m to n nothing is taken. -/
theorem pk_min {n : Nat} (hn : n < 31) : ∀ m, m < 31 → ∀ r, pk n m r = pk n (min n m) r := by
  intro m
  induction m with
  | zero => intro _ r; rw [Nat.min_eq_right (Nat.zero_le _)]
  | succ m ih =>
    intro hm r
    by_cases h : n ≤ m
    · have hs := T_same n hn m (by omega) h
      rw [pk_yes (by omega), ih (by omega), hs, Nat.sub_self, Nat.sub_zero, Nat.min_eq_left h, Nat.min_eq_left (by omega)]
    · rw [Nat.min_eq_right (by omega : m + 1 ≤ n)]
/-- What the last step of a search tells. -/
theorem pick_last {n p q : Nat} (hn : n < 31) (hp : p ≤ 30) (h1 : 1 ≤ p) (h : ¬ T n p - T n (p - 1) ≤ q) : p ≤ n ∧ q < T (n - p) p := by
  obtain ⟨x, rfl⟩ : ∃ x, p = x + 1 := ⟨p - 1, by omega⟩
  rw [Nat.add_sub_cancel] at h
  by_cases hpn : x + 1 ≤ n
  · have := T_step hn (by omega) hpn
    exact ⟨hpn, by omega⟩
  · have := T_same n hn x (by omega) (by omega)
    omega
end Go.Proofs.Ytiebnnchaopbkaa
/-
  Contracts: PartitionWith of the program.
-/
namespace Go.Proofs.Ytiebnnchaopbkaa
open Go.RowKit

theorem own_lower {w : World} {B B' : Nat} {A : Option Addr} {c : Nat} {xs : List Int} (h : Own w B A c xs) (hb : B' ≤ B) : Own w B' A c xs :=
  ⟨h.1, h.2.imp id fun ⟨g, cap, cur, a, b, r⟩ => ⟨g, cap, cur, a, Nat.le_trans hb b, r⟩⟩
def withB (n r : Int) : Bool := okN n && decide (0 ≤ r) && decide (r < (T n.toNat n.toNat : Int))
def withF (n r : Int) : List Int := if withB n r then pa n.toNat n.toNat n.toNat r.toNat else []
theorem withF_f {n r : Int} (h : withB n r = false) : withF n r = [] := by simp [withF, h]
theorem withB_iff {n r : Int} : withB n r = true ↔ ∃ m q : Nat, n = m ∧ r = q ∧ m ≤ 30 ∧ q < T m m := by
  constructor
  · intro h
    simp only [withB, Bool.and_eq_true, decide_eq_true_eq] at h
    obtain ⟨⟨h1, h2⟩, h3⟩ := h
    obtain ⟨m, rfl, hm⟩ := okN_nat h1
    rw [Int.toNat_natCast] at h3
    exact ⟨m, r.toNat, rfl, by omega, hm, by omega⟩
  · rintro ⟨m, q, rfl, rfl, hm, hq⟩
    simp only [withB, Bool.and_eq_true, decide_eq_true_eq, Int.toNat_natCast]
    exact ⟨⟨inB_iff.2 (by omega), by omega⟩, by omega⟩
theorem withF_t {m q : Nat} (hm : m ≤ 30) (hq : q < T m m) : withF m q = pa m m m q := by
  have h : withB m q = true := withB_iff.2 ⟨m, q, rfl, rfl, hm, hq⟩
  simp [withF, h]
theorem pa_len : ∀ f n m r, (pa f n m r).length ≤ f := by
  intro f
  induction f with
  | zero => intro n m r; simp [pa]
  | succ f ih =>
    intro n m r
    rw [pa]
    split
    · simp
    · simp; exact ih _ _ _
theorem withF_len (n r : Int) : (withF n r).length ≤ 30 := by
  cases h : withB n r
  · rw [withF_f h]; simp
  · obtain ⟨m, q, rfl, rfl, hm, hq⟩ := withB_iff.1 h
    rw [withF_t hm hq]; have := pa_len m m m q; omega

end Go.Proofs.Ytiebnnchaopbkaa
/-
  Contracts: AllPartitions of the program.
-/
namespace Go.Proofs.Ytiebnnchaopbkaa
open Go.RowKit

/-- A row that a call made is laid into the outer row. -/
theorem Fill.put {w : World} {B g n : Nat} {rows : List (List Int)} {P : Nat → Option Addr} {C : Nat → Nat} (h : Fill w B g n rows P C) (hlt : rows.length < n) {w2 : World} (hb : Below w.heap.size w w2) {A : Option Addr} {c : Nat} {r : List Int} (hr : Own w2 w.heap.size A c r) :
    (∃ u, w2.cell? ⟨g, rows.length, none⟩ = some u) ∧ w2.frozen? ⟨g, rows.length, none⟩ = false ∧ Fill (w2.setCell ⟨g, rows.length, none⟩ (.slice A r.length c)) B g n (rows ++ [r]) (setAt P rows.length A) (setAt C rows.length c) ∧ Below B w (w2.setCell ⟨g, rows.length, none⟩ (.slice A r.length c)) := by
  have hg := h.out.lt g rfl
  have h2 := h.keep hb
  have ho := h2.out
  have hst := (ho.stored rows.length (.slice A r.length c)).1
  have hne : ∀ b, A.map Addr.block = some b → b ≠ g := fun b hbb => by have := (hr.block b hbb).1; omega
  refine ⟨cells_some ho hlt, World.ownsRow.frozenAt ho _, ⟨?_, fun j hj => ?_, fun i j hij hj b hbb => ?_⟩, ((hb.mono (by omega)).setCell hg.1 _)⟩
  · rw [RL_snoc, List.length_append, List.length_singleton]
    have e2 : (RL P C rows ++ List.replicate (n - rows.length) (Value.slice none 0 0)).set rows.length (.slice A r.length c) = RL P C rows ++ [.slice A r.length c] ++ List.replicate (n - (rows.length + 1)) (Value.slice none 0 0) := by
      rw [List.set_append_right _ _ (by rw [RL_len]; exact Nat.le_refl _), RL_len, Nat.sub_self]
      obtain ⟨d, hd⟩ : ∃ d, n - rows.length = d + 1 := ⟨n - rows.length - 1, by omega⟩
      rw [hd, List.replicate_succ, List.set_cons_zero, show n - (rows.length + 1) = d by omega, List.append_assoc]; rfl
    rw [e2] at hst
    exact hst
  · rw [List.length_append, List.length_singleton] at hj
    by_cases e : j = rows.length
    · subst e
      rw [setAt_eq, setAt_eq, getD_snoc_eq]
      refine (hr.more (show B ≤ w.heap.size by omega)).keep fun b hbb _ => Below.heap_setCell _ _ _ _ (hne b hbb)
    · rw [setAt_ne P _ e, setAt_ne C _ e, getD_snoc_lt rows r j (by omega)]
      have hx := h2.row j (by omega)
      exact hx.keep fun b hbb _ => Below.heap_setCell _ _ _ _ (fun e => row_ne' ho hx b hbb (by simp only [Value.ownBlock]; rw [e]))
  · rw [List.length_append, List.length_singleton] at hj
    rw [setAt_ne P _ (show i ≠ rows.length by omega)] at hbb
    by_cases e : j = rows.length
    · subst e
      rw [setAt_eq]
      intro he
      have := ((h.row i (by omega)).block b hbb).2
      have := (hr.block b he).1
      omega
    · rw [setAt_ne P _ e]
      exact h.apart i j hij (by omega) b hbb

def allR (n k : Nat) : List (List Int) := (List.range k).map fun r => pa n n n r
theorem allR_len (n k : Nat) : (allR n k).length = k := by simp [allR]
theorem allR_succ (n k : Nat) : allR n (k + 1) = allR n k ++ [pa n n n k] := by simp [allR, List.range_succ]

def allF (n : Int) : List (List Int) := if inB 0 14 n then allR n.toNat (T n.toNat n.toNat) else []
theorem allF_f {n : Int} (h : inB 0 14 n = false) : allF n = [] := by simp [allF, h]
theorem allF_t (m : Nat) (h : m ≤ 14) : allF m = allR m (T m m) := by
  have e : inB 0 14 (m : Int) = true := inB_iff.2 (by omega)
  simp [allF, e]

end Go.Proofs.Ytiebnnchaopbkaa
