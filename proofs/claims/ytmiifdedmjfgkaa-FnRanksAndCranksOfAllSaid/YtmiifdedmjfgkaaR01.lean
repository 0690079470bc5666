/-
  Several texts in one.
-/
import Derived.Test.YtmiifdedmjfgkaaProg
import Derived.WalkKit
import Derived.WalkSpells
import Derived.WalkLawsBesides
import Derived.BigQuiet
import Derived.Deep.QuietTactic
import Derived.Deep.OwnRows
/-
  Plain facts: how many partitions of n cells have no part greater than k, as a table. No program in this text.
-/
namespace Go.Proofs.Ytmiifdedmjfgkaa
def tbl : List (List Nat) := [
  [1, 1, 1, 1, 1, 1, 1, 1, 1, 1, 1, 1, 1, 1, 1, 1, 1, 1, 1, 1, 1, 1, 1, 1, 1, 1, 1, 1, 1, 1, 1],
  [0, 1, 1, 1, 1, 1, 1, 1, 1, 1, 1, 1, 1, 1, 1, 1, 1, 1, 1, 1, 1, 1, 1, 1, 1, 1, 1, 1, 1, 1, 1],
  [0, 1, 2, 2, 2, 2, 2, 2, 2, 2, 2, 2, 2, 2, 2, 2, 2, 2, 2, 2, 2, 2, 2, 2, 2, 2, 2, 2, 2, 2, 2],
  [0, 1, 2, 3, 3, 3, 3, 3, 3, 3, 3, 3, 3, 3, 3, 3, 3, 3, 3, 3, 3, 3, 3, 3, 3, 3, 3, 3, 3, 3, 3],
  [0, 1, 3, 4, 5, 5, 5, 5, 5, 5, 5, 5, 5, 5, 5, 5, 5, 5, 5, 5, 5, 5, 5, 5, 5, 5, 5, 5, 5, 5, 5],
  [0, 1, 3, 5, 6, 7, 7, 7, 7, 7, 7, 7, 7, 7, 7, 7, 7, 7, 7, 7, 7, 7, 7, 7, 7, 7, 7, 7, 7, 7, 7],
  [0, 1, 4, 7, 9, 10, 11, 11, 11, 11, 11, 11, 11, 11, 11, 11, 11, 11, 11, 11, 11, 11, 11, 11, 11, 11, 11, 11, 11, 11, 11],
  [0, 1, 4, 8, 11, 13, 14, 15, 15, 15, 15, 15, 15, 15, 15, 15, 15, 15, 15, 15, 15, 15, 15, 15, 15, 15, 15, 15, 15, 15, 15],
  [0, 1, 5, 10, 15, 18, 20, 21, 22, 22, 22, 22, 22, 22, 22, 22, 22, 22, 22, 22, 22, 22, 22, 22, 22, 22, 22, 22, 22, 22, 22],
  [0, 1, 5, 12, 18, 23, 26, 28, 29, 30, 30, 30, 30, 30, 30, 30, 30, 30, 30, 30, 30, 30, 30, 30, 30, 30, 30, 30, 30, 30, 30],
  [0, 1, 6, 14, 23, 30, 35, 38, 40, 41, 42, 42, 42, 42, 42, 42, 42, 42, 42, 42, 42, 42, 42, 42, 42, 42, 42, 42, 42, 42, 42],
  [0, 1, 6, 16, 27, 37, 44, 49, 52, 54, 55, 56, 56, 56, 56, 56, 56, 56, 56, 56, 56, 56, 56, 56, 56, 56, 56, 56, 56, 56, 56],
  [0, 1, 7, 19, 34, 47, 58, 65, 70, 73, 75, 76, 77, 77, 77, 77, 77, 77, 77, 77, 77, 77, 77, 77, 77, 77, 77, 77, 77, 77, 77],
  [0, 1, 7, 21, 39, 57, 71, 82, 89, 94, 97, 99, 100, 101, 101, 101, 101, 101, 101, 101, 101, 101, 101, 101, 101, 101, 101, 101, 101, 101, 101],
  [0, 1, 8, 24, 47, 70, 90, 105, 116, 123, 128, 131, 133, 134, 135, 135, 135, 135, 135, 135, 135, 135, 135, 135, 135, 135, 135, 135, 135, 135, 135],
  [0, 1, 8, 27, 54, 84, 110, 131, 146, 157, 164, 169, 172, 174, 175, 176, 176, 176, 176, 176, 176, 176, 176, 176, 176, 176, 176, 176, 176, 176, 176],
  [0, 1, 9, 30, 64, 101, 136, 164, 186, 201, 212, 219, 224, 227, 229, 230, 231, 231, 231, 231, 231, 231, 231, 231, 231, 231, 231, 231, 231, 231, 231],
  [0, 1, 9, 33, 72, 119, 163, 201, 230, 252, 267, 278, 285, 290, 293, 295, 296, 297, 297, 297, 297, 297, 297, 297, 297, 297, 297, 297, 297, 297, 297],
  [0, 1, 10, 37, 84, 141, 199, 248, 288, 318, 340, 355, 366, 373, 378, 381, 383, 384, 385, 385, 385, 385, 385, 385, 385, 385, 385, 385, 385, 385, 385],
  [0, 1, 10, 40, 94, 164, 235, 300, 352, 393, 423, 445, 460, 471, 478, 483, 486, 488, 489, 490, 490, 490, 490, 490, 490, 490, 490, 490, 490, 490, 490],
  [0, 1, 11, 44, 108, 192, 282, 364, 434, 488, 530, 560, 582, 597, 608, 615, 620, 623, 625, 626, 627, 627, 627, 627, 627, 627, 627, 627, 627, 627, 627],
  [0, 1, 11, 48, 120, 221, 331, 436, 525, 598, 653, 695, 725, 747, 762, 773, 780, 785, 788, 790, 791, 792, 792, 792, 792, 792, 792, 792, 792, 792, 792],
  [0, 1, 12, 52, 136, 255, 391, 522, 638, 732, 807, 863, 905, 935, 957, 972, 983, 990, 995, 998, 1000, 1001, 1002, 1002, 1002, 1002, 1002, 1002, 1002, 1002, 1002],
  [0, 1, 12, 56, 150, 291, 454, 618, 764, 887, 984, 1060, 1116, 1158, 1188, 1210, 1225, 1236, 1243, 1248, 1251, 1253, 1254, 1255, 1255, 1255, 1255, 1255, 1255, 1255, 1255],
  [0, 1, 13, 61, 169, 333, 532, 733, 919, 1076, 1204, 1303, 1380, 1436, 1478, 1508, 1530, 1545, 1556, 1563, 1568, 1571, 1573, 1574, 1575, 1575, 1575, 1575, 1575, 1575, 1575],
  [0, 1, 13, 65, 185, 377, 612, 860, 1090, 1291, 1455, 1586, 1686, 1763, 1819, 1861, 1891, 1913, 1928, 1939, 1946, 1951, 1954, 1956, 1957, 1958, 1958, 1958, 1958, 1958, 1958],
  [0, 1, 14, 70, 206, 427, 709, 1009, 1297, 1549, 1761, 1930, 2063, 2164, 2241, 2297, 2339, 2369, 2391, 2406, 2417, 2424, 2429, 2432, 2434, 2435, 2436, 2436, 2436, 2436, 2436],
  [0, 1, 14, 75, 225, 480, 811, 1175, 1527, 1845, 2112, 2331, 2503, 2637, 2738, 2815, 2871, 2913, 2943, 2965, 2980, 2991, 2998, 3003, 3006, 3008, 3009, 3010, 3010, 3010, 3010],
  [0, 1, 15, 80, 249, 540, 931, 1367, 1801, 2194, 2534, 2812, 3036, 3210, 3345, 3446, 3523, 3579, 3621, 3651, 3673, 3688, 3699, 3706, 3711, 3714, 3716, 3717, 3718, 3718, 3718],
  [0, 1, 15, 85, 270, 603, 1057, 1579, 2104, 2592, 3015, 3370, 3655, 3882, 4057, 4192, 4293, 4370, 4426, 4468, 4498, 4520, 4535, 4546, 4553, 4558, 4561, 4563, 4564, 4565, 4565],
  [0, 1, 16, 91, 297, 674, 1206, 1824, 2462, 3060, 3590, 4035, 4401, 4691, 4920, 5096, 5231, 5332, 5409, 5465, 5507, 5537, 5559, 5574, 5585, 5592, 5597, 5600, 5602, 5603, 5604]]
def T (n k : Nat) : Nat := (tbl.getD n []).getD k 0
theorem T_zero : ∀ n, n < 31 → T n 0 = if n = 0 then 1 else 0 := by decide +kernel
theorem T_rec : ∀ n, n < 31 → ∀ k, k < 30 → T n (k + 1) = T n k + if k + 1 ≤ n then T (n - (k + 1)) (k + 1) else 0 := by decide +kernel
theorem T_bound : ∀ n, n < 31 → ∀ k, k < 31 → T n k ≤ 5604 := by decide +kernel
theorem T_top : ∀ k, k < 31 → T 0 k = 1 := by decide +kernel
end Go.Proofs.Ytmiifdedmjfgkaa
/-
  Small facts on slices of ints, read or owned, and the contracts of the laws' own helpers: toIntS, eqIntS, markIntS, heldIntS.
-/
namespace Go.Proofs.Ytmiifdedmjfgkaa
open Go.RowKit

theorem hid {p : Prop} (h : p) : Hid p := h
theorem ret_bool {a b : Bool} (h : a = b) : Ending.returned (.bool a) = .returned (.bool b) := by rw [h]
theorem ret_int {k : IntKind} {a b : Int} (h : a = b) : Ending.returned (.int k a) = .returned (.int k b) := by rw [h]

/-- The slice of address A reads as the numbers xs. -/
def Cells (w : World) (A : Option Addr) (xs : List Int) : Prop :=
  0 < xs.length → ∃ b o, A = some ⟨b, o, none⟩ ∧ ∀ j, j < xs.length → w.cell? ⟨b, o + j, none⟩ = some (.int .i64 (xs.getD j 0))
def IL (xs : List Int) : List Value := xs.map (Value.int .i64)
/-- The slice of address A is a row of the call's own, from block B on, and holds xs. -/
def Own (w : World) (B : Nat) (A : Option Addr) (c : Nat) (xs : List Int) : Prop :=
  w.ownsRow B 3 1 (.slice A xs.length c) xs.length (IL xs)

theorem IL_get (xs : List Int) (j : Nat) (h : j < xs.length) : (IL xs)[j]? = some (.int .i64 (xs.getD j 0)) := by
  simp [IL, List.getD, h]
theorem Cells.nil (w : World) (A : Option Addr) : Cells w A [] := fun h => absurd h (by simp)
theorem Cells.keep {w w' : World} {A : Option Addr} {xs : List Int} (h : Cells w A xs) (hk : ∀ b, A.map Addr.block = some b → b < w.heap.size → w'.heap[b]? = w.heap[b]?) : Cells w' A xs := by
  intro hp
  obtain ⟨b, o, rfl, hc⟩ := h hp
  refine ⟨b, o, rfl, fun j hj => ?_⟩
  have hcj := hc j hj
  rw [← hcj]
  exact World.cell?_of_block (w := w) (hk b rfl (World.block_lt_of_cell? w _ hcj))
theorem Cells.below {w w' : World} {A : Option Addr} {xs : List Int} (h : Cells w A xs) (hb : Below w.heap.size w w') : Cells w' A xs :=
  h.keep fun b _ hlt => hb.block b hlt
theorem Cells.later {w0 w : World} {A : Option Addr} {xs : List Int} (h : Cells w0 A xs) (hb : Below w0.heap.size w0 w) : Cells w A xs := h.below hb
theorem Cells.grown {w w' : World} {A : Option Addr} {xs : List Int} {row : Option Nat} (h : Cells w A xs) (hg : w.grownBy w' row) (hne : ∀ b, A.map Addr.block = some b → b < w.heap.size → some b ≠ row) : Cells w' A xs :=
  h.keep fun b hb hlt => hg.block b hlt (hne b hb hlt)

theorem Own.cells {w : World} {B : Nat} {A : Option Addr} {c : Nat} {xs : List Int} (h : Own w B A c xs) : Cells w A xs := by
  intro hp
  rcases h.2 with ⟨_, h0⟩ | ⟨g, cap, cur, hv, _⟩
  · omega
  · have hA : A = some ⟨g, 0, none⟩ := by injection hv
    subst hA
    refine ⟨g, 0, rfl, fun j hj => ?_⟩
    rw [Nat.zero_add, World.ownsRow.cellAt h j (by omega), IL_get xs j hj]
theorem Own.at_ {w : World} {B : Nat} {A : Option Addr} {c : Nat} {xs : List Int} (h : Own w B A c xs) (hp : 0 < xs.length) : ∃ g, A = some ⟨g, 0, none⟩ ∧ B ≤ g ∧ g < w.heap.size := by
  rcases h.2 with ⟨_, h0⟩ | ⟨g, cap, cur, hv, hb, hg, _⟩
  · omega
  · have hA : A = some ⟨g, 0, none⟩ := by injection hv
    exact ⟨g, hA, hb, (Array.getElem?_eq_some_iff.1 hg).1⟩
theorem Own.block {w : World} {B : Nat} {A : Option Addr} {c : Nat} {xs : List Int} (h : Own w B A c xs) : ∀ b, A.map Addr.block = some b → B ≤ b ∧ b < w.heap.size := by
  intro b hb
  refine World.ownsRow.lt h b ?_
  cases A with
  | none => simp at hb
  | some a => simpa [Value.ownBlock] using hb
theorem Own.keep {w w' : World} {B : Nat} {A : Option Addr} {c : Nat} {xs : List Int} (h : Own w B A c xs) (hk : ∀ b, A.map Addr.block = some b → b < w.heap.size → w'.heap[b]? = w.heap[b]?) : Own w' B A c xs := by
  refine ⟨h.1, ?_⟩
  rcases h.2 with hn | ⟨g, cap, cur, hv, hb, hgg, rest⟩
  · exact .inl hn
  · refine .inr ⟨g, cap, cur, hv, hb, ?_, rest⟩
    have hA : A = some ⟨g, 0, none⟩ := by injection hv
    rw [hk g (by rw [hA]; rfl) (Array.getElem?_eq_some_iff.1 hgg).1]
    exact hgg
theorem Own.below {w w' : World} {B : Nat} {A : Option Addr} {c : Nat} {xs : List Int} (h : Own w B A c xs) (hb : Below w.heap.size w w') : Own w' B A c xs := h.keep fun b _ hlt => hb.block b hlt
theorem Own.grown {w w' : World} {B : Nat} {A : Option Addr} {c : Nat} {xs : List Int} {row : Option Nat} (h : Own w B A c xs) (hg : w.grownBy w' row) (hne : ∀ b, A.map Addr.block = some b → b < w.heap.size → some b ≠ row) : Own w' B A c xs :=
  h.keep fun b hb hlt => hg.block b hlt (hne b hb hlt)
theorem Own.drewN {w : World} {B : Nat} {A : Option Addr} {c : Nat} {xs : List Int} (h : Own w B A c xs) (n : Nat) : Own (w.drewN n) B A c xs := h
theorem Own.more {w : World} {B B' : Nat} {A : Option Addr} {c : Nat} {xs : List Int} (h : Own w B A c xs) (hB : B' ≤ B) : Own w B' A c xs := by
  refine ⟨h.1, ?_⟩
  rcases h.2 with hn | ⟨g, cap, cur, hv, hb, rest⟩
  · exact .inl hn
  · exact .inr ⟨g, cap, cur, hv, Nat.le_trans hB hb, rest⟩
theorem Below.next {a b c : World} (h : Below a.heap.size a b) (k : Below b.heap.size b c) : Below a.heap.size a c := h.trans (k.mono h.size)
theorem drew2 {w : World} (n m : Nat) : ∃ k, (w.drewN n).drewN m = w.drewN k := ⟨n + m, by rw [World.drewN_drewN]⟩
theorem below_drewN {B : Nat} {a w : World} (h : Below B a w) (n : Nat) : Below B a (w.drewN n) := ⟨h.os, h.tape, h.output, h.size, h.block⟩
theorem below_drew' (w : World) (n : Nat) : Below w.heap.size w (w.drewN n) := below_drewN (Below.refl _ _) n

theorem Try.infoInt : (Try.prog.info? 3).map (fun i => (i.zero, i.size, i.bytes)) = some (some (.int .i64 0), 1, 8) := by kernel_rfl

/-! toIntS -/
theorem toCopy (xs : List Int) (k : Nat) (hk : k < xs.length) (g : Nat) (w : World) (B : Nat)
    (hown : w.ownsRow B 3 1 (.slice (some ⟨g, 0, none⟩) xs.length xs.length) xs.length (IL (xs.take k) ++ List.replicate (xs.length - k) (.int .i64 0))) :
    (w.setCell ⟨g, k, none⟩ (.int .i64 (xs.getD k 0))).ownsRow B 3 1 (.slice (some ⟨g, 0, none⟩) xs.length xs.length) xs.length (IL (xs.take (k + 1)) ++ List.replicate (xs.length - (k + 1)) (.int .i64 0)) := by
  have h := (hown.stored k (.int .i64 (xs.getD k 0))).1
  have e : (IL (xs.take k) ++ List.replicate (xs.length - k) (Value.int .i64 0)).set k (.int .i64 (xs.getD k 0)) = IL (xs.take (k + 1)) ++ List.replicate (xs.length - (k + 1)) (.int .i64 0) := by
    have hl : (IL (xs.take k)).length = k := by simp [IL]; omega
    rw [List.set_append_right _ _ (by omega), hl, Nat.sub_self]
    obtain ⟨m, hm⟩ : ∃ m, xs.length - k = m + 1 := ⟨xs.length - k - 1, by omega⟩
    rw [hm, show xs.length - (k + 1) = m by omega, List.replicate_succ, List.set_cons_zero, List.take_succ_eq_append_getElem hk]
    simp only [IL, List.map_append, List.map_cons, List.map_nil, List.append_assoc, List.cons_append, List.nil_append]
    rw [List.getD_eq_getElem?_getD, List.getElem?_eq_getElem hk]; rfl
  rw [e] at h
  exact h

/-! eqIntS -/
theorem getD_ne_false (xs : List Int) (k : Nat) : (xs.getD k 0 != xs.getD k 0) = false := by simp

/-! heldIntS, markIntS -/
def marks (k : Int) (n : Nat) : List Int := (List.range n).map fun i : Nat => k + i
theorem marks_len (k : Int) (n : Nat) : (marks k n).length = n := by simp [marks]
theorem marks_get (k : Int) (n j : Nat) (h : j < n) : (marks k n).getD j 0 = k + j := by simp [marks, List.getD, h]

theorem IL_set (ys : List Int) (k : Nat) (x : Int) : (IL ys).set k (.int .i64 x) = IL (ys.set k x) := by simp [IL, List.map_set]
/-- What markIntS has written after k rounds. -/
def marked (q : Int) (xs : List Int) (k : Nat) : List Int := marks q k ++ xs.drop k
theorem marked_len (q : Int) (xs : List Int) (k : Nat) (h : k ≤ xs.length) : (marked q xs k).length = xs.length := by simp [marked, marks]; omega
theorem marked_zero (q : Int) (xs : List Int) : marked q xs 0 = xs := by simp [marked, marks]
theorem marked_full (q : Int) (xs : List Int) : marked q xs xs.length = marks q xs.length := by simp [marked]
theorem marked_set (q : Int) (xs : List Int) (k : Nat) (h : k < xs.length) : (marked q xs k).set k (q + k) = marked q xs (k + 1) := by
  unfold marked
  rw [List.set_append_right _ _ (by rw [marks_len]; exact Nat.le_refl _), marks_len, Nat.sub_self, List.drop_eq_getElem_cons h, List.set_cons_zero]
  simp [marks, List.range_succ]

def I64 (n : Int) : Prop := -9223372036854775808 ≤ n ∧ n ≤ 9223372036854775807
theorem ret_two {a b : Value} {x y : Value} (h1 : a = x) (h2 : b = y) : Ending.returned (.tuple #[a, b]) = .returned (.tuple #[x, y]) := by rw [h1, h2]
end Go.Proofs.Ytmiifdedmjfgkaa
