/-
  Several texts in one.
-/
import Derived.Test.YtiebnnchaopbkaaR04
import Derived.Deep.WholeRow
import Derived.Laws.Tables
import Derived.Test.YtiebnnchaopbkaaCB
import Derived.Test.YtiebnnchaopbkaaCA
import Derived.Deep.RegionHeld3
import Derived.Deep.CutRange
import Derived.Deep.RegionWith
/-
  Facts on the program's two types of many cells (a runner, a board): zero values, sizes, comparison.
-/
namespace Go.Proofs.Ytiebnnchaopbkaa
open Go.RowKit

theorem Try.rnInfo : (Try.prog.info? 69).map (fun i => (i.zero, i.size)) = some (some (rnV fun _ => false), 36) := by kernel_rfl
theorem Try.bdInfo : (Try.prog.info? 72).map (fun i => (i.zero, i.size)) = some (some (bdV 0 fun _ => false), 217) := by kernel_rfl
theorem Try.rnZero (w : World) : (zeroValue 69).run Try.prog w = .ok (rnV fun _ => false) w := (zero_of_info Try.rnInfo).1 w
theorem Try.bdZero (w : World) : (zeroValue 72).run Try.prog w = .ok (bdV 0 fun _ => false) w := (zero_of_info Try.bdInfo).1 w
theorem Try.rnSize : (Try.prog.info? 69).map (·.size) = some 36 := (zero_of_info Try.rnInfo).2
theorem Try.bdSize : (Try.prog.info? 72).map (·.size) = some 217 := (zero_of_info Try.bdInfo).2

theorem mapM_some {α β : Type} (f : α → Option β) (g : α → β) : ∀ (l : List α), (∀ x ∈ l, f x = some (g x)) → l.mapM f = some (l.map g)
  | [], _ => rfl
  | x :: t, h => by
    rw [List.mapM_cons, h x List.mem_cons_self, mapM_some f g t (fun y hy => h y (List.mem_cons_of_mem _ hy))]; rfl
def bitsL (n : Nat) (f : Nat → Bool) : List Lit := (List.range n).map fun k => Lit.bool (f k)
theorem bits_chunk (n : Nat) (f : Nat → Bool) (o m : Nat) (h : o + m ≤ n) : (((caL n (bitV f)).drop o).take m) = caL m (bitV fun k => f (o + k)) := by
  apply List.ext_getElem?
  intro j
  rw [List.getElem?_take]
  by_cases hj : j < m
  · rw [if_pos hj, List.getElem?_drop, caL_get n _ (o + j) (by omega), caL_get m _ j hj]; rfl
  · rw [if_neg hj, List.getElem?_eq_none (by rw [caL_len]; omega)]
theorem bits_flat (f : Nat → Bool) (m : Nat) : ∀ n, ((List.range n).map fun i => bitsL m fun k => f (i * m + k)).flatten = bitsL (n * m) f
  | 0 => by simp [bitsL]
  | n + 1 => by
    rw [List.range_succ, List.map_append, List.flatten_append, bits_flat f m n]
    simp only [List.map_cons, List.map_nil, List.flatten_cons, List.flatten_nil, List.append_nil]
    unfold bitsL
    rw [show (n + 1) * m = n * m + m by rw [Nat.succ_mul], List.range_add, List.map_append, List.map_map]
    rfl
theorem bitsL_inj (n : Nat) (f g : Nat → Bool) : bitsL n f = bitsL n g ↔ ∀ k, k < n → f k = g k := by
  constructor
  · intro h k hk
    have e := congrArg (fun l => l[k]?) h
    simp only [bitsL, List.getElem?_map, List.getElem?_range hk, Option.map_some] at e
    injection e with e
    injection e
  · intro h
    exact List.map_congr_left fun k hk => by rw [h k (List.mem_range.1 hk)]

theorem key_bool (D : Nat) (b : Bool) : Try.prog.keyLits (D + 1) 4 [.bool b] = some [.bool b] := by
  unfold Program.keyLits; rw [Try.underlying4]
theorem cells_bool : Try.prog.cellsOf 4 = 1 := by kernel_rfl
theorem cells_rn : Try.prog.cellsOf 69 = 36 := by kernel_rfl
theorem cells_rns : Try.prog.cellsOf 70 = 216 := by kernel_rfl
theorem cells_bd : Try.prog.cellsOf 72 = 217 := by kernel_rfl
theorem cells_int : Try.prog.cellsOf 3 = 1 := by kernel_rfl
theorem key_rn (D : Nat) (f : Nat → Bool) : Try.prog.keyLits (D + 2) 69 (caL 36 (bitV f)) = some (bitsL 36 f) := by
  unfold Program.keyLits
  rw [Try.underlying69]
  simp only [cells_rn, caL_len, if_true, cells_bool]
  rw [mapM_some _ (fun i => bitsL 1 fun k => f (i * 1 + k)) _ (fun i hi => by
    have hi' := List.mem_range.1 hi
    rw [bits_chunk 36 f (i * 1) 1 (by omega)]
    exact key_bool D _), Option.map_some, bits_flat f 1 36]
theorem key_rns (D : Nat) (F : Nat → Bool) : Try.prog.keyLits (D + 3) 70 (caL 216 (bitV F)) = some (bitsL 216 F) := by
  unfold Program.keyLits
  rw [Try.underlying70]
  simp only [cells_rns, caL_len, if_true, cells_rn]
  rw [mapM_some _ (fun i => bitsL 36 fun k => F (i * 36 + k)) _ (fun i hi => by
    have hi' := List.mem_range.1 hi
    rw [bits_chunk 216 F (i * 36) 36 (by omega)]
    exact key_rn D _), Option.map_some, bits_flat F 36 6]
theorem run_neq_rn (f g : Nat → Bool) (w : World) (b : Bool) (h : b = true ↔ ∀ k, k < 36 → f k = g k) : (Op.equalIn 10000 69 (rnV f) (rnV g)).run Try.prog w = .ok b w := by
  have hd := run_equalIn_deep (P := Try.prog) 9990 10 69 (by kernel_rfl)
  obtain ⟨r, hr, hi⟩ := hd w 2 2 (rnV f) (rnV g) (bitsL 36 f) (bitsL 36 g) (by simp only [Value.formed, rnV, Try.underlying69, ca_size, cells_rn]; rfl) (by simp only [Value.formed, rnV, Try.underlying69, ca_size, cells_rn]; rfl) (key_rn 0 f) (key_rn 0 g)
  have e : r = b := by rw [Bool.eq_iff_iff, hi, h, bitsL_inj]
  rw [← e]; exact hr
theorem key_bd (D : Nat) (t : Int) (ht : I64 t) (F : Nat → Bool) : Try.prog.keyLits (D + 4) 72 (caL 217 (brdV t F)) = some (.int .i64 t :: bitsL 216 F) := by
  have e1 : (caL 217 (brdV t F)).take 1 = [.int .i64 t] := by
    apply List.ext_getElem?
    intro j
    rw [List.getElem?_take]
    by_cases hj : j < 1
    · have : j = 0 := by omega
      subst this
      rw [if_pos hj, caL_get 217 _ 0 (by omega)]; rfl
    · rw [if_neg hj, List.getElem?_eq_none (by simp; omega)]
  have e2 : ((caL 217 (brdV t F)).drop 1).take 216 = caL 216 (bitV F) := by
    apply List.ext_getElem?
    intro j
    rw [List.getElem?_take]
    by_cases hj : j < 216
    · rw [if_pos hj, List.getElem?_drop, caL_get 217 _ (1 + j) (by omega), caL_get 216 _ j hj]
      simp only [brdV, bitV]
      rw [if_neg (by omega), show 1 + j - 1 = j by omega]
    · rw [if_neg hj, List.getElem?_eq_none (by rw [caL_len]; omega)]
  have hi : Try.prog.keyLits (D + 3) 3 [.int .i64 t] = some [.int .i64 t] := by
    unfold Program.keyLits
    rw [Try.underlying3]
    have hw : (Lit.int .i64 t).wf = true := by
      have h1 : IntKind.i64.min = -9223372036854775808 := by decide
      have h2 : IntKind.i64.max = 9223372036854775807 := by decide
      unfold I64 at ht; simp only [Lit.wf, h1, h2, Bool.and_eq_true, decide_eq_true_eq]; exact ht
    simp [hw]
  unfold Program.keyLits
  rw [Try.underlying72]
  simp [cells_bd, caL_len, cells_int, cells_rns, e1, hi]
  rw [← List.drop_one, e2, key_rns D F]
  simp
theorem run_eq_bd (t : Int) (ht : I64 t) (F G : Nat → Bool) (w : World) (b : Bool) (h : b = true ↔ ∀ k, k < 216 → F k = G k) : (Op.equalIn 10000 72 (bdV t F) (bdV t G)).run Try.prog w = .ok b w := by
  have hd := run_equalIn_deep (P := Try.prog) 9990 10 72 (by kernel_rfl)
  obtain ⟨r, hr, hi⟩ := hd w 4 4 (bdV t F) (bdV t G) (.int .i64 t :: bitsL 216 F) (.int .i64 t :: bitsL 216 G) (by simp only [Value.formed, bdV, Try.underlying72, ca_size, cells_bd]; rfl) (by simp only [Value.formed, bdV, Try.underlying72, ca_size, cells_bd]; rfl) (key_bd 0 t ht F) (key_bd 0 t ht G)
  have e : r = b := by
    rw [Bool.eq_iff_iff, hi, h, ← bitsL_inj]
    constructor
    · intro h; injection h
    · intro h; rw [h]
  rw [← e]; exact hr
end Go.Proofs.Ytiebnnchaopbkaa
/-
  Contracts: a bead put to another row of a runner (made by genput.py).
-/
namespace Go.Proofs.Ytiebnnchaopbkaa
open Go.RowKit

/-- A bead of a runner put from one row to another one, where that can be done. -/
def canPut (f : Nat → Bool) (a b : Int) : Bool := decide (0 ≤ b) && (decide (b < 36) && (f a.toNat && !f b.toNat))
def putR (f : Nat → Bool) (a b : Int) : Nat → Bool := if canPut f a b then updB (updB f a.toNat false) b.toNat true else f

end Go.Proofs.Ytiebnnchaopbkaa
/-
  Contracts: the board of an abacus.
-/
namespace Go.Proofs.Ytiebnnchaopbkaa
open Go.RowKit

def atQ (t x : Nat) : Nat := 36 * (x % t) + x / t
def bitsK (t : Nat) (xs : List Int) : Nat → Nat → Bool
  | 0 => fun _ => false
  | k + 1 => updB (bitsK t xs k) (atQ t (xs.getD k 0).toNat) true
theorem brd_upd (t : Int) (F : Nat → Bool) (q : Nat) (b : Bool) (j : Nat) : updV (brdV t F) (1 + q) (.bool b) j = brdV t (updB F q b) j := by
  unfold updV brdV updB
  by_cases h : j = 1 + q
  · rw [if_pos h, if_neg (by omega), if_pos (by omega)]
  · rw [if_neg h]
    by_cases h0 : j = 0
    · rw [if_pos h0, if_pos h0]
    · rw [if_neg h0, if_neg h0, if_neg (by omega)]
theorem brd_first (t s : Int) (F : Nat → Bool) : (ca 217 (brdV s F)).setIfInBounds 0 (.int .i64 t) = ca 217 (brdV t F) := by
  rw [ca_set]
  refine ca_ext fun k _ => ?_
  unfold updV brdV
  split <;> rfl
theorem brd_one (t : Int) (F : Nat → Bool) : (ca 217 (brdV t F)).all (·.oneCell') = true := ca_one fun k _ => by unfold brdV; split <;> rfl

def zBrd : Array Value := ca 217 (brdV 0 fun _ => false)
end Go.Proofs.Ytiebnnchaopbkaa
/-
  Plain facts: the beads of an abacus, and their bits on a board. No program in this text.
-/
namespace Go.Proofs.Ytiebnnchaopbkaa
open Go.RowKit

theorem parts_mem (xs : List Int) : ∀ k, k ≤ xs.length → ∀ i, xs.length - k ≤ i → i < xs.length → (i : Int) < xs.getD i 0 → xs.getD i 0 - i ∈ bpk xs k
  | 0, _, i, h1, h2, _ => by omega
  | k + 1, hk, i, h1, h2, h3 => by
    by_cases e : i = xs.length - 1 - k
    · rw [bpk_yes e rfl h3]; simp
    · have ih := parts_mem xs k (by omega) i (by omega) h2 h3
      by_cases hq : ((xs.length - 1 - k : Nat) : Int) < xs.getD (xs.length - 1 - k) 0
      · rw [bpk_yes rfl rfl hq]; exact List.mem_append_left _ ih
      · rw [bpk_no rfl rfl hq]; exact ih
theorem good_mem {xs : List Int} (G : Good xs) {x : Int} (h : x ∈ xs) : 1 ≤ x ∧ x ≤ 30 := by
  obtain ⟨j, hj, rfl⟩ := List.getElem_of_mem h
  have h1 := G.pos j hj
  have h2 := G.le j hj
  rw [List.getD_eq_getElem?_getD, List.getElem?_eq_getElem hj] at h1 h2
  exact ⟨h1, h2⟩
theorem GoodB.top {xs : List Int} (h : GoodB xs) {j : Nat} (hj : j < xs.length) : 0 ≤ xs.getD j 0 ∧ xs.getD j 0 ≤ 69 := by
  refine ⟨(h.rise.bd j hj).1, ?_⟩
  have hl := h.len
  by_cases hq : (j : Int) < xs.getD j 0
  · have := (good_mem h.parts (parts_mem xs xs.length (Nat.le_refl _) j (by omega) hj hq)).2
    omega
  · omega
theorem mem_getD {xs : List Int} {x : Int} : x ∈ xs ↔ ∃ j, j < xs.length ∧ xs.getD j 0 = x := by
  constructor
  · intro h
    obtain ⟨j, hj, rfl⟩ := List.getElem_of_mem h
    exact ⟨j, hj, by rw [List.getD_eq_getElem?_getD, List.getElem?_eq_getElem hj]; rfl⟩
  · rintro ⟨j, hj, rfl⟩
    rw [List.getD_eq_getElem?_getD, List.getElem?_eq_getElem hj]
    exact List.getElem_mem hj
theorem bitsK_iff (t : Nat) (xs : List Int) (q : Nat) : ∀ k, bitsK t xs k q = true ↔ ∃ j, j < k ∧ atQ t (xs.getD j 0).toNat = q
  | 0 => by simp [bitsK]
  | k + 1 => by
    have ih := bitsK_iff t xs q k
    simp only [bitsK, updB]
    by_cases e : q = atQ t (xs.getD k 0).toNat
    · rw [if_pos e]
      exact ⟨fun _ => ⟨k, by omega, e.symm⟩, fun _ => rfl⟩
    · rw [if_neg e, ih]
      constructor
      · rintro ⟨j, h1, h2⟩; exact ⟨j, by omega, h2⟩
      · rintro ⟨j, h1, h2⟩
        by_cases hjk : j = k
        · subst hjk; exact absurd h2.symm e
        · exact ⟨j, by omega, h2⟩
theorem atQ_inj {t x y : Nat} (ht : 0 < t) (hx : x < t * 36) (hy : y < t * 36) (h : atQ t x = atQ t y) : x = y := by
  unfold atQ at h
  have h1 : x / t < 36 := by rw [Nat.div_lt_iff_lt_mul ht]; rw [Nat.mul_comm]; exact hx
  have h2 : y / t < 36 := by rw [Nat.div_lt_iff_lt_mul ht]; rw [Nat.mul_comm]; exact hy
  have key : ∀ a b c d : Nat, c < 36 → d < 36 → 36 * a + c = 36 * b + d → a = b ∧ c = d := fun a b c d _ _ _ => by omega
  obtain ⟨hm, hd⟩ := key _ _ _ _ h1 h2 h
  rw [← Nat.div_add_mod x t, ← Nat.div_add_mod y t, hm, hd]
theorem bits_at {t : Nat} {xs : List Int} (ht : 0 < t) (hb : ∀ j, j < xs.length → 0 ≤ xs.getD j 0 ∧ xs.getD j 0 < t * 36) {x : Nat} (hx : x < t * 36) : bitsK t xs xs.length (atQ t x) = decide ((x : Int) ∈ xs) := by
  rw [Bool.eq_iff_iff, bitsK_iff, decide_eq_true_eq, mem_getD]
  constructor
  · rintro ⟨j, h1, h2⟩
    have := hb j h1
    have := atQ_inj ht (by omega) hx h2
    exact ⟨j, h1, by omega⟩
  · rintro ⟨j, h1, h2⟩
    exact ⟨j, h1, by rw [h2]; rfl⟩
end Go.Proofs.Ytiebnnchaopbkaa
/-
  Contracts: a bead put to another place of a board (made by genputb.py).
-/
namespace Go.Proofs.Ytiebnnchaopbkaa
open Go.RowKit

/-- A line of a board; a line put in its place. -/
def lnB (F : Nat → Bool) (i : Nat) : Nat → Bool := fun r => F (36 * i + r)
def setLn (F : Nat → Bool) (i : Nat) (f : Nat → Bool) : Nat → Bool := fun k => if 36 * i ≤ k ∧ k < 36 * i + 36 then f (k - 36 * i) else F k
theorem line36 (f : Nat → Bool) : #[bitV f 0, bitV f 1, bitV f 2, bitV f 3, bitV f 4, bitV f 5, bitV f 6, bitV f 7, bitV f 8, bitV f 9, bitV f 10, bitV f 11, bitV f 12, bitV f 13, bitV f 14, bitV f 15, bitV f 16, bitV f 17, bitV f 18, bitV f 19, bitV f 20, bitV f 21, bitV f 22, bitV f 23, bitV f 24, bitV f 25, bitV f 26, bitV f 27, bitV f 28, bitV f 29, bitV f 30, bitV f 31, bitV f 32, bitV f 33, bitV f 34, bitV f 35] = ca 36 (bitV f) := rfl
theorem setLn_mid (t : Int) (F : Nat → Bool) (i : Nat) (f : Nat → Bool) (j : Nat) : midV (brdV t F) (1 + i * 36) 36 (bitV f) j = brdV t (setLn F i f) j := by
  unfold midV brdV setLn bitV
  by_cases h : 1 + i * 36 ≤ j ∧ j < 1 + i * 36 + 36
  · rw [if_pos h, if_neg (by omega), if_pos (by omega)]
    congr 2; omega
  · rw [if_neg h]
    by_cases h0 : j = 0
    · rw [if_pos h0, if_pos h0]
    · rw [if_neg h0, if_neg h0, if_neg (by omega)]

end Go.Proofs.Ytiebnnchaopbkaa
/-
  Contracts: a bead put to another place of a board, whatever is asked.
-/
namespace Go.Proofs.Ytiebnnchaopbkaa
open Go.RowKit

def canB (t : Nat) (a b : Int) : Bool := decide (0 ≤ a) && (decide (a < (t : Int) * 36) && decide (0 ≤ b))
def putB (t : Nat) (F : Nat → Bool) (a b : Int) : Nat → Bool := if canB t a b then setLn F (a.toNat % t) (putR (lnB F (a.toNat % t)) (a.toNat / t : Nat) (b.toNat / t : Nat)) else F

end Go.Proofs.Ytiebnnchaopbkaa
/-
  Plain facts: which beads can be moved down. No program in this text.
-/
namespace Go.Proofs.Ytiebnnchaopbkaa
open Go.RowKit

theorem filt_t {p : Int → Bool} (xs : List Int) (k : Nat) (h : k < xs.length) (hp : p (xs.getD k 0) = true) : (xs.take (k + 1)).filter p = (xs.take k).filter p ++ [xs.getD k 0] := by
  have e : xs.getD k 0 = xs[k] := by rw [List.getD_eq_getElem?_getD, List.getElem?_eq_getElem h]; rfl
  rw [List.take_succ_eq_append_getElem h, List.filter_append, ← e, List.filter_cons_of_pos (by simpa using hp), List.filter_nil]
theorem filt_f {p : Int → Bool} (xs : List Int) (k : Nat) (h : k < xs.length) (hp : p (xs.getD k 0) = false) : (xs.take (k + 1)).filter p = (xs.take k).filter p := by
  have e : xs.getD k 0 = xs[k] := by rw [List.getD_eq_getElem?_getD, List.getElem?_eq_getElem h]; rfl
  rw [List.take_succ_eq_append_getElem h, List.filter_append, ← e, List.filter_cons_of_neg (by rw [hp]; exact Bool.false_ne_true), List.filter_nil, List.append_nil]

def canMv (t : Int) (xs : List Int) (x : Int) : Bool := decide (t ≤ x) && !decide (x - t ∈ xs)
def movL (t : Int) (xs : List Int) : List Int := xs.filter (canMv t xs)
def movF (r : Int) (xs : List Int) : List Int := if isAba r xs then movL r xs else []
theorem bound_MovableBeads (r : Int) (xs : List Int) : (movF r xs).length ≤ 1048576 := by
  unfold movF
  split
  · rename_i h
    simp only [isAba, Bool.and_eq_true] at h
    have h1 := (goodB_iff.1 h.2).len
    have h2 := List.length_filter_le (canMv r xs) xs
    unfold movL; omega
  · simp
theorem set_same (F : Nat → Bool) (i : Nat) : setLn F i (lnB F i) = F := by
  funext k
  unfold setLn lnB
  split
  · congr 1; omega
  · rfl
theorem put_case {t : Nat} {xs : List Int} (ht : 2 ≤ t ∧ t ≤ 6) (G : GoodB xs) {x : Int} (hx : x ∈ xs) :
    (canMv t xs x = false → putB t (bitsK t xs xs.length) x (x - t) = bitsK t xs xs.length) ∧
    (canMv t xs x = true → ∃ k, k < 216 ∧ bitsK t xs xs.length k ≠ putB t (bitsK t xs xs.length) x (x - t) k) := by
  obtain ⟨j, hj, rfl⟩ := mem_getD.1 hx
  have hb : ∀ j, j < xs.length → 0 ≤ xs.getD j 0 ∧ xs.getD j 0 < (t : Int) * 36 := fun j hj => by have := G.top hj; omega
  have hxj := hb j hj
  obtain ⟨n, hn⟩ : ∃ n : Nat, xs.getD j 0 = (n : Int) := ⟨(xs.getD j 0).toNat, by omega⟩
  rw [hn] at hx hxj ⊢
  obtain ⟨F, hF⟩ : ∃ F, F = bitsK t xs xs.length := ⟨_, rfl⟩
  have hbits := fun {x : Nat} (h : x < t * 36) => bits_at (t := t) (by omega) hb h
  rw [← hF] at hbits ⊢
  by_cases hlt : n < t
  · have hc : canB t (n : Int) ((n : Int) - t) = false := by simp only [canB, Bool.and_eq_false_iff, decide_eq_false_iff_not]; right; right; omega
    refine ⟨fun _ => by simp [putB, hc], fun h => ?_⟩
    simp only [canMv, Bool.and_eq_true, decide_eq_true_eq] at h
    omega
  · obtain ⟨y, hy⟩ : ∃ y, y = n - t := ⟨_, rfl⟩
    have hyi : (n : Int) - t = (y : Int) := by omega
    have hny : n = y + t := by omega
    have hc : canB t (n : Int) (y : Int) = true := by simp only [canB, Bool.and_eq_true, decide_eq_true_eq]; omega
    have hmod : y % t = n % t := by rw [hny, Nat.add_mod_right]
    have hdiv : n / t = y / t + 1 := by rw [hny, Nat.add_div_right _ (by omega)]
    have hml : n % t < t := Nat.mod_lt _ (by omega)
    have hdl : n / t < 36 := by rw [Nat.div_lt_iff_lt_mul (by omega)]; omega
    have h1 := hbits (x := n) (by omega)
    have h2 := hbits (x := y) (by omega)
    rw [decide_eq_true hx] at h1
    unfold atQ at h1 h2
    rw [hmod] at h2
    have hp : putB t F (n : Int) ((n : Int) - t) = setLn F (n % t) (putR (lnB F (n % t)) ((n / t : Nat) : Int) ((y / t : Nat) : Int)) := by
      rw [hyi]; simp only [putB, hc, if_true, Int.toNat_natCast]
    rw [hp]
    have hi6 : n % t < 6 := by have := hml; omega
    obtain ⟨i, hi⟩ : ∃ i, i = n % t := ⟨_, rfl⟩
    obtain ⟨s, hs⟩ : ∃ s, s = y / t := ⟨_, rfl⟩
    obtain ⟨r, hr⟩ : ∃ r, r = n / t := ⟨_, rfl⟩
    rw [← hi] at h1 h2 hi6 ⊢
    rw [← hs] at h2 hdiv ⊢
    rw [← hr] at h1 hdiv hdl ⊢
    clear hp hml hmod hi hs hr
    have hcm : canMv t xs (n : Int) = !decide ((y : Int) ∈ xs) := by
      simp only [canMv, hyi]; rw [decide_eq_true (by omega), Bool.true_and]
    rw [hcm]
    have hcp : canPut (lnB F i) (r : Int) (s : Int) = !decide ((y : Int) ∈ xs) := by
      simp only [canPut, lnB, Int.toNat_natCast, h1, h2, Bool.true_and]
      rw [decide_eq_true (by omega), decide_eq_true (by omega)]; simp
    constructor
    · intro h
      rw [h] at hcp
      simp only [putR, hcp, Bool.false_eq_true, if_false]
      exact set_same F _
    · intro h
      rw [h] at hcp
      refine ⟨36 * i + r, by omega, ?_⟩
      rw [h1]
      simp only [setLn, putR, hcp, if_true]
      rw [if_pos (by omega), Int.toNat_natCast, Int.toNat_natCast]
      unfold updB
      rw [if_neg (by omega), if_pos (by omega)]
      decide
end Go.Proofs.Ytiebnnchaopbkaa
/-
  Contracts: MovableBeads of the program (made by genmov.py).
-/
namespace Go.Proofs.Ytiebnnchaopbkaa
open Go.RowKit

theorem Blk.keepG {W W' : World} {g : Nat} {t : TypeId} {n : Nat} {c : Nat → Value} {o : Obj} {row : Option Nat} (h : Blk W g t n c) (hg : (W.alloc o).grownBy W' row) (hne : some g ≠ row) : Blk W' g t n c :=
  (h.alloc o).keep (hg.block g (h.alloc o).lt hne)
theorem Box2.keepG {W W' : World} {g : Nat} {t : TypeId} {a b : Value} {o : Obj} {row : Option Nat} (h : Box2 W g t a b) (hg : (W.alloc o).grownBy W' row) (hne : some g ≠ row) : Box2 W' g t a b :=
  (h.alloc o).keep (hg.block g (h.alloc o).lt hne)
theorem owns_below {W W' : World} {B n : Nat} {v : Value} {xs : List Value} (h : W.ownsRow B 3 1 v n xs) (hb : Below W.heap.size W W') : W'.ownsRow B 3 1 v n xs := by
  refine ⟨h.1, ?_⟩
  rcases h.2 with hn | ⟨g, cap, cur, hv, hbb, hgg, rest⟩
  · exact .inl hn
  · exact .inr ⟨g, cap, cur, hv, hbb, by rw [hb.block g (Array.getElem?_eq_some_iff.1 hgg).1]; exact hgg, rest⟩
theorem own_ne_blk {W : World} {B g m n : Nat} {c : Nat → Value} {v : Value} {xs : List Value} (h : W.ownsRow B 3 1 v n xs) (hb : Blk W g 72 m c) : some g = v.ownBlock → False := by
  intro e
  rcases h.2 with ⟨rfl, _⟩ | ⟨g1, cap, cur, rfl, _, hg, _⟩
  · simp [Value.ownBlock] at e
  · have e1 : g = g1 := by simpa [Value.ownBlock] using e
    subst e1
    rw [show W.heap[g]? = _ from hb] at hg
    injection hg with hg
    injection hg with _ ht
    exact absurd ht (by decide)
theorem own_ne_box {W : World} {B g n : Nat} {a b : Value} {v : Value} {xs : List Value} (h : W.ownsRow B 3 1 v n xs) (hb : Box2 W g 49 a b) : some g = v.ownBlock → False := by
  intro e
  rcases h.2 with ⟨rfl, _⟩ | ⟨g1, cap, cur, rfl, _, hg, _⟩
  · simp [Value.ownBlock] at e
  · have e1 : g = g1 := by simpa [Value.ownBlock] using e
    subst e1
    rw [show W.heap[g]? = _ from hb] at hg
    injection hg with hg
    injection hg with _ ht
    exact absurd ht (by decide)

end Go.Proofs.Ytiebnnchaopbkaa
