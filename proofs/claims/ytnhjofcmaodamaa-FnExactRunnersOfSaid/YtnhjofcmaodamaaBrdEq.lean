/-
  Facts on the program's two types of many cells (a runner, a board): zero values, sizes, comparison.
-/
import Derived.Test.YtnhjofcmaodamaaBlk
import Derived.Deep.WholeRow
namespace Go.Proofs.Ytnhjofcmaodamaa
open Go.RowKit

theorem Try.rnInfo : (Try.prog.info? 74).map (fun i => (i.zero, i.size)) = some (some (rnV fun _ => false), 36) := by kernel_rfl
theorem Try.bdInfo : (Try.prog.info? 77).map (fun i => (i.zero, i.size)) = some (some (bdV 0 fun _ => false), 217) := by kernel_rfl
theorem Try.rnZero (w : World) : (zeroValue 74).run Try.prog w = .ok (rnV fun _ => false) w := (zero_of_info Try.rnInfo).1 w
theorem Try.bdZero (w : World) : (zeroValue 77).run Try.prog w = .ok (bdV 0 fun _ => false) w := (zero_of_info Try.bdInfo).1 w
theorem Try.rnSize : (Try.prog.info? 74).map (·.size) = some 36 := (zero_of_info Try.rnInfo).2
theorem Try.bdSize : (Try.prog.info? 77).map (·.size) = some 217 := (zero_of_info Try.bdInfo).2

theorem mapM_some {α β : Type} (f : α → Option β) (g : α → β) : ∀ (l : List α), (∀ x ∈ l, f x = some (g x)) → l.mapM f = some (l.map g)
  | [], _ => rfl
  | x :: t, h => by
    rw [List.mapM_cons, h x List.mem_cons_self, mapM_some f g t (fun y hy => h y (List.mem_cons_of_mem _ hy))]; rfl
def bitsL (n : Nat) (f : Nat → Bool) : List Lit := (List.range n).map fun k => Lit.bool (f k)
theorem bits_chunk (n : Nat) (f : Nat → Bool) (o m : Nat) (h : o + m ≤ n) : (((caL n (bitV f)).drop o).take m) = caL m (bitV fun k => f (o + k)) := by
  apply List.ext_getElem?
  intro j
  rw [List.getElem?_take]
  by_cases hj : j < m
  · rw [if_pos hj, List.getElem?_drop, caL_get n _ (o + j) (by omega), caL_get m _ j hj]; rfl
  · rw [if_neg hj, List.getElem?_eq_none (by rw [caL_len]; omega)]
theorem bits_flat (f : Nat → Bool) (m : Nat) : ∀ n, ((List.range n).map fun i => bitsL m fun k => f (i * m + k)).flatten = bitsL (n * m) f
  | 0 => by simp [bitsL]
  | n + 1 => by
    rw [List.range_succ, List.map_append, List.flatten_append, bits_flat f m n]
    simp only [List.map_cons, List.map_nil, List.flatten_cons, List.flatten_nil, List.append_nil]
    unfold bitsL
    rw [show (n + 1) * m = n * m + m by rw [Nat.succ_mul], List.range_add, List.map_append, List.map_map]
    rfl
theorem bitsL_inj (n : Nat) (f g : Nat → Bool) : bitsL n f = bitsL n g ↔ ∀ k, k < n → f k = g k := by
  constructor
  · intro h k hk
    have e := congrArg (fun l => l[k]?) h
    simp only [bitsL, List.getElem?_map, List.getElem?_range hk, Option.map_some] at e
    injection e with e
    injection e
  · intro h
    exact List.map_congr_left fun k hk => by rw [h k (List.mem_range.1 hk)]

theorem key_bool (D : Nat) (b : Bool) : Try.prog.keyLits (D + 1) 4 [.bool b] = some [.bool b] := by
  unfold Program.keyLits; rw [Try.underlying4]
theorem cells_bool : Try.prog.cellsOf 4 = 1 := by kernel_rfl
theorem cells_rn : Try.prog.cellsOf 74 = 36 := by kernel_rfl
theorem cells_rns : Try.prog.cellsOf 75 = 216 := by kernel_rfl
theorem cells_bd : Try.prog.cellsOf 77 = 217 := by kernel_rfl
theorem cells_int : Try.prog.cellsOf 3 = 1 := by kernel_rfl
theorem key_rn (D : Nat) (f : Nat → Bool) : Try.prog.keyLits (D + 2) 74 (caL 36 (bitV f)) = some (bitsL 36 f) := by
  unfold Program.keyLits
  rw [Try.underlying74]
  simp only [cells_rn, caL_len, if_true, cells_bool]
  rw [mapM_some _ (fun i => bitsL 1 fun k => f (i * 1 + k)) _ (fun i hi => by
    have hi' := List.mem_range.1 hi
    rw [bits_chunk 36 f (i * 1) 1 (by omega)]
    exact key_bool D _), Option.map_some, bits_flat f 1 36]
theorem key_rns (D : Nat) (F : Nat → Bool) : Try.prog.keyLits (D + 3) 75 (caL 216 (bitV F)) = some (bitsL 216 F) := by
  unfold Program.keyLits
  rw [Try.underlying75]
  simp only [cells_rns, caL_len, if_true, cells_rn]
  rw [mapM_some _ (fun i => bitsL 36 fun k => F (i * 36 + k)) _ (fun i hi => by
    have hi' := List.mem_range.1 hi
    rw [bits_chunk 216 F (i * 36) 36 (by omega)]
    exact key_rn D _), Option.map_some, bits_flat F 36 6]
theorem run_neq_rn (f g : Nat → Bool) (w : World) (b : Bool) (h : b = true ↔ ∀ k, k < 36 → f k = g k) : (Op.equalIn 10000 74 (rnV f) (rnV g)).run Try.prog w = .ok b w := by
  have hd := run_equalIn_deep (P := Try.prog) 9990 10 74 (by kernel_rfl)
  obtain ⟨r, hr, hi⟩ := hd w 2 2 (rnV f) (rnV g) (bitsL 36 f) (bitsL 36 g) (by simp only [Value.formed, rnV, Try.underlying74, ca_size, cells_rn]; rfl) (by simp only [Value.formed, rnV, Try.underlying74, ca_size, cells_rn]; rfl) (key_rn 0 f) (key_rn 0 g)
  have e : r = b := by rw [Bool.eq_iff_iff, hi, h, bitsL_inj]
  rw [← e]; exact hr
theorem key_bd (D : Nat) (t : Int) (ht : I64 t) (F : Nat → Bool) : Try.prog.keyLits (D + 4) 77 (caL 217 (brdV t F)) = some (.int .i64 t :: bitsL 216 F) := by
  have e1 : (caL 217 (brdV t F)).take 1 = [.int .i64 t] := by
    apply List.ext_getElem?
    intro j
    rw [List.getElem?_take]
    by_cases hj : j < 1
    · have : j = 0 := by omega
      subst this
      rw [if_pos hj, caL_get 217 _ 0 (by omega)]; rfl
    · rw [if_neg hj, List.getElem?_eq_none (by simp; omega)]
  have e2 : ((caL 217 (brdV t F)).drop 1).take 216 = caL 216 (bitV F) := by
    apply List.ext_getElem?
    intro j
    rw [List.getElem?_take]
    by_cases hj : j < 216
    · rw [if_pos hj, List.getElem?_drop, caL_get 217 _ (1 + j) (by omega), caL_get 216 _ j hj]
      simp only [brdV, bitV]
      rw [if_neg (by omega), show 1 + j - 1 = j by omega]
    · rw [if_neg hj, List.getElem?_eq_none (by rw [caL_len]; omega)]
  have hi : Try.prog.keyLits (D + 3) 3 [.int .i64 t] = some [.int .i64 t] := by
    unfold Program.keyLits
    rw [Try.underlying3]
    have hw : (Lit.int .i64 t).wf = true := by
      have h1 : IntKind.i64.min = -9223372036854775808 := by decide
      have h2 : IntKind.i64.max = 9223372036854775807 := by decide
      unfold I64 at ht; simp only [Lit.wf, h1, h2, Bool.and_eq_true, decide_eq_true_eq]; exact ht
    simp [hw]
  unfold Program.keyLits
  rw [Try.underlying77]
  simp [cells_bd, caL_len, cells_int, cells_rns, e1, hi]
  rw [← List.drop_one, e2, key_rns D F]
  simp
theorem run_eq_bd (t : Int) (ht : I64 t) (F G : Nat → Bool) (w : World) (b : Bool) (h : b = true ↔ ∀ k, k < 216 → F k = G k) : (Op.equalIn 10000 77 (bdV t F) (bdV t G)).run Try.prog w = .ok b w := by
  have hd := run_equalIn_deep (P := Try.prog) 9990 10 77 (by kernel_rfl)
  obtain ⟨r, hr, hi⟩ := hd w 4 4 (bdV t F) (bdV t G) (.int .i64 t :: bitsL 216 F) (.int .i64 t :: bitsL 216 G) (by simp only [Value.formed, bdV, Try.underlying77, ca_size, cells_bd]; rfl) (by simp only [Value.formed, bdV, Try.underlying77, ca_size, cells_bd]; rfl) (key_bd 0 t ht F) (key_bd 0 t ht G)
  have e : r = b := by
    rw [Bool.eq_iff_iff, hi, h, ← bitsL_inj]
    constructor
    · intro h; injection h
    · intro h; rw [h]
  rw [← e]; exact hr
end Go.Proofs.Ytnhjofcmaodamaa
