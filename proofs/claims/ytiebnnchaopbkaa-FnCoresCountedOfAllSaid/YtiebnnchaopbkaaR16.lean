/-
  Several texts in one.
-/
import Derived.Test.YtiebnnchaopbkaaCB
import Derived.Test.YtiebnnchaopbkaaR15
import Derived.Test.YtiebnnchaopbkaaR14
import Derived.Test.YtiebnnchaopbkaaR12
/-
  Factorials of the program and of the model.
-/
namespace Go.Proofs.Ytiebnnchaopbkaa
open Go.RowKit

def fac : Nat → Int
  | 0 => 1
  | n + 1 => fac n * ((n : Int) + 1)
theorem fac_step (k : Nat) : fac (k + 1) = fac k * ((k : Int) + 1) := rfl
theorem fac_bd20 : ∀ k < 21, 1 ≤ fac k ∧ fac k ≤ 2432902008176640000 := by decide +kernel

/-- What the other side has multiplied when it has come down to m. -/
def facD (n : Nat) : Nat → Int
  | 0 => 1
  | j + 1 => facD n j * ((n : Int) - j)
theorem facDN : ((List.range 21).all fun n => (List.range 21).all fun j => decide (n < j) || (decide (1 ≤ facD n j ∨ j = n + 1) && decide (facD n j ≤ 2432902008176640000 ∧ 0 ≤ facD n j))) = true := by decide +kernel
theorem facD_bd (n : Nat) (hn : n ≤ 20) (j : Nat) (hj : j ≤ n) : 0 ≤ facD n j ∧ facD n j ≤ 2432902008176640000 := by
  have h1 := List.all_eq_true.1 facDN n (List.mem_range.2 (by omega))
  have h2 := List.all_eq_true.1 h1 j (List.mem_range.2 (by omega))
  simp only [Bool.or_eq_true, Bool.and_eq_true, decide_eq_true_eq] at h2
  omega
theorem facD_fac : ∀ n < 21, facD n (n - 1) = fac n := by decide +kernel

end Go.Proofs.Ytiebnnchaopbkaa
/-
  Contracts: chains counted by hooks, on both sides: CountChains.
-/
namespace Go.Proofs.Ytiebnnchaopbkaa
open Go.RowKit

theorem fac_nat : ∀ n, fac n = (facN n : Int)
  | 0 => rfl
  | n + 1 => by rw [fac_step, fac_nat n, facN, Int.natCast_mul]; rfl
def hkL (xs : List Int) : List Int := (hooksR xs).flatten
theorem rows_flat_len (xs : List Int) (f : Nat → Nat → Int) (h : ∀ j, j < xs.length → 0 ≤ xs.getD j 0) : ∀ k, k ≤ xs.length → (((rowsF xs f k).flatten.length : Nat) : Int) = (xs.take k).sum
  | 0, _ => by simp [rowsF]
  | k + 1, hk => by
    have := rows_flat_len xs f h k (by omega)
    have := h k (by omega)
    rw [rowsF_succ, List.flatten_append, List.length_append, sum_take_succ xs k (by omega)]
    simp only [List.flatten_cons, List.flatten_nil, List.append_nil, rowF_len]
    omega
theorem rowsF_take (xs : List Int) (f : Nat → Nat → Int) (k m : Nat) (h : m ≤ k) : (rowsF xs f k).take m = rowsF xs f m := by
  unfold rowsF; rw [← List.map_take, List.take_range, Nat.min_eq_left h]
theorem hkL_len {xs : List Int} (G : Good xs) : (((hkL xs).length : Nat) : Int) = xs.sum := by
  have := rows_flat_len xs (hookN xs) (fun j hj => by have := G.pos j hj; omega) xs.length (Nat.le_refl _)
  rw [List.take_of_length_le (Nat.le_refl _)] at this
  exact this
theorem hkL_bd {xs : List Int} (G : Good xs) : HkB (hkL xs) xs.sum.toNat := by
  have hs := G.sum0
  have hpos := G.pos
  intro k hk
  rw [show ((xs.sum.toNat : Nat) : Int) = xs.sum by omega]
  refine flat_bd (hooksR xs) xs.sum (fun r c hr hc => ?_) k hk
  rw [hooksR_len] at hr
  have hrow : (hooksR xs).getD r [] = rowF (hookN xs) r (xs.getD r 0).toNat := by unfold hooksR; rw [rowsF_get xs _ _ _ hr]
  rw [hrow] at hc ⊢
  rw [rowF_len] at hc
  rw [rowF_get _ _ _ _ hc]
  have hp := hpos r hr
  have hx30 := G.le r hr
  have hcx : (c : Int) < xs.getD r 0 := by omega
  have h1 := (colH_iff G (c : Int) (by omega) r).2 hcx
  have h0 : c < (xs.getD 0 0).toNat := by have := down_le xs G.down 0 r (by omega); rw [Nat.zero_add] at this; omega
  have h2 := cols_get xs c h0
  have h3 := (colH_bound xs (c : Int)).2
  have ht : ((((hooksR xs).take r).flatten.length : Nat) : Int) = (xs.take r).sum := by
    unfold hooksR; rw [rowsF_take _ _ _ _ (by omega)]; exact rows_flat_len xs _ (fun j hj => by have := hpos j hj; omega) r (by omega)
  rw [ht]
  have e := congrArg List.sum (List.take_append_drop (r + 1) xs)
  rw [List.sum_append, sum_take_succ xs r hr] at e
  have hd := len_sum (xs.drop (r + 1)) (fun j hj => by
    rw [List.getD_eq_getElem?_getD, List.getElem?_drop, ← List.getD_eq_getElem?_getD]
    exact hpos _ (by simp at hj; omega))
  rw [List.length_drop] at hd
  unfold hookN
  rw [h2]
  omega
theorem fac_i64 {n : Nat} (h : n ≤ 20) : (facN n : Int) ≤ 2432902008176640000 := by have := (facN_bd n (by omega)).2; omega

/-- How many chains a partition has. -/
def chN (xs : List Int) : Nat := wyN (hkL xs) (hkL xs).length
theorem nd_bds {L : List Int} (h : HkB L L.length) (hl : L.length ≤ 20) {j : Nat} (hj : j < L.length) :
    (nd L j).1 * (j + 1) ≤ 2432902008176640000 ∧ (nd L j).2 * (L.getD j 0).toNat ≤ 2432902008176640000 ∧ 1 ≤ Nat.gcd ((nd L j).1 * (j + 1)) ((nd L j).2 * (L.getD j 0).toNat) ∧ (nd L j).1 ≤ 2432902008176640000 ∧ (nd L j).2 ≤ 2432902008176640000 := by
  have o := nd_ok L j fun i hi => (h i (by omega)).1
  have hf := (facN_bd (j + 1) (by omega)).2
  have hp := prN_bd h hl hl (j + 1) (by omega)
  have hf0 := (facN_bd j (by omega)).2
  have hp0 := prN_bd h hl hl j (by omega)
  have h1 : (nd L j).1 * (j + 1) ≤ facN (j + 1) := Nat.mul_le_mul_right _ o.num
  have h2 : (nd L j).2 * (L.getD j 0).toNat ≤ prN L (j + 1) := Nat.mul_le_mul_right _ o.den
  have hg : 0 < (nd L j).1 * (j + 1) := Nat.mul_pos o.num1 (by omega)
  exact ⟨by omega, by omega, Nat.gcd_pos_of_pos_left _ hg, by have := o.num; omega, by have := o.den; omega⟩

def ccB (xs : List Int) : Bool := good xs && decide (xs.sum ≤ 20)
def ccF (xs : List Int) : Int := if ccB xs then (chN xs : Int) else 0

end Go.Proofs.Ytiebnnchaopbkaa
/-
  Plain check: at all partitions of at most fifteen cells the product of the hooks divides the factorial. No program in this text.
-/
namespace Go.Proofs.Ytiebnnchaopbkaa
def chkD (n : Nat) : Bool := (List.range (T n n)).all fun r => let L := hkL (pa n n n r); facN n % prN L L.length == 0
set_option maxRecDepth 100000 in
theorem div_chk : ∀ n, n < 16 → chkD n = true := by decide +kernel
end Go.Proofs.Ytiebnnchaopbkaa
