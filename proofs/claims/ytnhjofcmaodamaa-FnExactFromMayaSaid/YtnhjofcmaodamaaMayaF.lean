/-
  Contract: MayaOf of the program.
-/
import Derived.Test.YtnhjofcmaodamaaBack2
import Derived.Test.YtnhjofcmaodamaaCB
namespace Go.Proofs.Ytnhjofcmaodamaa
open Go.RowKit Go.Shelf
attribute [local go_sem] Oper.semAt_some

theorem _root_.Go.RowKit.Below.next' {n : Nat} {a b c : World} (h : Below n a b) (k : Below b.heap.size b c) (hn : n ≤ b.heap.size := by omega) : Below n a c := h.trans (k.mono hn)
theorem ownsRow_next' {w w' : World} {B e s n : Nat} {v : Value} {xs : List Value} (h : w.ownsRow B e s v n xs) (hb : Below w.heap.size w w') : w'.ownsRow B e s v n xs := by
  refine ⟨h.1, ?_⟩
  rcases h.2 with hn | ⟨g, cap, cur, hv, hbg, hgg, rest⟩
  · exact .inl hn
  · exact .inr ⟨g, cap, cur, hv, hbg, by rw [hb.block g (Array.getElem?_eq_some_iff.1 hgg).1]; exact hgg, rest⟩
def posM (n : Int) (pre : List (Int × Int)) : List Int := pre.filterMap fun x => if n ≤ x.2 then some (wrap64 (x.2 - n)) else none
theorem posM_hit (n : Int) (pre : List (Int × Int)) {x : Int × Int} (h : n ≤ x.2) : posM n (pre ++ [x]) = posM n pre ++ [wrap64 (x.2 - n)] := by simp [posM, h]
theorem posM_miss (n : Int) (pre : List (Int × Int)) {x : Int × Int} (h : ¬ n ≤ x.2) : posM n (pre ++ [x]) = posM n pre := by simp [posM, h]
theorem posM_len (n : Int) (pre : List (Int × Int)) : (posM n pre).length ≤ pre.length := List.length_filterMap_le _ _
def misM (n : Int) (bs : List Int) (pre : List (Int × Int)) : List Int := pre.filterMap fun x => if x.2 ∈ bs then none else some (wrap64 (x.2 - n))
theorem misM_hit (n : Int) (bs : List Int) (pre : List (Int × Int)) {x : Int × Int} (h : ¬ x.2 ∈ bs) : misM n bs (pre ++ [x]) = misM n bs pre ++ [wrap64 (x.2 - n)] := by simp [misM, h]
theorem misM_miss (n : Int) (bs : List Int) (pre : List (Int × Int)) {x : Int × Int} (h : x.2 ∈ bs) : misM n bs (pre ++ [x]) = misM n bs pre := by simp [misM, h]
theorem misM_len (n : Int) (bs : List Int) (pre : List (Int × Int)) : (misM n bs pre).length ≤ pre.length := List.length_filterMap_le _ _
theorem posM_A {xs : List Int} (G : Good xs) : ∀ k, k ≤ xs.length → posM xs.length (upto (bk (beadsL xs xs.length)) k) = mayaA xs k
  | 0, _ => rfl
  | k + 1, h => by
    have ih := posM_A G k (by omega)
    have hb : (bk (beadsL xs xs.length) k).2 = num xs k + xs.length := by
      simp only [bk, beadsL_len]
      unfold beadsL
      rw [fnRow_get _ _ _ (by omega)]
      unfold bead num
      rw [show xs.length - 1 - (xs.length - 1 - k) = k by omega]; omega
    have hbd := num_bd G (i := k) (by omega)
    have hl := G.len
    rw [upto_succ]
    by_cases hh : 0 ≤ num xs k
    · rw [posM_hit _ _ (by rw [hb]; omega), ih, mayaA_yes rfl hh, hb]
      have e : wrap64 (num xs k + xs.length - xs.length) = num xs k := by rw [show num xs k + xs.length - xs.length = num xs k by omega]; exact IntWalk.wrap64_in _ (by omega)
      rw [e]
    · rw [posM_miss _ _ (by rw [hb]; omega), ih, mayaA_no rfl hh]
theorem misM_B {xs : List Int} (hl : xs.length ≤ 30) : ∀ k, k ≤ xs.length → misM xs.length (beadsL xs xs.length) (upto (bk (upTo xs.length)) k) = mayaB xs k
  | 0, _ => rfl
  | k + 1, h => by
    have ih := misM_B hl k (by omega)
    have hb : (bk (upTo xs.length) k).2 = ((xs.length - 1 - k : Nat) : Int) := by
      simp only [bk, upTo_len]
      unfold upTo
      rw [fnRow_get _ _ _ (by omega)]
    have hbe := bead_held xs k (by omega)
    rw [upto_succ]
    by_cases hh : (-1 - (k : Int)) ∈ heldL xs xs.length
    · rw [misM_miss _ _ _ (by rw [hb]; exact hbe.2 hh), ih, mayaB_yes hh]
    · rw [misM_hit _ _ _ (by rw [hb]; exact fun h => hh (hbe.1 h)), ih, mayaB_no hh, hb]
      have e : wrap64 (((xs.length - 1 - k : Nat) : Int) - xs.length) = -1 - (k : Int) := by
        rw [show ((xs.length - 1 - k : Nat) : Int) - xs.length = -1 - (k : Int) by omega]; exact IntWalk.wrap64_in _ (by omega)
      rw [e]
theorem _root_.Go.Boxed.below' {W W' : World} {B : Nat} {t : TypeId} {v : Value} (h : Boxed W B t v) (hb : Below W.heap.size W W') : Boxed W' B t v := (hb.block B h.lt).trans h

end Go.Proofs.Ytnhjofcmaodamaa
