/-
  Plain facts on beads: which lists are beads, the parts that they stand for, the beads of a list of parts. No program in this text.
-/
import Derived.Test.YtnjaoaamcdohoaaR01
namespace Go.Proofs.Ytnjaoaamcdohoaa

/-- Number j of a list is within lo..hi and greater than the one before. -/
def okAt (lo hi : Int) (xs : List Int) (j : Nat) : Bool := inB lo hi (xs.getD j 0) && (decide (j = 0) || decide (xs.getD (j - 1) 0 < xs.getD j 0))
def rises (lo hi : Int) (xs : List Int) : Bool := (List.range xs.length).all (okAt lo hi xs)
theorem rises_iff {lo hi : Int} {xs : List Int} : rises lo hi xs = true ↔ ∀ j, j < xs.length → okAt lo hi xs j = true := by
  simp [rises, List.all_eq_true]
theorem rises_no {lo hi : Int} {xs : List Int} {k : Nat} (hk : k < xs.length) (h : okAt lo hi xs k = false) : rises lo hi xs = false := by
  cases hr : rises lo hi xs
  · rfl
  · rw [rises_iff.1 hr k hk] at h; cases h
theorem okAt_iff {lo hi : Int} {xs : List Int} {j : Nat} : okAt lo hi xs j = true ↔ (lo ≤ xs.getD j 0 ∧ xs.getD j 0 ≤ hi) ∧ (j = 0 ∨ xs.getD (j - 1) 0 < xs.getD j 0) := by
  simp [okAt, inB]
structure Rises (lo hi : Int) (xs : List Int) : Prop where
  bd : ∀ j, j < xs.length → lo ≤ xs.getD j 0 ∧ xs.getD j 0 ≤ hi
  up : ∀ j, j + 1 < xs.length → xs.getD j 0 < xs.getD (j + 1) 0
theorem rises_Rises {lo hi : Int} {xs : List Int} : rises lo hi xs = true ↔ Rises lo hi xs := by
  rw [rises_iff]
  constructor
  · intro h
    refine ⟨fun j hj => (okAt_iff.1 (h j hj)).1, fun j hj => ?_⟩
    rcases (okAt_iff.1 (h (j + 1) hj)).2 with h0 | h1
    · omega
    · simpa using h1
  · intro h j hj
    refine okAt_iff.2 ⟨h.bd j hj, ?_⟩
    rcases Nat.eq_zero_or_pos j with h0 | h0
    · exact .inl h0
    · have := h.up (j - 1) (by omega)
      rw [show j - 1 + 1 = j by omega] at this
      exact .inr this

/-- The parts of the first k beads from the greatest one down. -/
def bpk (xs : List Int) : Nat → List Int
  | 0 => []
  | k + 1 => bpk xs k ++ if ((xs.length - 1 - k : Nat) : Int) < xs.getD (xs.length - 1 - k) 0 then [xs.getD (xs.length - 1 - k) 0 - (xs.length - 1 - k : Nat)] else []
def partsL (xs : List Int) : List Int := bpk xs xs.length
theorem bpk_yes {xs : List Int} {k i : Nat} {x : Int} (hi : i = xs.length - 1 - k) (hx : x = xs.getD i 0) (h : (i : Int) < x) : bpk xs (k + 1) = bpk xs k ++ [x - i] := by
  subst hi hx; simp only [bpk]; rw [if_pos h]
theorem bpk_no {xs : List Int} {k i : Nat} {x : Int} (hi : i = xs.length - 1 - k) (hx : x = xs.getD i 0) (h : ¬ (i : Int) < x) : bpk xs (k + 1) = bpk xs k := by
  subst hi hx; simp only [bpk]; rw [if_neg h, List.append_nil]
theorem pk_len (xs : List Int) : ∀ k, (bpk xs k).length ≤ k
  | 0 => by simp [bpk]
  | k + 1 => by
    have := pk_len xs k
    simp only [bpk, List.length_append]
    split <;> simp <;> omega
theorem partsL_len (xs : List Int) : (partsL xs).length ≤ xs.length := pk_len xs _

def goodB (xs : List Int) : Bool := decide (xs.length ≤ 40) && (rises 0 1000 xs && good (partsL xs))
structure GoodB (xs : List Int) : Prop where
  len : xs.length ≤ 40
  rise : Rises 0 1000 xs
  parts : Good (partsL xs)
theorem goodB_iff {xs : List Int} : goodB xs = true ↔ GoodB xs := by
  simp only [goodB, Bool.and_eq_true, decide_eq_true_eq, rises_Rises, good_iff]
  exact ⟨fun ⟨a, b, c⟩ => ⟨a, b, c⟩, fun ⟨a, b, c⟩ => ⟨a, b, c⟩⟩
theorem goodB_no_len {xs : List Int} (h : 40 < xs.length) : goodB xs = false := by simp [goodB]; omega
theorem goodB_no_rise {xs : List Int} (h : rises 0 1000 xs = false) : goodB xs = false := by simp [goodB, h]
theorem goodB_parts {xs : List Int} (hl : xs.length ≤ 40) (h : rises 0 1000 xs = true) : goodB xs = good (partsL xs) := by simp [goodB, h, hl]

/-- A row of n numbers told by a function. -/
def fnRow (n : Nat) (f : Nat → Int) : List Int := (List.range n).map f
theorem fnRow_len (n : Nat) (f : Nat → Int) : (fnRow n f).length = n := by simp [fnRow]
theorem fnRow_get (n : Nat) (f : Nat → Int) (j : Nat) (h : j < n) : (fnRow n f).getD j 0 = f j := by simp [fnRow, List.getD, h]
theorem rowF_ext (n : Nat) (f g : Nat → Int) (h : ∀ j, j < n → f j = g j) : fnRow n f = fnRow n g := by
  unfold fnRow
  exact List.map_congr_left fun j hj => h j (List.mem_range.1 hj)
theorem fnRow_set (n : Nat) (f : Nat → Int) (i : Nat) (v : Int) : (fnRow n f).set i v = fnRow n (fun j => if j = i then v else f j) := by
  apply List.ext_getElem
  · simp [fnRow]
  · intro j h1 h2
    simp only [fnRow, List.getElem_set, List.getElem_map, List.getElem_range]
    by_cases h : i = j
    · subst h; simp
    · rw [if_neg h, if_neg (by omega)]
theorem rowF_zero (n : Nat) : fnRow n (fun _ => 0) = List.replicate n 0 := by
  apply List.ext_getElem
  · simp [fnRow]
  · intro j h1 h2; simp [fnRow]
theorem rowF_of (xs : List Int) : fnRow xs.length (fun j => xs.getD j 0) = xs := by
  apply List.ext_getElem
  · simp [fnRow]
  · intro j h1 h2; simp [fnRow, List.getD, h2]

def upTo (n : Nat) : List Int := fnRow n (fun j => j)
def bead (p : List Int) (n j : Nat) : Int := (j : Int) + p.getD (n - 1 - j) 0
/-- The n beads of the parts p. -/
def beadsL (p : List Int) (n : Nat) : List Int := fnRow n (bead p n)
theorem beadsL_len (p : List Int) (n : Nat) : (beadsL p n).length = n := fnRow_len _ _
/-- .. when the first k parts have come. -/
def beadsK (p : List Int) (n k : Nat) : List Int := fnRow n (fun j => (j : Int) + if n - 1 - j < k then p.getD (n - 1 - j) 0 else 0)
theorem beadsK_zero (p : List Int) (n : Nat) : beadsK p n 0 = upTo n := rowF_ext _ _ _ fun j _ => by simp
theorem beadsK_all (p : List Int) (n : Nat) : beadsK p n p.length = beadsL p n := rowF_ext _ _ _ fun j _ => by
  unfold bead
  split
  · rfl
  · rw [List.getD_eq_getElem?_getD, List.getElem?_eq_none (by omega)]; rfl
theorem beadsK_get (p : List Int) (n k : Nat) (h : k < n) : (beadsK p n k).getD (n - 1 - k) 0 = (n - 1 - k : Nat) := by
  unfold beadsK; rw [fnRow_get _ _ _ (by omega), if_neg (by omega)]; simp
theorem beadsK_succ (p : List Int) (n k : Nat) (h : k < n) : (beadsK p n k).set (n - 1 - k) ((n - 1 - k : Nat) + p.getD k 0) = beadsK p n (k + 1) := by
  unfold beadsK; rw [fnRow_set]
  refine rowF_ext _ _ _ fun j hj => ?_
  by_cases e : j = n - 1 - k
  · subst e
    rw [if_pos rfl, if_pos (by omega), show n - 1 - (n - 1 - k) = k by omega]
  · rw [if_neg e]
    by_cases h1 : n - 1 - j < k
    · rw [if_pos h1, if_pos (by omega)]
    · rw [if_neg h1, if_neg (by omega)]
/-- The other side's row, filled from the greatest bead down. -/
def beadsD (p : List Int) (n k : Nat) : List Int := fnRow n (fun j => if n - 1 - j < k then bead p n j else 0)
theorem beadsD_zero (p : List Int) (n : Nat) : beadsD p n 0 = List.replicate n 0 := by
  rw [← rowF_zero]; exact rowF_ext _ _ _ fun j _ => by simp
theorem beadsD_all (p : List Int) (n : Nat) : beadsD p n n = beadsL p n := rowF_ext _ _ _ fun j hj => by rw [if_pos (by omega)]
theorem beadsD_succ (p : List Int) (n k : Nat) (h : k < n) : (beadsD p n k).set (n - 1 - k) (bead p n (n - 1 - k)) = beadsD p n (k + 1) := by
  unfold beadsD; rw [fnRow_set]
  refine rowF_ext _ _ _ fun j hj => ?_
  by_cases e : j = n - 1 - k
  · subst e
    rw [if_pos rfl, if_pos (by omega)]
  · rw [if_neg e]
    by_cases h1 : n - 1 - j < k
    · rw [if_pos h1, if_pos (by omega)]
    · rw [if_neg h1, if_neg (by omega)]
theorem bead_bd {p : List Int} (G : Good p) (n j : Nat) (hj : j < n) (hn : n ≤ 40) : 0 ≤ bead p n j ∧ bead p n j ≤ 70 := by
  unfold bead
  by_cases h : n - 1 - j < p.length
  · have := G.pos _ h; have := G.le _ h; omega
  · rw [List.getD_eq_getElem?_getD, List.getElem?_eq_none (by omega)]; simp; omega

def beadsF (p : List Int) (n : Int) : List Int := if good p = true ∧ (p.length : Int) ≤ n ∧ n ≤ 40 then beadsL p n.toNat else []
def beadsOk (p : List Int) (n : Int) : Bool := good p && inB p.length 40 n
def fromBeadsF (xs : List Int) : List Int := if goodB xs then partsL xs else []
def leastF (xs : List Int) : List Int := if goodB xs then beadsL (partsL xs) (partsL xs).length else []
def shiftL (xs : List Int) (by_ : Nat) : List Int := upTo by_ ++ xs.map (· + (by_ : Int))
end Go.Proofs.Ytnjaoaamcdohoaa
namespace Go.Proofs.Ytnjaoaamcdohoaa
/-! Shifted beads. -/
def shiftK (xs : List Int) (m k : Nat) : List Int := upTo m ++ (xs.take k).map (fun x => x + (m : Int))
theorem shiftK_zero (xs : List Int) (m : Nat) : shiftK xs m 0 = upTo m := by simp [shiftK]
theorem shiftK_all (xs : List Int) (m : Nat) : shiftK xs m xs.length = shiftL xs m := by simp [shiftK, shiftL]
theorem shiftK_succ (xs : List Int) (m k : Nat) (h : k < xs.length) : shiftK xs m (k + 1) = shiftK xs m k ++ [xs.getD k 0 + m] := by
  unfold shiftK
  rw [List.take_succ_eq_append_getElem h, List.map_append, List.append_assoc, List.getD_eq_getElem?_getD, List.getElem?_eq_getElem h]; rfl
theorem shiftL_len (xs : List Int) (m : Nat) : (shiftL xs m).length = m + xs.length := by simp [shiftL, upTo, fnRow]
theorem shiftK_len (xs : List Int) (m k : Nat) (h : k ≤ xs.length) : (shiftK xs m k).length = m + k := by simp [shiftK, upTo, fnRow]; omega
theorem upTo_len (n : Nat) : (upTo n).length = n := fnRow_len _ _
theorem upTo_succ (n : Nat) : upTo (n + 1) = upTo n ++ [(n : Int)] := by simp [upTo, fnRow, List.range_succ]
/-- What ShiftBeads hands back. -/
def shiftOk (xs : List Int) (b : Int) : Bool := goodB xs && (decide (0 ≤ b) && (decide (b ≤ 40) && goodB (shiftL xs b.toNat)))
def shiftF (xs : List Int) (b : Int) : List Int := if shiftOk xs b then shiftL xs b.toNat else []
end Go.Proofs.Ytnjaoaamcdohoaa
