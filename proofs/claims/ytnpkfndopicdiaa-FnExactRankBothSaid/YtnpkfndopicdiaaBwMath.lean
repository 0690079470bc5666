/-
  Walks: the lists that are walks, and the first hooks with a walk: plain facts, told by a finite table.
-/
import Derived.Test.YtnpkfndopicdiaaWk
import Derived.Test.YtnpkfndopicdiaaIns
namespace Go.Proofs.Ytnpkfndopicdiaa

def okW (a b : Int) (W : List Int) (j : Nat) : Bool := inB 0 (mstI a b j) (W.getD j 0) && (decide (j = 0) || decide (W.getD j 0 ≤ W.getD (j - 1) 0))
def wkOk (a b : Int) (W : List Int) : Bool := decide (W.length = (a - 1).toNat) && (List.range W.length).all (okW a b W)
theorem wkOk_iff {a b : Int} {W : List Int} : wkOk a b W = true ↔ W.length = (a - 1).toNat ∧ ∀ j, j < W.length → okW a b W j = true := by
  simp only [wkOk, Bool.and_eq_true, decide_eq_true_eq, List.all_eq_true, List.mem_range]
/-- All walks behind i, of r numbers, from p down. -/
def wks (a b : Int) : Nat → Nat → Int → List (List Int)
  | 0, _, _ => [[]]
  | r + 1, i, p => (List.range (min p (mstI a b i) + 1).toNat).flatMap fun v : Nat => (wks a b r (i + 1) (v : Int)).map fun W => (v : Int) :: W
theorem mem_wks {a b : Int} : ∀ (W : List Int) (i : Nat) (p : Int), (∀ j, j < W.length → 0 ≤ W.getD j 0 ∧ W.getD j 0 ≤ mstI a b (i + j : Nat)) → (0 < W.length → W.getD 0 0 ≤ p) → (∀ j, j + 1 < W.length → W.getD (j + 1) 0 ≤ W.getD j 0) → W ∈ wks a b W.length i p
  | [], _, _, _, _, _ => by simp [wks]
  | x :: W, i, p, h1, h2, h3 => by
    have hx := h1 0 (by simp)
    have hp := h2 (by simp)
    simp only [List.getD_cons_zero, Nat.add_zero] at hx hp
    rw [List.length_cons, wks, List.mem_flatMap]
    refine ⟨x.toNat, List.mem_range.2 ?_, ?_⟩
    · have : x ≤ min p (mstI a b i) := Int.le_min.2 ⟨hp, hx.2⟩
      omega
    rw [List.mem_map]
    refine ⟨W, ?_, by rw [Int.toNat_of_nonneg (by omega)]⟩
    rw [Int.toNat_of_nonneg (by omega)]
    refine mem_wks W (i + 1) x (fun j hj => ?_) (fun hj => ?_) (fun j hj => ?_)
    · have := h1 (j + 1) (by simp; omega)
      rw [List.getD_cons_succ] at this
      rw [show i + 1 + j = i + (j + 1) by omega]; exact this
    · have := h3 0 (by simp; omega)
      simpa using this
    · have := h3 (j + 1) (by simp; omega)
      simpa using this
theorem wk_mem {a b : Int} {W : List Int} (hs : sz a b = true) (h : wkOk a b W = true) : W ∈ wks a b (a - 1).toNat 0 1000 := by
  obtain ⟨hl, hj⟩ := wkOk_iff.1 h
  rw [← hl]
  refine mem_wks W 0 1000 (fun j hj' => ?_) (fun h0 => ?_) (fun j hj' => ?_)
  · have := hj j hj'
    simp only [okW, Bool.and_eq_true] at this
    have h1 := inB_iff.1 this.1
    rw [Nat.zero_add]; exact h1
  · have := hj 0 h0
    simp only [okW, Bool.and_eq_true] at this
    have h1 := (inB_iff.1 this.1).2
    have h2 := (wk_bdN hs 0 (by omega) (by obtain ⟨h3, -⟩ := sz_iff.1 hs; show (0 : Int) < a - 1; omega)).1.1.2
    exact Int.le_trans h1 (Int.le_trans h2 (by omega))
  · have := hj (j + 1) hj'
    simp only [okW, Bool.and_eq_true, Bool.or_eq_true, decide_eq_true_eq] at this
    rcases this.2 with h1 | h1
    · omega
    · simpa using h1
/-- The numbers behind the first n of a row. -/
def hwR (a b : Int) (W : List Int) (i k : Nat) : List Int := (List.range k).map fun j : Nat => gpA a b (W.getD i 0 + 1 + j) i
def hwM (a b : Int) (W : List Int) (i : Nat) : Nat := (mstI a b i - W.getD i 0).toNat
def hwL (a b : Int) (W : List Int) (m : Nat) : List Int := (List.range m).flatMap fun i => hwR a b W i (hwM a b W i)
theorem hwR_succ (a b : Int) (W : List Int) (i k : Nat) : hwR a b W i (k + 1) = hwR a b W i k ++ [gpA a b (W.getD i 0 + 1 + k) i] := by
  unfold hwR; rw [List.range_succ, List.map_append]; rfl
theorem hwL_succ (a b : Int) (W : List Int) (m : Nat) : hwL a b W (m + 1) = hwL a b W m ++ hwR a b W m (hwM a b W m) := by
  unfold hwL; rw [List.range_succ, List.flatMap_append]; simp
def insAll (L : List Int) : List Int := L.foldl insL []
def upB : List Int → Bool
  | x :: y :: r => decide (x < y) && upB (y :: r)
  | _ => true
/-- All that is told of a walk's hooks. -/
def bwChk (a b : Int) (W : List Int) : Bool := clB a b (insAll (hwL a b W W.length)) && (ffOk (insAll (hwL a b W W.length)) && (upB (insAll (hwL a b W W.length)) && decide ((hwL a b W W.length).length ≤ 30)))
theorem bw_all {a b : Int} (hs : sz a b = true) : (wks a b (a - 1).toNat 0 1000).all (bwChk a b) = true := sz_nat (p := fun a b => (wks a b (a - 1).toNat 0 1000).all (bwChk a b) = true) (by decide +kernel) hs
theorem bw_chk {a b : Int} {W : List Int} (hs : sz a b = true) (h : wkOk a b W = true) : bwChk a b W = true := List.all_eq_true.1 (bw_all hs) W (wk_mem hs h)
theorem insL_perm (x : Int) : ∀ L : List Int, (insL L x).Perm (x :: L)
  | [] => List.Perm.refl _
  | y :: r => by
    unfold insL
    split
    · exact ((insL_perm x r).cons y).trans (List.Perm.swap x y r)
    · exact List.Perm.refl _
theorem insAll_perm (L : List Int) : (insAll L).Perm L := by
  have key : ∀ (L A : List Int), (L.foldl insL A).Perm (A ++ L) := by
    intro L
    induction L with
    | nil => intro A; simp
    | cons x L ih =>
      intro A
      rw [List.foldl_cons]
      refine (ih (insL A x)).trans ?_
      have h1 := (insL_perm x A).append_right L
      exact h1.trans (by simpa using (List.perm_middle (a := x) (l₁ := A) (l₂ := L)).symm)
  have := key L []
  rw [List.nil_append] at this
  exact this
theorem upB_pair : ∀ L : List Int, upB L = true → L.Pairwise (· < ·)
  | [], _ => List.Pairwise.nil
  | [x], _ => by simp
  | x :: y :: r, h => by
    rw [upB, Bool.and_eq_true, decide_eq_true_eq] at h
    have ih := upB_pair (y :: r) h.2
    refine List.Pairwise.cons (fun z hz => ?_) ih
    rcases List.mem_cons.1 hz with rfl | hz
    · exact h.1
    · have := List.rel_of_pairwise_cons ih hz
      omega
theorem sorted_eq : ∀ {L M : List Int}, L.Perm M → L.Pairwise (fun x y => x ≤ y) → M.Pairwise (fun x y => x ≤ y) → L = M
  | [], M, h, _, _ => by rw [List.nil_perm.1 h]
  | x :: L, [], h, _, _ => by have := h.length_eq; simp at this
  | x :: L, y :: M, h, h1, h2 => by
    have hxm : x ∈ y :: M := h.mem_iff.1 (List.mem_cons_self ..)
    have hym : y ∈ x :: L := h.mem_iff.2 (List.mem_cons_self ..)
    have e : x = y := by
      rcases List.mem_cons.1 hxm with e | hx
      · exact e
      · rcases List.mem_cons.1 hym with e | hy
        · exact e.symm
        · have a1 := List.rel_of_pairwise_cons h1 hy
          have a2 := List.rel_of_pairwise_cons h2 hx
          omega
    subst e
    rw [sorted_eq (List.Perm.cons_inv h) h1.of_cons h2.of_cons]
theorem sort_ins {a b : Int} {W : List Int} (hs : sz a b = true) (h : wkOk a b W = true) : (hwL a b W W.length).mergeSort (fun x y => decide (x ≤ y)) = insAll (hwL a b W W.length) := by
  have hc := bw_chk hs h
  simp only [bwChk, Bool.and_eq_true] at hc
  have hp := upB_pair _ hc.2.2.1
  refine sorted_eq ((List.mergeSort_perm _ _).trans (insAll_perm _).symm) ?_ (hp.imp fun h => by omega)
  have h2 := List.pairwise_mergeSort (le := fun x y : Int => decide (x ≤ y)) (fun x y z h1 h2 => by simp at *; omega) (fun x y => by simp; omega) (hwL a b W W.length)
  exact h2.imp fun h => by simpa using h
end Go.Proofs.Ytnpkfndopicdiaa
