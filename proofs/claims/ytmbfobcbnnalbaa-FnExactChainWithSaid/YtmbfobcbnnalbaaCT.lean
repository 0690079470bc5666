/-
  Several texts in one.
-/
import Derived.Test.YtmbfobcbnnalbaaCN
import Derived.Test.YtmbfobcbnnalbaaPaMath
import Derived.Test.YtmbfobcbnnalbaaChs
import Derived.Test.YtmbfobcbnnalbaaCQ
import Derived.Test.YtmbfobcbnnalbaaSqr
import Derived.Test.YtmbfobcbnnalbaaCS
/-
  Plain check: chains by hooks are chains by cells, at all partitions of at most twelve cells. No program in this text.
-/
namespace Go.Proofs.Ytmbfobcbnnalbaa
set_option maxRecDepth 100000 in
theorem ch_chk : ∀ n, n < 12 → ∀ i, i < T (n + 1) (n + 1) → tkF 1 (fun x => (chN x : Int)) (pa (n + 1) (n + 1) (n + 1) i) = (chN (pa (n + 1) (n + 1) (n + 1) i) : Int) := by decide +kernel
theorem ch_nil : chN [] = 1 := by decide +kernel
end Go.Proofs.Ytmbfobcbnnalbaa
/-
  Plain facts on the chain of a rank. No program in this text.
-/
namespace Go.Proofs.Ytmbfobcbnnalbaa
open Go.RowKit

theorem nb_chains : ∀ (n : Nat) (q : List Int), Good q → q.sum = n → n ≤ 12 → chG (ones n) (dlt []) q = (chN q : Int)
  | 0, q, G, h, _ => by
    rw [good_zero G h]
    show dlt [] [] = _
    rw [ch_nil]; rfl
  | n + 1, q, G, h, h12 => by
    show tkF 1 (fun x => chG (ones n) (dlt []) x) q = _
    obtain ⟨i, hi, e⟩ := good_pa G
    rw [h, Int.toNat_natCast] at hi e
    have hc := ch_chk n (by omega) i hi
    rw [← e] at hc
    rw [← hc]
    refine tkF_congr fun x hx => ?_
    obtain ⟨h1, h2, _⟩ := tkK_mem G (by omega) q.length (Nat.le_refl _) x hx
    exact nb_chains n x.1 h1 (by omega) (by omega)
theorem nbN_nil {q : List Int} (G : Good q) (h12 : q.sum ≤ 12) : nbN [] q = (chN q : Int) := by
  have h0 := G.sum0
  obtain ⟨n, hn⟩ : ∃ n : Nat, q.sum = n := ⟨q.sum.toNat, by omega⟩
  unfold nbN nB
  rw [show (q.sum - ([] : List Int).sum).toNat = n by simp; omega]
  exact nb_chains n q G hn (by omega)
theorem sum_nn' (L : List Int) (h : ∀ x ∈ L, 0 ≤ x) : 0 ≤ L.sum := by
  induction L with
  | nil => simp
  | cons a t ih =>
    have h1 := h a (by simp)
    have h2 := ih fun x hx => h x (by simp [hx])
    rw [List.sum_cons]; omega
theorem nB_nn {q : List Int} (Gq : Good q) (h12 : q.sum ≤ 12) : ∀ (j : Nat) (p : List Int), Good p → q.sum = p.sum + j → 0 ≤ nB j p q
  | 0, p, _, _ => by
    show 0 ≤ dlt p q
    unfold dlt; split <;> omega
  | j + 1, p, G, hs => by
    rw [nB_succ G Gq hs h12]
    unfold upS
    refine sum_nn' _ fun x hx => ?_
    obtain ⟨r, hr, rfl⟩ := List.mem_map.1 hx
    obtain ⟨k, rfl, hk, hb⟩ := add_at hr
    rw [Int.toNat_natCast]
    exact nB_nn Gq h12 j _ (inc_Good G (by omega) hk hb) (by rw [inc_sum p k hk]; omega)
/-- The ways by the row of the next cell, and their sums. -/
def cwT (q p : List Int) (s : Nat) : Int := if addB p s then nbN (incL p s) q else 0
def cwS (q p : List Int) : Nat → Int
  | 0 => 0
  | m + 1 => cwS q p m + cwT q p m
theorem cwT_nn {p q : List Int} (G : Good p) (Gq : Good q) (h12 : q.sum ≤ 12) (hs : p.sum < q.sum) {s : Nat} (h : s ≤ p.length) : 0 ≤ cwT q p s := by
  unfold cwT
  split
  · rename_i hb
    have := inc_sum p s h
    unfold nbN
    exact nB_nn Gq h12 _ _ (inc_Good G (by omega) h hb) (by omega)
  · omega
theorem cwS_mono {p q : List Int} (G : Good p) (Gq : Good q) (h12 : q.sum ≤ 12) (hs : p.sum < q.sum) {m : Nat} : ∀ d, m + d ≤ p.length + 1 → cwS q p m ≤ cwS q p (m + d)
  | 0, _ => Int.le_refl _
  | d + 1, h => by
    have h1 := cwS_mono G Gq h12 hs (m := m) d (by omega)
    have h2 := cwT_nn G Gq h12 hs (s := m + d) (by omega)
    show _ ≤ cwS q p (m + d) + cwT q p (m + d)
    omega
theorem filt_cwS (q p : List Int) : ∀ j, ((filt (addB p) j).map fun r => nbN (incL p r.toNat) q).sum = cwS q p j
  | 0 => rfl
  | j + 1 => by
    show _ = cwS q p j + cwT q p j
    cases hb : addB p j
    · rw [filt_no hb, filt_cwS q p j]; unfold cwT; rw [hb]; simp
    · rw [filt_yes hb, List.map_append, List.sum_append, filt_cwS q p j]; unfold cwT; rw [hb]; simp
theorem nbN_cwS {p q : List Int} (G : Good p) (Gq : Good q) (h12 : q.sum ≤ 12) (hs : p.sum < q.sum) : nbN p q = cwS q p (p.length + 1) := by
  obtain ⟨j, hj⟩ : ∃ j : Nat, q.sum = p.sum + (j + 1 : Nat) := ⟨(q.sum - p.sum).toNat - 1, by omega⟩
  rw [← filt_cwS]
  unfold nbN
  rw [show (q.sum - p.sum).toNat = j + 1 by omega, nB_succ G Gq hj h12]
  unfold upS
  congr 1
  apply List.map_congr_left
  intro r hr
  obtain ⟨k, rfl, hk, _⟩ := add_at hr
  rw [Int.toNat_natCast, inc_sum p k hk, show (q.sum - (p.sum + 1)).toNat = j by omega]
/-- The row in which the rank lies. -/
def cwP (q p : List Int) (x : Int) : Nat → Nat
  | 0 => 0
  | n + 1 => if x < cwS q p (n + 1) then cwP q p x n else n + 1
theorem cwP_ok (q p : List Int) (x : Int) (hx : 0 ≤ x) : ∀ n, x < cwS q p (n + 1) → cwP q p x n ≤ n ∧ cwS q p (cwP q p x n) ≤ x ∧ x < cwS q p (cwP q p x n + 1)
  | 0, h => ⟨Nat.le_refl _, hx, h⟩
  | n + 1, h => by
    unfold cwP
    split
    · rename_i h1
      obtain ⟨a, b, c⟩ := cwP_ok q p x hx n h1
      exact ⟨by omega, b, c⟩
    · rename_i h1
      exact ⟨Nat.le_refl _, by omega, h⟩
def cwN (q p : List Int) (x : Int) : Nat := cwP q p x p.length
/-- What is made after k rows, and the rank that is left. -/
def cwM (q : List Int) (x : Int) : Nat → List Int × Int
  | 0 => ([], x)
  | k + 1 => (incL (cwM q x k).1 (cwN q (cwM q x k).1 (cwM q x k).2), (cwM q x k).2 - cwS q (cwM q x k).1 (cwN q (cwM q x k).1 (cwM q x k).2))
def cwR (q : List Int) (x : Int) (k : Nat) : Int := (cwN q (cwM q x k).1 (cwM q x k).2 : Nat)
def cwL (q : List Int) (x : Int) (k : Nat) : List Int := (List.range k).map (cwR q x)
theorem cwL_len (q : List Int) (x : Int) (k : Nat) : (cwL q x k).length = k := by simp [cwL]
theorem cwL_succ (q : List Int) (x : Int) (k : Nat) : cwL q x (k + 1) = cwL q x k ++ [cwR q x k] := by simp [cwL, List.range_succ]
/-- One step: the row is there, can take a cell, and the rank is in its part. -/
structure CwRow (q p : List Int) (x : Int) (r : Nat) : Prop where
  le : r ≤ p.length
  add : addB p r = true
  lo : cwS q p r ≤ x
  hi : x < cwS q p (r + 1)
  nn : 0 ≤ x - cwS q p r
  lt : x - cwS q p r < nbN (incL p r) q
  bd : nbN (incL p r) q ≤ nbN p q
theorem cw_row {p q : List Int} (G : Good p) (Gq : Good q) (h12 : q.sum ≤ 12) (hs : p.sum < q.sum) {x : Int} (h0 : 0 ≤ x) (h1 : x < nbN p q) : CwRow q p x (cwN q p x) := by
  have hn := nbN_cwS G Gq h12 hs
  rw [hn] at h1
  obtain ⟨a, b, c⟩ := cwP_ok q p x h0 p.length h1
  change cwN q p x ≤ p.length at a
  change cwS q p (cwN q p x) ≤ x at b
  change x < cwS q p (cwN q p x + 1) at c
  have hst : cwS q p (cwN q p x + 1) = cwS q p (cwN q p x) + cwT q p (cwN q p x) := rfl
  have hm := cwS_mono G Gq h12 hs (m := cwN q p x + 1) (p.length - cwN q p x) (by omega)
  rw [show cwN q p x + 1 + (p.length - cwN q p x) = p.length + 1 by omega] at hm
  have h00 := cwS_mono G Gq h12 hs (m := 0) (cwN q p x) (by omega)
  rw [Nat.zero_add] at h00
  have hz : cwS q p 0 = 0 := rfl
  have hb : addB p (cwN q p x) = true := by
    cases hb : addB p (cwN q p x)
    · have : cwT q p (cwN q p x) = 0 := by unfold cwT; rw [hb]; rfl
      omega
    · rfl
  have hT : cwT q p (cwN q p x) = nbN (incL p (cwN q p x)) q := by unfold cwT; rw [hb]; rfl
  exact ⟨a, hb, b, c, by omega, by omega, by omega⟩
structure CwAt (q : List Int) (p : List Int) (y : Int) (k : Nat) : Prop where
  good : Good p
  sum : p.sum = k
  nn : 0 ≤ y
  lt : y < nbN p q
  bd : nbN p q ≤ 479001600
theorem cw_at {q : List Int} (Gq : Good q) (h12 : q.sum ≤ 12) {x : Int} (h0 : 0 ≤ x) (h1 : x < nbN [] q) : ∀ k : Nat, (k : Int) ≤ q.sum → CwAt q (cwM q x k).1 (cwM q x k).2 k
  | 0, _ => ⟨good_nil, rfl, h0, h1, by show nbN [] q ≤ _; rw [nbN_nil Gq h12]; have := chN_le Gq h12; omega⟩
  | k + 1, hk => by
    have h := cw_at Gq h12 h0 h1 k (by omega)
    have hr := cw_row h.good Gq h12 (by have := h.sum; omega) h.nn h.lt
    exact ⟨inc_Good h.good (by have := h.sum; omega) hr.le hr.add, by show (incL _ _).sum = _; rw [inc_sum _ _ hr.le, h.sum]; omega, hr.nn, hr.lt, by have := hr.bd; have := h.bd; show nbN (incL _ _) q ≤ _; omega⟩
theorem nb_end {p q : List Int} (hs : p.sum = q.sum) (h : 0 < nbN p q) : p = q := by
  unfold nbN at h
  rw [show (q.sum - p.sum).toNat = 0 by omega] at h
  change 0 < dlt p q at h
  unfold dlt at h
  split at h
  · rename_i e; exact e.symm
  · omega
theorem nbF_T {p q : List Int} (G : Good p) (Gq : Good q) (h12 : q.sum ≤ 12) (hs : p.sum < q.sum) (hb : nbN p q ≤ 479001600) {s : Nat} (h : s ≤ p.length) : nbF (incL p s) q = cwT q p s := by
  unfold cwT
  cases ha : addB p s
  · have := inc_good G (by omega) s h
    rw [ha] at this
    refine nbF_bad Gq (by rw [inc_sum p s h]; omega) fun hG => ?_
    rw [(good_iff _).2 hG] at this; cases this
  · have hn := cwT_nn G Gq h12 hs h
    have h1 := cwS_mono G Gq h12 hs (m := 0) s (by omega)
    have h2 := cwS_mono G Gq h12 hs (m := s + 1) (p.length - s) (by omega)
    rw [show s + 1 + (p.length - s) = p.length + 1 by omega, ← nbN_cwS G Gq h12 hs] at h2
    rw [Nat.zero_add] at h1
    have hst : cwS q p (s + 1) = cwS q p s + cwT q p s := rfl
    have hz : cwS q p 0 = 0 := rfl
    have e : cwT q p s = nbN (incL p s) q := by unfold cwT; rw [ha]; rfl
    show wrap64 (nbN (incL p s) q) = nbN (incL p s) q
    rw [← e]
    exact IntWalk.wrap64_in _ (by omega)
def cwB (q : List Int) (x : Int) : Bool := (good q && decide (q.sum ≤ 12)) && inB 0 ((chN q : Int) - 1) x
def cwF (q : List Int) (x : Int) : List Int := if cwB q x then cwL q x q.sum.toNat else []
theorem filt_split (b : Nat → Bool) (r : Nat) (hb : b r = true) : ∀ d, ∃ t, filt b (r + 1 + d) = filt b r ++ ((r : Int) :: t)
  | 0 => ⟨[], by rw [Nat.add_zero, filt_yes hb]⟩
  | d + 1 => by
    obtain ⟨t, e⟩ := filt_split b r hb d
    show ∃ t, filt b (r + 1 + d + 1) = _
    cases h : b (r + 1 + d)
    · exact ⟨t, by rw [filt_no h, e]⟩
    · exact ⟨t ++ [((r + 1 + d : Nat) : Int)], by rw [filt_yes h, e]; simp⟩
def cwSL (q p : List Int) (L : List Int) (i : Nat) : Int := ((L.take i).map fun r => nbN (incL p r.toNat) q).sum
theorem cwSL_succ (q p L : List Int) (i : Nat) (h : i < L.length) : cwSL q p L (i + 1) = cwSL q p L i + nbN (incL p (L.getD i 0).toNat) q := by
  unfold cwSL
  rw [List.take_succ_eq_append_getElem h, List.map_append, List.sum_append]
  have e : L.getD i 0 = L[i] := by rw [List.getD_eq_getElem?_getD, List.getElem?_eq_getElem h]; rfl
  rw [e]; simp
structure CwItem (q p : List Int) (s : Int) : Prop where
  step : stepB p s = true
  good : Good (incL p s.toNat)
  val : nbF (incL p s.toNat) q = nbN (incL p s.toNat) q
  nn : 0 ≤ nbN (incL p s.toNat) q
theorem cw_item {q p : List Int} (G : Good p) (Gq : Good q) (h12 : q.sum ≤ 12) (hs : p.sum < q.sum) (hbd : nbN p q ≤ 479001600) {i : Nat} (hi : i < (filt (addB p) (p.length + 1)).length) : CwItem q p ((filt (addB p) (p.length + 1)).getD i 0) := by
  have hm : (filt (addB p) (p.length + 1)).getD i 0 ∈ filt (addB p) (p.length + 1) := by
    rw [List.getD_eq_getElem?_getD, List.getElem?_eq_getElem hi]; exact List.getElem_mem hi
  obtain ⟨r, e, hr, hb⟩ := add_at hm
  rw [e]
  have e1 : cwT q p r = nbN (incL p r) q := by unfold cwT; rw [hb]; rfl
  refine ⟨stepB_iff.2 ⟨r, rfl, hr, hb⟩, ?_, ?_, ?_⟩
  · rw [Int.toNat_natCast]; exact inc_Good G (by omega) hr hb
  · rw [Int.toNat_natCast, nbF_T G Gq h12 hs hbd hr, e1]
  · rw [Int.toNat_natCast, ← e1]; exact cwT_nn G Gq h12 hs hr
theorem cw_list {q p : List Int} {x : Int} {r : Nat} (R : CwRow q p x r) : ∃ i0, i0 < (filt (addB p) (p.length + 1)).length ∧ (filt (addB p) (p.length + 1)).getD i0 0 = r ∧ cwSL q p (filt (addB p) (p.length + 1)) i0 = cwS q p r := by
  obtain ⟨t, e⟩ := filt_split (addB p) r R.add (p.length - r)
  rw [show r + 1 + (p.length - r) = p.length + 1 by have := R.le; omega] at e
  rw [e]
  refine ⟨(filt (addB p) r).length, by simp, ?_, ?_⟩
  · rw [List.getD_eq_getElem?_getD, List.getElem?_append_right (Nat.le_refl _), Nat.sub_self]; rfl
  · unfold cwSL
    rw [List.take_left' rfl, filt_cwS]
theorem cwSL_le {q p : List Int} {L : List Int} (h : ∀ i, i < L.length → CwItem q p (L.getD i 0)) (i : Nat) : ∀ d, i + d ≤ L.length → cwSL q p L i ≤ cwSL q p L (i + d)
  | 0, _ => Int.le_refl _
  | d + 1, hd => by
    have h1 := cwSL_le h i d (by omega)
    have h2 := (h (i + d) (by omega)).nn
    have h3 := cwSL_succ q p L (i + d) (by omega)
    show _ ≤ cwSL q p L (i + d + 1)
    omega
end Go.Proofs.Ytmbfobcbnnalbaa
/-
  Contracts: ChainWith of the program.
-/
namespace Go.Proofs.Ytmbfobcbnnalbaa
open Go.RowKit

theorem cwOwnBlock (A : Option Addr) (n c : Nat) : (Value.slice A n c).ownBlock = A.map Addr.block := by cases A <;> rfl
theorem bound_ChainWith (q : List Int) (x : Int) : (cwF q x).length ≤ 1048576 := by
  unfold cwF
  split
  · rename_i h
    simp only [cwB, Bool.and_eq_true, decide_eq_true_eq] at h
    have G := (good_iff q).1 h.1.1
    have := G.sum0
    rw [cwL_len]; omega
  · simp

set_option maxRecDepth 100000 in
set_option maxHeartbeats 8000000 in
theorem impl_ChainWith (A : Option Addr) (c : Nat) (q : List Int) (x : Int) (w : World) (hl : q.length ≤ 1048576) (hc : Cells w A q) (_ : I64 x) :
    Calls Try.prog 44 #[.slice A q.length c, .int .i64 x] w fun e w' => ∃ A' c', e = .returned (.tuple #[.slice A' (cwF q x).length c', .bool (cwB q x)]) ∧ Own w' w.heap.size A' c' (cwF q x) ∧ Below w.heap.size w w' := by
  obtain ⟨i0, hi, hz0, hz1', hz2'⟩ := info_parts Try.infoInt
  cases hg : chdB q
  · have hb : cwB q x = false := by
      have : (good q && decide (q.sum ≤ 12)) = false := hg
      simp only [cwB, this, Bool.false_and]
    rw [show cwF q x = [] by simp [cwF, hb], hb]
    have HG := hid hg
    clear hg hb
    go_enter Try.func44, Try.ntmps44
    go_wp2_with (go_at_call 99; refine (isChained_b _ _ _ _ hl hc _ HG.out).mono ?_; rintro e w' ⟨rfl, rfl⟩)
    go_ret2
    exact ⟨none, 0, rfl, own_nil _ _, Below.refl _ _⟩
  have HG := hid hg
  obtain ⟨Gq, h12⟩ := chdB_iff.1 hg
  have hqs := Gq.sum0
  obtain ⟨N, hN⟩ : ∃ N : Nat, q.sum = N := ⟨q.sum.toNat, by omega⟩
  have HWU := hid (waysUpTo_any A c q w Gq h12 hc)
  rw [show q.sum.toNat = N by omega] at HWU
  have HFR := hid fun g A2 c2 (p : List Int) W (h1 : p.length ≤ 30) (h2 : ∀ j, j < p.length → 1 ≤ p.getD j 0 ∧ p.getD j 0 ≤ 30) (hU : UP W g N q) (h : Cells W A2 p) => from_any A2 c2 g N p q W hN (by omega) h1 h2 hU h
  have hcn : nbF [] q = (chN q : Int) := by
    unfold nbF
    rw [nbN_nil Gq h12]
    have := chN_le Gq h12
    exact IntWalk.wrap64_in _ (by omega)
  have HF0 := hid fun g W (hU : UP W g N q) => (show Calls Try.prog 101 #[.slice (some ⟨g, 0, none⟩) (N + 1) (N + 1), .slice none 0 0] W fun e w' => e = .returned (.int .i64 (chN q : Nat)) ∧ Below W.heap.size W w' by
    have := from_any none 0 g N [] q W hN (by omega) (by simp) (by simp) hU (own_nil W 0).cells
    rw [hcn] at this; exact this)
  cases hin : inB 0 ((chN q : Int) - 1) x
  · have hb : cwB q x = false := by simp only [cwB, hin, Bool.and_false]
    rw [show cwF q x = [] by simp [cwF, hb], hb]
    have hor : x < 0 ∨ (chN q : Int) ≤ x := by
      simp only [inB, Bool.and_eq_false_iff, decide_eq_false_iff_not] at hin; omega
    obtain ⟨n, hn⟩ : ∃ n, n = chN q := ⟨_, rfl⟩
    rw [← hn] at HF0 hor
    clear hg hb hin hn hcn Gq h12 hqs hN HFR
    by_cases h0 : x < 0
    · go_enter Try.func44, Try.ntmps44
      go_wp2_with (first | (go_at_call 99; refine (isChained_b _ _ _ _ hl hc _ HG.out).mono ?_; rintro e w' ⟨rfl, rfl⟩) | (go_at_call 100; refine HWU.out.mono ?_; rintro e w3 ⟨rfl, u3, b3⟩))
      go_ret2
      exact ⟨none, 0, rfl, own_nil _ _, b3⟩
    · have h1 : (n : Int) ≤ x := by omega
      go_enter Try.func44, Try.ntmps44
      go_wp2_with (first | (go_at_call 99; refine (isChained_b _ _ _ _ hl hc _ HG.out).mono ?_; rintro e w' ⟨rfl, rfl⟩) | (go_at_call 100; refine HWU.out.mono ?_; rintro e w3 ⟨rfl, u3, b3⟩) | (go_at_call 101; refine (HF0.out _ _ u3).mono ?_; rintro e w4 ⟨rfl, b4⟩))
      go_ret2
      exact ⟨none, 0, rfl, own_nil _ _, Below.next b3 b4⟩
  · have hb : cwB q x = true := by
      have : (good q && decide (q.sum ≤ 12)) = true := hg
      simp only [cwB, this, hin, Bool.true_and]
    rw [show cwF q x = cwL q x N by simp [cwF, hb, hN], hb]
    have hxb : 0 ≤ x ∧ x ≤ (chN q : Int) - 1 := inB_iff.1 hin
    have hN12 : N ≤ 12 := by omega
    have HAT := hid fun k (hk : k ≤ N) => cw_at Gq h12 hxb.1 (by rw [nbN_nil Gq h12]; omega) k (by omega)
    have HROW := hid fun k (hk : k < N) => (show CwRow q (cwM q x k).1 (cwM q x k).2 (cwN q (cwM q x k).1 (cwM q x k).2) by
      have h := cw_at Gq h12 hxb.1 (by rw [nbN_nil Gq h12]; omega) k (by omega)
      exact cw_row h.good Gq h12 (by rw [h.sum]; omega) h.nn h.lt)
    have HNT := hid fun k (hk : k < N) s (hs : s ≤ (cwM q x k).1.length) => (show nbF (incL (cwM q x k).1 s) q = cwT q (cwM q x k).1 s ∧ cwS q (cwM q x k).1 (s + 1) = cwS q (cwM q x k).1 s + cwT q (cwM q x k).1 s by
      have h := cw_at Gq h12 hxb.1 (by rw [nbN_nil Gq h12]; omega) k (by omega)
      exact ⟨nbF_T h.good Gq h12 (by rw [h.sum]; omega) h.bd hs, rfl⟩)
    have HMO := hid fun k (hk : k < N) m d (hs : m + d ≤ (cwM q x k).1.length + 1) => (show cwS q (cwM q x k).1 m ≤ cwS q (cwM q x k).1 (m + d) by
      have h := cw_at Gq h12 hxb.1 (by rw [nbN_nil Gq h12]; omega) k (by omega)
      exact cwS_mono h.good Gq h12 (by rw [h.sum]; omega) d hs)
    have HCC := hid fun W (h : Cells W A q) => cellCount_any A q c W Gq.len Gq.bd' h
    rw [hN] at HCC
    have HLS := hid fun k => cwL_succ q x k
    have HLL := hid fun k => cwL_len q x k
    have HMS := hid fun k => (show (cwM q x (k + 1)).1 = incL (cwM q x k).1 (cwN q (cwM q x k).1 (cwM q x k).2) ∧ (cwM q x (k + 1)).2 = (cwM q x k).2 - cwS q (cwM q x k).1 (cwN q (cwM q x k).1 (cwM q x k).2) ∧ cwR q x k = (cwN q (cwM q x k).1 (cwM q x k).2 : Nat) from ⟨rfl, rfl, rfl⟩)
    obtain ⟨n, hn⟩ : ∃ n, n = chN q := ⟨_, rfl⟩
    rw [← hn] at HF0 hxb
    obtain ⟨K, hK⟩ : ∃ K, K = cwL q x := ⟨_, rfl⟩
    have HK0 := hid (show K 0 = [] by rw [hK]; rfl)
    rw [← hK] at HLS HLL ⊢
    obtain ⟨M, hM⟩ : ∃ M, M = fun k => (cwM q x k).1 := ⟨_, rfl⟩
    obtain ⟨Y, hY⟩ : ∃ Y, Y = fun k => (cwM q x k).2 := ⟨_, rfl⟩
    have HM0 := hid (show M 0 = [] by rw [hM]; rfl)
    have HY0 := hid (show Y 0 = x by rw [hY]; rfl)
    have HAT' := hid (show ∀ k, k ≤ N → CwAt q (M k) (Y k) k by rw [hM, hY]; exact HAT.out)
    have HROW' := hid (show ∀ k, k < N → CwRow q (M k) (Y k) (cwN q (M k) (Y k)) by rw [hM, hY]; exact HROW.out)
    have HNT' := hid (show ∀ k, k < N → ∀ s, s ≤ (M k).length → nbF (incL (M k) s) q = cwT q (M k) s ∧ cwS q (M k) (s + 1) = cwS q (M k) s + cwT q (M k) s by rw [hM]; exact HNT.out)
    have HMO' := hid (show ∀ k, k < N → ∀ m d, m + d ≤ (M k).length + 1 → cwS q (M k) m ≤ cwS q (M k) (m + d) by rw [hM]; exact HMO.out)
    have HMS' := hid (show ∀ k, M (k + 1) = incL (M k) (cwN q (M k) (Y k)) ∧ Y (k + 1) = Y k - cwS q (M k) (cwN q (M k) (Y k)) ∧ cwR q x k = (cwN q (M k) (Y k) : Nat) by rw [hM, hY]; exact HMS.out)
    clear HAT HROW HNT HMO HMS hM hY hK hn hcn hin hb hg Gq h12 hqs hN
    go_enter Try.func44, Try.ntmps44
    go_wp2_with (first | (go_at_call 99; refine (isChained_b _ _ _ _ hl hc _ HG.out).mono ?_; rintro e w' ⟨rfl, rfl⟩) | (go_at_call 100; refine HWU.out.mono ?_; rintro e w3 ⟨rfl, u3, b3⟩) | (go_at_call 101; refine (HF0.out _ _ u3).mono ?_; rintro e w4 ⟨rfl, b4⟩))
    have HU4 := hid (u3.later b4)
    have HB4 := hid (Below.next b3 b4)
    have hs4 := HB4.out.size
    clear u3 b3 b4
    go_loopw [1, 7, 8] (fun y v s wr => ∃ (k : Nat) (A5 A6 : Option Addr) (c5 c6 : Nat), k ≤ N ∧ y = .int .i64 (Y k) ∧ v = .slice A6 (K k).length c6 ∧ s = .slice A5 (M k).length c5 ∧ Hid (Own wr w4.heap.size A6 c6 (K k)) ∧ Hid (Own wr w4.heap.size A5 c5 (M k)) ∧ Hid (∀ b, A6.map Addr.block = some b → A5.map Addr.block ≠ some b) ∧ Hid (Below w4.heap.size w4 wr)) (fun _ v _ _ => N - (match v with | .slice _ n _ => n | _ => 0))
    case atStart => exact ⟨0, none, none, 0, 0, Nat.zero_le _, by rw [HY0.out], by rw [HK0.out]; rfl, by rw [HM0.out]; rfl, hid (by rw [HK0.out]; exact own_nil _ _), hid (by rw [HM0.out]; exact own_nil _ _), hid (fun b h => by simp at h), hid (Below.refl _ _)⟩
    case round =>
      obtain ⟨k, A5, A6, c5, c6, hk, rfl, rfl, rfl, HOK, HO, HAP, HB⟩ := hrel
      obtain ⟨wo, rfl⟩ : ∃ wo : World, wo = wr := ⟨_, rfl⟩
      have HQ := hid (hc.later (HB4.out.trans (HB.out.mono hs4)))
      by_cases hlt : k < N
      · have hkl : ((K k).length : Int) < N := by rw [HLL.out k]; omega
        have R := HROW'.out k hlt
        have hA := HAT'.out k hk
        obtain ⟨hms1, hms2, hms3⟩ := HMS'.out k
        obtain ⟨r, hr⟩ : ∃ r, r = cwN q (M k) (Y k) := ⟨_, rfl⟩
        rw [← hr] at R hms1 hms2 hms3
        have HLS' := hid (show K (k + 1) = K k ++ [(r : Int)] by rw [HLS.out k, hms3])
        have hG := hA.good
        have hA1 := hA.lt; have hA2 := hA.bd; have hA3 := hA.sum
        have hRl := R.le; have hRlo := R.lo; have hRhi := R.hi
        have hpl := hG.len
        have hpll := hG.len_le
        have HW := hid fun s (hs : s ≤ r) W B' (h : Own W B' A5 c5 (M k)) => withCell_any A5 c5 (M k) s W (by omega) hG.bd (by omega) h
        have HIB := hid fun s (hs : s ≤ r) => inc_bd hG (by omega) (m := s) (by omega)
        have HNT2 := hid fun s (hs : s ≤ r) => HNT'.out k hlt s (by omega)
        have HC0 := hid (show cwS q (M k) 0 = 0 from rfl)
        have HMO2 := hid fun m d (h : m + d ≤ r + 1) => HMO'.out k hlt m d (by omega)
        obtain ⟨p, hp⟩ : ∃ p, p = M k := ⟨_, rfl⟩
        obtain ⟨y, hy⟩ : ∃ y, y = Y k := ⟨_, rfl⟩
        rw [← hp] at HO HW HIB HNT2 HC0 HMO2 hms1 hms2 hRlo hRhi hA1 hA2 ⊢
        rw [← hy] at hms2 hRlo hRhi hA1 ⊢
        obtain ⟨C, hC⟩ : ∃ C, C = cwS q p := ⟨_, rfl⟩
        obtain ⟨t, ht⟩ : ∃ t, t = cwT q p := ⟨_, rfl⟩
        rw [← hC] at HNT2 HC0 HMO2 hms2 hRlo hRhi
        rw [← ht] at HNT2
        obtain ⟨nb, hnb⟩ : ∃ nb, nb = nbN p q := ⟨_, rfl⟩
        rw [← hnb] at hA1 hA2
        have hyb : y ≤ 479001600 := by omega
        have hrb : r ≤ 30 := by omega
        have HMS1 := hid hms1
        have HMS2 := hid hms2
        clear R hA hms1 hms2 hms3 hr hG hA3 hRl hpl hpll hp hy hC ht hnb hA1 hA2
        go_wp2_with (go_at_call 94; refine (HCC.out _ HQ.out).mono ?_; rintro e w' ⟨rfl, rfl⟩)
        go_loopw [1, 9] (fun z m wi => ∃ s : Nat, s ≤ r ∧ m = .int .i64 s ∧ z = .int .i64 (y - C s) ∧ Hid (Below wo.heap.size wo wi)) (fun _ m _ => r - (intOf m).toNat)
        case atStart => exact ⟨0, Nat.zero_le _, rfl, by rw [HC0.out, Int.sub_zero], hid (Below.refl _ _)⟩
        case round =>
          obtain ⟨s, hs, rfl, rfl, HBi⟩ := hrel
          have HBW := hid (HB.out.trans (HBi.out.mono HB.out.size))
          have HOi := hid (HO.out.below HBi.out)
          have HUi := hid (HU4.out.later HBW.out)
          have HW' := hid (HW.out s hs)
          obtain ⟨hz1, hz2⟩ := HIB.out s hs
          obtain ⟨hn1, hn2⟩ := HNT2.out s hs
          have HF := hid fun A7 c7 W (hU : UP W w.heap.size N q) (h : Cells W A7 (incL p s)) => HFR.out w.heap.size A7 c7 (incL p s) W hz1 hz2 hU h
          rw [hn1] at HF
          have hc0 := HMO2.out 0 s (by omega)
          rw [HC0.out, Nat.zero_add] at hc0
          have hct := HMO2.out s 1 (by omega)
          have hcr := HMO2.out (s + 1) (r - s - 1)
          obtain ⟨v, hv⟩ : ∃ v, v = t s := ⟨_, rfl⟩
          rw [← hv] at HF hn2
          obtain ⟨z, hz⟩ : ∃ z, z = incL p s := ⟨_, rfl⟩
          rw [← hz] at HF HW'
          by_cases hsr : s < r
          · have hcr' := hcr (by omega)
            rw [show s + 1 + (r - s - 1) = r by omega] at hcr'
            obtain ⟨a, ha⟩ : ∃ a, a = C s := ⟨_, rfl⟩
            obtain ⟨a1, ha1⟩ : ∃ a1, a1 = C (s + 1) := ⟨_, rfl⟩
            rw [← ha, ← ha1] at hn2
            rw [← ha] at hc0 ⊢
            rw [← ha1] at hcr'
            rw [← ha, ← ha1] at hct
            have hvy : v ≤ y - a := by omega
            have hv0 : 0 ≤ v := by omega
            have HA1 := hid (show y - C (s + 1) = y - a - v by rw [← ha1]; omega)
            clear hz1 hz2 hn1 hcr hz hv ha ha1 hcr' hct hn2
            go_wp2_with fail
            refine (HW'.out wr _ HOi.out).mono ?_
            rintro e w5 ⟨A7, c7, rfl, o5, b5⟩
            go_wp2_with fail
            refine (HF.out _ _ _ (HUi.out.later b5) o5.cells).mono ?_
            rintro e w6 ⟨rfl, b6⟩
            have HB6 := hid (Below.next b5 b6)
            clear o5 b5 b6
            go_wp2_with fail
            refine (HW'.out w6 _ (HOi.out.below HB6.out)).mono ?_
            rintro e w7 ⟨A8, c8, rfl, o7, b7⟩
            go_wp2_with fail
            refine (HF.out _ _ _ ((HUi.out.later HB6.out).later b7) o7.cells).mono ?_
            rintro e w8 ⟨rfl, b8⟩
            have HB8 := hid (HBi.out.trans (Below.mono (Below.next (Below.next HB6.out b7) b8) HBi.out.size))
            clear o7 b7 b8
            go_wp2_with fail
            go_roundw
            case rel => exact ⟨s + 1, by omega, by go_num, by rw [HA1.out], HB8⟩
            case measure => simp [intOf]; omega
          · have hsr' : s = r := by omega
            subst hsr'
            obtain ⟨a, ha⟩ : ∃ a, a = C s := ⟨_, rfl⟩
            obtain ⟨a1, ha1⟩ : ∃ a1, a1 = C (s + 1) := ⟨_, rfl⟩
            rw [← ha, ← ha1] at hn2
            rw [← ha] at hc0 hRlo ⊢
            rw [← ha1] at hRhi
            have hvy : y - a < v := by omega
            have HMSz := hid (show z = M (k + 1) by rw [hz, HMS1.out])
            have HYz := hid (show Y (k + 1) = y - a by rw [HMS2.out, ha])
            clear hz1 hz2 hn1 hcr hz hv ha ha1 hct hn2
            go_wp2_with fail
            refine (HW'.out wr _ HOi.out).mono ?_
            rintro e w5 ⟨A7, c7, rfl, o5, b5⟩
            go_wp2_with fail
            refine (HF.out _ _ _ (HUi.out.later b5) o5.cells).mono ?_
            rintro e w6 ⟨rfl, b6⟩
            have HB6 := hid (Below.next b5 b6)
            have HOK6 := hid ((HOK.out.below HBi.out).below HB6.out)
            have hbs := HBW.out.size
            have hbs6 := HB6.out.size
            clear o5 b5 b6
            go_wp2_with (at_builtin; refine wpList_append_own _ rfl _ _ 22 rfl w4.heap.size 3 i0 (.int .i64 0) 1 8 Try.underlying22 hi hz0 hz1' hz2' rfl (by decide) _ _ _ rfl (HOK6.out.alloc _) ⟨w6.heap.size, 0, none⟩ 1 1 [.int .i64 s] rfl rfl one_at (one_cell _) (by unfold maxLen; omega) (by omega) (by simp; omega) ?_)
            intro v' w7 hown' hgrow _
            have hop := (HOi.out.below HB6.out).below ((Below.refl _ _).alloc (Nat.le_refl _) (.cells #[.int .i64 s] 3))
            have hop7 : Own w7 w4.heap.size A5 c5 p := hop.keep fun b hbb hlt => hgrow.block b hlt (fun e => HAP.out b ((cwOwnBlock A6 _ _).symm.trans (by first | exact e | exact e.symm)) hbb)
            have hb7 : Below w4.heap.size w4 w7 := ((HBW.out.trans (Below.mono HB6.out hbs)).alloc (by omega) _).grown hgrow (by simp; omega) (fun q hq => (HOK6.out.lt q hq).1)
            have hown2 := own_snoc HLS'.out hown'
            obtain ⟨A9, c9, rfl, ho9⟩ := own_form hown2 rfl
            have HO9 := hid ho9
            have HP7 := hid hop7
            have HB7 := hid hb7
            clear hgrow hown' hown2 ho9 hop hop7 hb7
            go_wp2_with fail
            refine (HW'.out w7 _ HP7.out).mono ?_
            rintro e w9 ⟨A1, c1, rfl, o1, b1⟩
            have HO2 := hid (HO9.out.below b1)
            have HAP2 := hid (show ∀ b, A9.map Addr.block = some b → A1.map Addr.block ≠ some b from fun b h1 h2 => by
              have x1 := (HO9.out.block b h1).2
              have x2 := (o1.block b h2).1
              omega)
            have hs7 := HB7.out.size
            have HO1 := hid (o1.more hs7)
            have HB1 := hid (HB7.out.trans (Below.mono b1 hs7))
            clear o1 b1
            go_wp2_with fail
            go_roundw
            case rel => exact ⟨k + 1, A1, A9, c1, c9, by omega, by rw [HYz.out], rfl, by rw [← HMSz.out], HO2, hid (by rw [← HMSz.out]; exact HO1.out), HAP2, HB1⟩
            case measure =>
              have e1 := HLL.out k
              have e2 := HLL.out (k + 1)
              simp only [e1, e2]
              omega
      · have hkn : k = N := by omega
        subst hkn
        have hkl : ¬ ((K k).length : Int) < k := by rw [HLL.out k]; omega
        have hbe := HB4.out.trans (HB.out.mono HB4.out.size)
        go_wp2_with (go_at_call 94; refine (HCC.out _ HQ.out).mono ?_; rintro e w' ⟨rfl, rfl⟩)
        go_ret2
        exact ⟨A6, c6, rfl, HOK.out.more hs4, hbe⟩
end Go.Proofs.Ytmbfobcbnnalbaa
/-
  Contracts: ChainWith of the model.
-/
namespace Go.Proofs.Ytmbfobcbnnalbaa
open Go.RowKit

set_option maxRecDepth 100000 in
set_option maxHeartbeats 8000000 in
theorem spec_ChainWith (A : Option Addr) (c : Nat) (q : List Int) (x : Int) (w : World) (hl : q.length ≤ 1048576) (hc : Cells w A q) (_ : I64 x) :
    Calls Try.prog 43 #[.slice A q.length c, .int .i64 x] w fun e w' => ∃ A' c', e = .returned (.tuple #[.slice A' (cwF q x).length c', .bool (cwB q x)]) ∧ Own w' w.heap.size A' c' (cwF q x) ∧ Below w.heap.size w w' := by
  obtain ⟨i0, hi, hz0, hz1', hz2'⟩ := info_parts Try.infoInt
  cases hg : good q
  · have hb : cwB q x = false := by simp only [cwB, hg, Bool.false_and]
    rw [show cwF q x = [] by simp [cwF, hb], hb]
    have HG := hid hg
    clear hg hb
    go_enter Try.func43, Try.ntmps43
    go_wp2_with (go_at_call 90; refine (ptGood_b _ _ _ _ hl hc _ HG.out).mono ?_; rintro e w' ⟨rfl, n, rfl⟩)
    go_ret2
    exact ⟨none, 0, rfl, own_nil _ _, below_drew' _ _⟩
  have HG := hid hg
  have Gq := (good_iff q).1 hg
  have HSU := hid fun W (h : Cells W A q) => ptSum_any A q c W Gq.len (fun j hj => by have := Gq.pos j hj; have := Gq.le j hj; omega) h
  by_cases h12 : q.sum ≤ 12
  · have HCH := hid fun W (h : Cells W A q) => crChains_any A c q W Gq (by omega) h
    have hcn := chN_le Gq h12
    cases hin : inB 0 ((chN q : Int) - 1) x
    · have hb : cwB q x = false := by simp only [cwB, hin, Bool.and_false]
      rw [show cwF q x = [] by simp [cwF, hb], hb]
      obtain ⟨n, hn⟩ : ∃ n, n = chN q := ⟨_, rfl⟩
      rw [← hn] at HCH hin hcn
      have HIN := hid hin
      obtain ⟨s, hs⟩ : ∃ s, s = q.sum := ⟨_, rfl⟩
      rw [← hs] at HSU h12
      have h12' : ¬ 12 < s := by omega
      clear hg hb hin hn hs Gq
      go_enter Try.func43, Try.ntmps43
      go_wp2_with (first | (go_at_call 90; refine (ptGood_b _ _ _ _ hl hc _ HG.out).mono ?_; rintro e w' ⟨rfl, nd, rfl⟩) | (go_at_call 91; refine (HSU.out _ (by exact hc)).mono ?_; rintro e w' ⟨rfl, rfl⟩) | (go_at_call 92; refine (HCH.out _ (by exact hc)).mono ?_; rintro e w3 ⟨rfl, b3⟩) | (go_at_call 109; refine (l1In_b _ _ _ _ _ HIN.out).mono ?_; rintro e w' ⟨rfl, rfl⟩))
      go_ret2
      exact ⟨none, 0, rfl, own_nil _ _, Below.next (below_drew' w nd) b3⟩
    · have hb : cwB q x = true := by simp only [cwB, hg, hin, decide_eq_true h12, Bool.true_and]
      have hqs := Gq.sum0
      obtain ⟨N, hN⟩ : ∃ N : Nat, q.sum = N := ⟨q.sum.toNat, by omega⟩
      rw [show cwF q x = cwL q x N by simp [cwF, hb, hN], hb]
      have hxb : 0 ≤ x ∧ x ≤ (chN q : Int) - 1 := inB_iff.1 hin
      have hN12 : N ≤ 12 := by omega
      have HIN := hid hin
      have HLS := hid fun k => cwL_succ q x k
      have HLL := hid fun k => cwL_len q x k
      have hat := fun k (hk : k ≤ N) => cw_at Gq h12 hxb.1 (by rw [nbN_nil Gq h12]; omega) k (by omega)
      have HCB := hid fun A3 c3 (p : List Int) W B (G : Good p) (ho : Own W B A3 c3 p) (h : Cells W A q) => cnBetween_any A c q Gq h12 _ A3 c3 p W (Nat.lt_succ_self _) G ho h
      have HSM := hid fun A3 c3 (p : List Int) W (hlp : p.length ≤ 1048576) (h1 : Cells W A3 p) (h2 : Cells W A q) (b : Bool) (h : decide (p = q) = b) => l1Same_b A3 A c3 c p q W hlp hl h1 h2 b h
      obtain ⟨K, hK⟩ : ∃ K, K = cwL q x := ⟨_, rfl⟩
      have HK0 := hid (show K 0 = [] by rw [hK]; rfl)
      rw [← hK] at HLS HLL ⊢
      obtain ⟨M, hM⟩ : ∃ M, M = fun k => (cwM q x k).1 := ⟨_, rfl⟩
      obtain ⟨Y, hY⟩ : ∃ Y, Y = fun k => (cwM q x k).2 := ⟨_, rfl⟩
      have HM0 := hid (show M 0 = [] by rw [hM]; rfl)
      have HY0 := hid (show Y 0 = x by rw [hY]; rfl)
      have HAT' := hid (show ∀ k, k ≤ N → CwAt q (M k) (Y k) k by rw [hM, hY]; exact hat)
      have HMS' := hid (show ∀ k, M (k + 1) = incL (M k) (cwN q (M k) (Y k)) ∧ Y (k + 1) = Y k - cwS q (M k) (cwN q (M k) (Y k)) ∧ cwR q x k = (cwN q (M k) (Y k) : Nat) by rw [hM, hY]; exact fun k => ⟨rfl, rfl, rfl⟩)
      have HROW := hid fun k (hk : k < N) => (show CwRow q (M k) (Y k) (cwN q (M k) (Y k)) by
        have h := HAT'.out k (by omega)
        exact cw_row h.good Gq h12 (by rw [h.sum]; omega) h.nn h.lt)
      have HITM := hid fun k (hk : k < N) i (hi : i < (filt (addB (M k)) ((M k).length + 1)).length) => (show CwItem q (M k) ((filt (addB (M k)) ((M k).length + 1)).getD i 0) by
        have h := HAT'.out k (by omega)
        exact cw_item h.good Gq h12 (by rw [h.sum]; omega) h.bd hi)
      have HEQ := hid fun k (hk : k ≤ N) => (show decide (M k = q) = decide (k = N) by
        have h := HAT'.out k hk
        by_cases e : k = N
        · have := nb_end (p := M k) (q := q) (by rw [h.sum]; omega) (by have := h.nn; have := h.lt; omega)
          rw [decide_eq_true this, decide_eq_true e]
        · rw [decide_eq_false e, decide_eq_false fun h2 => e (by rw [h2] at h; have := h.sum; omega)])
      obtain ⟨n, hn⟩ : ∃ n, n = chN q := ⟨_, rfl⟩
      rw [← hn] at HCH hxb HIN hcn
      rw [hN] at HSU
      have h12' : ¬ 12 < (N : Int) := by omega
      clear hat hM hY hK hn hin hb hg Gq h12 hqs hN hxb
      go_enter Try.func43, Try.ntmps43
      go_wp2_with (first | (go_at_call 90; refine (ptGood_b _ _ _ _ hl hc _ HG.out).mono ?_; rintro e w' ⟨rfl, nd, rfl⟩) | (go_at_call 91; refine (HSU.out _ (by exact hc)).mono ?_; rintro e w' ⟨rfl, rfl⟩) | (go_at_call 92; refine (HCH.out _ (by exact hc)).mono ?_; rintro e w4 ⟨rfl, b4⟩) | (go_at_call 109; refine (l1In_b _ _ _ _ _ HIN.out).mono ?_; rintro e w' ⟨rfl, rfl⟩))
      have HB4 := hid (Below.next (below_drew' w nd) b4)
      have hs4 := HB4.out.size
      clear b4
      go_loopw [1, 6, 7] (fun y v s wr => ∃ (k : Nat) (A5 A6 : Option Addr) (c5 c6 : Nat), k ≤ N ∧ y = .int .i64 (Y k) ∧ v = .slice A6 (K k).length c6 ∧ s = .slice A5 (M k).length c5 ∧ Hid (Own wr w4.heap.size A6 c6 (K k)) ∧ Hid (Own wr w4.heap.size A5 c5 (M k)) ∧ Hid (∀ b, A6.map Addr.block = some b → A5.map Addr.block ≠ some b) ∧ Hid (Below w4.heap.size w4 wr)) (fun _ v _ _ => N - (match v with | .slice _ n _ => n | _ => 0))
      case atStart => exact ⟨0, none, none, 0, 0, Nat.zero_le _, by rw [HY0.out], by rw [HK0.out]; rfl, by rw [HM0.out]; rfl, hid (by rw [HK0.out]; exact own_nil _ _), hid (by rw [HM0.out]; exact own_nil _ _), hid (fun b h => by simp at h), hid (Below.refl _ _)⟩
      case round =>
        obtain ⟨k, A5, A6, c5, c6, hk, rfl, rfl, rfl, HOK, HO, HAP, HB⟩ := hrel
        obtain ⟨wo, rfl⟩ : ∃ wo : World, wo = wr := ⟨_, rfl⟩
        have HQ := hid (hc.later (HB4.out.trans (HB.out.mono hs4)))
        have heq := HEQ.out k hk
        by_cases hlt : k < N
        · rw [decide_eq_false (show ¬ k = N by omega)] at heq
          have R := HROW.out k hlt
          have hA := HAT'.out k hk
          obtain ⟨hms1, hms2, hms3⟩ := HMS'.out k
          obtain ⟨r, hr⟩ : ∃ r, r = cwN q (M k) (Y k) := ⟨_, rfl⟩
          rw [← hr] at R hms1 hms2 hms3
          have HLS' := hid (show K (k + 1) = K k ++ [(r : Int)] by rw [HLS.out k, hms3])
          have hG := hA.good
          have hA1 := hA.lt; have hA2 := hA.bd; have hA3 := hA.sum
          have hRlo := R.lo; have hRlt := R.lt
          have hpl := hG.len
          have hKl : (K k).length ≤ 12 := by rw [HLL.out k]; omega
          have hrb : r ≤ 30 := by have := R.le; omega
          have HSM' := hid fun W (h1 : Cells W A5 (M k)) (h2 : Cells W A q) => HSM.out A5 c5 (M k) W (by omega) h1 h2 _ heq
          have HAD := hid fun W (h : Cells W A5 (M k)) => ptAddable_any A5 c5 (M k) W hpl h
          have HCA := hid fun (s : Int) W B' (h : Own W B' A5 c5 (M k)) => cnAdd_any A5 c5 (M k) s W hpl hG.bd h
          have hit := HITM.out k hlt
          obtain ⟨j0, hj0, hj1, hj2⟩ := cw_list R
          have hmon := cwSL_le hit
          have HSS := hid fun i hi => cwSL_succ q (M k) (filt (addB (M k)) ((M k).length + 1)) i hi
          have hfl := filt_len (addB (M k)) ((M k).length + 1)
          obtain ⟨L, hL⟩ : ∃ L, L = filt (addB (M k)) ((M k).length + 1) := ⟨_, rfl⟩
          rw [← hL] at HAD hit hj0 hj1 hj2 hmon HSS hfl
          have HIT := hid hit
          have HMON := hid hmon
          obtain ⟨p, hp⟩ : ∃ p, p = M k := ⟨_, rfl⟩
          obtain ⟨y, hy⟩ : ∃ y, y = Y k := ⟨_, rfl⟩
          rw [← hp] at HO HSM' HAD HCA HIT HMON HSS hj2 hms1 hms2 hRlo hRlt hA1 hA2 hfl hpl ⊢
          rw [← hy] at hms2 hRlo hRlt hA1 ⊢
          obtain ⟨C, hC⟩ : ∃ C, C = cwSL q p L := ⟨_, rfl⟩
          have HC0 := hid (show C 0 = 0 by rw [hC]; rfl)
          rw [← hC] at HMON HSS hj2
          rw [← hj2] at hms2 hRlo hRlt
          have hyb : y ≤ 479001600 := by omega
          have hj0b : j0 ≤ 40 := by omega
          have HMS1 := hid hms1
          have HMS2 := hid hms2
          have HJ1 := hid hj1
          clear R hA hms1 hms2 hms3 hr hG hA1 hA2 hA3 hp hy hC hL hit hmon hj1 hj2 heq hpl
          go_wp2_with (first | (go_at_call 110; refine (HSM'.out _ HO.out.cells HQ.out).mono ?_; rintro e w' ⟨rfl, nn, rfl⟩) | (go_at_call 106; refine (HAD.out _ (by exact HO.out.cells)).mono ?_; rintro e w5 ⟨A3, c3, rfl, o3, b3⟩))
          have HBa := hid (Below.next (below_drew' wo nn) b3)
          have HL5 := hid o3.cells
          have HO5 := hid (HO.out.below HBa.out)
          have HOK5 := hid (HOK.out.below HBa.out)
          have HQ5 := hid (HQ.out.later HBa.out)
          have HBB := hid (HB.out.trans (HBa.out.mono HB.out.size))
          clear o3 b3
          go_loopw [1, 6, 7, 36] (fun z v s m wi => ∃ i : Nat, i ≤ j0 ∧ m = .int .i64 i ∧ z = .int .i64 (y - C i) ∧ v = .slice A6 (K k).length c6 ∧ s = .slice A5 p.length c5 ∧ Hid (Below w5.heap.size w5 wi)) (fun _ _ _ m _ => j0 + 1 - (intOf m).toNat)
          case atStart => exact ⟨0, Nat.zero_le _, rfl, by rw [HC0.out, Int.sub_zero], rfl, rfl, hid (Below.refl _ _)⟩
          case round =>
            obtain ⟨i, hij, rfl, rfl, rfl, rfl, HBi⟩ := hrel
            have HBW := hid (HBB.out.trans (HBi.out.mono HBB.out.size))
            have HOi := hid (HO5.out.below HBi.out)
            have HOKi := hid (HOK5.out.below HBi.out)
            have HQi := hid (HQ5.out.later HBi.out)
            obtain ⟨b4, o4, rfl, hll4⟩ := (HL5.out.later HBi.out) (by omega)
            have hiL : i < L.length := by omega
            have hlm := hll4 i hiL
            have IT := HIT.out i hiL
            have hss := HSS.out i hiL
            have hm0 := HMON.out 0 i (by omega)
            rw [HC0.out, Nat.zero_add] at hm0
            have hmj := HMON.out (i + 1) (j0 - i - 1)
            have HJ := hid fun (h : i = j0) => (show L.getD i 0 = (r : Int) by rw [h]; exact HJ1.out)
            obtain ⟨s, hs⟩ : ∃ s, s = L.getD i 0 := ⟨_, rfl⟩
            rw [← hs] at hlm IT hss HJ
            have hca := HCA.out s wr _ HOi.out
            rw [IT.step] at hca
            simp only [if_true] at hca
            have HCB' := hid fun A7 c7 W B (ho : Own W B A7 c7 (incL p s.toNat)) (h : Cells W A q) => HCB.out A7 c7 (incL p s.toNat) W B IT.good ho h
            rw [IT.val] at HCB'
            have hvn := IT.nn
            obtain ⟨v, hv⟩ : ∃ v, v = nbN (incL p s.toNat) q := ⟨_, rfl⟩
            rw [← hv] at HCB' hss hvn
            have HZ := hid (show i = j0 → incL p s.toNat = M (k + 1) ∧ v < 0 + (v + 1) from fun h => ⟨by rw [HMS1.out, HJ.out h, Int.toNat_natCast], by omega⟩)
            have hvr : i = j0 → v = nbN (incL p r) q := fun h => by rw [hv, HJ.out h, Int.toNat_natCast]
            obtain ⟨z, hz⟩ : ∃ z, z = incL p s.toNat := ⟨_, rfl⟩
            rw [← hz] at hca HCB' HZ
            have HCA' := hid hca
            clear hll4 hs IT hv hz hca
            by_cases hlt2 : i < j0
            · have hmj' := hmj (by omega)
              rw [show i + 1 + (j0 - i - 1) = j0 by omega] at hmj'
              obtain ⟨a, ha⟩ : ∃ a, a = C i := ⟨_, rfl⟩
              obtain ⟨a1, ha1⟩ : ∃ a1, a1 = C (i + 1) := ⟨_, rfl⟩
              rw [← ha, ← ha1] at hss
              rw [← ha] at hm0 ⊢
              rw [← ha1] at hmj'
              have hvy : ¬ y - a < v := by omega
              have HA1 := hid (show y - C (i + 1) = y - a - v by rw [← ha1]; omega)
              clear hvr hmj HZ HJ ha ha1 hss hmj'
              go_wp2_with (first | (go_at_call 107; refine HCA'.out.mono ?_; rintro e w7 ⟨A7, c7, rfl, o7, b7⟩) | (go_at_call 97; refine (HCB'.out _ _ _ _ o7 (HQi.out.later b7)).mono ?_; rintro e w8 ⟨rfl, b8⟩))
              have HB8 := hid (HBi.out.trans (Below.mono (Below.next b7 b8) HBi.out.size))
              clear o7 b7 b8
              go_roundw
              case rel => exact ⟨i + 1, by omega, by go_num, by rw [HA1.out], rfl, rfl, HB8⟩
              case measure => simp [intOf]; omega
            · have hij' : i = j0 := by omega
              have hvr' := hvr hij'
              obtain ⟨hz1, _⟩ := HZ.out hij'
              have hsr := HJ.out hij'
              subst hij'
              subst hsr
              obtain ⟨a, ha⟩ : ∃ a, a = C i := ⟨_, rfl⟩
              rw [← ha] at hm0 hRlo hRlt ⊢
              rw [← hvr'] at hRlt
              have HMSz := hid hz1
              have HYz := hid (show Y (k + 1) = y - a by rw [HMS2.out, ha])
              clear hvr hvr' hmj HZ HJ hz1 ha hss
              go_wp2_with fail
              refine HCA'.out.mono ?_
              rintro e w7 ⟨A7, c7, rfl, o7, b7⟩
              go_wp2_with fail
              refine (HCB'.out _ _ _ _ o7 (HQi.out.later b7)).mono ?_
              rintro e w8 ⟨rfl, b8⟩
              have HB8 := hid (Below.next b7 b8)
              have HOK8 := hid (HOKi.out.below HB8.out)
              have HZ8 := hid (o7.below b8)
              have hs8 := HB8.out.size
              have hsw := HBW.out.size
              clear o7 b7 b8
              go_wp2_with (at_builtin; refine wpList_append_own_at _ rfl _ _ 22 rfl w4.heap.size 3 i0 (.int .i64 0) 1 8 Try.underlying22 hi hz0 hz1' hz2' rfl (by decide) _ _ _ rfl (HOK8.out.alloc _) ⟨w8.heap.size, 0, none⟩ 1 1 [.int .i64 r] rfl rfl one_at (one_cell _) (by unfold maxLen; omega) (by omega) (by simp; omega) ?_)
              intro v' w9 hown' hgrow _ hat
              have hz9 : Own w9 wr.heap.size A7 c7 z := (HZ8.out.below ((Below.refl _ _).alloc (Nat.le_refl _) (.cells #[.int .i64 r] 3))).keep fun b hbb hlt => hgrow.block b hlt (fun e => by
                have x1 := (HZ8.out.block b hbb).1
                have x2 := (HOKi.out.block b ((cwOwnBlock A6 _ _).symm.trans (by first | exact e | exact e.symm))).2
                omega)
              have hap : ∀ b, v'.ownBlock = some b → A7.map Addr.block ≠ some b := fun b h1 h2 => by
                have x1 := HZ8.out.block b h2
                rcases hat with e | e
                · rw [e] at h1
                  have x2 := (HOKi.out.block b ((cwOwnBlock A6 _ _).symm.trans h1)).2
                  omega
                · rw [e] at h1
                  injection h1 with h1
                  first | omega | (simp at h1; omega)
              have hb9 : Below w4.heap.size w4 w9 := ((HBW.out.trans (Below.mono HB8.out hsw)).alloc (by omega) _).grown hgrow (by simp; omega) (fun q hq => (HOK8.out.lt q hq).1)
              have hown2 := own_snoc HLS'.out hown'
              obtain ⟨A9, c9, rfl, ho9⟩ := own_form hown2 rfl
              have HO9 := hid ho9
              have HZ9 := hid (hz9.more hsw)
              have HAP9 := hid (show ∀ b, A9.map Addr.block = some b → A7.map Addr.block ≠ some b from fun b h => hap b ((cwOwnBlock A9 _ _).trans h))
              have HB9 := hid hb9
              clear hgrow hown' hown2 ho9 hz9 hap hb9 hat
              go_wp2_with fail
              go_roundw
              case rel => exact ⟨k + 1, A7, A9, c7, c9, by omega, by rw [HYz.out], rfl, by rw [← HMSz.out], HO9, hid (by rw [← HMSz.out]; exact HZ9.out), HAP9, HB9⟩
              case measure =>
                have e1 := HLL.out k
                have e2 := HLL.out (k + 1)
                simp only [e1, e2]
                omega
        · have hkn : k = N := by omega
          subst hkn
          rw [decide_eq_true rfl] at heq
          have hpl := (HAT'.out k hk).good.len
          have HSM' := hid fun W (h1 : Cells W A5 (M k)) (h2 : Cells W A q) => HSM.out A5 c5 (M k) W (by omega) h1 h2 _ heq
          have hbe := HB4.out.trans (HB.out.mono HB4.out.size)
          clear heq hpl
          go_wp2_with (go_at_call 110; refine (HSM'.out _ HO.out.cells HQ.out).mono ?_; rintro e w' ⟨rfl, nn, rfl⟩)
          go_ret2
          exact ⟨A6, c6, rfl, (HOK.out.below (below_drew' _ nn)).more hs4, hbe.trans (Below.mono (below_drew' _ nn) hbe.size)⟩
  · have hb : cwB q x = false := by simp only [cwB, hg, decide_eq_false h12, Bool.true_and, Bool.false_and]
    rw [show cwF q x = [] by simp [cwF, hb], hb]
    obtain ⟨s, hs⟩ : ∃ s, s = q.sum := ⟨_, rfl⟩
    rw [← hs] at HSU h12
    have h12' : 12 < s := by omega
    clear hg hb hs Gq
    go_enter Try.func43, Try.ntmps43
    go_wp2_with (first | (go_at_call 90; refine (ptGood_b _ _ _ _ hl hc _ HG.out).mono ?_; rintro e w' ⟨rfl, nd, rfl⟩) | (go_at_call 91; refine (HSU.out _ (by exact hc)).mono ?_; rintro e w' ⟨rfl, rfl⟩))
    go_ret2
    exact ⟨none, 0, rfl, own_nil _ _, below_drew' _ _⟩
end Go.Proofs.Ytmbfobcbnnalbaa
