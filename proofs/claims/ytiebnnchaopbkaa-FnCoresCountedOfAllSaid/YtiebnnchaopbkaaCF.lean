/-
  Several texts in one.
-/
import Derived.Test.YtiebnnchaopbkaaCE
import Derived.Test.YtiebnnchaopbkaaCB
import Derived.Test.YtiebnnchaopbkaaR05
import Derived.Maps.AppendAt
import Derived.Deep.RegionLaw
/-
  Contracts: the abacus of a board.
-/
namespace Go.Proofs.Ytiebnnchaopbkaa
open Go.RowKit

/-- The beads of a board, one after the other. -/
def bdL (t : Nat) (F : Nat → Bool) (k : Nat) : List Int := ((List.range k).filter fun x => F (atQ t x)).map fun x : Nat => (x : Int)
theorem bdL_succ_t {t : Nat} {F : Nat → Bool} {k : Nat} (h : F (atQ t k) = true) : bdL t F (k + 1) = bdL t F k ++ [(k : Int)] := by
  unfold bdL
  rw [List.range_succ, List.filter_append, List.map_append, List.filter_cons_of_pos (p := fun x => F (atQ t x)) h]; rfl
theorem bdL_succ_f {t : Nat} {F : Nat → Bool} {k : Nat} (h : F (atQ t k) = false) : bdL t F (k + 1) = bdL t F k := by
  unfold bdL
  rw [List.range_succ, List.filter_append, List.filter_cons_of_neg (p := fun x => F (atQ t x)) (by show ¬ F (atQ t k) = true; rw [h]; exact Bool.false_ne_true), List.filter_nil, List.append_nil]
theorem bdL_len (t : Nat) (F : Nat → Bool) (k : Nat) : (bdL t F k).length ≤ k := by
  unfold bdL
  rw [List.length_map]
  have := List.length_filter_le (fun x => F (atQ t x)) (List.range k)
  rw [List.length_range] at this; exact this
def abL (t : Nat) (F : Nat → Bool) : List Int := bdL t F (t * 36)

/-- What a board's abacus is: none where it is too large. -/
def abT (t : Nat) (F : Nat → Bool) : Int := if isAba t (abL t F) then (t : Int) else 0
def abX (t : Nat) (F : Nat → Bool) : List Int := if isAba t (abL t F) then abL t F else []
theorem own_set_other {w : World} {B g k : Nat} {v u : Value} {n : Nat} {xs : List Value} (h : w.ownsRow B 3 1 v n xs) (hg : g < B) : (w.setCell ⟨g, k, none⟩ u).ownsRow B 3 1 v n xs := by
  refine ⟨h.1, ?_⟩
  rcases h.2 with hn | ⟨g1, cap, cur, hv, hb, hgg, rest⟩
  · exact .inl hn
  · exact .inr ⟨g1, cap, cur, hv, hb, by rw [Below.heap_setCell _ _ _ g1 (by show g1 ≠ g; omega)]; exact hgg, rest⟩

set_option maxRecDepth 100000 in
set_option maxHeartbeats 4000000 in
theorem brdAb_any (t : Nat) (F : Nat → Bool) (w : World) (ht : 2 ≤ t ∧ t ≤ 6) :
    Calls Try.prog 57 #[bdV t F] w fun e w' => ∃ A' c', e = .returned (.tuple #[.agg #[.int .i64 (abT t F), .slice A' (abX t F).length c'], .bool (isAba t (abL t F))]) ∧ Own w' w.heap.size A' c' (abX t F) ∧ Below w.heap.size w w' := by
  obtain ⟨i0, hi, hz0, hz1, hz2⟩ := info_parts Try.infoInt
  unfold bdV
  have hne : ¬ (t : Int) = 0 := by omega
  obtain ⟨w0, hw0⟩ : ∃ w0, w0 = w.alloc (.cells (ca 217 (brdV t F)) 72) := ⟨_, rfl⟩
  have x1 : Blk w0 w.heap.size 72 217 (brdV t F) := by rw [hw0]; exact Blk.new w 72 217 (brdV t F)
  have hs0 : w0.heap.size = w.heap.size + 1 := by rw [hw0]; simp
  have hc0 : ((w0.alloc (.cells #[.int .i64 0, .slice none 0 0] 49))).cell? ⟨w.heap.size, 0, none⟩ = some (.int .i64 t) := (x1.alloc _).cell (k := 0) (by omega)
  have hb0 : Below w.heap.size w w0 := by rw [hw0]; exact (Below.refl _ _).alloc (Nat.le_refl _) _
  obtain ⟨w1, hw1⟩ : ∃ w1, w1 = (w0.alloc (.cells #[.int .i64 0, .slice none 0 0] 49)).alloc (.cells #[.int .i64 t, .slice none 0 0] 49) := ⟨_, rfl⟩
  have X1 : Hid (Blk w1 w.heap.size 72 217 (brdV t F)) := hid (by rw [hw1]; exact (x1.alloc _).alloc _)
  have Y1 : Hid (Box2 w1 (w.heap.size + 1) 49 (.int .i64 0) (.slice none 0 0)) := hid (by
    have h := (Box2.new w0 49 (.int .i64 0) (.slice none 0 0)).alloc (.cells #[.int .i64 t, .slice none 0 0] 49)
    rw [hs0] at h; rw [hw1]; exact h)
  have Z1 : Hid (Box2 w1 (w.heap.size + 1 + 1) 49 (.int .i64 t) (.slice none 0 0)) := hid (by
    have h := Box2.new (w0.alloc (.cells #[.int .i64 0, .slice none 0 0] 49)) 49 (.int .i64 t) (.slice none 0 0)
    rw [World.size_alloc, hs0] at h; rw [hw1]; exact h)
  have hb1 : Below w.heap.size w w1 := by rw [hw1]; exact (hb0.alloc (by omega) _).alloc (by simp; omega) _
  have hs1 : w1.heap.size = w.heap.size + 1 + 1 + 1 := by rw [hw1]; simp; omega
  rw [hw0] at hc0 hw1
  have HW := hid hw1
  clear hw0 hw1 x1
  go_enter Try.func57, Try.ntmps57
  go_wp2_with fail
  rw [← HW.out]
  clear hc0 HW
  go_loopw [12] (fun i wr => ∃ k : Nat, k ≤ t * 36 ∧ i = .int .i64 k ∧ (∃ v, Hid (wr.ownsRow (w.heap.size + 1 + 1 + 1) 3 1 v (bdL t F k).length (IL (bdL t F k))) ∧ Hid (Box2 wr (w.heap.size + 1 + 1) 49 (.int .i64 t) v)) ∧ Hid (Blk wr w.heap.size 72 217 (brdV t F)) ∧ Hid (Box2 wr (w.heap.size + 1) 49 (.int .i64 0) (.slice none 0 0)) ∧ Below w.heap.size w wr ∧ w1.heap.size ≤ wr.heap.size) (fun i _ => t * 36 - (intOf i).toNat)
  case atStart => exact ⟨0, Nat.zero_le _, rfl, ⟨_, hid (World.ownsRow_nil _ _ _ _), Z1⟩, X1, Y1, hb1, Nat.le_refl _⟩
  case round =>
    obtain ⟨k, hk, rfl, ⟨v, HO, HZ⟩, HX, HY, hbel, hsz⟩ := hrel
    clear X1 Y1 Z1
    have hll := bdL_len t F k
    by_cases hlt : k < t * 36
    · have hml : k % t < t := Nat.mod_lt _ (by omega)
      have hdl : k / t < 36 := by rw [Nat.div_lt_iff_lt_mul (by omega)]; omega
      have htm : Int.tmod (k : Int) (t : Int) = ((k % t : Nat) : Int) := by rfl
      have htd : Int.tdiv (k : Int) (t : Int) = ((k / t : Nat) : Int) := by rfl
      have hat : atQ t k = 36 * (k % t) + k / t := rfl
      obtain ⟨i, hie⟩ : ∃ i, i = k % t := ⟨_, rfl⟩
      obtain ⟨r, hr⟩ : ∃ r, r = k / t := ⟨_, rfl⟩
      rw [← hie] at hml htm hat
      rw [← hr] at hdl htd hat
      have hi6 : i < 6 := by omega
      have f0 : wr.drew.cell? ⟨w.heap.size, 0, none⟩ = some (.int .i64 t) := HX.out.cell (k := 0) (by omega)
      have f1 : wr.drew.cell? ⟨w.heap.size, 1 + i * 36 + r, none⟩ = some (.bool (F (atQ t k))) := by
        have h := HX.out.cell (k := 1 + i * 36 + r) (by omega)
        have e : brdV (t : Int) F (1 + i * 36 + r) = .bool (F (atQ t k)) := by unfold brdV; rw [if_neg (by omega), hat]; congr 2; omega
        rw [e] at h; exact h
      have f3 : wr.drew.cell? ⟨w.heap.size + 1 + 1, 1, none⟩ = some v := HZ.out.cell1
      have hO : wr.drew.ownsRow (w.heap.size + 1 + 1 + 1) 3 1 v (bdL t F k).length (IL (bdL t F k)) := HO.out
      have HXd : Hid (Blk wr.drew w.heap.size 72 217 (brdV t F)) := HX
      have HYd : Hid (Box2 wr.drew (w.heap.size + 1) 49 (.int .i64 0) (.slice none 0 0)) := HY
      have HZd : Hid (Box2 wr.drew (w.heap.size + 1 + 1) 49 (.int .i64 t) v) := HZ
      have hbd : Below w.heap.size w wr.drew := below_drewN hbel 1
      have hszd : w1.heap.size ≤ wr.drew.heap.size := hsz
      have HOd := hid hO
      clear hat hie hr hO
      cases hF : F (atQ t k)
      · have HS := hid (bdL_succ_f hF)
        rw [hF] at f1
        clear hF
        go_wp2_with fail
        go_region
        go_wp2_with fail
        go_roundw
        case rel => exact ⟨k + 1, by omega, by go_num, ⟨v, by rw [HS.out]; exact HOd, HZd⟩, HXd, HYd, hbd, hszd⟩
        case measure => simp [intOf]; omega
      · have HS := hid (bdL_succ_t hF)
        rw [hF] at f1
        obtain ⟨L, hL⟩ : ∃ L, L = bdL t F k := ⟨_, rfl⟩
        rw [← hL] at HOd hll HS
        clear hF hL
        have hlen : L.length ≤ 216 := by omega
        go_wp2_with fail
        go_region
        go_wp2_with (at_builtin; refine wpList_append_own _ rfl _ _ 28 rfl (w.heap.size + 1 + 1 + 1) 3 i0 (.int .i64 0) 1 8 Try.underlying28 hi hz0 hz1 hz2 rfl (by decide) _ _ _ rfl (HOd.out.alloc _) ⟨wr.drew.heap.size, 0, none⟩ 1 1 [.int .i64 (k : Int)] rfl rfl one_at (one_cell _) (by unfold maxLen; omega) (by omega) (by simp; omega) ?_)
        intro v' w5 hown' hgrow0 _
        have hgrow : (wr.drew.alloc (.cells #[.int .i64 (k : Int)] 3)).grownBy w5 v.ownBlock := hgrow0
        have hb5 : Below w.heap.size w w5 := (hbd.alloc hbd.size _).grown hgrow (by have := hbd.size; simp; omega) (fun q hq => by have := (HOd.out.lt q hq).1; omega)
        have hsz5 : w1.heap.size ≤ w5.heap.size := by have := hgrow.size; simp at this; omega
        obtain ⟨A5, c5, rfl, hown2⟩ := own_form (own_snoc HS.out hown') rfl
        unfold Own at hown2
        have HX5 := hid (HXd.out.keepG hgrow (fun e => own_ne_blk HOd.out HXd.out e))
        have HY5 := HYd.out.keepG hgrow (fun e => own_ne_box HOd.out HYd.out e)
        have HZ5 := HZd.out.keepG hgrow (fun e => own_ne_box HOd.out HZd.out e)
        have g1 := HZ5.cell1
        have g2 := HZ5.froz 1
        have HO6 := hid (own_set_other (g := w.heap.size + 1 + 1) (k := 1) (u := .slice A5 (bdL t F (k + 1)).length c5) hown2 (by omega))
        have HX6 := hid (HX5.out.other (g' := w.heap.size + 1 + 1) (k := 1) (by omega) (.slice A5 (bdL t F (k + 1)).length c5))
        have HY6 := hid (HY5.other (g' := w.heap.size + 1 + 1) (k := 1) (by omega) (.slice A5 (bdL t F (k + 1)).length c5))
        have HZ6 := hid (HZ5.set1 (.slice A5 (bdL t F (k + 1)).length c5))
        have hb6 : Below w.heap.size w (w5.setCell ⟨w.heap.size + 1 + 1, 1, none⟩ (.slice A5 (bdL t F (k + 1)).length c5)) := hb5.setCell (by simp; omega) _
        have hsz6 : w1.heap.size ≤ (w5.setCell ⟨w.heap.size + 1 + 1, 1, none⟩ (.slice A5 (bdL t F (k + 1)).length c5)).heap.size := by simp; omega
        obtain ⟨n, hn⟩ : ∃ n, n = (bdL t F (k + 1)).length := ⟨_, rfl⟩
        obtain ⟨M, hM⟩ : ∃ M, M = bdL t F (k + 1) := ⟨_, rfl⟩
        clear hown' hgrow hgrow0 hown2 HY5 HZ5
        go_wp2_with fail
        go_roundw
        case rel => exact ⟨k + 1, by omega, by go_num, ⟨_, HO6, HZ6⟩, HX6, HY6, hb6, hsz6⟩
        case measure => simp [intOf]; omega
    · have hkl : k = t * 36 := by omega
      subst hkl
      obtain ⟨L, hL⟩ : ∃ L, L = bdL t F (t * 36) := ⟨_, rfl⟩
      rw [← hL] at HO hll
      have hLab : abL t F = L := hL.symm
      obtain ⟨A, c, rfl, ho⟩ := own_form HO.out rfl
      have f3 := HZ.out.cell0
      have f4 := HZ.out.cell1
      have HO2 := hid ho
      cases hg : isAba t L
      · have hT : abT t F = 0 := by unfold abT; rw [hLab, hg]; rfl
        have hX : abX t F = [] := by unfold abX; rw [hLab, hg]; rfl
        have HT := hid hT; have HXX := hid hX; have HLA := hid (show isAba t (abL t F) = false by rw [hLab]; exact hg)
        have HG := hid hg
        clear hL hLab hg hT hX ho
        go_wp2_with fail
        refine (IsAbacus_b _ _ _ _ _ (by omega) HO2.out.cells _ HG.out).mono ?_
        rintro e w6 ⟨rfl, b6⟩
        have y1 := HY.out.next b6
        have f5 := y1.cell0
        have f6 := y1.froz 0
        have y2 := y1.set0 (.int .i64 0)
        have f7 := y2.cell1
        have f8 := y2.froz 1
        have Y3 := hid (y2.set1 (.slice none 0 0))
        clear y1 y2
        go_wp2_with fail
        refine bodyPost_ret (results_cell2 rfl _ _ _ (w.heap.size + 1) 49 #[.int .i64 0, .slice none 0 0] (0, 0) _ rfl Y3.out Try.underlying49 rfl (by kernel_rfl)) rfl ⟨none, 0, by rw [HT.out, HXX.out, HLA.out]; rfl, by rw [HXX.out]; exact own_nil _ _, ((Below.next hbel b6).setCell (by simp) _).setCell (by simp) _⟩
      · have hT : abT t F = t := by unfold abT; rw [hLab, hg]; rfl
        have hX : abX t F = L := by unfold abX; rw [hLab, hg]; rfl
        have HT := hid hT; have HXX := hid hX; have HLA := hid (show isAba t (abL t F) = true by rw [hLab]; exact hg)
        have HG := hid hg
        clear hL hLab hg hT hX ho
        go_wp2_with fail
        refine (IsAbacus_b _ _ _ _ _ (by omega) HO2.out.cells _ HG.out).mono ?_
        rintro e w6 ⟨rfl, b6⟩
        have y1 := HY.out.next b6
        have f5 := y1.cell0
        have f6 := y1.froz 0
        have z6 := HZ.out.next b6
        have f9 := z6.cell0
        have f10 := z6.cell1
        have y2 := y1.set0 (.int .i64 t)
        have f7 := y2.cell1
        have f8 := y2.froz 1
        have Y3 := hid (y2.set1 (.slice A L.length c))
        have HO6 := hid (own_set_other (g := w.heap.size + 1) (k := 1) (u := .slice A L.length c) (own_set_other (g := w.heap.size + 1) (k := 0) (u := .int .i64 t) (HO2.out.below b6) (by omega)) (by omega))
        clear y1 y2 z6
        go_wp2_with fail
        refine bodyPost_ret (results_cell2 rfl _ _ _ (w.heap.size + 1) 49 #[.int .i64 t, .slice A L.length c] (0, 0) _ rfl Y3.out Try.underlying49 rfl (by kernel_rfl)) rfl ⟨A, c, by rw [HT.out, HXX.out, HLA.out]; rfl, by rw [HXX.out]; exact Own.more HO6.out (by omega), ((Below.next hbel b6).setCell (by simp) _).setCell (by simp) _⟩
end Go.Proofs.Ytiebnnchaopbkaa
/-
  Plain facts: rows that rise are told by what is in them; numbers inserted; the beads of a board as a row that rises; a bead put to another place.
-/
namespace Go.Proofs.Ytiebnnchaopbkaa
open Go.RowKit

theorem pw_ext : ∀ {a b : List Int}, a.Pairwise (· < ·) → b.Pairwise (· < ·) → (∀ x, x ∈ a ↔ x ∈ b) → a = b
  | [], [], _, _, _ => rfl
  | [], y :: r, _, _, h => absurd ((h y).2 (by simp)) (by simp)
  | x :: r, [], _, _, h => absurd ((h x).1 (by simp)) (by simp)
  | x :: r, y :: s, ha, hb, h => by
    rw [List.pairwise_cons] at ha hb
    have hxy : x = y := by
      have h1 := (h x).1 (by simp)
      have h2 := (h y).2 (by simp)
      rw [List.mem_cons] at h1 h2
      rcases h1 with h1 | h1
      · exact h1
      · rcases h2 with h2 | h2
        · exact h2.symm
        · have := ha.1 y h2
          have := hb.1 x h1
          omega
    subst hxy
    congr 1
    refine pw_ext ha.2 hb.2 fun z => ?_
    have hz := h z
    rw [List.mem_cons, List.mem_cons] at hz
    constructor
    · intro hm
      have := ha.1 z hm
      rcases hz.1 (Or.inr hm) with e | e
      · omega
      · exact e
    · intro hm
      have := hb.1 z hm
      rcases hz.2 (Or.inr hm) with e | e
      · omega
      · exact e
theorem mem_insL {xs : List Int} {x y : Int} : y ∈ insL xs x ↔ y = x ∨ y ∈ xs := by
  induction xs with
  | nil => simp [insL]
  | cons z r ih =>
    unfold insL
    split
    · rw [List.mem_cons, ih, List.mem_cons]
      constructor
      · rintro (h | h | h)
        · exact .inr (.inl h)
        · exact .inl h
        · exact .inr (.inr h)
      · rintro (h | h | h)
        · exact .inr (.inl h)
        · exact .inl h
        · exact .inr (.inr h)
    · rw [List.mem_cons]
theorem insL_pw {xs : List Int} {x : Int} (h : xs.Pairwise (· < ·)) (hx : x ∉ xs) : (insL xs x).Pairwise (· < ·) := by
  induction xs with
  | nil => simp [insL]
  | cons z r ih =>
    rw [List.pairwise_cons] at h
    rw [List.mem_cons] at hx
    unfold insL
    split
    · rename_i hzx
      rw [List.pairwise_cons]
      refine ⟨fun y hy => ?_, ih h.2 (fun hh => hx (.inr hh))⟩
      rw [mem_insL] at hy
      rcases hy with rfl | hy
      · exact hzx
      · exact h.1 y hy
    · rename_i hzx
      have hne : x ≠ z := fun e => hx (.inl e)
      rw [List.pairwise_cons]
      refine ⟨fun y hy => ?_, List.pairwise_cons.2 h⟩
      rw [List.mem_cons] at hy
      rcases hy with rfl | hy
      · omega
      · have := h.1 y hy; omega
/-- A row made by inserting the numbers of a row, one after the other. -/
def insF (ys : List Int) : List Int := ys.foldl insL []
theorem insF_snoc (ys : List Int) (y : Int) : insF (ys ++ [y]) = insL (insF ys) y := by unfold insF; rw [List.foldl_append]; rfl
theorem insF_take (ys : List Int) (k : Nat) (h : k < ys.length) : insF (ys.take (k + 1)) = insL (insF (ys.take k)) (ys.getD k 0) := by
  rw [take_snoc ys k h _ rfl, insF_snoc]
theorem insF_rev (ys : List Int) : ∀ L : List Int, L.Pairwise (· < ·) → ys.Nodup → (∀ y ∈ ys, y ∉ L) → (ys.foldl insL L).Pairwise (· < ·) ∧ (∀ x, x ∈ ys.foldl insL L ↔ x ∈ L ∨ x ∈ ys) ∧ (ys.foldl insL L).length = L.length + ys.length := by
  induction ys with
  | nil => intro L hL _ _; exact ⟨hL, fun x => by simp, by simp⟩
  | cons y r ih =>
    intro L hL hn hd
    rw [List.nodup_cons] at hn
    obtain ⟨h1, h2, h3⟩ := ih (insL L y) (insL_pw hL (hd y (by simp))) hn.2 (fun z hz hm => by
      rw [mem_insL] at hm
      rcases hm with rfl | hm
      · exact hn.1 hz
      · exact hd z (by simp [hz]) hm)
    refine ⟨h1, fun x => ?_, ?_⟩
    · rw [List.foldl_cons, h2 x, mem_insL, List.mem_cons]
      constructor
      · rintro ((h | h) | h)
        · exact .inr (.inl h)
        · exact .inl h
        · exact .inr (.inr h)
      · rintro (h | h | h)
        · exact .inl (.inr h)
        · exact .inl (.inl h)
        · exact .inr h
    · rw [List.foldl_cons, h3, insL_len, List.length_cons]; omega
theorem insF_all {ys : List Int} (h : ys.Nodup) : (insF ys).Pairwise (· < ·) ∧ (∀ x, x ∈ insF ys ↔ x ∈ ys) ∧ (insF ys).length = ys.length := by
  obtain ⟨h1, h2, h3⟩ := insF_rev ys [] List.Pairwise.nil h (fun _ _ => by simp)
  exact ⟨h1, fun x => by rw [insF, h2 x]; simp, by rw [insF, h3]; simp⟩

theorem bdL_pw (t : Nat) (F : Nat → Bool) (k : Nat) : (bdL t F k).Pairwise (· < ·) := by
  induction k with
  | zero => exact List.Pairwise.nil
  | succ k ih =>
    cases h : F (atQ t k)
    · rw [bdL_succ_f h]; exact ih
    · rw [bdL_succ_t h, List.pairwise_append]
      refine ⟨ih, by simp, fun a ha b hb => ?_⟩
      rw [List.mem_singleton] at hb
      subst hb
      unfold bdL at ha
      obtain ⟨m, hm, rfl⟩ := List.mem_map.1 ha
      have := List.mem_range.1 (List.mem_filter.1 hm).1
      omega
theorem mem_bdL {t : Nat} {F : Nat → Bool} {k : Nat} {x : Int} : x ∈ bdL t F k ↔ ∃ n : Nat, n < k ∧ F (atQ t n) = true ∧ x = n := by
  unfold bdL
  rw [List.mem_map]
  constructor
  · rintro ⟨m, hm, rfl⟩
    have h := List.mem_filter.1 hm
    exact ⟨m, List.mem_range.1 h.1, h.2, rfl⟩
  · rintro ⟨m, h1, h2, rfl⟩
    exact ⟨m, List.mem_filter.2 ⟨List.mem_range.2 h1, h2⟩, rfl⟩
theorem rise_pw {xs : List Int} (h : ∀ j, j + 1 < xs.length → xs.getD j 0 < xs.getD (j + 1) 0) : xs.Pairwise (· < ·) := by
  induction xs with
  | nil => exact List.Pairwise.nil
  | cons x r ih =>
    have ihr := ih (fun j hj => by have := h (j + 1) (by simpa using hj); simpa using this)
    rw [List.pairwise_cons]
    refine ⟨fun y hy => ?_, ihr⟩
    cases r with
    | nil => simp at hy
    | cons z s =>
      have h0 := h 0 (by simp)
      simp only [List.getD_cons_zero, List.getD_cons_succ] at h0
      rw [List.mem_cons] at hy
      rcases hy with rfl | hy
      · exact h0
      · rw [List.pairwise_cons] at ihr
        have := ihr.1 y hy; omega
theorem pw_nodup {xs : List Int} (h : xs.Pairwise (· < ·)) : xs.Nodup := by
  refine List.Pairwise.imp ?_ h
  intro a b hab; omega

/-- What a bead becomes when the one at a goes to b. -/
def mvB (a b x : Int) : Int := if x = a then b else x
def mvL (a b : Int) (xs : List Int) : List Int := xs.map (mvB a b)
theorem mem_mvL {a b : Int} {xs : List Int} (ha : a ∈ xs) {x : Int} : x ∈ mvL a b xs ↔ x = b ∨ (x ≠ a ∧ x ∈ xs) := by
  unfold mvL
  rw [List.mem_map]
  constructor
  · rintro ⟨y, hy, rfl⟩
    unfold mvB
    by_cases e : y = a
    · rw [if_pos e]; exact .inl rfl
    · rw [if_neg e]; exact .inr ⟨e, hy⟩
  · rintro (rfl | ⟨h1, h2⟩)
    · exact ⟨a, ha, by simp [mvB]⟩
    · exact ⟨x, h2, by simp [mvB, h1]⟩
theorem mvL_nodup {a b : Int} {xs : List Int} (h : xs.Nodup) (hb : b ∉ xs) : (mvL a b xs).Nodup := by
  unfold mvL
  induction xs with
  | nil => simp
  | cons x r ih =>
    rw [List.nodup_cons] at h
    rw [List.mem_cons] at hb
    rw [List.map_cons, List.nodup_cons]
    refine ⟨fun hm => ?_, ih h.2 (fun hh => hb (.inr hh))⟩
    obtain ⟨y, hy, e⟩ := List.mem_map.1 hm
    unfold mvB at e
    split at e
    · rename_i h1
      split at e
      · rename_i h2; exact h.1 (by rw [h2, ← h1]; exact hy)
      · exact hb (.inl e)
    · split at e
      · exact hb (.inr (by rw [← e]; exact hy))
      · exact h.1 (by rw [← e]; exact hy)

def canGo (xs : List Int) (a b : Int) : Bool := decide (a ∈ xs) && (decide (0 ≤ b) && !decide (b ∈ xs))
theorem at_in (i r : Nat) (h : r < 36) : 36 * i ≤ 36 * i + r ∧ 36 * i + r < 36 * i + 36 := by omega
theorem at_sub (i r : Nat) : 36 * i + r - 36 * i = r := by omega
theorem at_out (i m r : Nat) (h : r < 36) (hm : m ≠ i) : ¬ (36 * i ≤ 36 * m + r ∧ 36 * m + r < 36 * i + 36) := by omega
theorem at_216 (i r t : Nat) (h : r < 36) (hi : i < t) (ht : t ≤ 6) : 36 * i + r < 216 := by omega
theorem put_bits {t a b : Nat} {F : Nat → Bool} (ht : 0 < t) (ha : a < t * 36) (hb : b < t * 36) (hab : b % t = a % t) :
    ((F (atQ t a) && !F (atQ t b)) = false → putB t F a b = F) ∧ ((F (atQ t a) && !F (atQ t b)) = true → ∀ n, n < t * 36 → putB t F a b (atQ t n) = if n = b then true else if n = a then false else F (atQ t n)) := by
  have hc : canB t (a : Int) (b : Int) = true := by simp only [canB, Bool.and_eq_true, decide_eq_true_eq]; omega
  have hp : putB t F (a : Int) (b : Int) = setLn F (a % t) (putR (lnB F (a % t)) ((a / t : Nat) : Int) ((b / t : Nat) : Int)) := by
    simp only [putB, hc, if_true, Int.toNat_natCast]
  have hd2 : b / t < 36 := by rw [Nat.div_lt_iff_lt_mul ht, Nat.mul_comm]; exact hb
  have hcp : canPut (lnB F (a % t)) ((a / t : Nat) : Int) ((b / t : Nat) : Int) = (F (atQ t a) && !F (atQ t b)) := by
    simp only [canPut, lnB, Int.toNat_natCast, atQ, hab]
    have q0 : (0 : Int) ≤ ((b / t : Nat) : Int) := Int.natCast_nonneg _
    have q1 : ((b / t : Nat) : Int) < 36 := Int.ofNat_lt.2 hd2
    rw [decide_eq_true q0, decide_eq_true q1]; simp
  rw [hp]
  constructor
  · intro h
    rw [h] at hcp
    simp only [putR, hcp, Bool.false_eq_true, if_false]
    exact set_same F _
  · intro h n hn
    rw [h] at hcp
    have hdn : n / t < 36 := by rw [Nat.div_lt_iff_lt_mul ht, Nat.mul_comm]; exact hn
    simp only [putR, hcp, if_true, Int.toNat_natCast]
    unfold setLn
    have hat : atQ t n = 36 * (n % t) + n / t := rfl
    by_cases hm : n % t = a % t
    · rw [if_pos (by rw [hat, hm]; exact at_in _ _ hdn)]
      unfold updB lnB
      have e : atQ t n - 36 * (a % t) = n / t := by rw [hat, hm]; exact at_sub _ _
      rw [e]
      have hnb : n / t = b / t ↔ n = b := by
        constructor
        · intro h'; rw [← Nat.div_add_mod n t, ← Nat.div_add_mod b t, h', hm, hab]
        · rintro rfl; rfl
      have hna : n / t = a / t ↔ n = a := by
        constructor
        · intro h'; rw [← Nat.div_add_mod n t, ← Nat.div_add_mod a t, h', hm]
        · rintro rfl; rfl
      by_cases h1 : n = b
      · rw [if_pos (hnb.2 h1), if_pos h1]
      · rw [if_neg (fun hh => h1 (hnb.1 hh)), if_neg h1]
        by_cases h2 : n = a
        · rw [if_pos (hna.2 h2), if_pos h2]
        · rw [if_neg (fun hh => h2 (hna.1 hh)), if_neg h2, hat, hm]
    · have hneq : ¬ (36 * (a % t) ≤ atQ t n ∧ atQ t n < 36 * (a % t) + 36) := by
        rw [hat]; exact at_out _ _ _ hdn hm
      rw [if_neg hneq, if_neg (fun hh => hm (by rw [hh]; exact hab)), if_neg (fun hh => hm (by rw [hh]))]
theorem put_gen {t : Nat} {xs : List Int} (ht : 2 ≤ t ∧ t ≤ 6) (G : GoodB xs) {a b : Int} (hab : b = a + t ∨ b = a - t) :
    (canGo xs a b = false → putB t (bitsK t xs xs.length) a b = bitsK t xs xs.length) ∧
    (canGo xs a b = true → (∃ k, k < 216 ∧ bitsK t xs xs.length k ≠ putB t (bitsK t xs xs.length) a b k) ∧ abL t (putB t (bitsK t xs xs.length) a b) = insF (mvL a b xs)) := by
  have hbd : ∀ j, j < xs.length → 0 ≤ xs.getD j 0 ∧ xs.getD j 0 < (t : Int) * 36 := fun j hj => by have := G.top hj; omega
  obtain ⟨F, hF⟩ : ∃ F, F = bitsK t xs xs.length := ⟨_, rfl⟩
  have hbits := fun {x : Nat} (h : x < t * 36) => bits_at (t := t) (by omega) hbd h
  rw [← hF] at hbits ⊢
  by_cases hc : canB t a b = true
  · have h : 0 ≤ a ∧ a < (t : Int) * 36 ∧ 0 ≤ b := by simpa [canB] using hc
    obtain ⟨a, rfl⟩ : ∃ n : Nat, a = n := ⟨a.toNat, by omega⟩
    obtain ⟨b, rfl⟩ : ∃ n : Nat, b = n := ⟨b.toNat, by omega⟩
    have ha : a < t * 36 := by omega
    have h1 := hbits ha
    have hmod : b % t = a % t := by
      rcases hab with h' | h'
      · rw [show b = a + t by omega, Nat.add_mod_right]
      · rw [show a = b + t by omega, Nat.add_mod_right]
    by_cases hb : b < t * 36
    · have h2 := hbits hb
      obtain ⟨hP1, hP2⟩ := put_bits (F := F) (show 0 < t by omega) ha hb hmod
      have hcan : canGo xs (a : Int) (b : Int) = (F (atQ t a) && !F (atQ t b)) := by
        unfold canGo; rw [h1, h2, decide_eq_true (show (0 : Int) ≤ b by omega), Bool.true_and]
      rw [hcan]
      refine ⟨hP1, fun hh => ?_⟩
      have hbit := hP2 hh
      simp only [Bool.and_eq_true, Bool.not_eq_true'] at hh
      rw [h1, decide_eq_true_eq, h2, decide_eq_false_iff_not] at hh
      have hne : a ≠ b := by rintro rfl; exact hh.2 hh.1
      refine ⟨⟨atQ t a, ?_, ?_⟩, ?_⟩
      · have h3 : a % t < t := Nat.mod_lt _ (by omega)
        have h4 : a / t < 36 := by rw [Nat.div_lt_iff_lt_mul (by omega), Nat.mul_comm]; exact ha
        unfold atQ; exact at_216 _ _ _ h4 h3 ht.2
      · rw [hbit a ha, if_neg hne, if_pos rfl, h1, decide_eq_true hh.1]; decide
      · have hnd := mvL_nodup (a := (a : Int)) (pw_nodup (rise_pw G.rise.up)) hh.2
        obtain ⟨q1, q2, _⟩ := insF_all hnd
        refine pw_ext (bdL_pw _ _ _) q1 fun x => ?_
        rw [q2 x, mem_mvL hh.1]
        unfold abL
        rw [mem_bdL]
        constructor
        · rintro ⟨n, hn, hf, rfl⟩
          rw [hbit n hn] at hf
          by_cases e1 : n = b
          · exact .inl (by omega)
          · rw [if_neg e1] at hf
            by_cases e2 : n = a
            · rw [if_pos e2] at hf; cases hf
            · rw [if_neg e2, hbits hn, decide_eq_true_eq] at hf
              exact .inr ⟨by omega, hf⟩
        · rintro (rfl | ⟨h3, h4⟩)
          · exact ⟨b, hb, by rw [hbit b hb, if_pos rfl], rfl⟩
          · obtain ⟨j, hj, rfl⟩ := mem_getD.1 h4
            have hbj := hbd j hj
            obtain ⟨n, hn⟩ : ∃ n : Nat, xs.getD j 0 = n := ⟨(xs.getD j 0).toNat, by omega⟩
            rw [hn] at h3 h4 hbj ⊢
            have hnb : n ≠ b := by rintro rfl; exact hh.2 h4
            exact ⟨n, by omega, by rw [hbit n (by omega), if_neg hnb, if_neg (by omega), hbits (by omega), decide_eq_true h4], rfl⟩
    · have hnm : (a : Int) ∉ xs := by
        intro hm
        obtain ⟨j, hj, e⟩ := mem_getD.1 hm
        have := G.top hj
        omega
      have hcan : canGo xs (a : Int) (b : Int) = false := by unfold canGo; rw [decide_eq_false hnm]; rfl
      rw [hcan]
      refine ⟨fun _ => ?_, fun hh => by cases hh⟩
      rw [decide_eq_false hnm] at h1
      have hp : putB t F (a : Int) (b : Int) = setLn F (a % t) (putR (lnB F (a % t)) ((a / t : Nat) : Int) ((b / t : Nat) : Int)) := by
        simp only [putB, hc, if_true, Int.toNat_natCast]
      have hcp : canPut (lnB F (a % t)) ((a / t : Nat) : Int) ((b / t : Nat) : Int) = false := by
        unfold atQ at h1
        simp only [canPut, lnB, Int.toNat_natCast, h1, Bool.false_and, Bool.and_false]
      rw [hp]
      simp only [putR, hcp, Bool.false_eq_true, if_false]
      exact set_same F _
  · have hc' : canB t a b = false := by simpa using hc
    have hcan : canGo xs a b = false := by
      cases h : canGo xs a b
      · rfl
      · exfalso
        simp only [canGo, Bool.and_eq_true, decide_eq_true_eq] at h
        obtain ⟨j, hj, e⟩ := mem_getD.1 h.1
        have := hbd j hj
        simp only [canB, Bool.and_eq_false_iff, decide_eq_false_iff_not] at hc'
        have := h.2.1
        omega
    rw [hcan]
    exact ⟨fun _ => by simp [putB, hc'], fun hh => by cases hh⟩
end Go.Proofs.Ytiebnnchaopbkaa
/-
  Plain facts: rows of beads are good as soon as their sum is small enough; moved beads keep them so. No program in this text.
-/
namespace Go.Proofs.Ytiebnnchaopbkaa
open Go.RowKit

theorem insL_sum (xs : List Int) (x : Int) : (insL xs x).sum = xs.sum + x := by
  induction xs with
  | nil => simp [insL]
  | cons y r ih => unfold insL; split <;> simp only [List.sum_cons, ih] <;> omega
theorem insF_sum (ys : List Int) : (insF ys).sum = ys.sum := by
  have key : ∀ (ys L : List Int), (ys.foldl insL L).sum = L.sum + ys.sum := by
    intro ys
    induction ys with
    | nil => intro L; simp
    | cons y r ih => intro L; rw [List.foldl_cons, ih, insL_sum, List.sum_cons]; omega
  unfold insF; rw [key]; simp
theorem mvL_sum {a b : Int} {xs : List Int} (h : xs.Nodup) (ha : a ∈ xs) : (mvL a b xs).sum = xs.sum - a + b := by
  have no : ∀ r : List Int, a ∉ r → (mvL a b r).sum = r.sum := by
    intro r
    induction r with
    | nil => intro _; rfl
    | cons y r ih =>
      intro hm
      rw [List.mem_cons] at hm
      have := ih (fun hh => hm (.inr hh))
      unfold mvL at this ⊢
      rw [List.map_cons, List.sum_cons, List.sum_cons, this]
      unfold mvB
      rw [if_neg (fun e => hm (.inl e.symm))]
  induction xs with
  | nil => simp at ha
  | cons x r ih =>
    rw [List.nodup_cons] at h
    by_cases e : x = a
    · subst e
      have := no r h.1
      unfold mvL at this ⊢
      rw [List.map_cons, List.sum_cons, List.sum_cons, this]
      unfold mvB
      rw [if_pos rfl]; omega
    · rw [List.mem_cons] at ha
      have hr : a ∈ r := by rcases ha with rfl | ha; exact absurd rfl e; exact ha
      have := ih h.2 hr
      unfold mvL at this ⊢
      rw [List.map_cons, List.sum_cons, List.sum_cons, this]
      unfold mvB
      rw [if_neg e]; omega

theorem rise_ge {xs : List Int} (R : Rises 0 1000 xs) : ∀ j, j < xs.length → (j : Int) ≤ xs.getD j 0
  | 0, h => by have := (R.bd 0 h).1; simpa using this
  | j + 1, h => by have := rise_ge R j (by omega); have := R.up j h; omega
theorem gap_up {xs : List Int} (R : Rises 0 1000 xs) (i : Nat) : ∀ d, i + d < xs.length → xs.getD i 0 - i ≤ xs.getD (i + d) 0 - ((i + d : Nat) : Int)
  | 0, _ => by simp
  | d + 1, h => by
    have h1 := gap_up R i d (by omega)
    have h2 := R.up (i + d) (by omega)
    rw [show i + (d + 1) = i + d + 1 by omega]
    omega
def tri : Nat → Int
  | 0 => 0
  | n + 1 => tri n + n
theorem bpk_facts {xs : List Int} (R : Rises 0 1000 xs) : ∀ k, k ≤ xs.length →
    (∀ x ∈ bpk xs k, 1 ≤ x) ∧ (bpk xs k).Pairwise (fun a b => b ≤ a) ∧ (∀ x ∈ bpk xs k, ∀ i, i < xs.length - k → xs.getD i 0 - i ≤ x) ∧ (bpk xs k).sum = (xs.drop (xs.length - k)).sum - (tri xs.length - tri (xs.length - k))
  | 0, _ => by refine ⟨fun x h => by simp [bpk] at h, by simp [bpk], fun x h => by simp [bpk] at h, by simp [bpk]⟩
  | k + 1, hk => by
    obtain ⟨h1, h2, h3, h4⟩ := bpk_facts R k (by omega)
    obtain ⟨i, hi⟩ : ∃ i, i = xs.length - 1 - k := ⟨_, rfl⟩
    have hge := rise_ge R i (by omega)
    have hd := drop_cons xs i (by omega)
    have e1 : xs.length - (k + 1) = i := by omega
    have e2 : xs.length - k = i + 1 := by omega
    rw [e2] at h3 h4
    rw [e1]
    have ht : tri (i + 1) = tri i + i := rfl
    by_cases hq : (i : Int) < xs.getD i 0
    · rw [bpk_yes hi rfl hq]
      refine ⟨fun x hx => ?_, ?_, fun x hx j hj => ?_, ?_⟩
      · rw [List.mem_append, List.mem_singleton] at hx
        rcases hx with hx | rfl
        · exact h1 x hx
        · omega
      · rw [List.pairwise_append]
        refine ⟨h2, by simp, fun a ha b hb => ?_⟩
        rw [List.mem_singleton] at hb
        subst hb
        exact h3 a ha i (by omega)
      · rw [List.mem_append, List.mem_singleton] at hx
        rcases hx with hx | rfl
        · exact h3 x hx j (by omega)
        · have := gap_up R j (i - j) (by omega)
          rw [show j + (i - j) = i by omega] at this
          exact this
      · rw [List.sum_append, h4, hd, ht]
        simp only [List.sum_cons, List.sum_nil]
        omega
    · rw [bpk_no hi rfl hq]
      have hz : xs.getD i 0 - i = 0 := by omega
      refine ⟨h1, h2, fun x hx j hj => ?_, ?_⟩
      · exact h3 x hx j (by omega)
      · rw [h4, hd, ht, List.sum_cons]; omega
theorem good_of {p : List Int} (h1 : ∀ x ∈ p, 1 ≤ x) (h2 : p.Pairwise (fun a b => b ≤ a)) (h3 : p.sum ≤ 30) : Good p := by
  have hb : ∀ q : List Int, (∀ x ∈ q, 1 ≤ x) → (q.length : Int) ≤ q.sum ∧ ∀ x ∈ q, x ≤ q.sum := by
    intro q
    induction q with
    | nil => intro _; exact ⟨by simp, fun x h => by simp at h⟩
    | cons y r ih =>
      intro h
      obtain ⟨i1, i2⟩ := ih (fun x hx => h x (by simp [hx]))
      have hy := h y (by simp)
      refine ⟨by simp only [List.length_cons, List.sum_cons]; omega, fun x hx => ?_⟩
      rw [List.mem_cons] at hx
      rw [List.sum_cons]
      rcases hx with rfl | hx
      · omega
      · have := i2 x hx; omega
  obtain ⟨l1, l2⟩ := hb p h1
  have gm : ∀ j, j < p.length → p.getD j 0 ∈ p := fun j hj => mem_getD.2 ⟨j, hj, rfl⟩
  refine ⟨by omega, fun j hj => h1 _ (gm j hj), fun j hj => by have := l2 _ (gm j hj); omega, fun j hj => ?_, by omega, h3⟩
  rw [List.pairwise_iff_getElem] at h2
  have := h2 j (j + 1) (by omega) hj (by omega)
  rw [List.getD_eq_getElem?_getD, List.getD_eq_getElem?_getD, List.getElem?_eq_getElem hj, List.getElem?_eq_getElem (show j < p.length by omega)]
  exact this
theorem beads_sum {xs : List Int} (R : Rises 0 1000 xs) : (partsL xs).sum = xs.sum - tri xs.length := by
  have h := (bpk_facts R xs.length (Nat.le_refl _)).2.2.2
  unfold partsL
  rw [h, Nat.sub_self]
  simp [tri]
theorem goodB_of {xs : List Int} (hl : xs.length ≤ 40) (R : Rises 0 1000 xs) (hs : xs.sum ≤ 30 + tri xs.length) : goodB xs = true := by
  obtain ⟨h1, h2, _, _⟩ := bpk_facts R xs.length (Nat.le_refl _)
  refine goodB_iff.2 ⟨hl, R, good_of h1 h2 ?_⟩
  show (partsL xs).sum ≤ 30
  rw [beads_sum R]; omega
theorem goodB_sum {xs : List Int} (G : GoodB xs) : xs.sum ≤ 30 + tri xs.length := by
  have h1 := G.parts.sum
  rw [beads_sum G.rise] at h1
  omega
theorem pw_rises {xs : List Int} (h : xs.Pairwise (· < ·)) (hb : ∀ x ∈ xs, 0 ≤ x ∧ x ≤ 1000) : Rises 0 1000 xs := by
  refine ⟨fun j hj => hb _ (mem_getD.2 ⟨j, hj, rfl⟩), fun j hj => ?_⟩
  rw [List.pairwise_iff_getElem] at h
  have := h j (j + 1) (by omega) hj (by omega)
  rw [List.getD_eq_getElem?_getD, List.getD_eq_getElem?_getD, List.getElem?_eq_getElem hj, List.getElem?_eq_getElem (show j < xs.length by omega)]
  exact this
/-- A bead moved down keeps an abacus one. -/
theorem down_good {t : Nat} {xs : List Int} (ht : 2 ≤ t ∧ t ≤ 6) (G : GoodB xs) {a b : Int} (hg : canGo xs a b = true) (hba : b ≤ a) : isAba t (insF (mvL a b xs)) = true := by
  simp only [canGo, Bool.and_eq_true, decide_eq_true_eq, Bool.not_eq_true', decide_eq_false_iff_not] at hg
  obtain ⟨ha, hb0, hb⟩ := hg
  have hnx := pw_nodup (rise_pw G.rise.up)
  have hnd := mvL_nodup (a := a) hnx hb
  obtain ⟨q1, q2, q3⟩ := insF_all hnd
  have hlen : (insF (mvL a b xs)).length = xs.length := by rw [q3]; simp [mvL]
  have hbd : ∀ x ∈ xs, 0 ≤ x ∧ x ≤ 1000 := fun x hx => by obtain ⟨j, hj, rfl⟩ := mem_getD.1 hx; exact G.rise.bd j hj
  have h2 : goodB (insF (mvL a b xs)) = true := by
    refine goodB_of (by rw [hlen]; exact G.len) (pw_rises q1 fun x hx => ?_) ?_
    · rw [q2 x, mem_mvL ha] at hx
      rcases hx with rfl | ⟨_, hx⟩
      · have := hbd a ha; omega
      · exact hbd x hx
    · rw [hlen, insF_sum, mvL_sum hnx ha]
      have := goodB_sum G
      omega
  unfold isAba
  rw [h2, inB_iff.2 (show (2 : Int) ≤ (t : Int) ∧ (t : Int) ≤ 6 by omega)]; rfl
end Go.Proofs.Ytiebnnchaopbkaa
/-
  Rows on runners: the list of them, and slices of slices that grow each for itself.
-/
namespace Go.Proofs.Ytiebnnchaopbkaa
open Go.RowKit

/-- The rows of the beads on a runner. -/
def rnL (t : Nat) (xs : List Int) (i : Nat) : List Int := (xs.filter fun x => decide (x % (t : Int) = (i : Int))).map fun x => x / (t : Int)
def rnS (t : Nat) (xs : List Int) : List (List Int) := (List.range t).map (rnL t xs)
theorem rnS_len (t : Nat) (xs : List Int) : (rnS t xs).length = t := by simp [rnS]
theorem rnS_get (t : Nat) (xs : List Int) (i : Nat) (h : i < t) : (rnS t xs).getD i [] = rnL t xs i := by simp [rnS, List.getD, h]
theorem rnL_snoc (t : Nat) (xs : List Int) (x : Int) (m i : Nat) (hm : x % (t : Int) = (m : Int)) : rnL t (xs ++ [x]) i = if i = m then rnL t xs i ++ [x / (t : Int)] else rnL t xs i := by
  unfold rnL
  rw [List.filter_append]
  by_cases h : i = m
  · subst h
    rw [if_pos rfl]
    simp [hm]
  · rw [if_neg h]
    have : ¬ (m : Int) = (i : Int) := by omega
    simp [hm, this]
theorem rnS_snoc (t : Nat) (xs : List Int) (x : Int) (m : Nat) (hm : x % (t : Int) = (m : Int)) : (rnS t xs).set m (rnL t xs m ++ [x / (t : Int)]) = rnS t (xs ++ [x]) := by
  apply List.ext_getElem
  · simp [rnS]
  · intro j h1 h2
    rw [List.length_set, rnS_len] at h1
    rw [List.getElem_set]
    simp only [rnS, List.getElem_map, List.getElem_range]
    rw [rnL_snoc t xs x m j hm]
    by_cases e : m = j
    · subst e; simp
    · rw [if_neg e, if_neg (fun h => e h.symm)]
theorem rnL_len (t : Nat) (xs : List Int) (i : Nat) : (rnL t xs i).length ≤ xs.length := by
  unfold rnL; rw [List.length_map]; exact List.length_filter_le _ _

/-- An append onto a slice of the call's own, as one step of a region that draws; it tells where the row lies. -/
theorem step_append_own {P : Program} {ops : Array Oper} {o : Oper} {a : Act} {w : World} {K : Act → World → Prop} {Q : Exit → Act → World → Prop} {E : Prop}
    (hg : o.guard = none) (s x : Operand) (t : TypeId) (hop : o.op = Op.call { callee := Callee.builtin Builtin.append, args := #[s, x], argTypes := #[t, t] })
    (base : Nat) (e : TypeId) (i : TypeInfo) (z : Value) (size bytes : Nat) (h1 : P.underlying t = some (.slice e)) (h2 : P.info? e = some i) (h3 : i.zero = some z) (h4 : i.size = size) (h5 : i.bytes = bytes) (h6 : z.cells.size = size) (h7 : 0 < size)
    (v : Value) (n : Nat) (xs : List Value) (hs : a.eval s = v) (hown : w.ownsRow base e size v n xs)
    (ad : Addr) (m c : Nat) (news : List Value) (hx : a.eval x = .slice (some ad) m c) (hn : news.length = m * size) (hc : ∀ j u, news[j]? = some u → w.cell? (ad.add j) = some u) (h1c : ∀ u ∈ news, u.oneCell' = true)
    (b1 : n + m ≤ maxLen) (b2 : (n + m) * bytes ≤ 140737488355328) (hb : base ≤ w.heap.size)
    (hK : ∀ v' w', w'.ownsRow base e size v' (n + m) (xs ++ news) → w.grownBy w' v.ownBlock → (v'.ownBlock = v.ownBlock ∨ v'.ownBlock = some w.heap.size) → K (a.put o.dst v') w') :
    if Region.wanted o (yielded ops a.tmps) = true then Oper.wp P o a w K Q else E := by
  have hw : Region.wanted o (yielded ops a.tmps) = true := by simp [Region.wanted, hg]
  rw [if_pos hw]
  obtain ⟨v', w', hrun, r1, r2, _, r3⟩ := run_append_own_at (P := P) w base t o.type e i z size bytes h1 h2 h3 h4 h5 h6 h7 v n xs hown ad m c news hn hc h1c b1 b2 hb
  unfold Oper.wp
  simp [execOp, hop, resolve, invoke, builtin, hs, hx, hrun, Result.andThen]
  exact hK v' w' r1 r2 r3

/-- A made slice of slices, each of which grows for itself. -/
structure Gr (w : World) (B g t : Nat) (rows : List (List Int)) (P : Nat → Option Addr) (C : Nat → Nat) : Prop where
  len : rows.length = t
  out : w.ownsRow B 28 1 (.slice (some ⟨g, 0, none⟩) t t) t (RL P C rows)
  row : ∀ j, j < t → Own w B (P j) (C j) (rows.getD j [])
  apart : ∀ i j, i < j → j < t → ∀ b, (P i).map Addr.block = some b → (P j).map Addr.block ≠ some b
theorem Gr.below {w w' : World} {B g t : Nat} {rows : List (List Int)} {P : Nat → Option Addr} {C : Nat → Nat} (h : Gr w B g t rows P C) (hb : Below w.heap.size w w') : Gr w' B g t rows P C :=
  ⟨h.len, ownsRow_keep h.out fun b _ hlt => hb.block b hlt, fun j hj => (h.row j hj).below hb, h.apart⟩
theorem Gr.own2 {w : World} {B g t : Nat} {rows : List (List Int)} {P : Nat → Option Addr} {C : Nat → Nat} (h : Gr w B g t rows P C) : Own2 w B w.heap.size (some ⟨g, 0, none⟩) t rows := by
  refine ⟨P, C, by rw [h.len]; exact h.out, fun b hb => (ownsRow_block h.out b hb).2, fun j hj => h.row j (by rw [← h.len]; exact hj), fun j hj b hb => ((h.row j (by rw [← h.len]; exact hj)).block b hb).2, fun i j hij hj => h.apart i j hij (by rw [← h.len]; exact hj)⟩
theorem RL_set (P : Nat → Option Addr) (C : Nat → Nat) (rows : List (List Int)) (i : Nat) (hi : i < rows.length) (r : List Int) (A : Option Addr) (c : Nat) :
    (RL P C rows).set i (.slice A r.length c) = RL (setAt P i A) (setAt C i c) (rows.set i r) := by
  unfold RL
  apply List.ext_getElem
  · simp
  · intro j h1 h2
    rw [List.getElem_set]
    simp only [List.getElem_map, List.getElem_range]
    by_cases e : i = j
    · subst e
      rw [if_pos rfl, setAt_eq, setAt_eq]
      simp [List.getD, hi]
    · rw [if_neg e, setAt_ne P A (fun h => e h.symm), setAt_ne C c (fun h => e h.symm)]
      simp [List.getD, e]
theorem Gr.outAfter {w w5 : World} {B g t : Nat} {rows : List (List Int)} {P : Nat → Option Addr} {C : Nat → Nat} (h : Gr w B g t rows P C) {i : Nat} (hi : i < t) {o : Obj} (hg : (w.alloc o).grownBy w5 ((P i).map Addr.block)) :
    w5.ownsRow B 28 1 (.slice (some ⟨g, 0, none⟩) t t) t (RL P C rows) := by
  refine ownsRow_keep h.out fun b hb hlt => ?_
  have hbg : b = g := by simpa using hb.symm
  subst hbg
  rw [hg.block b (by simp; omega) (fun e => row_ne h.out (h.row i hi) e.symm)]; exact Below.heap_alloc _ _ _ hlt
theorem Gr.push {w w5 : World} {B g t : Nat} {rows : List (List Int)} {P : Nat → Option Addr} {C : Nat → Nat} (h : Gr w B g t rows P C) {i : Nat} (hi : i < t) {o : Obj} {A' : Option Addr} {c' : Nat} {r : List Int}
    (ho : Own w5 B A' c' r) (hg : (w.alloc o).grownBy w5 ((P i).map Addr.block)) (hat : A'.map Addr.block = (P i).map Addr.block ∨ A'.map Addr.block = some (w.alloc o).heap.size) :
    Gr (w5.setCell ⟨g, i, none⟩ (.slice A' r.length c')) B g t (rows.set i r) (setAt P i A') (setAt C i c') := by
  have hil : i < rows.length := by rw [h.len]; exact hi
  have hgne : ∀ {w' : World} {A : Option Addr} {c : Nat} {x : List Int}, w'.ownsRow B 28 1 (.slice (some ⟨g, 0, none⟩) t t) t (RL P C rows) → Own w' B A c x → A.map Addr.block ≠ some g := fun h1 h2 => row_ne h1 h2
  have keepO : ∀ b, b < w.heap.size → some b ≠ (P i).map Addr.block → w5.heap[b]? = w.heap[b]? := fun b hb hne => by
    rw [hg.block b (by simp; omega) hne]; exact Below.heap_alloc _ _ _ hb
  have hout5 : w5.ownsRow B 28 1 (.slice (some ⟨g, 0, none⟩) t t) t (RL P C rows) := by
    refine ownsRow_keep h.out fun b hb hlt => keepO b hlt (fun e => ?_)
    have hbg : b = g := by simpa using hb.symm
    subst hbg
    exact hgne h.out (h.row i hi) e.symm
  refine ⟨by rw [List.length_set]; exact h.len, ?_, fun j hj => ?_, fun a b hab hb c hc => ?_⟩
  · have hst := (World.ownsRow.stored hout5 i (.slice A' r.length c')).1
    rw [RL_set P C rows i hil r A' c'] at hst
    exact hst
  · by_cases e : j = i
    · subst e
      rw [setAt_eq, setAt_eq]
      have : (rows.set j r).getD j [] = r := by simp [List.getD, hil]
      rw [this]
      exact ho.keep fun b hb _ => Below.heap_setCell _ _ _ b (fun e2 => hgne hout5 ho (by rw [hb]; exact congrArg some e2))
    · rw [setAt_ne P A' e, setAt_ne C c' e]
      have : (rows.set i r).getD j [] = rows.getD j [] := by
        rw [List.getD_eq_getElem?_getD, List.getD_eq_getElem?_getD, List.getElem?_set_ne (fun hh => e hh.symm)]
      rw [this]
      have hj0 := h.row j hj
      have h5 : Own w5 B (P j) (C j) (rows.getD j []) := hj0.keep fun b hb hlt => keepO b hlt (fun e2 => by
        rcases Nat.lt_or_gt_of_ne e with hlt' | hgt'
        · exact h.apart j i hlt' hi b hb e2.symm
        · exact h.apart i j hgt' hj b e2.symm hb)
      exact h5.keep fun b hb _ => Below.heap_setCell _ _ _ b (fun e2 => hgne hout5 h5 (by rw [hb]; exact congrArg some e2))
  · have old : ∀ j, j < t → ∀ b, (P j).map Addr.block = some b → b < w.heap.size := fun j hj b hb => ((h.row j hj).block b hb).2
    by_cases ea : a = i
    · subst ea
      rw [setAt_eq] at hc
      rw [setAt_ne P A' (by omega)]
      intro hbb
      rcases hat with h1 | h1
      · rw [h1] at hc; exact h.apart a b hab hb c hc hbb
      · rw [h1] at hc; injection hc with hc; have := old b hb c hbb; simp at hc; omega
    · rw [setAt_ne P A' ea] at hc
      by_cases eb : b = i
      · subst eb
        rw [setAt_eq]
        intro hbb
        rcases hat with h1 | h1
        · rw [h1] at hbb; exact h.apart a b hab hb c hc hbb
        · rw [h1] at hbb; injection hbb with hbb; have := old a (by omega) c hc; simp at hbb; omega
      · rw [setAt_ne P A' eb]
        exact h.apart a b hab hb c hc
end Go.Proofs.Ytiebnnchaopbkaa
/-
  Contracts: the rows of a runner, and RunnersOf, of the program.
-/
namespace Go.Proofs.Ytiebnnchaopbkaa
open Go.RowKit

def rwL (f : Nat → Bool) (k : Nat) : List Int := ((List.range k).filter f).map fun r : Nat => (r : Int)
theorem rwL_t {f : Nat → Bool} {k : Nat} (h : f k = true) : rwL f (k + 1) = rwL f k ++ [(k : Int)] := by
  unfold rwL; rw [List.range_succ, List.filter_append, List.map_append, List.filter_cons_of_pos h]; rfl
theorem rwL_f {f : Nat → Bool} {k : Nat} (h : f k = false) : rwL f (k + 1) = rwL f k := by
  unfold rwL; rw [List.range_succ, List.filter_append, List.filter_cons_of_neg (by rw [h]; exact Bool.false_ne_true), List.filter_nil, List.append_nil]
theorem rwL_len (f : Nat → Bool) (k : Nat) : (rwL f k).length ≤ k := by
  unfold rwL
  rw [List.length_map]
  have := List.length_filter_le f (List.range k)
  rw [List.length_range] at this; exact this

theorem Try.infoBool : (Try.prog.info? 4).map (fun i => i.size) = some 1 := by kernel_rfl
theorem run_index_rn (f : Nat → Bool) (k : Nat) (hk : k < 36) (w : World) : (Instr.index 69 (.agg (ca 36 (bitV f))) (.int .i64 (k : Int))).run Try.prog w = .ok (.bool (f k)) w := by
  have hix : (ca 36 (bitV f))[k]? = some (.bool (f k)) := ca_get 36 (bitV f) k hk
  cases hi : Try.prog.info? 4 with
  | none => have h := Try.infoBool; rw [hi] at h; cases h
  | some i =>
    have hs : i.size = 1 := by have h := Try.infoBool; rw [hi] at h; injection h
    simp [Instr.index, asIntOf, run_underlying Try.underlying69, hk, sizeOf, typeInfo, part, isAgg, run_underlying Try.underlying4, hi, hs, hix]

end Go.Proofs.Ytiebnnchaopbkaa
/-
  Contracts: the rows of the runners, of the model.
-/
namespace Go.Proofs.Ytiebnnchaopbkaa
open Go.RowKit

theorem Try.infoInts2 : (Try.prog.info? 28).map (fun i => (i.zero, i.size, i.bytes)) = some (some (.slice none 0 0), 1, 24) := by kernel_rfl
theorem take_snoc' (ys : List Int) (k : Nat) (h : k < ys.length) : ys.take (k + 1) = ys.take k ++ [ys.getD k 0] := by
  rw [List.take_succ_eq_append_getElem h]; simp [List.getD, h]
theorem ownBlock_slice (A : Option Addr) (n c : Nat) : (Value.slice A n c).ownBlock = A.map Addr.block := by cases A <;> rfl
theorem gr_start (w : World) (t : Nat) (ht : t ≤ 6) : Gr (w.alloc (.cells (madeCells #[.slice none 0 0] t) 28)) w.heap.size w.heap.size t (rnS t []) (fun _ => none) (fun _ => 0) := by
  refine ⟨rnS_len _ _, ?_, fun j hj => ?_, fun i j _ _ b hb => by simp at hb⟩
  · have h := World.ownsRow_lit (base := w.heap.size) (e := 28) (size := 1) w (madeCells #[.slice none 0 0] t) t (Nat.le_refl _) (by unfold maxLen; omega) (by rw [size_madeCells]; simp)
    rw [toList_madeCells_one] at h
    have e : RL (fun _ => none) (fun _ => 0) (rnS t []) = List.replicate t (.slice none 0 0) := by
      unfold RL
      rw [rnS_len]
      apply List.ext_getElem
      · simp
      · intro j h1 h2
        simp only [List.length_map, List.length_range] at h1
        simp only [List.getElem_map, List.getElem_range, List.getElem_replicate]
        rw [rnS_get t [] j h1]; rfl
    rw [e]; exact h
  · rw [rnS_get t [] j hj]; exact own_nil _ _

end Go.Proofs.Ytiebnnchaopbkaa
/-
  Contracts: RunnersOf of the program.
-/
namespace Go.Proofs.Ytiebnnchaopbkaa
open Go.RowKit

theorem Gr.place {w w5 : World} {B g t : Nat} {rows : List (List Int)} {P : Nat → Option Addr} {C : Nat → Nat} (h : Gr w B g t rows P C) {i : Nat} (hi : i < t) {A' : Option Addr} {c' : Nat} {r : List Int}
    (hb : Below w.heap.size w w5) (ho : Own w5 w.heap.size A' c' r) (hB : B ≤ w.heap.size) :
    Gr (w5.setCell ⟨g, i, none⟩ (.slice A' r.length c')) B g t (rows.set i r) (setAt P i A') (setAt C i c') := by
  have hil : i < rows.length := by rw [h.len]; exact hi
  have h5 := h.below hb
  have ho' := ho.more hB
  have hgne : ∀ {A : Option Addr} {c : Nat} {x : List Int}, Own w5 B A c x → A.map Addr.block ≠ some g := fun h2 => row_ne h5.out h2
  refine ⟨by rw [List.length_set]; exact h.len, ?_, fun j hj => ?_, fun a b hab hb' c hc => ?_⟩
  · have hst := (World.ownsRow.stored h5.out i (.slice A' r.length c')).1
    rw [RL_set P C rows i hil r A' c'] at hst
    exact hst
  · by_cases e : j = i
    · subst e
      rw [setAt_eq, setAt_eq]
      have : (rows.set j r).getD j [] = r := by simp [List.getD, hil]
      rw [this]
      exact ho'.keep fun b hb _ => Below.heap_setCell _ _ _ b (fun e2 => hgne ho' (by rw [hb]; exact congrArg some e2))
    · rw [setAt_ne P A' e, setAt_ne C c' e]
      have : (rows.set i r).getD j [] = rows.getD j [] := by
        rw [List.getD_eq_getElem?_getD, List.getD_eq_getElem?_getD, List.getElem?_set_ne (fun hh => e hh.symm)]
      rw [this]
      have hj5 := h5.row j hj
      exact hj5.keep fun b hb _ => Below.heap_setCell _ _ _ b (fun e2 => hgne hj5 (by rw [hb]; exact congrArg some e2))
  · have old : ∀ j, j < t → ∀ b, (P j).map Addr.block = some b → b < w.heap.size := fun j hj b hb => ((h.row j hj).block b hb).2
    have new : ∀ b, A'.map Addr.block = some b → w.heap.size ≤ b := fun b hb => (ho.block b hb).1
    by_cases ea : a = i
    · subst ea
      rw [setAt_eq] at hc
      rw [setAt_ne P A' (by omega)]
      intro hbb
      have := new c hc; have := old b hb' c hbb; omega
    · rw [setAt_ne P A' ea] at hc
      by_cases eb : b = i
      · subst eb
        rw [setAt_eq]
        intro hbb
        have := new c hbb; have := old a (by omega) c hc; omega
      · rw [setAt_ne P A' eb]
        exact h.apart a b hab hb' c hc
def midR (f : Nat → List Int) (t k : Nat) : List (List Int) := (List.range t).map fun j => if j < k then f j else []
theorem midR_len (f : Nat → List Int) (t k : Nat) : (midR f t k).length = t := by simp [midR]
theorem midR_set (f : Nat → List Int) (t k : Nat) : (midR f t k).set k (f k) = midR f t (k + 1) := by
  apply List.ext_getElem
  · simp [midR]
  · intro j h1 h2
    rw [List.getElem_set]
    simp only [midR, List.getElem_map, List.getElem_range]
    by_cases e : k = j
    · subst e; simp
    · rw [if_neg e]
      by_cases h3 : j < k
      · rw [if_pos h3, if_pos (by omega)]
      · rw [if_neg h3, if_neg (by omega)]
theorem midR_zero (f : Nat → List Int) (t : Nat) : midR f t 0 = rnS t [] := by simp [midR, rnS, rnL]
theorem midR_all (f : Nat → List Int) (t : Nat) : midR f t t = (List.range t).map f := by
  unfold midR
  exact List.map_congr_left fun j hj => by rw [if_pos (List.mem_range.1 hj)]

theorem div_lt_of_mod {t : Nat} (ht : 0 < t) {a b : Int} (hm : a % (t : Int) = b % (t : Int)) (hab : a < b) : a / (t : Int) < b / (t : Int) := by
  have h1 := Int.mul_ediv_add_emod a t
  have h2 := Int.mul_ediv_add_emod b t
  have hlt : (t : Int) * (a / t) < (t : Int) * (b / t) := by omega
  exact Int.lt_of_mul_lt_mul_left hlt (by omega)
theorem rn_same {t : Nat} {xs : List Int} (ht : 2 ≤ t ∧ t ≤ 6) (G : GoodB xs) {i : Nat} (hi : i < t) : rwL (lnB (bitsK t xs xs.length) i) 36 = rnL t xs i := by
  have hbd : ∀ j, j < xs.length → 0 ≤ xs.getD j 0 ∧ xs.getD j 0 < (t : Int) * 36 := fun j hj => by have := G.top hj; omega
  refine pw_ext ?_ ?_ fun x => ?_
  · unfold rwL
    rw [List.pairwise_map]
    refine List.Pairwise.imp ?_ ((List.pairwise_lt_range).filter _)
    intro a b hab; omega
  · unfold rnL
    rw [List.pairwise_map]
    have hp : (xs.filter fun x => decide (x % (t : Int) = (i : Int))).Pairwise (· < ·) := (rise_pw G.rise.up).filter _
    refine List.Pairwise.imp_of_mem ?_ hp
    intro a b ha hb hab
    have h1 := (List.mem_filter.1 ha).2
    have h2 := (List.mem_filter.1 hb).2
    rw [decide_eq_true_eq] at h1 h2
    exact div_lt_of_mod (by omega) (by rw [h1, h2]) hab
  · unfold rwL rnL
    rw [List.mem_map, List.mem_map]
    constructor
    · rintro ⟨r, hr, rfl⟩
      obtain ⟨h1, h2⟩ := List.mem_filter.1 hr
      have hr36 := List.mem_range.1 h1
      have hn1 : (t * r + i) % t = i := by rw [Nat.mul_add_mod, Nat.mod_eq_of_lt hi]
      have hn2 : (t * r + i) / t = r := by rw [Nat.mul_add_div (by omega), Nat.div_eq_of_lt hi]; omega
      have hlt : t * r + i < t * 36 := by
        have : t * (r + 1) ≤ t * 36 := Nat.mul_le_mul_left _ (by omega)
        rw [Nat.mul_add, Nat.mul_one] at this; omega
      have hb := bits_at (t := t) (by omega) hbd hlt
      have hq : atQ t (t * r + i) = 36 * i + r := by unfold atQ; rw [hn1, hn2]
      rw [hq] at hb
      unfold lnB at h2
      rw [hb, decide_eq_true_eq] at h2
      refine ⟨_, List.mem_filter.2 ⟨h2, ?_⟩, ?_⟩
      · rw [decide_eq_true_eq]; exact congrArg Int.ofNat hn1
      · exact congrArg Int.ofNat hn2
    · rintro ⟨y, hy, rfl⟩
      obtain ⟨h1, h2⟩ := List.mem_filter.1 hy
      rw [decide_eq_true_eq] at h2
      obtain ⟨j, hj, e⟩ := mem_getD.1 h1
      have hyb := hbd j hj
      rw [e] at hyb
      obtain ⟨n, rfl⟩ : ∃ n : Nat, y = n := ⟨y.toNat, by omega⟩
      have hn : n < t * 36 := by omega
      have hmod : n % t = i := by have : ((n % t : Nat) : Int) = (i : Int) := h2; omega
      have hb := bits_at (t := t) (by omega) hbd hn
      rw [decide_eq_true h1] at hb
      refine ⟨n / t, List.mem_filter.2 ⟨List.mem_range.2 (by rw [Nat.div_lt_iff_lt_mul (by omega), Nat.mul_comm]; exact hn), ?_⟩, rfl⟩
      unfold lnB; unfold atQ at hb; rw [hmod] at hb; exact hb
def roF (r : Int) (xs : List Int) : List (List Int) := if isAba r xs then rnS r.toNat xs else []
theorem bound_RunnersOf (r : Int) (xs : List Int) : (roF r xs).length ≤ 1048576 ∧ tot (roF r xs) ≤ 1048576 := by
  unfold roF
  split
  · rename_i h
    simp only [isAba, Bool.and_eq_true] at h
    have h1 := inB_iff.1 h.1
    have h2 := (goodB_iff.1 h.2).len
    refine ⟨by rw [rnS_len]; omega, ?_⟩
    have key : ∀ (l : List Nat), tot (l.map (rnL r.toNat xs)) ≤ l.length * xs.length := by
      intro l
      induction l with
      | nil => simp [tot]
      | cons a q ih =>
        have := rnL_len r.toNat xs a
        simp only [List.map_cons, tot, List.length_cons, Nat.add_mul]
        omega
    have := key (List.range r.toNat)
    rw [List.length_range] at this
    have h3 : r.toNat * xs.length ≤ 6 * 40 := Nat.mul_le_mul (by omega) h2
    unfold rnS; omega
  · simp [tot]
end Go.Proofs.Ytiebnnchaopbkaa
