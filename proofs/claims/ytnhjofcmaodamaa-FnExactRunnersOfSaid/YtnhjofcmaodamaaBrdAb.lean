/-
  Contracts: the abacus of a board.
-/
import Derived.Test.YtnhjofcmaodamaaMovF
import Derived.Test.YtnhjofcmaodamaaAbaOf
namespace Go.Proofs.Ytnhjofcmaodamaa
open Go.RowKit

/-- The beads of a board, one after the other. -/
def bdL (t : Nat) (F : Nat → Bool) (k : Nat) : List Int := ((List.range k).filter fun x => F (atQ t x)).map fun x : Nat => (x : Int)
theorem bdL_succ_t {t : Nat} {F : Nat → Bool} {k : Nat} (h : F (atQ t k) = true) : bdL t F (k + 1) = bdL t F k ++ [(k : Int)] := by
  unfold bdL
  rw [List.range_succ, List.filter_append, List.map_append, List.filter_cons_of_pos (p := fun x => F (atQ t x)) h]; rfl
theorem bdL_succ_f {t : Nat} {F : Nat → Bool} {k : Nat} (h : F (atQ t k) = false) : bdL t F (k + 1) = bdL t F k := by
  unfold bdL
  rw [List.range_succ, List.filter_append, List.filter_cons_of_neg (p := fun x => F (atQ t x)) (by show ¬ F (atQ t k) = true; rw [h]; exact Bool.false_ne_true), List.filter_nil, List.append_nil]
theorem bdL_len (t : Nat) (F : Nat → Bool) (k : Nat) : (bdL t F k).length ≤ k := by
  unfold bdL
  rw [List.length_map]
  have := List.length_filter_le (fun x => F (atQ t x)) (List.range k)
  rw [List.length_range] at this; exact this
def abL (t : Nat) (F : Nat → Bool) : List Int := bdL t F (t * 36)

/-- What a board's abacus is: none where it is too large. -/
def abT (t : Nat) (F : Nat → Bool) : Int := if isAba t (abL t F) then (t : Int) else 0
def abX (t : Nat) (F : Nat → Bool) : List Int := if isAba t (abL t F) then abL t F else []
theorem own_set_other {w : World} {B g k : Nat} {v u : Value} {n : Nat} {xs : List Value} (h : w.ownsRow B 3 1 v n xs) (hg : g < B) : (w.setCell ⟨g, k, none⟩ u).ownsRow B 3 1 v n xs := by
  refine ⟨h.1, ?_⟩
  rcases h.2 with hn | ⟨g1, cap, cur, hv, hb, hgg, rest⟩
  · exact .inl hn
  · exact .inr ⟨g1, cap, cur, hv, hb, by rw [Below.heap_setCell _ _ _ g1 (by show g1 ≠ g; omega)]; exact hgg, rest⟩

set_option maxRecDepth 100000 in
set_option maxHeartbeats 4000000 in
theorem brdAb_any (t : Nat) (F : Nat → Bool) (w : World) (ht : 2 ≤ t ∧ t ≤ 6) :
    Calls Try.prog 89 #[bdV t F] w fun e w' => ∃ A' c', e = .returned (.tuple #[.agg #[.int .i64 (abT t F), .slice A' (abX t F).length c'], .bool (isAba t (abL t F))]) ∧ Own w' w.heap.size A' c' (abX t F) ∧ Below w.heap.size w w' := by
  obtain ⟨i0, hi, hz0, hz1, hz2⟩ := info_parts Try.infoInt
  unfold bdV
  have hne : ¬ (t : Int) = 0 := by omega
  obtain ⟨w0, hw0⟩ : ∃ w0, w0 = w.alloc (.cells (ca 217 (brdV t F)) 77) := ⟨_, rfl⟩
  have x1 : Blk w0 w.heap.size 77 217 (brdV t F) := by rw [hw0]; exact Blk.new w 77 217 (brdV t F)
  have hs0 : w0.heap.size = w.heap.size + 1 := by rw [hw0]; simp
  have hc0 : ((w0.alloc (.cells #[.int .i64 0, .slice none 0 0] 26))).cell? ⟨w.heap.size, 0, none⟩ = some (.int .i64 t) := (x1.alloc _).cell (k := 0) (by omega)
  have hb0 : Below w.heap.size w w0 := by rw [hw0]; exact (Below.refl _ _).alloc (Nat.le_refl _) _
  obtain ⟨w1, hw1⟩ : ∃ w1, w1 = (w0.alloc (.cells #[.int .i64 0, .slice none 0 0] 26)).alloc (.cells #[.int .i64 t, .slice none 0 0] 26) := ⟨_, rfl⟩
  have X1 : Hid (Blk w1 w.heap.size 77 217 (brdV t F)) := hid (by rw [hw1]; exact (x1.alloc _).alloc _)
  have Y1 : Hid (Box2 w1 (w.heap.size + 1) 26 (.int .i64 0) (.slice none 0 0)) := hid (by
    have h := (Box2.new w0 26 (.int .i64 0) (.slice none 0 0)).alloc (.cells #[.int .i64 t, .slice none 0 0] 26)
    rw [hs0] at h; rw [hw1]; exact h)
  have Z1 : Hid (Box2 w1 (w.heap.size + 1 + 1) 26 (.int .i64 t) (.slice none 0 0)) := hid (by
    have h := Box2.new (w0.alloc (.cells #[.int .i64 0, .slice none 0 0] 26)) 26 (.int .i64 t) (.slice none 0 0)
    rw [World.size_alloc, hs0] at h; rw [hw1]; exact h)
  have hb1 : Below w.heap.size w w1 := by rw [hw1]; exact (hb0.alloc (by omega) _).alloc (by simp; omega) _
  have hs1 : w1.heap.size = w.heap.size + 1 + 1 + 1 := by rw [hw1]; simp; omega
  rw [hw0] at hc0 hw1
  have HW := hid hw1
  clear hw0 hw1 x1
  go_enter Try.func89, Try.ntmps89
  go_wp2_with fail
  rw [← HW.out]
  clear hc0 HW
  go_loopw [12] (fun i wr => ∃ k : Nat, k ≤ t * 36 ∧ i = .int .i64 k ∧ (∃ v, Hid (wr.ownsRow (w.heap.size + 1 + 1 + 1) 3 1 v (bdL t F k).length (IL (bdL t F k))) ∧ Hid (Box2 wr (w.heap.size + 1 + 1) 26 (.int .i64 t) v)) ∧ Hid (Blk wr w.heap.size 77 217 (brdV t F)) ∧ Hid (Box2 wr (w.heap.size + 1) 26 (.int .i64 0) (.slice none 0 0)) ∧ Below w.heap.size w wr ∧ w1.heap.size ≤ wr.heap.size) (fun i _ => t * 36 - (intOf i).toNat)
  case atStart => exact ⟨0, Nat.zero_le _, rfl, ⟨_, hid (World.ownsRow_nil _ _ _ _), Z1⟩, X1, Y1, hb1, Nat.le_refl _⟩
  case round =>
    obtain ⟨k, hk, rfl, ⟨v, HO, HZ⟩, HX, HY, hbel, hsz⟩ := hrel
    clear X1 Y1 Z1
    have hll := bdL_len t F k
    by_cases hlt : k < t * 36
    · have hml : k % t < t := Nat.mod_lt _ (by omega)
      have hdl : k / t < 36 := by rw [Nat.div_lt_iff_lt_mul (by omega)]; omega
      have htm : Int.tmod (k : Int) (t : Int) = ((k % t : Nat) : Int) := by rfl
      have htd : Int.tdiv (k : Int) (t : Int) = ((k / t : Nat) : Int) := by rfl
      have hat : atQ t k = 36 * (k % t) + k / t := rfl
      obtain ⟨i, hie⟩ : ∃ i, i = k % t := ⟨_, rfl⟩
      obtain ⟨r, hr⟩ : ∃ r, r = k / t := ⟨_, rfl⟩
      rw [← hie] at hml htm hat
      rw [← hr] at hdl htd hat
      have hi6 : i < 6 := by omega
      have f0 : wr.drew.cell? ⟨w.heap.size, 0, none⟩ = some (.int .i64 t) := HX.out.cell (k := 0) (by omega)
      have f1 : wr.drew.cell? ⟨w.heap.size, 1 + i * 36 + r, none⟩ = some (.bool (F (atQ t k))) := by
        have h := HX.out.cell (k := 1 + i * 36 + r) (by omega)
        have e : brdV (t : Int) F (1 + i * 36 + r) = .bool (F (atQ t k)) := by unfold brdV; rw [if_neg (by omega), hat]; congr 2; omega
        rw [e] at h; exact h
      have f3 : wr.drew.cell? ⟨w.heap.size + 1 + 1, 1, none⟩ = some v := HZ.out.cell1
      have hO : wr.drew.ownsRow (w.heap.size + 1 + 1 + 1) 3 1 v (bdL t F k).length (IL (bdL t F k)) := HO.out
      have HXd : Hid (Blk wr.drew w.heap.size 77 217 (brdV t F)) := HX
      have HYd : Hid (Box2 wr.drew (w.heap.size + 1) 26 (.int .i64 0) (.slice none 0 0)) := HY
      have HZd : Hid (Box2 wr.drew (w.heap.size + 1 + 1) 26 (.int .i64 t) v) := HZ
      have hbd : Below w.heap.size w wr.drew := below_drewN hbel 1
      have hszd : w1.heap.size ≤ wr.drew.heap.size := hsz
      have HOd := hid hO
      clear hat hie hr hO
      cases hF : F (atQ t k)
      · have HS := hid (bdL_succ_f hF)
        rw [hF] at f1
        clear hF
        go_wp2_with fail
        go_region
        go_wp2_with fail
        go_roundw
        case rel => exact ⟨k + 1, by omega, by go_num, ⟨v, by rw [HS.out]; exact HOd, HZd⟩, HXd, HYd, hbd, hszd⟩
        case measure => simp [intOf]; omega
      · have HS := hid (bdL_succ_t hF)
        rw [hF] at f1
        obtain ⟨L, hL⟩ : ∃ L, L = bdL t F k := ⟨_, rfl⟩
        rw [← hL] at HOd hll HS
        clear hF hL
        have hlen : L.length ≤ 216 := by omega
        go_wp2_with fail
        go_region
        go_wp2_with (at_builtin; refine wpList_append_own _ rfl _ _ 22 rfl (w.heap.size + 1 + 1 + 1) 3 i0 (.int .i64 0) 1 8 Try.underlying22 hi hz0 hz1 hz2 rfl (by decide) _ _ _ rfl (HOd.out.alloc _) ⟨wr.drew.heap.size, 0, none⟩ 1 1 [.int .i64 (k : Int)] rfl rfl one_at (one_cell _) (by unfold maxLen; omega) (by omega) (by simp; omega) ?_)
        intro v' w5 hown' hgrow0 _
        have hgrow : (wr.drew.alloc (.cells #[.int .i64 (k : Int)] 3)).grownBy w5 v.ownBlock := hgrow0
        have hb5 : Below w.heap.size w w5 := (hbd.alloc hbd.size _).grown hgrow (by have := hbd.size; simp; omega) (fun q hq => by have := (HOd.out.lt q hq).1; omega)
        have hsz5 : w1.heap.size ≤ w5.heap.size := by have := hgrow.size; simp at this; omega
        obtain ⟨A5, c5, rfl, hown2⟩ := own_form (own_snoc HS.out hown') rfl
        unfold Own at hown2
        have HX5 := hid (HXd.out.keepG hgrow (fun e => own_ne_blk HOd.out HXd.out e))
        have HY5 := HYd.out.keepG hgrow (fun e => own_ne_box HOd.out HYd.out e)
        have HZ5 := HZd.out.keepG hgrow (fun e => own_ne_box HOd.out HZd.out e)
        have g1 := HZ5.cell1
        have g2 := HZ5.froz 1
        have HO6 := hid (own_set_other (g := w.heap.size + 1 + 1) (k := 1) (u := .slice A5 (bdL t F (k + 1)).length c5) hown2 (by omega))
        have HX6 := hid (HX5.out.other (g' := w.heap.size + 1 + 1) (k := 1) (by omega) (.slice A5 (bdL t F (k + 1)).length c5))
        have HY6 := hid (HY5.other (g' := w.heap.size + 1 + 1) (k := 1) (by omega) (.slice A5 (bdL t F (k + 1)).length c5))
        have HZ6 := hid (HZ5.set1 (.slice A5 (bdL t F (k + 1)).length c5))
        have hb6 : Below w.heap.size w (w5.setCell ⟨w.heap.size + 1 + 1, 1, none⟩ (.slice A5 (bdL t F (k + 1)).length c5)) := hb5.setCell (by simp; omega) _
        have hsz6 : w1.heap.size ≤ (w5.setCell ⟨w.heap.size + 1 + 1, 1, none⟩ (.slice A5 (bdL t F (k + 1)).length c5)).heap.size := by simp; omega
        obtain ⟨n, hn⟩ : ∃ n, n = (bdL t F (k + 1)).length := ⟨_, rfl⟩
        obtain ⟨M, hM⟩ : ∃ M, M = bdL t F (k + 1) := ⟨_, rfl⟩
        clear hown' hgrow hgrow0 hown2 HY5 HZ5
        go_wp2_with fail
        go_roundw
        case rel => exact ⟨k + 1, by omega, by go_num, ⟨_, HO6, HZ6⟩, HX6, HY6, hb6, hsz6⟩
        case measure => simp [intOf]; omega
    · have hkl : k = t * 36 := by omega
      subst hkl
      obtain ⟨L, hL⟩ : ∃ L, L = bdL t F (t * 36) := ⟨_, rfl⟩
      rw [← hL] at HO hll
      have hLab : abL t F = L := hL.symm
      obtain ⟨A, c, rfl, ho⟩ := own_form HO.out rfl
      have f3 := HZ.out.cell0
      have f4 := HZ.out.cell1
      have HO2 := hid ho
      cases hg : isAba t L
      · have hT : abT t F = 0 := by unfold abT; rw [hLab, hg]; rfl
        have hX : abX t F = [] := by unfold abX; rw [hLab, hg]; rfl
        have HT := hid hT; have HXX := hid hX; have HLA := hid (show isAba t (abL t F) = false by rw [hLab]; exact hg)
        have HG := hid hg
        clear hL hLab hg hT hX ho
        go_wp2_with fail
        refine (IsAbacus_b _ _ _ _ _ (by omega) HO2.out.cells _ HG.out).mono ?_
        rintro e w6 ⟨rfl, b6⟩
        have y1 := HY.out.next b6
        have f5 := y1.cell0
        have f6 := y1.froz 0
        have y2 := y1.set0 (.int .i64 0)
        have f7 := y2.cell1
        have f8 := y2.froz 1
        have Y3 := hid (y2.set1 (.slice none 0 0))
        clear y1 y2
        go_wp2_with fail
        refine bodyPost_ret (results_cell2 rfl _ _ _ (w.heap.size + 1) 26 #[.int .i64 0, .slice none 0 0] (0, 0) _ rfl Y3.out Try.underlying26 rfl (by kernel_rfl)) rfl ⟨none, 0, by rw [HT.out, HXX.out, HLA.out]; rfl, by rw [HXX.out]; exact own_nil _ _, ((Below.next hbel b6).setCell (by simp) _).setCell (by simp) _⟩
      · have hT : abT t F = t := by unfold abT; rw [hLab, hg]; rfl
        have hX : abX t F = L := by unfold abX; rw [hLab, hg]; rfl
        have HT := hid hT; have HXX := hid hX; have HLA := hid (show isAba t (abL t F) = true by rw [hLab]; exact hg)
        have HG := hid hg
        clear hL hLab hg hT hX ho
        go_wp2_with fail
        refine (IsAbacus_b _ _ _ _ _ (by omega) HO2.out.cells _ HG.out).mono ?_
        rintro e w6 ⟨rfl, b6⟩
        have y1 := HY.out.next b6
        have f5 := y1.cell0
        have f6 := y1.froz 0
        have z6 := HZ.out.next b6
        have f9 := z6.cell0
        have f10 := z6.cell1
        have y2 := y1.set0 (.int .i64 t)
        have f7 := y2.cell1
        have f8 := y2.froz 1
        have Y3 := hid (y2.set1 (.slice A L.length c))
        have HO6 := hid (own_set_other (g := w.heap.size + 1) (k := 1) (u := .slice A L.length c) (own_set_other (g := w.heap.size + 1) (k := 0) (u := .int .i64 t) (HO2.out.below b6) (by omega)) (by omega))
        clear y1 y2 z6
        go_wp2_with fail
        refine bodyPost_ret (results_cell2 rfl _ _ _ (w.heap.size + 1) 26 #[.int .i64 t, .slice A L.length c] (0, 0) _ rfl Y3.out Try.underlying26 rfl (by kernel_rfl)) rfl ⟨A, c, by rw [HT.out, HXX.out, HLA.out]; rfl, by rw [HXX.out]; exact Own.more HO6.out (by omega), ((Below.next hbel b6).setCell (by simp) _).setCell (by simp) _⟩
end Go.Proofs.Ytnhjofcmaodamaa
