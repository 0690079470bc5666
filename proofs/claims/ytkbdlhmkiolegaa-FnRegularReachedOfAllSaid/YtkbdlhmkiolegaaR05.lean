/-
  Several texts in one.
-/
import Derived.Test.YtkbdlhmkiolegaaR04
import Derived.Test.YtkbdlhmkiolegaaCC
import Derived.Test.YtkbdlhmkiolegaaCB
import Derived.Test.YtkbdlhmkiolegaaCA
import Derived.Deep.RegionWith
import Derived.Deep.CutRange
/-
  Contract: the program's walk along the rim of a cell.
-/
namespace Go.Proofs.Ytkbdlhmkiolegaa
open Go.RowKit

def PL (L : List (Nat × Nat)) : List Value := L.flatMap fun q => [.int .i64 (q.1 : Int), .int .i64 (q.2 : Int)]
theorem PL_snoc (L : List (Nat × Nat)) (a b : Nat) : PL L ++ [.int .i64 (a : Int), .int .i64 (b : Int)] = PL (L ++ [(a, b)]) := by simp [PL]
theorem PL_len (L : List (Nat × Nat)) : (PL L).length = L.length * 2 := by
  induction L with
  | nil => rfl
  | cons q t ih => simp only [PL, List.flatMap_cons, List.length_append, List.length_cons, List.length_nil] at ih ⊢; omega
theorem PL_get : ∀ (L : List (Nat × Nat)) (j : Nat), j < L.length → (PL L)[2 * j]? = some (.int .i64 ((L.getD j (0, 0)).1 : Int)) ∧ (PL L)[2 * j + 1]? = some (.int .i64 ((L.getD j (0, 0)).2 : Int))
  | [], j, h => absurd h (by simp)
  | q :: t, 0, _ => by simp [PL]
  | q :: t, j + 1, h => by
    have := PL_get t j (by simpa using h)
    have e : PL (q :: t) = [.int .i64 (q.1 : Int), .int .i64 (q.2 : Int)] ++ PL t := by simp [PL]
    rw [e, List.getElem?_append_right (by simp; omega), List.getElem?_append_right (by simp; omega)]
    simp only [List.length_cons, List.length_nil, List.getD_cons_succ]
    rw [show 2 * (j + 1) - (0 + 1 + 1) = 2 * j by omega, show 2 * (j + 1) + 1 - (0 + 1 + 1) = 2 * j + 1 by omega]
    exact this
theorem Try.infoPlace : (Try.prog.info? 100).map (fun i => (i.zero, i.size, i.bytes)) = some (some (.agg #[.int .i64 0, .int .i64 0]), 2, 16) := by kernel_rfl
theorem two_at {w : World} {x y : Value} {t : TypeId} (j : Nat) (u : Value) (h : [x, y][j]? = some u) : (w.alloc (.cells #[x, y] t)).cell? ((⟨w.heap.size, 0, none⟩ : Addr).add j) = some u := by
  match j, h with
  | 0, h => simp at h; subst h; simp [Addr.add]
  | 1, h => simp at h; subst h; simp [Addr.add]
theorem two_cell (x y : Int) : ∀ u ∈ [Value.int .i64 x, .int .i64 y], u.oneCell' = true := by
  intro u hu; simp at hu; rcases hu with rfl | rfl <;> rfl
def slen : Value → Nat
  | .slice _ n _ => n
  | _ => 0
theorem slen_row {w : World} {B e s n : Nat} {v : Value} {xs : List Value} (h : w.ownsRow B e s v n xs) : slen v = n := by
  rcases h.2 with ⟨rfl, rfl⟩ | ⟨g, cap, cur, rfl, _⟩ <;> rfl

theorem ownsRow_next {w w' : World} {B e s n : Nat} {v : Value} {xs : List Value} (h : w.ownsRow B e s v n xs) (hb : Below w.heap.size w w') : w'.ownsRow B e s v n xs := by
  refine ⟨h.1, ?_⟩
  rcases h.2 with hn | ⟨g, cap, cur, hv, hbg, hgg, rest⟩
  · exact .inl hn
  · exact .inr ⟨g, cap, cur, hv, hbg, by rw [hb.block g (Array.getElem?_eq_some_iff.1 hgg).1]; exact hgg, rest⟩
theorem ownsRow_set2 {w : World} {B e s n g : Nat} {v : Value} {xs : List Value} (h : w.ownsRow B e s v n xs) (hg : g < B) (a b : Value) : ((w.setCell ⟨g, 0, none⟩ a).setCell ⟨g, 1, none⟩ b).ownsRow B e s v n xs := by
  refine ⟨h.1, ?_⟩
  rcases h.2 with hn | ⟨g', cap, cur, hv, hbg, hgg, rest⟩
  · exact .inl hn
  · exact .inr ⟨g', cap, cur, hv, hbg, by rw [Below.heap_setCell _ _ _ g' (by simp; omega), Below.heap_setCell _ _ _ g' (by simp; omega)]; exact hgg, rest⟩
theorem ownsRow_more {w : World} {B B' e s n : Nat} {v : Value} {xs : List Value} (h : w.ownsRow B e s v n xs) (hB : B' ≤ B) : w.ownsRow B' e s v n xs := by
  refine ⟨h.1, ?_⟩
  rcases h.2 with hn | ⟨g, cap, cur, hv, hb, rest⟩
  · exact .inl hn
  · exact .inr ⟨g, cap, cur, hv, Nat.le_trans hB hb, rest⟩

end Go.Proofs.Ytkbdlhmkiolegaa
/-
  Contracts: RimHook of the program and of the model.
-/
namespace Go.Proofs.Ytkbdlhmkiolegaa
open Go.RowKit

def rimF (xs : List Int) (r k : Int) : List (List Int) := if atB xs r k then pairs (rimL xs r.toNat k.toNat) else []
theorem rimL_bd {xs : List Int} (G : Good xs) (r k : Nat) : (rimL xs r k).length ≤ 1000 := by
  unfold rimL
  have h := rimUp_len xs k ((colH xs k).toNat - 1) G.le ((colH xs k).toNat - r)
  have := colH_bound xs k
  have := G.len
  omega
theorem bound_RimHook (xs : List Int) (r k : Int) : (rimF xs r k).length ≤ 1048576 ∧ tot (rimF xs r k) ≤ 1048576 := by
  unfold rimF
  split
  · rename_i h
    simp only [atB, Bool.and_eq_true] at h
    have := rimL_bd ((good_iff xs).1 h.1) r.toNat k.toNat
    rw [pairs_len, tot_pairs]; omega
  · simp [tot]

theorem pl_cells {w : World} {B n cap g : Nat} {L : List (Nat × Nat)} (h : w.ownsRow B 100 2 (.slice (some ⟨g, 0, none⟩) n cap) n (PL L)) (hn : n = L.length) (j : Nat) (hj : j < L.length) :
    w.cell? ⟨g, 2 * j, none⟩ = some (.int .i64 ((L.getD j (0, 0)).1 : Int)) ∧ w.cell? ⟨g, 2 * j + 1, none⟩ = some (.int .i64 ((L.getD j (0, 0)).2 : Int)) := by
  have hg := PL_get L j hj
  rw [World.ownsRow.cellAt h (2 * j) (by omega), World.ownsRow.cellAt h (2 * j + 1) (by omega)]
  exact hg
theorem getD_take_succ (L : List (Nat × Nat)) (j : Nat) (h : j < L.length) : L.take (j + 1) = L.take j ++ [((L.getD j (0, 0)).1, (L.getD j (0, 0)).2)] := by
  rw [List.take_succ_eq_append_getElem h, List.getD_eq_getElem?_getD, List.getElem?_eq_getElem h]; rfl

theorem Cells.at_row {w : World} {b o : Nat} {xs : List Int} (h : Cells w (some ⟨b, o, none⟩) xs) {j : Nat} (hj : j < xs.length) : w.cell? ⟨b, o + j, none⟩ = some (.int .i64 (xs.getD j 0)) := by
  obtain ⟨b', o', e, hc⟩ := h (by omega)
  injection e with e; injection e with e1 e2
  subst e1 e2
  exact hc j hj

end Go.Proofs.Ytkbdlhmkiolegaa
/-
  Contracts: what is left without a rim hook (the model's list; the program's rows without cells).
-/
namespace Go.Proofs.Ytkbdlhmkiolegaa
open Go.RowKit

set_option maxHeartbeats 400000 in
theorem noEmpty_any (g c : Nat) (B : Nat) (ys : List Int) (xs : List Int) (r k low : Nat) (w : World) (R : RimOK xs r k low) (hys : ys = restL xs r k low) (ho : Own w B (some ⟨g, 0, none⟩) c ys) :
    Calls Try.prog 114 #[.slice (some ⟨g, 0, none⟩) ys.length c] w fun e w' => e = .returned (.slice (some ⟨g, 0, none⟩) (outL xs r k low).length c) ∧ Own w B (some ⟨g, 0, none⟩) c (outL xs r k low) ∧ w = w' := by
  have hyl : ys.length = xs.length := by rw [hys, restL_len]
  have hlen := R.good.len
  have HR := hid R
  have hcap : ys.length ≤ c := by
    rcases ho.2 with ⟨hv, _⟩ | ⟨g', cap, cur, hv, _, _, hn, _⟩
    · simp at hv
    · have : c = cap := by injection hv
      omega
  have HYS := hid hys
  clear R hys
  go_enter Try.func114, Try.ntmps114
  go_wp2_with fail
  go_loop [3] (fun i => ∃ m : Nat, m ≤ xs.length ∧ i = .int .i64 m ∧ Hid (∀ j, m ≤ j → j < xs.length → rest xs r k low j = 0)) (fun i => (intOf i).toNat)
  case atStart => exact ⟨xs.length, Nat.le_refl _, rfl, hid fun j h1 h2 => by omega⟩
  case round =>
    obtain ⟨m, hm, rfl, HZ⟩ := hrel
    by_cases hgo : 0 < m ∧ rest xs r k low (m - 1) = 0
    · obtain ⟨hm0, hz⟩ := hgo
      have hcell := own_get ho (k := m - 1) (by omega)
      rw [HYS.out, restL_get _ _ _ _ _ (by omega), hz] at hcell
      have hek : ((m : Int) - 1).toNat = m - 1 := by omega
      have HZ2 := hid hz
      clear hz
      go_wp2_with fail
      go_round
      case rel =>
        refine ⟨m - 1, by omega, by go_num, hid fun j h1 h2 => ?_⟩
        by_cases h : m ≤ j
        · exact HZ.out j h h2
        · have : j = m - 1 := by omega
          subst this; exact HZ2.out
      case measure => simp [intOf]; omega
    · have ht := HR.out.out_take hm HZ.out (fun h0 hz => hgo ⟨h0, hz⟩)
      have hol : (outL xs r k low).length = m := by rw [← ht, List.length_take, restL_len]; omega
      have how : Own w B (some ⟨g, 0, none⟩) c (outL xs r k low) := by
        rw [← ht, ← HYS.out]
        unfold Own
        refine ⟨by simp [IL], ?_⟩
        rcases ho.2 with ⟨hv, _⟩ | ⟨g', cap, cur, hv, hB, hh, hn, hmx, hcs, htk⟩
        · simp at hv
        · have e1 : c = cap := by injection hv
          have e2 : g = g' := by injection hv with h1; injection h1 with h1; injection h1
          subst e1 e2
          refine .inr ⟨g, c, cur, rfl, hB, hh, by rw [List.length_take]; omega, hmx, hcs, ?_⟩
          have e3 : IL (ys.take m) = (IL ys).take m := by simp [IL, List.map_take]
          rw [e3, ← htk, List.take_take, List.length_take]
          congr 1
          omega
      have HOL := hid hol; clear hol
      by_cases hm0 : 0 < m
      · have hz : rest xs r k low (m - 1) ≠ 0 := fun h => hgo ⟨hm0, h⟩
        have hcell := own_get ho (k := m - 1) (by omega)
        rw [HYS.out, restL_get _ _ _ _ _ (by omega)] at hcell
        have hek : ((m : Int) - 1).toNat = m - 1 := by omega
        obtain ⟨x, hx⟩ : ∃ x, x = rest xs r k low (m - 1) := ⟨_, rfl⟩
        rw [← hx] at hcell hz
        have hx0 : (x == 0) = false := beq_eq_false_iff_ne.2 hz
        have HO := hid how
        clear hx how hgo ht
        go_wp2_with fail
        go_ret
        exact ⟨by rw [HOL.out]; rfl, HO.out, rfl⟩
      · have e0 : m = 0 := by omega
        subst e0
        have HO := hid how
        clear how hgo ht
        go_wp2_with fail
        go_ret
        exact ⟨by rw [HOL.out]; rfl, HO.out, rfl⟩
end Go.Proofs.Ytkbdlhmkiolegaa
