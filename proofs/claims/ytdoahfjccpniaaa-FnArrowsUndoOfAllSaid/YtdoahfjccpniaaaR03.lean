/-
  Several texts in one.
-/
import Derived.Test.YtdoahfjccpniaaaR02
import Derived.Test.YtdoahfjccpniaaaCB
import Derived.Test.YtdoahfjccpniaaaCC
import Derived.Test.YtdoahfjccpniaaaCA
/-
  Contracts: RimHook of the program and of the model.
-/
namespace Go.Proofs.Ytdoahfjccpniaaa
open Go.RowKit

def rimF (xs : List Int) (r k : Int) : List (List Int) := if atB xs r k then pairs (rimL xs r.toNat k.toNat) else []
theorem rimL_bd {xs : List Int} (G : Good xs) (r k : Nat) : (rimL xs r k).length ≤ 1000 := by
  unfold rimL
  have h := rimUp_len xs k ((colH xs k).toNat - 1) G.le ((colH xs k).toNat - r)
  have := colH_bound xs k
  have := G.len
  omega
theorem bound_RimHook (xs : List Int) (r k : Int) : (rimF xs r k).length ≤ 1048576 ∧ tot (rimF xs r k) ≤ 1048576 := by
  unfold rimF
  split
  · rename_i h
    simp only [atB, Bool.and_eq_true] at h
    have := rimL_bd ((good_iff xs).1 h.1) r.toNat k.toNat
    rw [pairs_len, tot_pairs]; omega
  · simp [tot]

theorem pl_cells {w : World} {B n cap g : Nat} {L : List (Nat × Nat)} (h : w.ownsRow B 70 2 (.slice (some ⟨g, 0, none⟩) n cap) n (PL L)) (hn : n = L.length) (j : Nat) (hj : j < L.length) :
    w.cell? ⟨g, 2 * j, none⟩ = some (.int .i64 ((L.getD j (0, 0)).1 : Int)) ∧ w.cell? ⟨g, 2 * j + 1, none⟩ = some (.int .i64 ((L.getD j (0, 0)).2 : Int)) := by
  have hg := PL_get L j hj
  rw [World.ownsRow.cellAt h (2 * j) (by omega), World.ownsRow.cellAt h (2 * j + 1) (by omega)]
  exact hg
theorem getD_take_succ (L : List (Nat × Nat)) (j : Nat) (h : j < L.length) : L.take (j + 1) = L.take j ++ [((L.getD j (0, 0)).1, (L.getD j (0, 0)).2)] := by
  rw [List.take_succ_eq_append_getElem h, List.getD_eq_getElem?_getD, List.getElem?_eq_getElem h]; rfl

theorem Cells.at_row {w : World} {b o : Nat} {xs : List Int} (h : Cells w (some ⟨b, o, none⟩) xs) {j : Nat} (hj : j < xs.length) : w.cell? ⟨b, o + j, none⟩ = some (.int .i64 (xs.getD j 0)) := by
  obtain ⟨b', o', e, hc⟩ := h (by omega)
  injection e with e; injection e with e1 e2
  subst e1 e2
  exact hc j hj

end Go.Proofs.Ytdoahfjccpniaaa
/-
  Contracts: what is left without a rim hook (the model's list; the program's rows without cells).
-/
namespace Go.Proofs.Ytdoahfjccpniaaa
open Go.RowKit

set_option maxHeartbeats 400000 in
theorem noEmpty_any (g c : Nat) (B : Nat) (ys : List Int) (xs : List Int) (r k low : Nat) (w : World) (R : RimOK xs r k low) (hys : ys = restL xs r k low) (ho : Own w B (some ⟨g, 0, none⟩) c ys) :
    Calls Try.prog 73 #[.slice (some ⟨g, 0, none⟩) ys.length c] w fun e w' => e = .returned (.slice (some ⟨g, 0, none⟩) (outL xs r k low).length c) ∧ Own w B (some ⟨g, 0, none⟩) c (outL xs r k low) ∧ w = w' := by
  have hyl : ys.length = xs.length := by rw [hys, restL_len]
  have hlen := R.good.len
  have HR := hid R
  have hcap : ys.length ≤ c := by
    rcases ho.2 with ⟨hv, _⟩ | ⟨g', cap, cur, hv, _, _, hn, _⟩
    · simp at hv
    · have : c = cap := by injection hv
      omega
  have HYS := hid hys
  clear R hys
  go_enter Try.func73, Try.ntmps73
  go_wp2_with fail
  go_loop [3] (fun i => ∃ m : Nat, m ≤ xs.length ∧ i = .int .i64 m ∧ Hid (∀ j, m ≤ j → j < xs.length → rest xs r k low j = 0)) (fun i => (intOf i).toNat)
  case atStart => exact ⟨xs.length, Nat.le_refl _, rfl, hid fun j h1 h2 => by omega⟩
  case round =>
    obtain ⟨m, hm, rfl, HZ⟩ := hrel
    by_cases hgo : 0 < m ∧ rest xs r k low (m - 1) = 0
    · obtain ⟨hm0, hz⟩ := hgo
      have hcell := own_get ho (k := m - 1) (by omega)
      rw [HYS.out, restL_get _ _ _ _ _ (by omega), hz] at hcell
      have hek : ((m : Int) - 1).toNat = m - 1 := by omega
      have HZ2 := hid hz
      clear hz
      go_wp2_with fail
      go_round
      case rel =>
        refine ⟨m - 1, by omega, by go_num, hid fun j h1 h2 => ?_⟩
        by_cases h : m ≤ j
        · exact HZ.out j h h2
        · have : j = m - 1 := by omega
          subst this; exact HZ2.out
      case measure => simp [intOf]; omega
    · have ht := HR.out.out_take hm HZ.out (fun h0 hz => hgo ⟨h0, hz⟩)
      have hol : (outL xs r k low).length = m := by rw [← ht, List.length_take, restL_len]; omega
      have how : Own w B (some ⟨g, 0, none⟩) c (outL xs r k low) := by
        rw [← ht, ← HYS.out]
        unfold Own
        refine ⟨by simp [IL], ?_⟩
        rcases ho.2 with ⟨hv, _⟩ | ⟨g', cap, cur, hv, hB, hh, hn, hmx, hcs, htk⟩
        · simp at hv
        · have e1 : c = cap := by injection hv
          have e2 : g = g' := by injection hv with h1; injection h1 with h1; injection h1
          subst e1 e2
          refine .inr ⟨g, c, cur, rfl, hB, hh, by rw [List.length_take]; omega, hmx, hcs, ?_⟩
          have e3 : IL (ys.take m) = (IL ys).take m := by simp [IL, List.map_take]
          rw [e3, ← htk, List.take_take, List.length_take]
          congr 1
          omega
      have HOL := hid hol; clear hol
      by_cases hm0 : 0 < m
      · have hz : rest xs r k low (m - 1) ≠ 0 := fun h => hgo ⟨hm0, h⟩
        have hcell := own_get ho (k := m - 1) (by omega)
        rw [HYS.out, restL_get _ _ _ _ _ (by omega)] at hcell
        have hek : ((m : Int) - 1).toNat = m - 1 := by omega
        obtain ⟨x, hx⟩ : ∃ x, x = rest xs r k low (m - 1) := ⟨_, rfl⟩
        rw [← hx] at hcell hz
        have hx0 : (x == 0) = false := beq_eq_false_iff_ne.2 hz
        have HO := hid how
        clear hx how hgo ht
        go_wp2_with fail
        go_ret
        exact ⟨by rw [HOL.out]; rfl, HO.out, rfl⟩
      · have e0 : m = 0 := by omega
        subst e0
        have HO := hid how
        clear how hgo ht
        go_wp2_with fail
        go_ret
        exact ⟨by rw [HOL.out]; rfl, HO.out, rfl⟩
end Go.Proofs.Ytdoahfjccpniaaa
