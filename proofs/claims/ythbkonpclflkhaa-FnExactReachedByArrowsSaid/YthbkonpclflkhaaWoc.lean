/-
  Contracts: a partition with a cell more or a cell less, whatever row of ints the caller has.
-/
import Derived.Test.YthbkonpclflkhaaR32
import Derived.Test.YthbkonpclflkhaaCopyC
import Derived.Test.YthbkonpclflkhaaR01
namespace Go.Proofs.Ythbkonpclflkhaa
open Go.RowKit

theorem withCellC_any (A : Option Addr) (c : Nat) (p : List Int) (r : Nat) (w : World) (hl : p.length ≤ 31) (hb : ∀ j, j < p.length → 1 ≤ p.getD j 0 ∧ p.getD j 0 ≤ 30) (hr : r ≤ p.length) (hno : A = none → p.length = 0 ∧ c = 0) (hc : Cells w A p) :
    Calls Try.prog 234 #[.slice A p.length c, .int .i64 r] w fun e w' => ∃ A' c', e = .returned (.slice A' (incL p r).length c') ∧ Own w' w.heap.size A' c' (incL p r) ∧ Below w.heap.size w w' :=
  withCellH_any A c p r w hl hb hr (hid (cloneC_any A c p w (by omega) hno hc))

theorem dec_take {p : List Int} {r : Nat} (hr : r < p.length) : (decL p r).length ≤ p.length ∧ (p.set r (p.getD r 0 - 1)).take (decL p r).length = decL p r := by
  unfold decL
  split
  · rename_i h
    refine ⟨by rw [List.length_take]; omega, ?_⟩
    rw [List.length_take, Nat.min_eq_left (by omega)]
    apply List.ext_getElem?
    intro j
    rw [List.getElem?_take, List.getElem?_take]
    split
    · rw [List.getElem?_set_ne (by omega)]
    · rfl
  · exact ⟨by simp, List.take_of_length_le (Nat.le_refl _)⟩
/-- Behind the row whose only cell is taken away nothing stands. -/
theorem withoutCell_any (A : Option Addr) (c : Nat) (p : List Int) (r : Nat) (w : World) (G : Good p) (hr : r < p.length) (hd : p.getD (r + 1) 0 < p.getD r 0) (hno : A = none → p.length = 0 ∧ c = 0) (hc : Cells w A p) :
    Calls Try.prog 238 #[.slice A p.length c, .int .i64 r] w fun e w' => ∃ A' c', e = .returned (.slice A' (decL p r).length c') ∧ Own w' w.heap.size A' c' (decL p r) ∧ Below w.heap.size w w' := by
  have hl := G.len
  have hpr := G.pos r hr
  have hp30 := G.le r hr
  obtain ⟨hm1, hm2⟩ := dec_take hr
  have HCL := hid (cloneC_any A c p w (by omega) hno hc)
  have hlast : p.getD r 0 = 1 → r + 1 = p.length := by
    intro h
    apply Classical.byContradiction
    intro hh
    have := G.pos (r + 1) (by omega)
    omega
  have hz : ∀ j, (decL p r).length ≤ j → j < (p.set r (p.getD r 0 - 1)).length → (p.set r (p.getD r 0 - 1)).getD j 0 = 0 := by
    intro j h1 h2
    rw [List.length_set] at h2
    unfold decL at h1
    split at h1
    · rename_i h
      rw [List.length_take] at h1
      have hj : j = r := by have := hlast h; omega
      subst hj
      simp only [List.getD_eq_getElem?_getD] at h ⊢
      rw [List.getElem?_set_self hr]; simp only [Option.getD_some]; omega
    · rw [List.length_set] at h1; omega
  have hk0 : 0 < (decL p r).length → (p.set r (p.getD r 0 - 1)).getD ((decL p r).length - 1) 0 ≠ 0 := by
    intro h0
    unfold decL at h0 ⊢
    split
    · rename_i h
      rw [if_pos h, List.length_take] at h0
      rw [List.length_take, Nat.min_eq_left (by omega)]
      have := G.pos (r - 1) (by omega)
      simp only [List.getD_eq_getElem?_getD] at this ⊢
      rw [List.getElem?_set_ne (by omega)]; omega
    · rename_i h
      rw [List.length_set]
      by_cases e : p.length - 1 = r
      · rw [e]; simp only [List.getD_eq_getElem?_getD] at h ⊢; rw [List.getElem?_set_self hr]; simp only [Option.getD_some]; omega
      · have := G.pos (p.length - 1) (by omega)
        simp only [List.getD_eq_getElem?_getD] at this ⊢
        rw [List.getElem?_set_ne (by omega)]; omega
  have HEND := hid fun W g c2 (h : Own W w.heap.size (some ⟨g, 0, none⟩) c2 (p.set r (p.getD r 0 - 1))) => stripZ_any g c2 w.heap.size _ (decL p r).length W (by rw [List.length_set]; omega) (by rw [List.length_set]; exact hm1) hz hk0 h
  rw [hm2, List.length_set] at HEND
  obtain ⟨x, hx⟩ : ∃ x, x = p.getD r 0 := ⟨_, rfl⟩
  rw [← hx] at HEND hpr hp30
  obtain ⟨R, hR⟩ : ∃ R, R = decL p r := ⟨_, rfl⟩
  rw [← hR] at HEND ⊢
  have HX := hid hx
  clear hm1 hm2 hz hk0 hlast hd hx hR hc hno G
  go_enter Try.func238, Try.ntmps238
  go_wp2_with fail
  refine HCL.out.mono ?_
  rintro e w2 ⟨A2, c2, rfl, o2, b2⟩
  obtain ⟨g, rfl, hg1, -⟩ := o2.at_ (by omega)
  have hck := own_get o2 hr
  rw [← HX.out] at hck
  have hfz := own_froz o2 r
  have hst := own_set o2 r (x - 1)
  have HE := hid (HEND.out _ g c2 hst)
  have HB2 := hid b2
  have HG := hid hg1
  clear hst o2 b2 hg1
  go_wp2_with fail
  refine HE.out.mono ?_
  rintro e w3 ⟨rfl, o3, rfl⟩
  have HO := hid o3
  clear o3
  go_wp2_with fail
  go_ret
  exact ⟨_, _, rfl, HO.out, HB2.out.setCell HG.out _⟩
end Go.Proofs.Ythbkonpclflkhaa
