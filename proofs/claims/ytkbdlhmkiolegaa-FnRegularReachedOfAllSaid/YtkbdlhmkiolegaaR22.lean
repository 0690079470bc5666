/-
  Several texts in one.
-/
import Derived.Test.YtkbdlhmkiolegaaR06
import Derived.Test.YtkbdlhmkiolegaaR21
import Derived.Test.YtkbdlhmkiolegaaR01
import Derived.Test.YtkbdlhmkiolegaaCB
import Derived.Test.YtkbdlhmkiolegaaR03
import Derived.Test.YtkbdlhmkiolegaaR09
/-
  Contract: rows without cells left out.
-/
namespace Go.Proofs.Ytkbdlhmkiolegaa
open Go.RowKit

set_option maxHeartbeats 400000 in
theorem stripZ_any (g c : Nat) (B : Nat) (ys : List Int) (K : Nat) (w : World) (hlen : ys.length ≤ 100) (hK : K ≤ ys.length) (hz0 : ∀ j, K ≤ j → j < ys.length → ys.getD j 0 = 0) (hK0 : 0 < K → ys.getD (K - 1) 0 ≠ 0) (ho : Own w B (some ⟨g, 0, none⟩) c ys) :
    Calls Try.prog 114 #[.slice (some ⟨g, 0, none⟩) ys.length c] w fun e w' => e = .returned (.slice (some ⟨g, 0, none⟩) K c) ∧ Own w B (some ⟨g, 0, none⟩) c (ys.take K) ∧ w = w' := by
  have HZ0 := hid hz0
  have HK0 := hid hK0
  have hcap : ys.length ≤ c := by
    rcases ho.2 with ⟨hv, _⟩ | ⟨g', cap, cur, hv, _, _, hn, _⟩
    · simp at hv
    · have : c = cap := by injection hv
      omega
  clear hz0 hK0
  go_enter Try.func114, Try.ntmps114
  go_wp2_with fail
  go_loop [3] (fun i => ∃ m : Nat, m ≤ ys.length ∧ i = .int .i64 m ∧ Hid (∀ j, m ≤ j → j < ys.length → ys.getD j 0 = 0)) (fun i => (intOf i).toNat)
  case atStart => exact ⟨ys.length, Nat.le_refl _, rfl, hid fun j h1 h2 => by omega⟩
  case round =>
    obtain ⟨m, hm, rfl, HZ⟩ := hrel
    by_cases hgo : 0 < m ∧ ys.getD (m - 1) 0 = 0
    · obtain ⟨hm0, hz⟩ := hgo
      have hcell := own_get ho (k := m - 1) (by omega)
      rw [hz] at hcell
      have hek : ((m : Int) - 1).toNat = m - 1 := by omega
      have HZ2 := hid hz
      clear hz
      go_wp2_with fail
      go_round
      case rel =>
        refine ⟨m - 1, by omega, by go_num, hid fun j h1 h2 => ?_⟩
        by_cases h : m ≤ j
        · exact HZ.out j h h2
        · have : j = m - 1 := by omega
          subst this; exact HZ2.out
      case measure => simp [intOf]; omega
    · have hmK : m = K := by
        rcases Nat.lt_trichotomy m K with h | h | h
        · exact absurd (HZ.out (K - 1) (by omega) (by omega)) (HK0.out (by omega))
        · exact h
        · exact absurd ⟨by omega, HZ0.out (m - 1) (by omega) (by omega)⟩ hgo
      subst hmK
      have how := own_prefix ho m hm
      by_cases hm0 : 0 < m
      · have hz : ys.getD (m - 1) 0 ≠ 0 := fun h => hgo ⟨hm0, h⟩
        have hcell := own_get ho (k := m - 1) (by omega)
        have hek : ((m : Int) - 1).toNat = m - 1 := by omega
        obtain ⟨x, hx⟩ : ∃ x, x = ys.getD (m - 1) 0 := ⟨_, rfl⟩
        rw [← hx] at hcell hz
        have hx0 : (x == 0) = false := beq_eq_false_iff_ne.2 hz
        have HO := hid how
        clear hx how hgo
        go_wp2_with fail
        go_ret
        exact ⟨rfl, HO.out, rfl⟩
      · have e0 : m = 0 := by omega
        subst e0
        have HO := hid how
        clear how hgo
        go_wp2_with fail
        go_ret
        exact ⟨rfl, HO.out, rfl⟩
end Go.Proofs.Ytkbdlhmkiolegaa
/-
  Contracts: a partition with a cell more, and rows that are a chain: IsChain and ShapeOf of the program and of the model.
-/
namespace Go.Proofs.Ytkbdlhmkiolegaa
open Go.RowKit

set_option maxRecDepth 100000 in
set_option maxHeartbeats 1000000 in
theorem withCellH_any (A : Option Addr) (c : Nat) (p : List Int) (r : Nat) (w : World) (hl : p.length ≤ 31) (hb : ∀ j, j < p.length → 1 ≤ p.getD j 0 ∧ p.getD j 0 ≤ 30) (hr : r ≤ p.length) (HCL : Hid (Calls Try.prog 81 #[.slice A p.length c] w fun e w' => ∃ A' c', e = .returned (.slice A' p.length c') ∧ Own w' w.heap.size A' c' p ∧ Below w.heap.size w w')) :
    Calls Try.prog 118 #[.slice A p.length c, .int .i64 r] w fun e w' => ∃ A' c', e = .returned (.slice A' (incL p r).length c') ∧ Own w' w.heap.size A' c' (incL p r) ∧ Below w.heap.size w w' := by
  obtain ⟨i0, hi, hz0, hz1, hz2⟩ := info_parts Try.infoInt
  obtain ⟨hm1, hm2, hm3⟩ := inc_more p r hr
  have HEX := hid (show IL (p ++ [0]) = IL p ++ [.int .i64 0] by simp [IL])
  have HEL := hid (show p.length + 1 = (p ++ [0]).length by simp)
  have hxv : 0 ≤ (p ++ [0]).getD r 0 ∧ (p ++ [0]).getD r 0 ≤ 30 := by
    by_cases h : r < p.length
    · have := hb r h
      rw [List.getD_eq_getElem?_getD, List.getElem?_append_left h, ← List.getD_eq_getElem?_getD]; omega
    · have : r = p.length := by omega
      subst this; simp [List.getD]
  have hz : ∀ j, (incL p r).length ≤ j → j < p.length + 1 → ((p ++ [0]).set r ((p ++ [0]).getD r 0 + 1)).getD j 0 = 0 := by
    intro j h1 h2
    rw [inc_len] at h1
    split at h1
    · omega
    · have : j = p.length := by omega
      subst this
      simp [List.getD, show r ≠ p.length by omega]
  have hk0 : 0 < (incL p r).length → ((p ++ [0]).set r ((p ++ [0]).getD r 0 + 1)).getD ((incL p r).length - 1) 0 ≠ 0 := by
    intro _
    rw [inc_len]
    split
    · rename_i h
      subst h
      simp [List.getD]
    · rename_i h
      by_cases e : p.length - 1 = r
      · rw [e]; simp only [List.getD_eq_getElem?_getD]; rw [List.getElem?_set_self (by simp; omega)]; simp only [Option.getD_some]; simp only [List.getD_eq_getElem?_getD] at hxv; omega
      · have := hb (p.length - 1) (by omega)
        simp only [List.getD_eq_getElem?_getD] at this ⊢
        rw [List.getElem?_set_ne (by omega), List.getElem?_append_left (by omega)]; omega
  have HEND := hid fun W g c2 (h : Own W w.heap.size (some ⟨g, 0, none⟩) c2 ((p ++ [0]).set r ((p ++ [0]).getD r 0 + 1))) => stripZ_any g c2 w.heap.size _ (incL p r).length W (by rw [hm3]; omega) (by rw [hm3]; exact hm1) (by rw [hm3]; exact hz) hk0 h
  rw [hm2, hm3] at HEND
  have HRL := hid (show r < (p ++ [0]).length by simp; omega)
  obtain ⟨M, hM⟩ : ∃ M, M = p ++ [0] := ⟨_, rfl⟩
  rw [← hM] at HEX HEL HEND HRL hxv
  obtain ⟨x, hx⟩ : ∃ x, x = M.getD r 0 := ⟨_, rfl⟩
  rw [← hx] at HEND hxv
  obtain ⟨R, hR⟩ : ∃ R, R = incL p r := ⟨_, rfl⟩
  rw [← hR] at HEND ⊢
  have HX := hid hx
  clear hm1 hm2 hm3 hz hk0 hM hx hR hb
  go_enter Try.func118, Try.ntmps118
  go_wp2_with fail
  refine HCL.out.mono ?_
  rintro e w1 ⟨A1, c1, rfl, o1, b1⟩
  have O1 := hid o1
  have B1 := hid b1
  have hs1 := b1.size
  clear o1 b1
  go_wp2_with (at_builtin; refine wpList_append_own _ rfl _ _ 22 rfl w.heap.size 3 i0 (.int .i64 0) 1 8 Try.underlying22 hi hz0 hz1 hz2 rfl (by decide) _ _ _ rfl (O1.out.alloc _) ⟨w1.heap.size, 0, none⟩ 1 1 [.int .i64 0] rfl rfl one_at (one_cell _) (by unfold maxLen; omega) (by omega) (by simp; omega) ?_)
  intro v' w2 hown' hgrow _
  have hb2 : Below w.heap.size w w2 := (B1.out.alloc B1.out.size _).grown hgrow (by simp; omega) (fun q hq => (O1.out.lt q hq).1)
  rw [← HEX.out] at hown'
  obtain ⟨A2, c2, rfl, o2⟩ := own_form hown' HEL.out
  obtain ⟨g, rfl, hg1, hg2⟩ := o2.at_ (by have := HEL.out; omega)
  have hcx := own_get o2 HRL.out
  rw [← HX.out] at hcx
  have hfz := own_froz o2 r
  have hos := own_set o2 r (x + 1)
  have hbs : Below w.heap.size w (w2.setCell ⟨g, r, none⟩ (.int .i64 (x + 1))) := hb2.setCell hg1 _
  have HE := hid (HEND.out _ _ _ hos)
  have HB := hid hbs
  rw [← HEL.out]
  have hr2 : (r : Int) < (p.length : Int) + 1 := by omega
  clear hown' hgrow o2 hb2 hos hbs
  go_wp2_with fail
  refine HE.out.mono ?_
  rintro e w' ⟨rfl, o3, rfl⟩
  go_wp2_with fail
  go_ret
  exact ⟨_, _, rfl, o3, HB.out⟩

theorem Good.bd {p : List Int} (G : Good p) : ∀ j, j < p.length → 1 ≤ p.getD j 0 ∧ p.getD j 0 ≤ 30 := fun j h => ⟨G.pos j h, G.le j h⟩

theorem withCell_any {B : Nat} (A : Option Addr) (c : Nat) (p : List Int) (r : Nat) (w : World) (hl : p.length ≤ 31) (hb : ∀ j, j < p.length → 1 ≤ p.getD j 0 ∧ p.getD j 0 ≤ 30) (hr : r ≤ p.length) (ho : Own w B A c p) :
    Calls Try.prog 118 #[.slice A p.length c, .int .i64 r] w fun e w' => ∃ A' c', e = .returned (.slice A' (incL p r).length c') ∧ Own w' w.heap.size A' c' (incL p r) ∧ Below w.heap.size w w' :=
  withCellH_any A c p r w hl hb hr (hid (cloneOwn_any A c p w (by omega) ho))

/-- What a walk over rows knows: what is made of the first k is a partition of k cells. -/
structure Made (p : List Int) (k : Nat) : Prop where
  good : Good p
  sum : p.sum = k
theorem Made.nil : Made [] 0 := ⟨good_nil, by simp⟩
theorem Made.step {p : List Int} {k r : Nat} (m : Made p k) (hk : k ≤ 29) (hr : r ≤ p.length) (h : addB p r = true) : Made (incL p r) (k + 1) :=
  ⟨inc_Good m.good (by rw [m.sum]; omega) hr h, by rw [inc_sum p r hr, m.sum]; omega⟩
theorem Made.len {p : List Int} {k : Nat} (m : Made p k) : p.length ≤ k := by have := m.good.len_le; rw [m.sum] at this; omega

theorem rowsB_len {xs : List Int} (h : rowsB xs = true) : xs.length ≤ 12 ∧ ∀ j, j < xs.length → 0 ≤ xs.getD j 0 := by
  simp only [rowsB, Bool.and_eq_true, decide_eq_true_eq, List.all_eq_true] at h
  refine ⟨h.1, fun j hj => ?_⟩
  rw [List.getD_eq_getElem?_getD, List.getElem?_eq_getElem hj]
  exact (inB_iff.1 (h.2 _ (List.getElem_mem hj))).1

end Go.Proofs.Ytkbdlhmkiolegaa
/-
  Contracts: a partition with a cell more or a cell less, whatever row of ints the caller has.
-/
namespace Go.Proofs.Ytkbdlhmkiolegaa
open Go.RowKit

theorem withCellC_any (A : Option Addr) (c : Nat) (p : List Int) (r : Nat) (w : World) (hl : p.length ≤ 31) (hb : ∀ j, j < p.length → 1 ≤ p.getD j 0 ∧ p.getD j 0 ≤ 30) (hr : r ≤ p.length) (hno : A = none → p.length = 0 ∧ c = 0) (hc : Cells w A p) :
    Calls Try.prog 118 #[.slice A p.length c, .int .i64 r] w fun e w' => ∃ A' c', e = .returned (.slice A' (incL p r).length c') ∧ Own w' w.heap.size A' c' (incL p r) ∧ Below w.heap.size w w' :=
  withCellH_any A c p r w hl hb hr (hid (cloneC_any A c p w (by omega) hno hc))

theorem dec_take {p : List Int} {r : Nat} (hr : r < p.length) : (decL p r).length ≤ p.length ∧ (p.set r (p.getD r 0 - 1)).take (decL p r).length = decL p r := by
  unfold decL
  split
  · rename_i h
    refine ⟨by rw [List.length_take]; omega, ?_⟩
    rw [List.length_take, Nat.min_eq_left (by omega)]
    apply List.ext_getElem?
    intro j
    rw [List.getElem?_take, List.getElem?_take]
    split
    · rw [List.getElem?_set_ne (by omega)]
    · rfl
  · exact ⟨by simp, List.take_of_length_le (Nat.le_refl _)⟩
/-- Behind the row whose only cell is taken away nothing stands. -/
theorem withoutCell_any (A : Option Addr) (c : Nat) (p : List Int) (r : Nat) (w : World) (G : Good p) (hr : r < p.length) (hd : p.getD (r + 1) 0 < p.getD r 0) (hno : A = none → p.length = 0 ∧ c = 0) (hc : Cells w A p) :
    Calls Try.prog 113 #[.slice A p.length c, .int .i64 r] w fun e w' => ∃ A' c', e = .returned (.slice A' (decL p r).length c') ∧ Own w' w.heap.size A' c' (decL p r) ∧ Below w.heap.size w w' := by
  have hl := G.len
  have hpr := G.pos r hr
  have hp30 := G.le r hr
  obtain ⟨hm1, hm2⟩ := dec_take hr
  have HCL := hid (cloneC_any A c p w (by omega) hno hc)
  have hlast : p.getD r 0 = 1 → r + 1 = p.length := by
    intro h
    apply Classical.byContradiction
    intro hh
    have := G.pos (r + 1) (by omega)
    omega
  have hz : ∀ j, (decL p r).length ≤ j → j < (p.set r (p.getD r 0 - 1)).length → (p.set r (p.getD r 0 - 1)).getD j 0 = 0 := by
    intro j h1 h2
    rw [List.length_set] at h2
    unfold decL at h1
    split at h1
    · rename_i h
      rw [List.length_take] at h1
      have hj : j = r := by have := hlast h; omega
      subst hj
      simp only [List.getD_eq_getElem?_getD] at h ⊢
      rw [List.getElem?_set_self hr]; simp only [Option.getD_some]; omega
    · rw [List.length_set] at h1; omega
  have hk0 : 0 < (decL p r).length → (p.set r (p.getD r 0 - 1)).getD ((decL p r).length - 1) 0 ≠ 0 := by
    intro h0
    unfold decL at h0 ⊢
    split
    · rename_i h
      rw [if_pos h, List.length_take] at h0
      rw [List.length_take, Nat.min_eq_left (by omega)]
      have := G.pos (r - 1) (by omega)
      simp only [List.getD_eq_getElem?_getD] at this ⊢
      rw [List.getElem?_set_ne (by omega)]; omega
    · rename_i h
      rw [List.length_set]
      by_cases e : p.length - 1 = r
      · rw [e]; simp only [List.getD_eq_getElem?_getD] at h ⊢; rw [List.getElem?_set_self hr]; simp only [Option.getD_some]; omega
      · have := G.pos (p.length - 1) (by omega)
        simp only [List.getD_eq_getElem?_getD] at this ⊢
        rw [List.getElem?_set_ne (by omega)]; omega
  have HEND := hid fun W g c2 (h : Own W w.heap.size (some ⟨g, 0, none⟩) c2 (p.set r (p.getD r 0 - 1))) => stripZ_any g c2 w.heap.size _ (decL p r).length W (by rw [List.length_set]; omega) (by rw [List.length_set]; exact hm1) hz hk0 h
  rw [hm2, List.length_set] at HEND
  obtain ⟨x, hx⟩ : ∃ x, x = p.getD r 0 := ⟨_, rfl⟩
  rw [← hx] at HEND hpr hp30
  obtain ⟨R, hR⟩ : ∃ R, R = decL p r := ⟨_, rfl⟩
  rw [← hR] at HEND ⊢
  have HX := hid hx
  clear hm1 hm2 hz hk0 hlast hd hx hR hc hno G
  go_enter Try.func113, Try.ntmps113
  go_wp2_with fail
  refine HCL.out.mono ?_
  rintro e w2 ⟨A2, c2, rfl, o2, b2⟩
  obtain ⟨g, rfl, hg1, -⟩ := o2.at_ (by omega)
  have hck := own_get o2 hr
  rw [← HX.out] at hck
  have hfz := own_froz o2 r
  have hst := own_set o2 r (x - 1)
  have HE := hid (HEND.out _ g c2 hst)
  have HB2 := hid b2
  have HG := hid hg1
  clear hst o2 b2 hg1
  go_wp2_with fail
  refine HE.out.mono ?_
  rintro e w3 ⟨rfl, o3, rfl⟩
  have HO := hid o3
  clear o3
  go_wp2_with fail
  go_ret
  exact ⟨_, _, rfl, HO.out, HB2.out.setCell HG.out _⟩
end Go.Proofs.Ytkbdlhmkiolegaa
