/-
  Several texts in one.
-/
import Derived.Test.YtijfefahogcfmaaGreatR06
import Derived.Test.YtijfefahogcfmaaGreatR21
import Derived.Test.YtijfefahogcfmaaGreatR20
import Derived.Test.YtijfefahogcfmaaGreatCH
import Derived.Test.YtijfefahogcfmaaGreatR04
import Derived.Test.YtijfefahogcfmaaGreatR05
/-
  Sets of closed gaps: the model's boSets.
-/
namespace Go.Proofs.YtijfefahogcfmaaGreat
open Go.RowKit

/-- All closed gaps that go on H with some of the gaps. -/
def bsL (a b : Int) : List Int → List Int → List (List Int)
  | [], H => [H]
  | x :: gs, H => bsL a b gs H ++ (if (hbB H x a && hbB H x b) = true then bsL a b gs (H ++ [x]) else [])
theorem bsL_len (a b : Int) : ∀ (gs H : List Int), (bsL a b gs H).length ≤ 2 ^ gs.length
  | [], H => Nat.le_refl _
  | x :: gs, H => by
    rw [bsL, List.length_append, List.length_cons, Nat.pow_succ]
    have h1 := bsL_len a b gs H
    split
    · have h2 := bsL_len a b gs (H ++ [x]); omega
    · simp; omega
theorem pow10 {n : Nat} (h : n ≤ 10) : 2 ^ n ≤ 1024 := by
  rcases (show n = 0 ∨ n = 1 ∨ n = 2 ∨ n = 3 ∨ n = 4 ∨ n = 5 ∨ n = 6 ∨ n = 7 ∨ n = 8 ∨ n = 9 ∨ n = 10 by omega) with rfl | rfl | rfl | rfl | rfl | rfl | rfl | rfl | rfl | rfl | rfl <;> decide

set_option maxRecDepth 100000 in
set_option maxHeartbeats 3000000 in
theorem boSets_any (a b : Int) (ha : 2 ≤ a ∧ a ≤ 7) (hb : 2 ≤ b ∧ b ≤ 7) (Ag : Option Addr) (cg : Nat) (G : List Int) (hG : G.length ≤ 10) (hGb : ∀ j, j < G.length → 1 ≤ G.getD j 0 ∧ G.getD j 0 ≤ 60) :
    ∀ (gs : List Int) (k B : Nat) (A : Option Addr) (c : Nat) (H : List Int) (w : World), G.drop k = gs → H.length ≤ k → Own w B A c H → Cells w Ag G → k ≤ G.length →
    Calls Tryz.prog 46 #[.slice A H.length c, .slice Ag G.length cg, .int .i64 k, .int .i64 a, .int .i64 b] w fun e w' => ∃ A' c', e = .returned (.slice A' (bsL a b gs H).length c') ∧ Own2 w' w.heap.size w'.heap.size A' c' (bsL a b gs H) ∧ Below w.heap.size w w' := by
  obtain ⟨i0, hi, hz0, hz1, hz2⟩ := info_parts Tryz.infoInt
  obtain ⟨i1, hj, hy0, hy1, hy2⟩ := info_parts Tryz.infoInts
  intro gs
  induction gs with
  | nil =>
    intro k B A c H w hd hH ho hc hk
    have hkl : k = G.length := by have := congrArg List.length hd; rw [List.length_drop] at this; simp at this; omega
    have HOW := hid fun W (h : Own W B A c H) => l1Own_any A c H W (by omega) h
    have HO := hid ho
    have hHl : H.length ≤ 10 := by omega
    have hke2 : (k : Int) = (G.length : Int) := by omega
    clear hd hH ho hkl hc
    rw [bsL]
    go_enter Tryz.func46, Tryz.ntmps46
    go_wp2_with fail
    refine (HOW.out _ HO.out).mono ?_
    rintro e w1 ⟨A1, c1, rfl, o1, b1⟩
    have O1 := hid o1
    have B1 := hid b1
    have hs1 := b1.size
    clear o1 b1
    go_wp2_with fail
    go_ret
    exact ⟨some ⟨w1.heap.size, 0, none⟩, 1, rfl, own2_one hs1 O1.out, B1.out.alloc hs1 _⟩
  | cons x gs ih =>
    intro k B A c H w hd hH ho hc hk
    have hkl : k < G.length := by have := congrArg List.length hd; rw [List.length_drop, List.length_cons] at this; omega
    have hx : G.getD k 0 = x := by
      have h0 : (G.drop k).getD 0 0 = x := by rw [hd]; rfl
      rw [List.getD_eq_getElem?_getD, List.getElem?_drop] at h0
      rw [List.getD_eq_getElem?_getD]; exact h0
    have hdk : G.drop (k + 1) = gs := by rw [← List.drop_drop, hd]; rfl
    have hgl : gs.length ≤ 10 := by have := congrArg List.length hd; rw [List.length_drop, List.length_cons] at this; omega
    have HDK := hid hdk
    have hk1 : k + 1 ≤ G.length := hkl
    have IH := hid fun k' B' A' c' H' W (h1 : G.drop k' = gs) (h2 : H'.length ≤ k') (h3 : Own W B' A' c' H') (h4 : Cells W Ag G) (h5 : k' ≤ G.length) => ih k' B' A' c' H' W h1 h2 h3 h4 h5
    have HOW := hid fun W (h : Own W B A c H) => l1Own_any A c H W (by omega) h
    have HO := hid ho
    have HCG := hid fun W (h : Below w.heap.size w W) => (hc.later h : Cells W Ag G)
    have hHl : H.length ≤ 1048576 := by omega
    have hH10 : H.length ≤ 10 := by omega
    have hxb := hGb k hkl
    rw [hx] at hxb
    have HCX := hid fun W (h : Below w.heap.size w W) => (hc.later h).get hkl
    rw [hx] at HCX
    have HIX := hid (show IL (H ++ [x]) = IL H ++ [.int .i64 x] by simp [IL])
    have HQL := hid (show H.length + 1 = (H ++ [x]).length by simp)
    have HR := hid (show bsL a b (x :: gs) H = bsL a b gs H ++ (if (hbB H x a && hbB H x b) = true then bsL a b gs (H ++ [x]) else []) from rfl)
    have HNL := hid (Nat.le_trans (bsL_len a b gs (H ++ [x])) (pow10 hgl))
    have HML := hid (Nat.le_trans (bsL_len a b gs H) (pow10 hgl))
    have HFC := hid (IH.out (k + 1) B A c H w hdk (by omega) ho hc hk1)
    rw [show ((k + 1 : Nat) : Int) = (k : Int) + 1 by omega] at HFC
    have hke2 : ¬ (k : Int) = (G.length : Int) := by omega
    obtain ⟨Q, hQ⟩ : ∃ Q, Q = H ++ [x] := ⟨_, rfl⟩
    rw [← hQ] at HIX HQL HR HNL
    obtain ⟨RES, hRES⟩ : ∃ RES, RES = bsL a b (x :: gs) H := ⟨_, rfl⟩
    rw [← hRES] at HR ⊢
    obtain ⟨M, hM⟩ : ∃ M, M = bsL a b gs H := ⟨_, rfl⟩
    rw [← hM] at HR HML HFC
    have hML := HML.out
    clear hd hdk ho hc hx hRES hM ih hgl hQ
    go_enter Tryz.func46, Tryz.ntmps46
    go_wp2_with fail
    refine HFC.out.mono ?_
    rintro e w1 ⟨A1, c1, rfl, ow1, b1⟩
    have OW1 := hid ow1
    obtain ⟨P1, C1, H1⟩ := ow1
    have PU : Hid (Push w1 w.heap.size (.slice A1 M.length c1) M P1 C1) := hid ⟨H1.out, H1.row, H1.apart⟩
    have B1 := hid b1
    have hs1 := b1.size
    obtain ⟨bb, o, hAe, hck⟩ := HCX.out w1 b1
    clear H1 b1 HFC
    subst hAe
    cases hA : hbB H x a
    · have hxa : a < x ∧ decide (x - a ∈ H) = false := by
        simp only [hbB, Bool.or_eq_false_iff, decide_eq_false_iff_not] at hA; exact ⟨by omega, by simp [hA.2]⟩
      obtain ⟨hxa1, hxa2⟩ := hxa
      have HM := hid hxa2
      rw [hA, Bool.false_and, if_neg (by simp)] at HR
      clear hA hxa2
      go_wp2_with fail
      refine (l1Has2_b _ _ _ _ _ hHl (HO.out.cells.later B1.out) _ HM.out).mono ?_
      rintro e w' ⟨rfl, rfl⟩
      go_wp2_with fail
      go_ret
      exact ⟨A1, c1, by rw [HR.out, List.append_nil]; rfl, by rw [HR.out, List.append_nil]; exact OW1.out, B1.out⟩
    rw [hA, Bool.true_and] at HR
    cases hB : hbB H x b
    · have hxa : b < x ∧ decide (x - b ∈ H) = false := by
        simp only [hbB, Bool.or_eq_false_iff, decide_eq_false_iff_not] at hB; exact ⟨by omega, by simp [hB.2]⟩
      obtain ⟨hxa1, hxa2⟩ := hxa
      have HM := hid hxa2
      rw [hB, if_neg (by simp)] at HR
      have HA1 := hid hA
      clear hA hxa2 hB
      by_cases hxa : x ≤ a
      · go_wp2_with fail
        refine (l1Has2_b _ _ _ _ _ hHl (HO.out.cells.later B1.out) _ HM.out).mono ?_
        rintro e w' ⟨rfl, rfl⟩
        go_wp2_with fail
        go_ret
        exact ⟨A1, c1, by rw [HR.out, List.append_nil]; rfl, by rw [HR.out, List.append_nil]; exact OW1.out, B1.out⟩
      · have HM1 := hid (show decide (x - a ∈ H) = true by have := HA1.out; simpa [hbB, hxa] using this)
        go_wp2_with fail
        refine (l1Has2_b _ _ _ _ _ hHl (HO.out.cells.later B1.out) _ HM1.out).mono ?_
        rintro e w' ⟨rfl, rfl⟩
        go_wp2_with fail
        refine (l1Has2_b _ _ _ _ _ hHl (HO.out.cells.later B1.out) _ HM.out).mono ?_
        rintro e w' ⟨rfl, rfl⟩
        go_wp2_with fail
        go_ret
        exact ⟨A1, c1, by rw [HR.out, List.append_nil]; rfl, by rw [HR.out, List.append_nil]; exact OW1.out, B1.out⟩
    rw [hB, if_pos rfl] at HR
    have HA1 := hid hA; have HB1 := hid hB
    clear hA hB
    by_cases hxa : x ≤ a
    · by_cases hxb2 : x ≤ b
      · go_wp2_with fail
        refine (HOW.out _ (HO.out.below B1.out)).mono ?_
        rintro e w2 ⟨A2, c2, rfl, o2, b2⟩
        have O2 := hid o2
        have B2 := hid b2
        have hs2 := b2.size
        clear o2 b2
        go_wp2_with (at_builtin; refine wpList_append_own _ rfl _ _ 22 rfl w1.heap.size 3 i0 (.int .i64 0) 1 8 Tryz.underlying22 hi hz0 hz1 hz2 rfl (by decide) _ _ _ rfl (O2.out.alloc _) ⟨w2.heap.size, 0, none⟩ 1 1 [.int .i64 x] rfl rfl one_at (one_cell _) (by unfold maxLen; omega) (by omega) (by simp; omega) ?_)
        intro v' w3 hown' hgrow _
        have hb3 : Below w1.heap.size w1 w3 := (B2.out.alloc B2.out.size _).grown hgrow (by simp; omega) (fun q hq => (O2.out.lt q hq).1)
        rw [← HIX.out] at hown'
        obtain ⟨A3, c3, rfl, o3⟩ := own_form hown' HQL.out
        have HCA := hid (IH.out (k + 1) w1.heap.size A3 c3 Q w3 HDK.out (by have := HQL.out; omega) o3 (HCG.out _ (Below.next B1.out hb3)) hk1)
        rw [show ((k + 1 : Nat) : Int) = (k : Int) + 1 by omega] at HCA
        have B3 := hid hb3
        clear hown' hgrow o3 hb3
        go_wp2_with fail
        refine HCA.out.mono ?_
        rintro e w4 ⟨A4, c4, rfl, ⟨P4, C4, H4⟩, b4⟩
        obtain ⟨N, hN⟩ : ∃ N, N = bsL a b gs Q := ⟨_, rfl⟩
        rw [← hN] at HR HNL H4 ⊢
        have hNL := HNL.out
        have hs3 := B3.out.size
        have hB4 : Below w1.heap.size w1 w4 := Below.next B3.out b4
        have hH5 : Own2At w4 w1.heap.size w4.heap.size A4 c4 N P4 C4 := by
          refine ⟨⟨H4.out.1, ?_⟩, H4.outS, fun j hj => (H4.row j hj).more hs3, H4.rowS, H4.apart⟩
          rcases H4.out.2 with hn | ⟨g, cap, cur, hv, hb, rest⟩
          · exact .inl hn
          · exact .inr ⟨g, cap, cur, hv, Nat.le_trans hs3 hb, rest⟩
        have H5 := hid hH5
        have B4 := hid hB4
        have hs4 := hB4.size
        clear H4 b4 hB4 hH5 hN
        go_wp2_with (at_builtin; refine wpList_append_opt _ rfl _ _ 43 rfl w.heap.size 22 i1 (.slice none 0 0) 1 24 Tryz.underlying43 hj hy0 hy1 hy2 rfl (by decide) _ _ _ rfl (PU.out.below B4.out).out A4 N.length c4 (RL P4 C4 N) rfl (by rw [RL_len]; omega) (fun e => own2_none (by rw [← e]; exact H5.out)) (fun ad e => own2_news (by rw [← e]; exact H5.out)) (RL_one _ _ _) (by unfold maxLen; omega) (by omega) (by omega) ?_)
        intro v5 w5 hown5 hgrow5
        have hp5 := PU.out.pushAll B4.out H5.out hs1 hown5 hgrow5
        rw [← HR.out] at hp5
        have HB5 := hid (show Below w.heap.size w w5 from (B1.out.trans (B4.out.mono hs1)).grown hgrow5 (by omega) (fun q hq => (PU.out.out.lt q hq).1))
        obtain ⟨A6, c6, rfl, ho6⟩ := hp5.own2
        have HO6 := hid ho6
        clear hown5 hgrow5 hp5 ho6
        go_wp2_with fail
        go_ret
        exact ⟨A6, c6, rfl, HO6.out, HB5.out⟩
      · have HM2 := hid (show decide (x - b ∈ H) = true by have := HB1.out; simpa [hbB, hxb2] using this)
        go_wp2_with fail
        refine (l1Has2_b _ _ _ _ _ hHl (HO.out.cells.later B1.out) _ HM2.out).mono ?_
        rintro e w' ⟨rfl, rfl⟩
        go_wp2_with fail
        refine (HOW.out _ (HO.out.below B1.out)).mono ?_
        rintro e w2 ⟨A2, c2, rfl, o2, b2⟩
        have O2 := hid o2
        have B2 := hid b2
        have hs2 := b2.size
        clear o2 b2
        go_wp2_with (at_builtin; refine wpList_append_own _ rfl _ _ 22 rfl w1.heap.size 3 i0 (.int .i64 0) 1 8 Tryz.underlying22 hi hz0 hz1 hz2 rfl (by decide) _ _ _ rfl (O2.out.alloc _) ⟨w2.heap.size, 0, none⟩ 1 1 [.int .i64 x] rfl rfl one_at (one_cell _) (by unfold maxLen; omega) (by omega) (by simp; omega) ?_)
        intro v' w3 hown' hgrow _
        have hb3 : Below w1.heap.size w1 w3 := (B2.out.alloc B2.out.size _).grown hgrow (by simp; omega) (fun q hq => (O2.out.lt q hq).1)
        rw [← HIX.out] at hown'
        obtain ⟨A3, c3, rfl, o3⟩ := own_form hown' HQL.out
        have HCA := hid (IH.out (k + 1) w1.heap.size A3 c3 Q w3 HDK.out (by have := HQL.out; omega) o3 (HCG.out _ (Below.next B1.out hb3)) hk1)
        rw [show ((k + 1 : Nat) : Int) = (k : Int) + 1 by omega] at HCA
        have B3 := hid hb3
        clear hown' hgrow o3 hb3
        go_wp2_with fail
        refine HCA.out.mono ?_
        rintro e w4 ⟨A4, c4, rfl, ⟨P4, C4, H4⟩, b4⟩
        obtain ⟨N, hN⟩ : ∃ N, N = bsL a b gs Q := ⟨_, rfl⟩
        rw [← hN] at HR HNL H4 ⊢
        have hNL := HNL.out
        have hs3 := B3.out.size
        have hB4 : Below w1.heap.size w1 w4 := Below.next B3.out b4
        have hH5 : Own2At w4 w1.heap.size w4.heap.size A4 c4 N P4 C4 := by
          refine ⟨⟨H4.out.1, ?_⟩, H4.outS, fun j hj => (H4.row j hj).more hs3, H4.rowS, H4.apart⟩
          rcases H4.out.2 with hn | ⟨g, cap, cur, hv, hb, rest⟩
          · exact .inl hn
          · exact .inr ⟨g, cap, cur, hv, Nat.le_trans hs3 hb, rest⟩
        have H5 := hid hH5
        have B4 := hid hB4
        have hs4 := hB4.size
        clear H4 b4 hB4 hH5 hN
        go_wp2_with (at_builtin; refine wpList_append_opt _ rfl _ _ 43 rfl w.heap.size 22 i1 (.slice none 0 0) 1 24 Tryz.underlying43 hj hy0 hy1 hy2 rfl (by decide) _ _ _ rfl (PU.out.below B4.out).out A4 N.length c4 (RL P4 C4 N) rfl (by rw [RL_len]; omega) (fun e => own2_none (by rw [← e]; exact H5.out)) (fun ad e => own2_news (by rw [← e]; exact H5.out)) (RL_one _ _ _) (by unfold maxLen; omega) (by omega) (by omega) ?_)
        intro v5 w5 hown5 hgrow5
        have hp5 := PU.out.pushAll B4.out H5.out hs1 hown5 hgrow5
        rw [← HR.out] at hp5
        have HB5 := hid (show Below w.heap.size w w5 from (B1.out.trans (B4.out.mono hs1)).grown hgrow5 (by omega) (fun q hq => (PU.out.out.lt q hq).1))
        obtain ⟨A6, c6, rfl, ho6⟩ := hp5.own2
        have HO6 := hid ho6
        clear hown5 hgrow5 hp5 ho6
        go_wp2_with fail
        go_ret
        exact ⟨A6, c6, rfl, HO6.out, HB5.out⟩
    · by_cases hxb2 : x ≤ b
      · have HM1 := hid (show decide (x - a ∈ H) = true by have := HA1.out; simpa [hbB, hxa] using this)
        go_wp2_with fail
        refine (l1Has2_b _ _ _ _ _ hHl (HO.out.cells.later B1.out) _ HM1.out).mono ?_
        rintro e w' ⟨rfl, rfl⟩
        go_wp2_with fail
        refine (HOW.out _ (HO.out.below B1.out)).mono ?_
        rintro e w2 ⟨A2, c2, rfl, o2, b2⟩
        have O2 := hid o2
        have B2 := hid b2
        have hs2 := b2.size
        clear o2 b2
        go_wp2_with (at_builtin; refine wpList_append_own _ rfl _ _ 22 rfl w1.heap.size 3 i0 (.int .i64 0) 1 8 Tryz.underlying22 hi hz0 hz1 hz2 rfl (by decide) _ _ _ rfl (O2.out.alloc _) ⟨w2.heap.size, 0, none⟩ 1 1 [.int .i64 x] rfl rfl one_at (one_cell _) (by unfold maxLen; omega) (by omega) (by simp; omega) ?_)
        intro v' w3 hown' hgrow _
        have hb3 : Below w1.heap.size w1 w3 := (B2.out.alloc B2.out.size _).grown hgrow (by simp; omega) (fun q hq => (O2.out.lt q hq).1)
        rw [← HIX.out] at hown'
        obtain ⟨A3, c3, rfl, o3⟩ := own_form hown' HQL.out
        have HCA := hid (IH.out (k + 1) w1.heap.size A3 c3 Q w3 HDK.out (by have := HQL.out; omega) o3 (HCG.out _ (Below.next B1.out hb3)) hk1)
        rw [show ((k + 1 : Nat) : Int) = (k : Int) + 1 by omega] at HCA
        have B3 := hid hb3
        clear hown' hgrow o3 hb3
        go_wp2_with fail
        refine HCA.out.mono ?_
        rintro e w4 ⟨A4, c4, rfl, ⟨P4, C4, H4⟩, b4⟩
        obtain ⟨N, hN⟩ : ∃ N, N = bsL a b gs Q := ⟨_, rfl⟩
        rw [← hN] at HR HNL H4 ⊢
        have hNL := HNL.out
        have hs3 := B3.out.size
        have hB4 : Below w1.heap.size w1 w4 := Below.next B3.out b4
        have hH5 : Own2At w4 w1.heap.size w4.heap.size A4 c4 N P4 C4 := by
          refine ⟨⟨H4.out.1, ?_⟩, H4.outS, fun j hj => (H4.row j hj).more hs3, H4.rowS, H4.apart⟩
          rcases H4.out.2 with hn | ⟨g, cap, cur, hv, hb, rest⟩
          · exact .inl hn
          · exact .inr ⟨g, cap, cur, hv, Nat.le_trans hs3 hb, rest⟩
        have H5 := hid hH5
        have B4 := hid hB4
        have hs4 := hB4.size
        clear H4 b4 hB4 hH5 hN
        go_wp2_with (at_builtin; refine wpList_append_opt _ rfl _ _ 43 rfl w.heap.size 22 i1 (.slice none 0 0) 1 24 Tryz.underlying43 hj hy0 hy1 hy2 rfl (by decide) _ _ _ rfl (PU.out.below B4.out).out A4 N.length c4 (RL P4 C4 N) rfl (by rw [RL_len]; omega) (fun e => own2_none (by rw [← e]; exact H5.out)) (fun ad e => own2_news (by rw [← e]; exact H5.out)) (RL_one _ _ _) (by unfold maxLen; omega) (by omega) (by omega) ?_)
        intro v5 w5 hown5 hgrow5
        have hp5 := PU.out.pushAll B4.out H5.out hs1 hown5 hgrow5
        rw [← HR.out] at hp5
        have HB5 := hid (show Below w.heap.size w w5 from (B1.out.trans (B4.out.mono hs1)).grown hgrow5 (by omega) (fun q hq => (PU.out.out.lt q hq).1))
        obtain ⟨A6, c6, rfl, ho6⟩ := hp5.own2
        have HO6 := hid ho6
        clear hown5 hgrow5 hp5 ho6
        go_wp2_with fail
        go_ret
        exact ⟨A6, c6, rfl, HO6.out, HB5.out⟩
      · have HM1 := hid (show decide (x - a ∈ H) = true by have := HA1.out; simpa [hbB, hxa] using this)
        have HM2 := hid (show decide (x - b ∈ H) = true by have := HB1.out; simpa [hbB, hxb2] using this)
        go_wp2_with fail
        refine (l1Has2_b _ _ _ _ _ hHl (HO.out.cells.later B1.out) _ HM1.out).mono ?_
        rintro e w' ⟨rfl, rfl⟩
        go_wp2_with fail
        refine (l1Has2_b _ _ _ _ _ hHl (HO.out.cells.later B1.out) _ HM2.out).mono ?_
        rintro e w' ⟨rfl, rfl⟩
        go_wp2_with fail
        refine (HOW.out _ (HO.out.below B1.out)).mono ?_
        rintro e w2 ⟨A2, c2, rfl, o2, b2⟩
        have O2 := hid o2
        have B2 := hid b2
        have hs2 := b2.size
        clear o2 b2
        go_wp2_with (at_builtin; refine wpList_append_own _ rfl _ _ 22 rfl w1.heap.size 3 i0 (.int .i64 0) 1 8 Tryz.underlying22 hi hz0 hz1 hz2 rfl (by decide) _ _ _ rfl (O2.out.alloc _) ⟨w2.heap.size, 0, none⟩ 1 1 [.int .i64 x] rfl rfl one_at (one_cell _) (by unfold maxLen; omega) (by omega) (by simp; omega) ?_)
        intro v' w3 hown' hgrow _
        have hb3 : Below w1.heap.size w1 w3 := (B2.out.alloc B2.out.size _).grown hgrow (by simp; omega) (fun q hq => (O2.out.lt q hq).1)
        rw [← HIX.out] at hown'
        obtain ⟨A3, c3, rfl, o3⟩ := own_form hown' HQL.out
        have HCA := hid (IH.out (k + 1) w1.heap.size A3 c3 Q w3 HDK.out (by have := HQL.out; omega) o3 (HCG.out _ (Below.next B1.out hb3)) hk1)
        rw [show ((k + 1 : Nat) : Int) = (k : Int) + 1 by omega] at HCA
        have B3 := hid hb3
        clear hown' hgrow o3 hb3
        go_wp2_with fail
        refine HCA.out.mono ?_
        rintro e w4 ⟨A4, c4, rfl, ⟨P4, C4, H4⟩, b4⟩
        obtain ⟨N, hN⟩ : ∃ N, N = bsL a b gs Q := ⟨_, rfl⟩
        rw [← hN] at HR HNL H4 ⊢
        have hNL := HNL.out
        have hs3 := B3.out.size
        have hB4 : Below w1.heap.size w1 w4 := Below.next B3.out b4
        have hH5 : Own2At w4 w1.heap.size w4.heap.size A4 c4 N P4 C4 := by
          refine ⟨⟨H4.out.1, ?_⟩, H4.outS, fun j hj => (H4.row j hj).more hs3, H4.rowS, H4.apart⟩
          rcases H4.out.2 with hn | ⟨g, cap, cur, hv, hb, rest⟩
          · exact .inl hn
          · exact .inr ⟨g, cap, cur, hv, Nat.le_trans hs3 hb, rest⟩
        have H5 := hid hH5
        have B4 := hid hB4
        have hs4 := hB4.size
        clear H4 b4 hB4 hH5 hN
        go_wp2_with (at_builtin; refine wpList_append_opt _ rfl _ _ 43 rfl w.heap.size 22 i1 (.slice none 0 0) 1 24 Tryz.underlying43 hj hy0 hy1 hy2 rfl (by decide) _ _ _ rfl (PU.out.below B4.out).out A4 N.length c4 (RL P4 C4 N) rfl (by rw [RL_len]; omega) (fun e => own2_none (by rw [← e]; exact H5.out)) (fun ad e => own2_news (by rw [← e]; exact H5.out)) (RL_one _ _ _) (by unfold maxLen; omega) (by omega) (by omega) ?_)
        intro v5 w5 hown5 hgrow5
        have hp5 := PU.out.pushAll B4.out H5.out hs1 hown5 hgrow5
        rw [← HR.out] at hp5
        have HB5 := hid (show Below w.heap.size w w5 from (B1.out.trans (B4.out.mono hs1)).grown hgrow5 (by omega) (fun q hq => (PU.out.out.lt q hq).1))
        obtain ⟨A6, c6, rfl, ho6⟩ := hp5.own2
        have HO6 := hid ho6
        clear hown5 hgrow5 hp5 ho6
        go_wp2_with fail
        go_ret
        exact ⟨A6, c6, rfl, HO6.out, HB5.out⟩
end Go.Proofs.YtijfefahogcfmaaGreat
/-
  The model's order of partitions; a place in an ordered list.
-/
namespace Go.Proofs.YtijfefahogcfmaaGreat
open Go.RowKit

def befB : List Int → List Int → Bool
  | x :: p, y :: q => if x = y then befB p q else decide (y < x)
  | _, _ => false
theorem befB_end {p q : List Int} {k : Nat} (h : p.length ≤ k ∨ q.length ≤ k) : befB (p.drop k) (q.drop k) = false := by
  rcases h with h | h
  · rw [List.drop_eq_nil_of_le h]; rfl
  · rw [List.drop_eq_nil_of_le h]; cases p.drop k <;> rfl
theorem drop_getD (xs : List Int) (k : Nat) (h : k < xs.length) : xs.drop k = xs.getD k 0 :: xs.drop (k + 1) := by
  rw [List.drop_eq_getElem_cons h, List.getD_eq_getElem?_getD, List.getElem?_eq_getElem h]; rfl
theorem befB_eq {p q : List Int} {k : Nat} (h1 : k < p.length) (h2 : k < q.length) (h : p.getD k 0 = q.getD k 0) : befB (p.drop k) (q.drop k) = befB (p.drop (k + 1)) (q.drop (k + 1)) := by
  rw [drop_getD p k h1, drop_getD q k h2, befB, if_pos h]
theorem befB_ne {p q : List Int} {k : Nat} (h1 : k < p.length) (h2 : k < q.length) (h : p.getD k 0 ≠ q.getD k 0) : befB (p.drop k) (q.drop k) = decide (q.getD k 0 < p.getD k 0) := by
  rw [drop_getD p k h1, drop_getD q k h2, befB, if_neg h]

set_option maxRecDepth 100000 in
set_option maxHeartbeats 2000000 in
theorem chBefore_any (A B : Option Addr) (c d : Nat) (xs ys : List Int) (w : World) (hl : xs.length ≤ 1048576) (hl2 : ys.length ≤ 1048576) (hA : Cells w A xs) (hB : Cells w B ys) :
    Calls Tryz.prog 49 #[.slice A xs.length c, .slice B ys.length d] w fun e w' => e = .returned (.bool (befB xs ys)) ∧ ∃ n, w' = w.drewN n := by
  have HR := hid (show befB xs ys = befB (xs.drop 0) (ys.drop 0) from rfl)
  obtain ⟨R, hR⟩ : ∃ R, R = befB xs ys := ⟨_, rfl⟩
  rw [← hR] at HR ⊢
  clear hR
  go_enter Tryz.func49, Tryz.ntmps49
  go_wp2_with fail
  go_loopw [5] (fun i wr => ∃ k : Nat, k ≤ xs.length ∧ k ≤ ys.length ∧ i = .int .i64 k ∧ Hid (R = befB (xs.drop k) (ys.drop k)) ∧ ∃ n, wr = w.drewN n) (fun i _ => xs.length - (intOf i).toNat)
  case atStart => exact ⟨0, Nat.zero_le _, Nat.zero_le _, rfl, HR, 0, rfl⟩
  case round =>
    obtain ⟨k, hk, hk2, rfl, HE, n, rfl⟩ := hrel
    by_cases hlt : k < xs.length
    · by_cases hlt2 : k < ys.length
      · obtain ⟨b, o, rfl, hcc⟩ := hA (by omega)
        obtain ⟨b2, o2, rfl, hcc2⟩ := hB (by omega)
        have hck := hcc k hlt
        have hck2 := hcc2 k hlt2
        have H1 := hid (befB_eq hlt hlt2)
        have H2 := hid (befB_ne hlt hlt2)
        clear hcc hcc2
        obtain ⟨x, hx⟩ : ∃ x, x = xs.getD k 0 := ⟨_, rfl⟩
        obtain ⟨y, hy⟩ : ∃ y, y = ys.getD k 0 := ⟨_, rfl⟩
        rw [← hx] at hck H1 H2
        rw [← hy] at hck2 H1 H2
        clear hx hy
        by_cases he : x = y
        · have HS := hid (HE.out.trans (H1.out he))
          subst he
          go_wp2_with fail
          go_quiet (fail)
          go_wp2_with fail
          go_roundw
          case rel => exact ⟨k + 1, by omega, by omega, by go_num, HS, _, rfl⟩
          case measure => simp [intOf]; omega
        · have heb : (x != y) = true := by simpa using he
          have heb2 : (x == y) = false := by simpa using he
          have HS := hid (HE.out.trans (H2.out he))
          clear he
          go_wp2_with fail
          go_quiet (fail)
          go_wp2_with fail
          go_quiet (fail)
          go_wp2_with fail
          go_ret
          exact ⟨ret_bool HS.out.symm, _, by simp only [World.drewN_drewN]; rfl⟩
      · have HS := hid (HE.out.trans (befB_end (.inr (by omega))))
        go_wp2_with fail
        go_ret
        exact ⟨ret_bool HS.out.symm, n, rfl⟩
    · have HS := hid (HE.out.trans (befB_end (.inl (by omega))))
      go_wp2_with fail
      go_ret
      exact ⟨ret_bool HS.out.symm, n, rfl⟩

/-! The place of a partition. -/
def aftB (row p : List Int) : Bool := decide (p.sum < row.sum) || (decide (row.sum = p.sum) && befB p row)
def kIns (rows : List (List Int)) (p : List Int) : Nat → Nat
  | 0 => 0
  | k + 1 => if aftB (rows.getD k []) p = true then kIns rows p k else k + 1
theorem kIns_le (rows : List (List Int)) (p : List Int) : ∀ k, kIns rows p k ≤ k
  | 0 => Nat.le_refl _
  | k + 1 => by
    have := kIns_le rows p k
    rw [kIns]; split <;> omega
def insP (rows : List (List Int)) (p : List Int) : List (List Int) := insR rows (kIns rows p rows.length) p
theorem insP_len (rows : List (List Int)) (p : List Int) : (insP rows p).length = rows.length + 1 := insR_len (kIns_le _ _ _) p
def boK (S : List (List Int)) (m : Nat) : List (List Int) := ((S.take m).map ffF).foldl insP []
theorem boK_succ (S : List (List Int)) (m : Nat) (h : m < S.length) : boK S (m + 1) = insP (boK S m) (ffF (S.getD m [])) := by
  unfold boK
  rw [List.take_succ_eq_append_getElem h, List.map_append, List.foldl_append, List.getD_eq_getElem?_getD, List.getElem?_eq_getElem h]; rfl
theorem boK_len (S : List (List Int)) : ∀ m, m ≤ S.length → (boK S m).length = m
  | 0, _ => rfl
  | m + 1, h => by rw [boK_succ S m h, insP_len, boK_len S m (by omega)]
theorem ffF_good (H : List Int) : good (ffF H) = true := by
  unfold ffF
  split
  · rename_i h
    simp only [ffOk, Bool.and_eq_true] at h
    exact h.2.2
  · rfl
theorem insR_all {Q : List Int → Prop} {rows : List (List Int)} {p : List Int} (k : Nat) (h : ∀ r ∈ rows, Q r) (hp : Q p) : ∀ r ∈ insR rows k p, Q r := by
  intro r hr
  unfold insR at hr
  rw [List.mem_append, List.mem_cons] at hr
  rcases hr with hr | rfl | hr
  · exact h r (List.mem_of_mem_take hr)
  · exact hp
  · exact h r (List.mem_of_mem_drop hr)
theorem boK_good (S : List (List Int)) : ∀ m, m ≤ S.length → ∀ r ∈ boK S m, good r = true
  | 0, _ => fun r hr => by cases hr
  | m + 1, h => by
    rw [boK_succ S m h]
    exact insR_all _ (boK_good S m (by omega)) (ffF_good _)
def boS (a b : Int) : List (List Int) := bsL a b (gapsL a b) []
def boL (a b : Int) : List (List Int) := boK (boS a b) (boS a b).length

theorem addr_add0 (g k : Nat) : (⟨g, 0, none⟩ : Addr).add k = ⟨g, k, none⟩ := by
  unfold Addr.add
  split
  · rename_i h; subst h; rfl
  · simp
theorem addr_add_add (a : Addr) (k j : Nat) : (a.add k).add j = a.add (k + j) := by
  unfold Addr.add
  by_cases h1 : k = 0
  · subst h1; simp
  · by_cases h2 : j = 0
    · subst h2; simp [h1]
    · rw [if_neg h1, if_neg h2, if_neg (by omega)]; simp [Nat.add_assoc]
theorem cut_take {w W : World} {A : Option Addr} {L : List Value} (h : ∀ ad, A = some ad → ∀ j u, L[j]? = some u → w.cell? (ad.add j) = some u) (hW : Below w.heap.size w W) (k : Nat) :
    ∀ ad, A = some ad → ∀ j u, (L.take k)[j]? = some u → W.cell? (ad.add j) = some u := by
  intro ad e j u hu
  rw [List.getElem?_take] at hu
  split at hu
  · have h1 := h ad e j u hu
    rw [hW.cell (World.block_lt_of_cell? w _ h1), h1]
  · cases hu
theorem cut_drop {w W : World} {A : Option Addr} {L : List Value} {c : Nat} (h : ∀ ad, A = some ad → ∀ j u, L[j]? = some u → w.cell? (ad.add j) = some u) (hW : Below w.heap.size w W) (k : Nat) (hc : L.length ≤ c) :
    ∀ ad, cutA A c k = some ad → ∀ j u, (L.drop k)[j]? = some u → W.cell? (ad.add j) = some u := by
  intro ad e j u hu
  rw [List.getElem?_drop] at hu
  have hj := (List.getElem?_eq_some_iff.1 hu).1
  cases A with
  | none => rw [cutA_none] at e; cases e
  | some a0 =>
    rw [cutA_some (by omega)] at e
    cases e
    have h1 := h a0 rfl (k + j) u hu
    rw [addr_add_add, hW.cell (World.block_lt_of_cell? w _ h1), h1]
end Go.Proofs.YtijfefahogcfmaaGreat
