/-
  Sets of closed gaps: the model's boSets.
-/
import Derived.Test.YtnjhjdidohdkmaaBc
import Derived.Test.YtnjhjdidohdkmaaPushAll
import Derived.Test.YtnjhjdidohdkmaaOwnCopy
import Derived.Test.YtnjhjdidohdkmaaCH
namespace Go.Proofs.Ytnjhjdidohdkmaa
open Go.RowKit

/-- All closed gaps that go on H with some of the gaps. -/
def bsL (a b : Int) : List Int → List Int → List (List Int)
  | [], H => [H]
  | x :: gs, H => bsL a b gs H ++ (if (hbB H x a && hbB H x b) = true then bsL a b gs (H ++ [x]) else [])
theorem bsL_len (a b : Int) : ∀ (gs H : List Int), (bsL a b gs H).length ≤ 2 ^ gs.length
  | [], H => Nat.le_refl _
  | x :: gs, H => by
    rw [bsL, List.length_append, List.length_cons, Nat.pow_succ]
    have h1 := bsL_len a b gs H
    split
    · have h2 := bsL_len a b gs (H ++ [x]); omega
    · simp; omega
theorem pow10 {n : Nat} (h : n ≤ 10) : 2 ^ n ≤ 1024 := by
  rcases (show n = 0 ∨ n = 1 ∨ n = 2 ∨ n = 3 ∨ n = 4 ∨ n = 5 ∨ n = 6 ∨ n = 7 ∨ n = 8 ∨ n = 9 ∨ n = 10 by omega) with rfl | rfl | rfl | rfl | rfl | rfl | rfl | rfl | rfl | rfl | rfl <;> decide

set_option maxRecDepth 100000 in
set_option maxHeartbeats 3000000 in
theorem boSets_any (a b : Int) (ha : 2 ≤ a ∧ a ≤ 7) (hb : 2 ≤ b ∧ b ≤ 7) (Ag : Option Addr) (cg : Nat) (G : List Int) (hG : G.length ≤ 10) (hGb : ∀ j, j < G.length → 1 ≤ G.getD j 0 ∧ G.getD j 0 ≤ 60) :
    ∀ (gs : List Int) (k B : Nat) (A : Option Addr) (c : Nat) (H : List Int) (w : World), G.drop k = gs → H.length ≤ k → Own w B A c H → Cells w Ag G → k ≤ G.length →
    Calls Try.prog 54 #[.slice A H.length c, .slice Ag G.length cg, .int .i64 k, .int .i64 a, .int .i64 b] w fun e w' => ∃ A' c', e = .returned (.slice A' (bsL a b gs H).length c') ∧ Own2 w' w.heap.size w'.heap.size A' c' (bsL a b gs H) ∧ Below w.heap.size w w' := by
  obtain ⟨i0, hi, hz0, hz1, hz2⟩ := info_parts Try.infoInt
  obtain ⟨i1, hj, hy0, hy1, hy2⟩ := info_parts Try.infoInts
  intro gs
  induction gs with
  | nil =>
    intro k B A c H w hd hH ho hc hk
    have hkl : k = G.length := by have := congrArg List.length hd; rw [List.length_drop] at this; simp at this; omega
    have HOW := hid fun W (h : Own W B A c H) => l1Own_any A c H W (by omega) h
    have HO := hid ho
    have hHl : H.length ≤ 10 := by omega
    have hke2 : (k : Int) = (G.length : Int) := by omega
    clear hd hH ho hkl hc
    rw [bsL]
    go_enter Try.func54, Try.ntmps54
    go_wp2_with fail
    refine (HOW.out _ HO.out).mono ?_
    rintro e w1 ⟨A1, c1, rfl, o1, b1⟩
    have O1 := hid o1
    have B1 := hid b1
    have hs1 := b1.size
    clear o1 b1
    go_wp2_with fail
    go_ret
    exact ⟨some ⟨w1.heap.size, 0, none⟩, 1, rfl, own2_one hs1 O1.out, B1.out.alloc hs1 _⟩
  | cons x gs ih =>
    intro k B A c H w hd hH ho hc hk
    have hkl : k < G.length := by have := congrArg List.length hd; rw [List.length_drop, List.length_cons] at this; omega
    have hx : G.getD k 0 = x := by
      have h0 : (G.drop k).getD 0 0 = x := by rw [hd]; rfl
      rw [List.getD_eq_getElem?_getD, List.getElem?_drop] at h0
      rw [List.getD_eq_getElem?_getD]; exact h0
    have hdk : G.drop (k + 1) = gs := by rw [← List.drop_drop, hd]; rfl
    have hgl : gs.length ≤ 10 := by have := congrArg List.length hd; rw [List.length_drop, List.length_cons] at this; omega
    have HDK := hid hdk
    have hk1 : k + 1 ≤ G.length := hkl
    have IH := hid fun k' B' A' c' H' W (h1 : G.drop k' = gs) (h2 : H'.length ≤ k') (h3 : Own W B' A' c' H') (h4 : Cells W Ag G) (h5 : k' ≤ G.length) => ih k' B' A' c' H' W h1 h2 h3 h4 h5
    have HOW := hid fun W (h : Own W B A c H) => l1Own_any A c H W (by omega) h
    have HO := hid ho
    have HCG := hid fun W (h : Below w.heap.size w W) => (hc.later h : Cells W Ag G)
    have hHl : H.length ≤ 1048576 := by omega
    have hH10 : H.length ≤ 10 := by omega
    have hxb := hGb k hkl
    rw [hx] at hxb
    have HCX := hid fun W (h : Below w.heap.size w W) => (hc.later h).get hkl
    rw [hx] at HCX
    have HIX := hid (show IL (H ++ [x]) = IL H ++ [.int .i64 x] by simp [IL])
    have HQL := hid (show H.length + 1 = (H ++ [x]).length by simp)
    have HR := hid (show bsL a b (x :: gs) H = bsL a b gs H ++ (if (hbB H x a && hbB H x b) = true then bsL a b gs (H ++ [x]) else []) from rfl)
    have HNL := hid (Nat.le_trans (bsL_len a b gs (H ++ [x])) (pow10 hgl))
    have HML := hid (Nat.le_trans (bsL_len a b gs H) (pow10 hgl))
    have HFC := hid (IH.out (k + 1) B A c H w hdk (by omega) ho hc hk1)
    rw [show ((k + 1 : Nat) : Int) = (k : Int) + 1 by omega] at HFC
    have hke2 : ¬ (k : Int) = (G.length : Int) := by omega
    obtain ⟨Q, hQ⟩ : ∃ Q, Q = H ++ [x] := ⟨_, rfl⟩
    rw [← hQ] at HIX HQL HR HNL
    obtain ⟨RES, hRES⟩ : ∃ RES, RES = bsL a b (x :: gs) H := ⟨_, rfl⟩
    rw [← hRES] at HR ⊢
    obtain ⟨M, hM⟩ : ∃ M, M = bsL a b gs H := ⟨_, rfl⟩
    rw [← hM] at HR HML HFC
    have hML := HML.out
    clear hd hdk ho hc hx hRES hM ih hgl hQ
    go_enter Try.func54, Try.ntmps54
    go_wp2_with fail
    refine HFC.out.mono ?_
    rintro e w1 ⟨A1, c1, rfl, ow1, b1⟩
    have OW1 := hid ow1
    obtain ⟨P1, C1, H1⟩ := ow1
    have PU : Hid (Push w1 w.heap.size (.slice A1 M.length c1) M P1 C1) := hid ⟨H1.out, H1.row, H1.apart⟩
    have B1 := hid b1
    have hs1 := b1.size
    obtain ⟨bb, o, hAe, hck⟩ := HCX.out w1 b1
    clear H1 b1 HFC
    subst hAe
    cases hA : hbB H x a
    · have hxa : a < x ∧ decide (x - a ∈ H) = false := by
        simp only [hbB, Bool.or_eq_false_iff, decide_eq_false_iff_not] at hA; exact ⟨by omega, by simp [hA.2]⟩
      obtain ⟨hxa1, hxa2⟩ := hxa
      have HM := hid hxa2
      rw [hA, Bool.false_and, if_neg (by simp)] at HR
      clear hA hxa2
      go_wp2_with fail
      refine (l1Has2_b _ _ _ _ _ hHl (HO.out.cells.later B1.out) _ HM.out).mono ?_
      rintro e w' ⟨rfl, rfl⟩
      go_wp2_with fail
      go_ret
      exact ⟨A1, c1, by rw [HR.out, List.append_nil]; rfl, by rw [HR.out, List.append_nil]; exact OW1.out, B1.out⟩
    rw [hA, Bool.true_and] at HR
    cases hB : hbB H x b
    · have hxa : b < x ∧ decide (x - b ∈ H) = false := by
        simp only [hbB, Bool.or_eq_false_iff, decide_eq_false_iff_not] at hB; exact ⟨by omega, by simp [hB.2]⟩
      obtain ⟨hxa1, hxa2⟩ := hxa
      have HM := hid hxa2
      rw [hB, if_neg (by simp)] at HR
      have HA1 := hid hA
      clear hA hxa2 hB
      by_cases hxa : x ≤ a
      · go_wp2_with fail
        refine (l1Has2_b _ _ _ _ _ hHl (HO.out.cells.later B1.out) _ HM.out).mono ?_
        rintro e w' ⟨rfl, rfl⟩
        go_wp2_with fail
        go_ret
        exact ⟨A1, c1, by rw [HR.out, List.append_nil]; rfl, by rw [HR.out, List.append_nil]; exact OW1.out, B1.out⟩
      · have HM1 := hid (show decide (x - a ∈ H) = true by have := HA1.out; simpa [hbB, hxa] using this)
        go_wp2_with fail
        refine (l1Has2_b _ _ _ _ _ hHl (HO.out.cells.later B1.out) _ HM1.out).mono ?_
        rintro e w' ⟨rfl, rfl⟩
        go_wp2_with fail
        refine (l1Has2_b _ _ _ _ _ hHl (HO.out.cells.later B1.out) _ HM.out).mono ?_
        rintro e w' ⟨rfl, rfl⟩
        go_wp2_with fail
        go_ret
        exact ⟨A1, c1, by rw [HR.out, List.append_nil]; rfl, by rw [HR.out, List.append_nil]; exact OW1.out, B1.out⟩
    rw [hB, if_pos rfl] at HR
    have HA1 := hid hA; have HB1 := hid hB
    clear hA hB
    by_cases hxa : x ≤ a
    · by_cases hxb2 : x ≤ b
      · go_wp2_with fail
        refine (HOW.out _ (HO.out.below B1.out)).mono ?_
        rintro e w2 ⟨A2, c2, rfl, o2, b2⟩
        have O2 := hid o2
        have B2 := hid b2
        have hs2 := b2.size
        clear o2 b2
        go_wp2_with (at_builtin; refine wpList_append_own _ rfl _ _ 27 rfl w1.heap.size 3 i0 (.int .i64 0) 1 8 Try.underlying27 hi hz0 hz1 hz2 rfl (by decide) _ _ _ rfl (O2.out.alloc _) ⟨w2.heap.size, 0, none⟩ 1 1 [.int .i64 x] rfl rfl one_at (one_cell _) (by unfold maxLen; omega) (by omega) (by simp; omega) ?_)
        intro v' w3 hown' hgrow _
        have hb3 : Below w1.heap.size w1 w3 := (B2.out.alloc B2.out.size _).grown hgrow (by simp; omega) (fun q hq => (O2.out.lt q hq).1)
        rw [← HIX.out] at hown'
        obtain ⟨A3, c3, rfl, o3⟩ := own_form hown' HQL.out
        have HCA := hid (IH.out (k + 1) w1.heap.size A3 c3 Q w3 HDK.out (by have := HQL.out; omega) o3 (HCG.out _ (Below.next B1.out hb3)) hk1)
        rw [show ((k + 1 : Nat) : Int) = (k : Int) + 1 by omega] at HCA
        have B3 := hid hb3
        clear hown' hgrow o3 hb3
        go_wp2_with fail
        refine HCA.out.mono ?_
        rintro e w4 ⟨A4, c4, rfl, ⟨P4, C4, H4⟩, b4⟩
        obtain ⟨N, hN⟩ : ∃ N, N = bsL a b gs Q := ⟨_, rfl⟩
        rw [← hN] at HR HNL H4 ⊢
        have hNL := HNL.out
        have hs3 := B3.out.size
        have hB4 : Below w1.heap.size w1 w4 := Below.next B3.out b4
        have hH5 : Own2At w4 w1.heap.size w4.heap.size A4 c4 N P4 C4 := by
          refine ⟨⟨H4.out.1, ?_⟩, H4.outS, fun j hj => (H4.row j hj).more hs3, H4.rowS, H4.apart⟩
          rcases H4.out.2 with hn | ⟨g, cap, cur, hv, hb, rest⟩
          · exact .inl hn
          · exact .inr ⟨g, cap, cur, hv, Nat.le_trans hs3 hb, rest⟩
        have H5 := hid hH5
        have B4 := hid hB4
        have hs4 := hB4.size
        clear H4 b4 hB4 hH5 hN
        go_wp2_with (at_builtin; refine wpList_append_opt _ rfl _ _ 22 rfl w.heap.size 27 i1 (.slice none 0 0) 1 24 Try.underlying22 hj hy0 hy1 hy2 rfl (by decide) _ _ _ rfl (PU.out.below B4.out).out A4 N.length c4 (RL P4 C4 N) rfl (by rw [RL_len]; omega) (fun e => own2_none (by rw [← e]; exact H5.out)) (fun ad e => own2_news (by rw [← e]; exact H5.out)) (RL_one _ _ _) (by unfold maxLen; omega) (by omega) (by omega) ?_)
        intro v5 w5 hown5 hgrow5
        have hp5 := PU.out.pushAll B4.out H5.out hs1 hown5 hgrow5
        rw [← HR.out] at hp5
        have HB5 := hid (show Below w.heap.size w w5 from (B1.out.trans (B4.out.mono hs1)).grown hgrow5 (by omega) (fun q hq => (PU.out.out.lt q hq).1))
        obtain ⟨A6, c6, rfl, ho6⟩ := hp5.own2
        have HO6 := hid ho6
        clear hown5 hgrow5 hp5 ho6
        go_wp2_with fail
        go_ret
        exact ⟨A6, c6, rfl, HO6.out, HB5.out⟩
      · have HM2 := hid (show decide (x - b ∈ H) = true by have := HB1.out; simpa [hbB, hxb2] using this)
        go_wp2_with fail
        refine (l1Has2_b _ _ _ _ _ hHl (HO.out.cells.later B1.out) _ HM2.out).mono ?_
        rintro e w' ⟨rfl, rfl⟩
        go_wp2_with fail
        refine (HOW.out _ (HO.out.below B1.out)).mono ?_
        rintro e w2 ⟨A2, c2, rfl, o2, b2⟩
        have O2 := hid o2
        have B2 := hid b2
        have hs2 := b2.size
        clear o2 b2
        go_wp2_with (at_builtin; refine wpList_append_own _ rfl _ _ 27 rfl w1.heap.size 3 i0 (.int .i64 0) 1 8 Try.underlying27 hi hz0 hz1 hz2 rfl (by decide) _ _ _ rfl (O2.out.alloc _) ⟨w2.heap.size, 0, none⟩ 1 1 [.int .i64 x] rfl rfl one_at (one_cell _) (by unfold maxLen; omega) (by omega) (by simp; omega) ?_)
        intro v' w3 hown' hgrow _
        have hb3 : Below w1.heap.size w1 w3 := (B2.out.alloc B2.out.size _).grown hgrow (by simp; omega) (fun q hq => (O2.out.lt q hq).1)
        rw [← HIX.out] at hown'
        obtain ⟨A3, c3, rfl, o3⟩ := own_form hown' HQL.out
        have HCA := hid (IH.out (k + 1) w1.heap.size A3 c3 Q w3 HDK.out (by have := HQL.out; omega) o3 (HCG.out _ (Below.next B1.out hb3)) hk1)
        rw [show ((k + 1 : Nat) : Int) = (k : Int) + 1 by omega] at HCA
        have B3 := hid hb3
        clear hown' hgrow o3 hb3
        go_wp2_with fail
        refine HCA.out.mono ?_
        rintro e w4 ⟨A4, c4, rfl, ⟨P4, C4, H4⟩, b4⟩
        obtain ⟨N, hN⟩ : ∃ N, N = bsL a b gs Q := ⟨_, rfl⟩
        rw [← hN] at HR HNL H4 ⊢
        have hNL := HNL.out
        have hs3 := B3.out.size
        have hB4 : Below w1.heap.size w1 w4 := Below.next B3.out b4
        have hH5 : Own2At w4 w1.heap.size w4.heap.size A4 c4 N P4 C4 := by
          refine ⟨⟨H4.out.1, ?_⟩, H4.outS, fun j hj => (H4.row j hj).more hs3, H4.rowS, H4.apart⟩
          rcases H4.out.2 with hn | ⟨g, cap, cur, hv, hb, rest⟩
          · exact .inl hn
          · exact .inr ⟨g, cap, cur, hv, Nat.le_trans hs3 hb, rest⟩
        have H5 := hid hH5
        have B4 := hid hB4
        have hs4 := hB4.size
        clear H4 b4 hB4 hH5 hN
        go_wp2_with (at_builtin; refine wpList_append_opt _ rfl _ _ 22 rfl w.heap.size 27 i1 (.slice none 0 0) 1 24 Try.underlying22 hj hy0 hy1 hy2 rfl (by decide) _ _ _ rfl (PU.out.below B4.out).out A4 N.length c4 (RL P4 C4 N) rfl (by rw [RL_len]; omega) (fun e => own2_none (by rw [← e]; exact H5.out)) (fun ad e => own2_news (by rw [← e]; exact H5.out)) (RL_one _ _ _) (by unfold maxLen; omega) (by omega) (by omega) ?_)
        intro v5 w5 hown5 hgrow5
        have hp5 := PU.out.pushAll B4.out H5.out hs1 hown5 hgrow5
        rw [← HR.out] at hp5
        have HB5 := hid (show Below w.heap.size w w5 from (B1.out.trans (B4.out.mono hs1)).grown hgrow5 (by omega) (fun q hq => (PU.out.out.lt q hq).1))
        obtain ⟨A6, c6, rfl, ho6⟩ := hp5.own2
        have HO6 := hid ho6
        clear hown5 hgrow5 hp5 ho6
        go_wp2_with fail
        go_ret
        exact ⟨A6, c6, rfl, HO6.out, HB5.out⟩
    · by_cases hxb2 : x ≤ b
      · have HM1 := hid (show decide (x - a ∈ H) = true by have := HA1.out; simpa [hbB, hxa] using this)
        go_wp2_with fail
        refine (l1Has2_b _ _ _ _ _ hHl (HO.out.cells.later B1.out) _ HM1.out).mono ?_
        rintro e w' ⟨rfl, rfl⟩
        go_wp2_with fail
        refine (HOW.out _ (HO.out.below B1.out)).mono ?_
        rintro e w2 ⟨A2, c2, rfl, o2, b2⟩
        have O2 := hid o2
        have B2 := hid b2
        have hs2 := b2.size
        clear o2 b2
        go_wp2_with (at_builtin; refine wpList_append_own _ rfl _ _ 27 rfl w1.heap.size 3 i0 (.int .i64 0) 1 8 Try.underlying27 hi hz0 hz1 hz2 rfl (by decide) _ _ _ rfl (O2.out.alloc _) ⟨w2.heap.size, 0, none⟩ 1 1 [.int .i64 x] rfl rfl one_at (one_cell _) (by unfold maxLen; omega) (by omega) (by simp; omega) ?_)
        intro v' w3 hown' hgrow _
        have hb3 : Below w1.heap.size w1 w3 := (B2.out.alloc B2.out.size _).grown hgrow (by simp; omega) (fun q hq => (O2.out.lt q hq).1)
        rw [← HIX.out] at hown'
        obtain ⟨A3, c3, rfl, o3⟩ := own_form hown' HQL.out
        have HCA := hid (IH.out (k + 1) w1.heap.size A3 c3 Q w3 HDK.out (by have := HQL.out; omega) o3 (HCG.out _ (Below.next B1.out hb3)) hk1)
        rw [show ((k + 1 : Nat) : Int) = (k : Int) + 1 by omega] at HCA
        have B3 := hid hb3
        clear hown' hgrow o3 hb3
        go_wp2_with fail
        refine HCA.out.mono ?_
        rintro e w4 ⟨A4, c4, rfl, ⟨P4, C4, H4⟩, b4⟩
        obtain ⟨N, hN⟩ : ∃ N, N = bsL a b gs Q := ⟨_, rfl⟩
        rw [← hN] at HR HNL H4 ⊢
        have hNL := HNL.out
        have hs3 := B3.out.size
        have hB4 : Below w1.heap.size w1 w4 := Below.next B3.out b4
        have hH5 : Own2At w4 w1.heap.size w4.heap.size A4 c4 N P4 C4 := by
          refine ⟨⟨H4.out.1, ?_⟩, H4.outS, fun j hj => (H4.row j hj).more hs3, H4.rowS, H4.apart⟩
          rcases H4.out.2 with hn | ⟨g, cap, cur, hv, hb, rest⟩
          · exact .inl hn
          · exact .inr ⟨g, cap, cur, hv, Nat.le_trans hs3 hb, rest⟩
        have H5 := hid hH5
        have B4 := hid hB4
        have hs4 := hB4.size
        clear H4 b4 hB4 hH5 hN
        go_wp2_with (at_builtin; refine wpList_append_opt _ rfl _ _ 22 rfl w.heap.size 27 i1 (.slice none 0 0) 1 24 Try.underlying22 hj hy0 hy1 hy2 rfl (by decide) _ _ _ rfl (PU.out.below B4.out).out A4 N.length c4 (RL P4 C4 N) rfl (by rw [RL_len]; omega) (fun e => own2_none (by rw [← e]; exact H5.out)) (fun ad e => own2_news (by rw [← e]; exact H5.out)) (RL_one _ _ _) (by unfold maxLen; omega) (by omega) (by omega) ?_)
        intro v5 w5 hown5 hgrow5
        have hp5 := PU.out.pushAll B4.out H5.out hs1 hown5 hgrow5
        rw [← HR.out] at hp5
        have HB5 := hid (show Below w.heap.size w w5 from (B1.out.trans (B4.out.mono hs1)).grown hgrow5 (by omega) (fun q hq => (PU.out.out.lt q hq).1))
        obtain ⟨A6, c6, rfl, ho6⟩ := hp5.own2
        have HO6 := hid ho6
        clear hown5 hgrow5 hp5 ho6
        go_wp2_with fail
        go_ret
        exact ⟨A6, c6, rfl, HO6.out, HB5.out⟩
      · have HM1 := hid (show decide (x - a ∈ H) = true by have := HA1.out; simpa [hbB, hxa] using this)
        have HM2 := hid (show decide (x - b ∈ H) = true by have := HB1.out; simpa [hbB, hxb2] using this)
        go_wp2_with fail
        refine (l1Has2_b _ _ _ _ _ hHl (HO.out.cells.later B1.out) _ HM1.out).mono ?_
        rintro e w' ⟨rfl, rfl⟩
        go_wp2_with fail
        refine (l1Has2_b _ _ _ _ _ hHl (HO.out.cells.later B1.out) _ HM2.out).mono ?_
        rintro e w' ⟨rfl, rfl⟩
        go_wp2_with fail
        refine (HOW.out _ (HO.out.below B1.out)).mono ?_
        rintro e w2 ⟨A2, c2, rfl, o2, b2⟩
        have O2 := hid o2
        have B2 := hid b2
        have hs2 := b2.size
        clear o2 b2
        go_wp2_with (at_builtin; refine wpList_append_own _ rfl _ _ 27 rfl w1.heap.size 3 i0 (.int .i64 0) 1 8 Try.underlying27 hi hz0 hz1 hz2 rfl (by decide) _ _ _ rfl (O2.out.alloc _) ⟨w2.heap.size, 0, none⟩ 1 1 [.int .i64 x] rfl rfl one_at (one_cell _) (by unfold maxLen; omega) (by omega) (by simp; omega) ?_)
        intro v' w3 hown' hgrow _
        have hb3 : Below w1.heap.size w1 w3 := (B2.out.alloc B2.out.size _).grown hgrow (by simp; omega) (fun q hq => (O2.out.lt q hq).1)
        rw [← HIX.out] at hown'
        obtain ⟨A3, c3, rfl, o3⟩ := own_form hown' HQL.out
        have HCA := hid (IH.out (k + 1) w1.heap.size A3 c3 Q w3 HDK.out (by have := HQL.out; omega) o3 (HCG.out _ (Below.next B1.out hb3)) hk1)
        rw [show ((k + 1 : Nat) : Int) = (k : Int) + 1 by omega] at HCA
        have B3 := hid hb3
        clear hown' hgrow o3 hb3
        go_wp2_with fail
        refine HCA.out.mono ?_
        rintro e w4 ⟨A4, c4, rfl, ⟨P4, C4, H4⟩, b4⟩
        obtain ⟨N, hN⟩ : ∃ N, N = bsL a b gs Q := ⟨_, rfl⟩
        rw [← hN] at HR HNL H4 ⊢
        have hNL := HNL.out
        have hs3 := B3.out.size
        have hB4 : Below w1.heap.size w1 w4 := Below.next B3.out b4
        have hH5 : Own2At w4 w1.heap.size w4.heap.size A4 c4 N P4 C4 := by
          refine ⟨⟨H4.out.1, ?_⟩, H4.outS, fun j hj => (H4.row j hj).more hs3, H4.rowS, H4.apart⟩
          rcases H4.out.2 with hn | ⟨g, cap, cur, hv, hb, rest⟩
          · exact .inl hn
          · exact .inr ⟨g, cap, cur, hv, Nat.le_trans hs3 hb, rest⟩
        have H5 := hid hH5
        have B4 := hid hB4
        have hs4 := hB4.size
        clear H4 b4 hB4 hH5 hN
        go_wp2_with (at_builtin; refine wpList_append_opt _ rfl _ _ 22 rfl w.heap.size 27 i1 (.slice none 0 0) 1 24 Try.underlying22 hj hy0 hy1 hy2 rfl (by decide) _ _ _ rfl (PU.out.below B4.out).out A4 N.length c4 (RL P4 C4 N) rfl (by rw [RL_len]; omega) (fun e => own2_none (by rw [← e]; exact H5.out)) (fun ad e => own2_news (by rw [← e]; exact H5.out)) (RL_one _ _ _) (by unfold maxLen; omega) (by omega) (by omega) ?_)
        intro v5 w5 hown5 hgrow5
        have hp5 := PU.out.pushAll B4.out H5.out hs1 hown5 hgrow5
        rw [← HR.out] at hp5
        have HB5 := hid (show Below w.heap.size w w5 from (B1.out.trans (B4.out.mono hs1)).grown hgrow5 (by omega) (fun q hq => (PU.out.out.lt q hq).1))
        obtain ⟨A6, c6, rfl, ho6⟩ := hp5.own2
        have HO6 := hid ho6
        clear hown5 hgrow5 hp5 ho6
        go_wp2_with fail
        go_ret
        exact ⟨A6, c6, rfl, HO6.out, HB5.out⟩
end Go.Proofs.Ytnjhjdidohdkmaa
