/-
  Contracts: rows of characters on both sides.
-/
import Derived.Test.YtmbfobcbnnalbaaCN
import Derived.Test.YtmbfobcbnnalbaaSqr
namespace Go.Proofs.Ytmbfobcbnnalbaa
open Go.RowKit

theorem ownsRow_bel {w w' : World} {B e s n : Nat} {v : Value} {xs : List Value} (h : w.ownsRow B e s v n xs) (hb : Below w.heap.size w w') : w'.ownsRow B e s v n xs := by
  refine ⟨h.1, ?_⟩
  rcases h.2 with hn | ⟨g, cap, cur, hv, hbb, hgg, rest⟩
  · exact .inl hn
  · exact .inr ⟨g, cap, cur, hv, hbb, by rw [hb.block g (Array.getElem?_eq_some_iff.1 hgg).1]; exact hgg, rest⟩
theorem own2_bel {w w' : World} {B S : Nat} {A : Option Addr} {c : Nat} {rows : List (List Int)} {P : Nat → Option Addr} {C : Nat → Nat} (h : Own2At w B S A c rows P C) (hb : Below w.heap.size w w') : Own2At w' B S A c rows P C :=
  ⟨ownsRow_bel h.out hb, h.outS, fun j hj => (h.row j hj).below hb, h.rowS, h.apart⟩
theorem own2_row {w : World} {B S : Nat} {A : Option Addr} {c : Nat} {rows : List (List Int)} {P : Nat → Option Addr} {C : Nat → Nat} (h : Own2At w B S A c rows P C) {k : Nat} (hk : k < rows.length) : ∃ g, A = some ⟨g, 0, none⟩ ∧ w.cell? ⟨g, k, none⟩ = some (.slice (P k) (rows.getD k []).length (C k)) := by
  rcases h.out.2 with ⟨_, h0⟩ | ⟨g, cap, cur, hv, _⟩
  · omega
  · injection hv with hv
    subst hv
    refine ⟨g, rfl, ?_⟩
    rw [World.ownsRow.cellAt h.out k (by omega)]
    simp [RL, hk]
def clL (n : Nat) : List (List Int) := lst n n (T n n)
def rwK (p : List Int) (R : List (List Int)) (k : Nat) : List Int := (R.take k).map fun cl => wrap64 (chM cl p)
def chRwL (p : List Int) : List Int := (clL p.sum.toNat).map fun cl => wrap64 (chM cl p)
def rwB (p : List Int) : Bool := good p && decide (p.sum ≤ 8)
def rwF (p : List Int) : List Int := if rwB p then chRwL p else []
theorem rwK_succ (p : List Int) (R : List (List Int)) (k : Nat) (h : k < R.length) : rwK p R (k + 1) = rwK p R k ++ [wrap64 (chM (R.getD k []) p)] := by
  unfold rwK
  rw [List.take_succ_eq_append_getElem h, List.map_append]
  have e : R.getD k [] = R[k] := by rw [List.getD_eq_getElem?_getD, List.getElem?_eq_getElem h]; rfl
  rw [e]; rfl
theorem rwK_len (p : List Int) (R : List (List Int)) (k : Nat) (h : k ≤ R.length) : (rwK p R k).length = k := by simp [rwK]; omega
theorem clL_len {n : Nat} (hn : n ≤ 14) : (clL n).length ≤ 5604 := by unfold clL; rw [lst_len]; exact T_bound n (by omega) n (by omega)
theorem bound_CharacterRow (p : List Int) : (rwF p).length ≤ 1048576 := by
  unfold rwF
  split
  · rename_i h
    simp only [rwB, Bool.and_eq_true, decide_eq_true_eq] at h
    have G := (good_iff p).1 h.1
    have := G.sum0
    have := clL_len (n := p.sum.toNat) (by omega)
    unfold chRwL; simp; omega
  · simp
/-- A class is a list of cycles. -/
theorem cl_cyc {n : Nat} (hn : n ≤ 12) {k : Nat} (hk : k < (clL n).length) : cycB ((clL n).getD k []) = true ∧ ((clL n).getD k []).sum = n := by
  obtain ⟨G, hs⟩ := all_row n (by omega) k hk
  exact ⟨cycM_iff.2 ⟨G.pos, by show _ ≤ (12 : Int); unfold clL; omega⟩, hs⟩

set_option maxRecDepth 100000 in
set_option maxHeartbeats 4000000 in
theorem impl_CharacterRow (A : Option Addr) (c : Nat) (p : List Int) (w : World) (hl : p.length ≤ 1048576) (hc : Cells w A p) :
    Calls Try.prog 50 #[.slice A p.length c] w fun e w' => ∃ A' c', e = .returned (.tuple #[.slice A' (rwF p).length c', .bool (rwB p)]) ∧ Own w' w.heap.size A' c' (rwF p) ∧ Below w.heap.size w w' := by
  obtain ⟨i0, hi, hz0, hz1, hz2⟩ := info_parts Try.infoInt
  have HC := hid (impl_CellsOf A c p w hl hc)
  cases hg : good p
  · have hb : rwB p = false := by simp [rwB, hg]
    rw [show rwF p = [] by simp [rwF, hb], hb]
    rw [hg] at HC
    obtain ⟨s1, h1⟩ : ∃ s1, s1 = cellsF p := ⟨_, rfl⟩
    rw [← h1] at HC
    clear hg hb h1
    go_enter Try.func50, Try.ntmps50
    go_wp2_with (go_at_call 117; refine HC.out.mono ?_; rintro e w2 ⟨rfl, b2⟩)
    go_ret2
    exact ⟨none, 0, rfl, own_nil _ _, b2⟩
  rw [hg, show cellsF p = p.sum by simp [cellsF, hg]] at HC
  have G := (good_iff p).1 hg
  by_cases h8 : p.sum ≤ 8
  · have hb : rwB p = true := by simp [rwB, hg, h8]
    rw [show rwF p = chRwL p by simp [rwF, hb], hb]
    have hps := G.sum0
    obtain ⟨n, hn⟩ : ∃ n : Nat, p.sum = n := ⟨p.sum.toNat, by omega⟩
    have HL := hid fun W => listPartitions_any n W (by omega)
    change Hid (∀ W : World, Calls Try.prog 113 #[.int .i64 n] W fun e w' => ∃ A' c', e = .returned (.slice A' (clL n).length c') ∧ Own2 w' W.heap.size w'.heap.size A' c' (clL n) ∧ Below W.heap.size W w') at HL
    have hrl := clL_len (n := n) (by omega)
    have HCY := hid fun k hk => cl_cyc (n := n) (by omega) (k := k) hk
    have HCA := hid fun A2 c2 cl W (hy : cycB cl = true) (hs : cl.sum = n) (h : Cells W A p) (h2 : Cells W A2 cl) => characterAt_any A A2 c c2 p cl W G (by omega) hy (by omega) h h2
    have HEND := hid (show chRwL p = rwK p (clL n) (clL n).length by unfold chRwL rwK; rw [List.take_of_length_le (Nat.le_refl _), hn, Int.toNat_natCast])
    obtain ⟨R, hR⟩ : ∃ R, R = clL n := ⟨_, rfl⟩
    rw [← hR] at HL HCY HEND hrl
    rw [HEND.out]
    have HSU := hid fun k (hk : k < R.length) => rwK_succ p R k hk
    have HKL := hid fun k (hk : k ≤ R.length) => rwK_len p R k hk
    rw [hn] at HC h8
    obtain ⟨K, hK⟩ : ∃ K, K = rwK p R := ⟨_, rfl⟩
    rw [← hK] at HSU HKL HEND ⊢
    have HK0 := hid (show K 0 = [] by rw [hK]; rfl)
    clear hg hb hR hK hn hps G HEND
    go_enter Try.func50, Try.ntmps50
    go_wp2_with (first | (go_at_call 117; refine HC.out.mono ?_; rintro e w2 ⟨rfl, b2⟩) | (go_at_call 113; refine (HL.out _).mono ?_; rintro e w3 ⟨A3, c3, rfl, o3, b3⟩))
    have HB3 := hid (Below.next b2 b3)
    have HC3 := hid o3.cells
    have hs3 := HB3.out.size
    clear b2 b3 o3
    go_loopw [6, 23] (fun v i wr => ∃ k : Nat, k ≤ R.length ∧ i = .int .i64 k ∧ wr.ownsRow w3.heap.size 3 1 v (K k).length (IL (K k)) ∧ Below w3.heap.size w3 wr) (fun _ i _ => R.length - (intOf i).toNat)
    case atStart => exact ⟨0, Nat.zero_le _, rfl, by rw [HK0.out]; exact World.ownsRow_nil _ _ _ _, Below.refl _ _⟩
    case round =>
      obtain ⟨k, hk, rfl, hown, hbel⟩ := hrel
      have hkl := HKL.out k hk
      by_cases hlt : k < R.length
      · obtain ⟨P, C, g1, g2⟩ := cells2_next HC3.out hbel
        obtain ⟨b, o, rfl, hcc⟩ := g1 (by omega)
        have hck := hcc k hlt
        obtain ⟨hy, hsm⟩ := HCY.out k hlt
        have HG2 := hid (g2 k hlt)
        have HCP := hid (hc.later (HB3.out.trans (hbel.mono hs3)))
        have HS := hid (HSU.out k hlt)
        obtain ⟨cl, hcl⟩ : ∃ cl, cl = R.getD k [] := ⟨_, rfl⟩
        rw [← hcl] at hck hy hsm HG2 HS
        have HCA' := hid (HCA.out (P k) (C k) cl wr hy hsm HCP.out HG2.out)
        obtain ⟨z, hz⟩ : ∃ z, z = wrap64 (chM cl p) := ⟨_, rfl⟩
        rw [← hz] at HCA' HS
        have HOW := hid hown
        clear g1 g2 hcc hy hsm hcl hz hown
        go_wp2_with fail
        refine HCA'.out.mono ?_
        rintro e w4 ⟨rfl, b4⟩
        have HO4 := hid (ownsRow_bel HOW.out b4)
        have HB4 := hid (hbel.trans (b4.mono hbel.size))
        have hs4 := HB4.out.size
        clear b4
        go_wp2_with (at_builtin; refine wpList_append_own _ rfl _ _ 22 rfl w3.heap.size 3 i0 (.int .i64 0) 1 8 Try.underlying22 hi hz0 hz1 hz2 rfl (by decide) _ _ _ rfl (HO4.out.alloc _) ⟨w4.heap.size, 0, none⟩ 1 1 [.int .i64 z] rfl rfl one_at (one_cell _) (by unfold maxLen; omega) (by omega) (by simp; omega) ?_)
        intro v' w5 hown' hgrow _
        have hb5 : Below w3.heap.size w3 w5 := (HB4.out.alloc HB4.out.size _).grown hgrow (by simp; omega) (fun q hq => (HO4.out.lt q hq).1)
        have hown2 := own_snoc HS.out (by rw [hkl]; exact hown')
        have HO5 := hid hown2
        clear hgrow hown' hown2
        go_wp2_with fail
        go_roundw
        case rel => exact ⟨k + 1, by omega, by go_num, HO5.out, hb5⟩
        case measure => simp [intOf]; omega
      · have hkn : k = R.length := by omega
        subst hkn
        obtain ⟨A', c', rfl, ho'⟩ := own_form hown rfl
        clear hown
        go_wp2_with fail
        go_ret2
        exact ⟨A', c', rfl, ho'.more hs3, HB3.out.trans (hbel.mono hs3)⟩
  · have hb : rwB p = false := by simp [rwB, h8]
    rw [show rwF p = [] by simp [rwF, hb], hb]
    obtain ⟨s1, h1⟩ : ∃ s1, s1 = p.sum := ⟨_, rfl⟩
    rw [← h1] at HC h8
    have h8' : 8 < s1 := by omega
    clear hg hb h1
    go_enter Try.func50, Try.ntmps50
    go_wp2_with (go_at_call 117; refine HC.out.mono ?_; rintro e w2 ⟨rfl, b2⟩)
    go_ret2
    exact ⟨none, 0, rfl, own_nil _ _, b2⟩

set_option maxRecDepth 100000 in
set_option maxHeartbeats 4000000 in
theorem cnRow_any (A : Option Addr) (c : Nat) (p : List Int) (w : World) (G : Good p) (h8 : p.sum ≤ 8) (hc : Cells w A p) :
    Calls Try.prog 120 #[.slice A p.length c] w fun e w' => ∃ A' c', e = .returned (.slice A' (chRwL p).length c') ∧ Own w' w.heap.size A' c' (chRwL p) ∧ Below w.heap.size w w' := by
  obtain ⟨i0, hi, hz0, hz1, hz2⟩ := info_parts Try.infoInt
  have hps := G.sum0
  obtain ⟨n, hn⟩ : ∃ n : Nat, p.sum = n := ⟨p.sum.toNat, by omega⟩
  have HSU0 := hid (ptSum_any A p c w G.len (fun j hj => by have := G.pos j hj; have := G.le j hj; omega) hc)
  rw [hn] at HSU0
  have HL := hid fun W => ptAll_any n n n W (Nat.le_refl _) (by omega) (by omega)
  change Hid (∀ W : World, Calls Try.prog 111 #[.int .i64 n, .int .i64 n] W fun e w' => ∃ A' c', e = .returned (.slice A' (clL n).length c') ∧ Own2 w' W.heap.size w'.heap.size A' c' (clL n) ∧ Below W.heap.size W w') at HL
  have hrl := clL_len (n := n) (by omega)
  have HCY := hid fun k hk => cl_cyc (n := n) (by omega) (k := k) hk
  have HCA := hid fun A2 c2 cl W (hy : cycB cl = true) (hcap : cl.length ≤ c2) (h : Cells W A p) (h2 : Cells W A2 cl) => cnCharacter_any cl p A A2 c c2 W G (by omega) (cyc_len hy).1 hcap (cyc_all hy) h h2
  have HEND := hid (show chRwL p = rwK p (clL n) (clL n).length by unfold chRwL rwK; rw [List.take_of_length_le (Nat.le_refl _), hn, Int.toNat_natCast])
  obtain ⟨R, hR⟩ : ∃ R, R = clL n := ⟨_, rfl⟩
  rw [← hR] at HL HCY HEND hrl
  rw [HEND.out]
  have HSU := hid fun k (hk : k < R.length) => rwK_succ p R k hk
  have HKL := hid fun k (hk : k ≤ R.length) => rwK_len p R k hk
  obtain ⟨K, hK⟩ : ∃ K, K = rwK p R := ⟨_, rfl⟩
  rw [← hK] at HSU HKL HEND ⊢
  have HK0 := hid (show K 0 = [] by rw [hK]; rfl)
  clear hR hK hps G HEND hn h8
  go_enter Try.func120, Try.ntmps120
  go_wp2_with (first | (go_at_call 91; refine HSU0.out.mono ?_; rintro e w' ⟨rfl, rfl⟩) | (go_at_call 111; refine (HL.out _).mono ?_; rintro e w3 ⟨A3, c3, rfl, o3, b3⟩))
  have HB3 := hid b3
  obtain ⟨P3, C3, hat⟩ := o3
  have HAT := hid hat
  have hs3 := HB3.out.size
  clear b3 hat
  go_loopw [4, 13] (fun v i wr => ∃ k : Nat, k ≤ R.length ∧ i = .int .i64 k ∧ wr.ownsRow w3.heap.size 3 1 v (K k).length (IL (K k)) ∧ Below w3.heap.size w3 wr) (fun _ i _ => R.length - (intOf i).toNat)
  case atStart => exact ⟨0, Nat.zero_le _, rfl, by rw [HK0.out]; exact World.ownsRow_nil _ _ _ _, Below.refl _ _⟩
  case round =>
    obtain ⟨k, hk, rfl, hown, hbel⟩ := hrel
    have hkl := HKL.out k hk
    by_cases hlt : k < R.length
    · have hrow := HAT.out.row k hlt
      have hcap := own_cap hrow
      have HG2 := hid (hrow.below hbel).cells
      obtain ⟨g, rfl, hck⟩ := own2_row (own2_bel HAT.out hbel) hlt
      have HS := hid (HSU.out k hlt)
      obtain ⟨hy, hsm⟩ := HCY.out k hlt
      have HCP := hid (hc.later (HB3.out.trans (hbel.mono hs3)))
      obtain ⟨cl, hcl⟩ : ∃ cl, cl = R.getD k [] := ⟨_, rfl⟩
      rw [← hcl] at hck hy hcap HG2 HS
      have HCA' := hid (HCA.out (P3 k) (C3 k) cl wr hy hcap HCP.out HG2.out)
      obtain ⟨z, hz⟩ : ∃ z, z = wrap64 (chM cl p) := ⟨_, rfl⟩
      rw [← hz] at HCA' HS
      have HOW := hid hown
      clear hrow hy hsm hcl hz hown hcap
      go_wp2_with fail
      refine HCA'.out.mono ?_
      rintro e w4 ⟨rfl, b4⟩
      have HO4 := hid (ownsRow_bel HOW.out b4)
      have HB4 := hid (hbel.trans (b4.mono hbel.size))
      have hs4 := HB4.out.size
      clear b4
      go_wp2_with (at_builtin; refine wpList_append_own _ rfl _ _ 22 rfl w3.heap.size 3 i0 (.int .i64 0) 1 8 Try.underlying22 hi hz0 hz1 hz2 rfl (by decide) _ _ _ rfl (HO4.out.alloc _) ⟨w4.heap.size, 0, none⟩ 1 1 [.int .i64 z] rfl rfl one_at (one_cell _) (by unfold maxLen; omega) (by omega) (by simp; omega) ?_)
      intro v' w5 hown' hgrow _
      have hb5 : Below w3.heap.size w3 w5 := (HB4.out.alloc HB4.out.size _).grown hgrow (by simp; omega) (fun q hq => (HO4.out.lt q hq).1)
      have hown2 := own_snoc HS.out (by rw [hkl]; exact hown')
      have HO5 := hid hown2
      clear hgrow hown' hown2
      go_wp2_with fail
      go_roundw
      case rel => exact ⟨k + 1, by omega, by go_num, HO5.out, hb5⟩
      case measure => simp [intOf]; omega
    · have hkn : k = R.length := by omega
      subst hkn
      obtain ⟨A', c', rfl, ho'⟩ := own_form hown rfl
      clear hown
      go_wp2_with fail
      go_ret
      exact ⟨A', c', rfl, ho'.more hs3, HB3.out.trans (hbel.mono hs3)⟩

set_option maxRecDepth 100000 in
set_option maxHeartbeats 2000000 in
theorem spec_CharacterRow (A : Option Addr) (c : Nat) (p : List Int) (w : World) (hl : p.length ≤ 1048576) (hc : Cells w A p) :
    Calls Try.prog 49 #[.slice A p.length c] w fun e w' => ∃ A' c', e = .returned (.tuple #[.slice A' (rwF p).length c', .bool (rwB p)]) ∧ Own w' w.heap.size A' c' (rwF p) ∧ Below w.heap.size w w' := by
  cases hg : good p
  · have hb : rwB p = false := by simp [rwB, hg]
    rw [show rwF p = [] by simp [rwF, hb], hb]
    have HG := hid hg
    clear hg hb
    go_enter Try.func49, Try.ntmps49
    go_wp2_with (go_at_call 90; refine (ptGood_b _ _ _ _ hl hc _ HG.out).mono ?_; rintro e w' ⟨rfl, n, rfl⟩)
    go_ret2
    exact ⟨none, 0, rfl, own_nil _ _, below_drew' _ _⟩
  have G := (good_iff p).1 hg
  have HG := hid hg
  have HSU := hid fun W (h : Cells W A p) => ptSum_any A p c W G.len (fun j hj => by have := G.pos j hj; have := G.le j hj; omega) h
  by_cases h8 : p.sum ≤ 8
  · have hb : rwB p = true := by simp [rwB, hg, h8]
    rw [show rwF p = chRwL p by simp [rwF, hb], hb]
    have HRW := hid fun W (h : Cells W A p) => cnRow_any A c p W G h8 h
    obtain ⟨s, hs⟩ : ∃ s, s = p.sum := ⟨_, rfl⟩
    obtain ⟨L, hL⟩ : ∃ L, L = chRwL p := ⟨_, rfl⟩
    rw [← hs] at HSU h8
    rw [← hL] at HRW ⊢
    clear hg hb hs hL G
    go_enter Try.func49, Try.ntmps49
    go_wp2_with (first | (go_at_call 90; refine (ptGood_b _ _ _ _ hl hc _ HG.out).mono ?_; rintro e w' ⟨rfl, n, rfl⟩) | (go_at_call 91; refine (HSU.out _ (by exact hc)).mono ?_; rintro e w' ⟨rfl, rfl⟩) | (go_at_call 120; refine (HRW.out _ (by exact hc)).mono ?_; rintro e w3 ⟨A3, c3, rfl, o3, b3⟩))
    go_ret2
    exact ⟨_, _, rfl, o3.more (below_drew' w _).size, Below.next (below_drew' w _) b3⟩
  · have hb : rwB p = false := by simp [rwB, h8]
    rw [show rwF p = [] by simp [rwF, hb], hb]
    obtain ⟨s, hs⟩ : ∃ s, s = p.sum := ⟨_, rfl⟩
    rw [← hs] at HSU h8
    have h8' : 8 < s := by omega
    clear hg hb hs G
    go_enter Try.func49, Try.ntmps49
    go_wp2_with (first | (go_at_call 90; refine (ptGood_b _ _ _ _ hl hc _ HG.out).mono ?_; rintro e w' ⟨rfl, n, rfl⟩) | (go_at_call 91; refine (HSU.out _ (by exact hc)).mono ?_; rintro e w' ⟨rfl, rfl⟩))
    go_ret2
    exact ⟨none, 0, rfl, own_nil _ _, below_drew' _ _⟩
end Go.Proofs.Ytmbfobcbnnalbaa
