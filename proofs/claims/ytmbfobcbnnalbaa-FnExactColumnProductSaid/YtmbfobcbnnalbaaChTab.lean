/-
  Contracts: tables of characters on both sides.
-/
import Derived.Test.YtmbfobcbnnalbaaChRow
import Derived.Test.YtmbfobcbnnalbaaCB
namespace Go.Proofs.Ytmbfobcbnnalbaa
open Go.RowKit

theorem rw_t {p : List Int} (G : Good p) (h : p.sum ≤ 8) : rwB p = true ∧ rwF p = chRwL p := by
  have e : rwB p = true := by simp [rwB, (good_iff p).2 G, h]
  exact ⟨e, by simp [rwF, e]⟩
theorem ownsRow_mo {w : World} {B B' e s n : Nat} {v : Value} {xs : List Value} (h : w.ownsRow B e s v n xs) (hB : B' ≤ B) : w.ownsRow B' e s v n xs := by
  refine ⟨h.1, ?_⟩
  rcases h.2 with hn | ⟨g, cap, cur, hv, hb, rest⟩
  · exact .inl hn
  · exact .inr ⟨g, cap, cur, hv, Nat.le_trans hB hb, rest⟩
def tbB (n : Int) : Bool := inB 0 8 n
def tbL (n : Nat) : List (List Int) := (clL n).map chRwL
def tbF (n : Int) : List (List Int) := if tbB n then tbL n.toNat else []
theorem tbB_nat {n : Int} (h : tbB n = true) : ∃ m : Nat, n = m ∧ m ≤ 8 := by
  have := inB_iff.1 h
  exact ⟨n.toNat, by omega, by omega⟩
theorem T8 : ∀ n, n < 9 → T n n ≤ 22 := by decide +kernel
theorem clL8 {n : Nat} (hn : n ≤ 8) : (clL n).length ≤ 22 := by unfold clL; rw [lst_len]; exact T8 n (by omega)
theorem tot_bd (M : Nat) : ∀ R : List (List Int), (∀ r ∈ R, r.length ≤ M) → tot R ≤ R.length * M
  | [], _ => by simp [tot]
  | r :: R, h => by
    have h1 := h r (by simp)
    have h2 := tot_bd M R fun x hx => h x (by simp [hx])
    have e : tot (r :: R) = r.length + tot R := by
      have := tot_append [r] R
      simp only [List.singleton_append] at this
      rw [this]; simp [tot]
    rw [e, List.length_cons, Nat.add_mul]; omega
theorem bound_CharacterTable (n : Int) : (tbF n).length ≤ 1048576 ∧ tot (tbF n) ≤ 1048576 := by
  unfold tbF
  split
  · rename_i h
    obtain ⟨m, rfl, hm⟩ := tbB_nat h
    rw [Int.toNat_natCast]
    have hl := clL8 hm
    have hlen : (tbL m).length = (clL m).length := by simp [tbL]
    have ht := tot_bd 22 (tbL m) (fun r hr => by
      simp only [tbL, List.mem_map] at hr
      obtain ⟨p, hp, rfl⟩ := hr
      obtain ⟨k, hk, rfl⟩ := List.getElem_of_mem hp
      have hs := (cl_cyc (n := m) (by omega) hk).2
      rw [List.getD_eq_getElem?_getD, List.getElem?_eq_getElem hk] at hs
      simp only [Option.getD_some] at hs
      unfold chRwL
      rw [List.length_map, hs, Int.toNat_natCast]; exact hl)
    rw [hlen] at ht ⊢
    have : (clL m).length * 22 ≤ 22 * 22 := Nat.mul_le_mul_right _ hl
    omega
  · simp [tot]
def tbK (R : List (List Int)) (k : Nat) : List (List Int) := (R.take k).map chRwL
theorem tbK_succ (R : List (List Int)) (k : Nat) (h : k < R.length) : tbK R (k + 1) = tbK R k ++ [chRwL (R.getD k [])] := by
  unfold tbK
  rw [List.take_succ_eq_append_getElem h, List.map_append]
  have e : R.getD k [] = R[k] := by rw [List.getD_eq_getElem?_getD, List.getElem?_eq_getElem h]; rfl
  rw [e]; rfl
theorem tbK_len (R : List (List Int)) (k : Nat) (h : k ≤ R.length) : (tbK R k).length = k := by simp [tbK]; omega

set_option maxRecDepth 100000 in
set_option maxHeartbeats 4000000 in
theorem impl_CharacterTable (n : Int) (w : World) (_ : I64 n) :
    Calls Try.prog 52 #[.int .i64 n] w fun e w' => ∃ A' c', e = .returned (.tuple #[.slice A' (tbF n).length c', .bool (tbB n)]) ∧ Own2 w' w.heap.size w'.heap.size A' c' (tbF n) ∧ Below w.heap.size w w' := by
  obtain ⟨i1, hj, hy0, hy1, hy2⟩ := info_parts Try.infoInts
  cases hb : tbB n
  · rw [show tbF n = [] by simp [tbF, hb]]
    have hor : n < 0 ∨ 8 < n := by
      simp only [tbB, inB, Bool.and_eq_false_iff, decide_eq_false_iff_not] at hb; omega
    clear hb
    by_cases h0 : n < 0
    · go_enter Try.func52, Try.ntmps52
      go_wp2_with fail
      go_ret2
      exact ⟨none, 0, rfl, own2_nil _ _ _, Below.refl _ _⟩
    · have h1 : 8 < n := by omega
      go_enter Try.func52, Try.ntmps52
      go_wp2_with fail
      go_ret2
      exact ⟨none, 0, rfl, own2_nil _ _ _, Below.refl _ _⟩
  · obtain ⟨m, rfl, hm⟩ := tbB_nat hb
    rw [show tbF m = tbL m by simp [tbF, hb]]
    have HL := hid fun W => listPartitions_any m W (by omega)
    change Hid (∀ W : World, Calls Try.prog 113 #[.int .i64 m] W fun e w' => ∃ A' c', e = .returned (.slice A' (clL m).length c') ∧ Own2 w' W.heap.size w'.heap.size A' c' (clL m) ∧ Below W.heap.size W w') at HL
    have hrl := clL8 hm
    have HCR := hid fun k (hk : k < (clL m).length) A2 c2 W (h : Cells W A2 ((clL m).getD k [])) => (show Calls Try.prog 50 #[.slice A2 ((clL m).getD k []).length c2] W fun e w' => ∃ A' c', e = .returned (.tuple #[.slice A' (chRwL ((clL m).getD k [])).length c', .bool true]) ∧ Own w' W.heap.size A' c' (chRwL ((clL m).getD k [])) ∧ Below W.heap.size W w' by
      obtain ⟨G, hs⟩ := all_row m (by omega) k hk
      change Good ((clL m).getD k []) at G
      change ((clL m).getD k []).sum = m at hs
      obtain ⟨e1, e2⟩ := rw_t G (by omega)
      have := impl_CharacterRow A2 c2 ((clL m).getD k []) W (by have := G.len; omega) h
      rw [e1, e2] at this
      exact this)
    have HEND := hid (show tbL m = tbK (clL m) (clL m).length by unfold tbL tbK; rw [List.take_of_length_le (Nat.le_refl _)])
    obtain ⟨R, hR⟩ : ∃ R, R = clL m := ⟨_, rfl⟩
    rw [← hR] at HL HCR HEND hrl
    rw [HEND.out]
    have HSU := hid fun k (hk : k < R.length) => tbK_succ R k hk
    have HKL := hid fun k (hk : k ≤ R.length) => tbK_len R k hk
    obtain ⟨K, hK⟩ : ∃ K, K = tbK R := ⟨_, rfl⟩
    rw [← hK] at HSU HKL HEND ⊢
    have HK0 := hid (show K 0 = [] by rw [hK]; rfl)
    clear hb hR hK HEND
    go_enter Try.func52, Try.ntmps52
    go_wp2_with (go_at_call 113; refine (HL.out _).mono ?_; rintro e w3 ⟨A3, c3, rfl, o3, b3⟩)
    have HB3 := hid b3
    have HC3 := hid o3.cells
    have hs3 := HB3.out.size
    clear b3 o3
    go_loopw [4, 18] (fun v i wr => ∃ (k : Nat) (P : Nat → Option Addr) (C : Nat → Nat), k ≤ R.length ∧ i = .int .i64 k ∧ Hid (Push wr w3.heap.size v (K k) P C) ∧ Below w3.heap.size w3 wr) (fun _ i _ => R.length - (intOf i).toNat)
    case atStart => exact ⟨0, _, _, Nat.zero_le _, rfl, hid (by rw [HK0.out]; exact push_nil _ _), Below.refl _ _⟩
    case round =>
      obtain ⟨k, P, C, hk, rfl, HP, hbel⟩ := hrel
      obtain ⟨wo, rfl⟩ : ∃ wo : World, wo = wr := ⟨_, rfl⟩
      have hkl := HKL.out k hk
      by_cases hlt : k < R.length
      · obtain ⟨P2, C2, g1, g2⟩ := cells2_next HC3.out hbel
        obtain ⟨b, o, rfl, hcc⟩ := g1 (by omega)
        have hck := hcc k hlt
        have HCA' := hid (HCR.out k hlt (P2 k) (C2 k) wo (g2 k hlt))
        have HS := hid (HSU.out k hlt)
        obtain ⟨cl, hcl⟩ : ∃ cl, cl = R.getD k [] := ⟨_, rfl⟩
        rw [← hcl] at hck HS HCA'
        obtain ⟨z, hz⟩ : ∃ z, z = chRwL cl := ⟨_, rfl⟩
        rw [← hz] at HCA' HS
        clear g1 g2 hcc hcl hz
        go_wp2_with fail
        refine HCA'.out.mono ?_
        rintro e w4 ⟨A4, c4, rfl, o4, b4⟩
        have HO4 := hid o4
        have HB4 := hid b4
        have HP4 := hid (HP.out.below b4)
        have hs4 := b4.size
        clear b4 o4
        go_wp2_with (at_builtin; refine wpList_append_own _ rfl _ _ 38 rfl w3.heap.size 22 i1 (.slice none 0 0) 1 24 Try.underlying38 hj hy0 hy1 hy2 rfl (by decide) _ _ _ rfl (HP4.out.out.alloc _) ⟨w4.heap.size, 0, none⟩ 1 1 [.slice A4 z.length c4] rfl rfl one_at (one_cellS _ _ _) (by unfold maxLen; omega) (by omega) (by have := hbel.size; simp; omega) ?_)
        intro v' w5 hown' hgrow _
        have HP5 := hid (HP.out.push HB4.out HO4.out hbel.size (by rw [hkl]; exact hown') hgrow)
        have hb4 := hbel.trans (HB4.out.mono hbel.size)
        have hb5 : Below w3.heap.size w3 w5 := (hb4.alloc hb4.size _).grown hgrow (by have := hb4.size; simp; omega) (fun q hq => (HP4.out.out.lt q hq).1)
        clear hown' hgrow hb4
        go_wp2_with fail
        go_roundw
        case rel => exact ⟨k + 1, _, _, by omega, by go_num, hid (by rw [HS.out]; exact HP5.out), hb5⟩
        case measure => simp [intOf]; omega
      · have hkn : k = R.length := by omega
        subst hkn
        obtain ⟨A', c', rfl, ho'⟩ := HP.out.own2
        have HO := hid ho'
        clear ho'
        go_wp2_with fail
        go_ret2
        obtain ⟨P', C', h⟩ := HO.out
        exact ⟨A', c', rfl, ⟨P', C', ⟨ownsRow_mo h.out hs3, h.outS, fun j hj => (h.row j hj).more hs3, h.rowS, h.apart⟩⟩, HB3.out.trans (hbel.mono hs3)⟩

set_option maxRecDepth 100000 in
set_option maxHeartbeats 4000000 in
theorem spec_CharacterTable (n : Int) (w : World) (_ : I64 n) :
    Calls Try.prog 51 #[.int .i64 n] w fun e w' => ∃ A' c', e = .returned (.tuple #[.slice A' (tbF n).length c', .bool (tbB n)]) ∧ Own2 w' w.heap.size w'.heap.size A' c' (tbF n) ∧ Below w.heap.size w w' := by
  obtain ⟨i1, hj, hy0, hy1, hy2⟩ := info_parts Try.infoInts
  cases hb : tbB n
  · rw [show tbF n = [] by simp [tbF, hb]]
    have HB := hid (show inB 0 8 n = false from hb)
    clear hb
    go_enter Try.func51, Try.ntmps51
    go_wp2_with (go_at_call 109; refine (l1In_b _ _ _ _ _ HB.out).mono ?_; rintro e w' ⟨rfl, rfl⟩)
    go_ret2
    exact ⟨none, 0, rfl, own2_nil _ _ _, Below.refl _ _⟩
  · obtain ⟨m, rfl, hm⟩ := tbB_nat hb
    rw [show tbF m = tbL m by simp [tbF, hb]]
    have HB := hid (show inB 0 8 (m : Int) = true from hb)
    have HL := hid fun W => ptAll_any m m m W (Nat.le_refl _) (by omega) (by omega)
    change Hid (∀ W : World, Calls Try.prog 111 #[.int .i64 m, .int .i64 m] W fun e w' => ∃ A' c', e = .returned (.slice A' (clL m).length c') ∧ Own2 w' W.heap.size w'.heap.size A' c' (clL m) ∧ Below W.heap.size W w') at HL
    have hrl := clL8 hm
    have HCR := hid fun k (hk : k < (clL m).length) A2 c2 W (h : Cells W A2 ((clL m).getD k [])) => cnRow_any A2 c2 ((clL m).getD k []) W (all_row m (by omega) k hk).1 (by have h2 : ((clL m).getD k []).sum = m := (all_row m (by omega) k hk).2
                                                                                                                                                                            omega) h
    have HEND := hid (show tbL m = tbK (clL m) (clL m).length by unfold tbL tbK; rw [List.take_of_length_le (Nat.le_refl _)])
    obtain ⟨R, hR⟩ : ∃ R, R = clL m := ⟨_, rfl⟩
    rw [← hR] at HL HCR HEND hrl
    rw [HEND.out]
    have HSU := hid fun k (hk : k < R.length) => tbK_succ R k hk
    have HKL := hid fun k (hk : k ≤ R.length) => tbK_len R k hk
    obtain ⟨K, hK⟩ : ∃ K, K = tbK R := ⟨_, rfl⟩
    rw [← hK] at HSU HKL HEND ⊢
    have HK0 := hid (show K 0 = [] by rw [hK]; rfl)
    clear hb hR hK HEND
    go_enter Try.func51, Try.ntmps51
    go_wp2_with (first | (go_at_call 109; refine (l1In_b _ _ _ _ _ HB.out).mono ?_; rintro e w' ⟨rfl, rfl⟩) | (go_at_call 111; refine (HL.out _).mono ?_; rintro e w3 ⟨A3, c3, rfl, o3, b3⟩))
    have HB3 := hid b3
    have HC3 := hid o3.cells
    have hs3 := HB3.out.size
    clear b3 o3
    go_loopw [4, 14] (fun v i wr => ∃ (k : Nat) (P : Nat → Option Addr) (C : Nat → Nat), k ≤ R.length ∧ i = .int .i64 k ∧ Hid (Push wr w3.heap.size v (K k) P C) ∧ Below w3.heap.size w3 wr) (fun _ i _ => R.length - (intOf i).toNat)
    case atStart => exact ⟨0, _, _, Nat.zero_le _, rfl, hid (by rw [HK0.out]; exact push_nil _ _), Below.refl _ _⟩
    case round =>
      obtain ⟨k, P, C, hk, rfl, HP, hbel⟩ := hrel
      obtain ⟨wo, rfl⟩ : ∃ wo : World, wo = wr := ⟨_, rfl⟩
      have hkl := HKL.out k hk
      by_cases hlt : k < R.length
      · obtain ⟨P2, C2, g1, g2⟩ := cells2_next HC3.out hbel
        obtain ⟨b, o, rfl, hcc⟩ := g1 (by omega)
        have hck := hcc k hlt
        have HCA' := hid (HCR.out k hlt (P2 k) (C2 k) wo (g2 k hlt))
        have HS := hid (HSU.out k hlt)
        obtain ⟨cl, hcl⟩ : ∃ cl, cl = R.getD k [] := ⟨_, rfl⟩
        rw [← hcl] at hck HS HCA'
        obtain ⟨z, hz⟩ : ∃ z, z = chRwL cl := ⟨_, rfl⟩
        rw [← hz] at HCA' HS
        clear g1 g2 hcc hcl hz
        go_wp2_with fail
        refine HCA'.out.mono ?_
        rintro e w4 ⟨A4, c4, rfl, o4, b4⟩
        have HO4 := hid o4
        have HB4 := hid b4
        have HP4 := hid (HP.out.below b4)
        have hs4 := b4.size
        clear b4 o4
        go_wp2_with (at_builtin; refine wpList_append_own _ rfl _ _ 38 rfl w3.heap.size 22 i1 (.slice none 0 0) 1 24 Try.underlying38 hj hy0 hy1 hy2 rfl (by decide) _ _ _ rfl (HP4.out.out.alloc _) ⟨w4.heap.size, 0, none⟩ 1 1 [.slice A4 z.length c4] rfl rfl one_at (one_cellS _ _ _) (by unfold maxLen; omega) (by omega) (by have := hbel.size; simp; omega) ?_)
        intro v' w5 hown' hgrow _
        have HP5 := hid (HP.out.push HB4.out HO4.out hbel.size (by rw [hkl]; exact hown') hgrow)
        have hb4 := hbel.trans (HB4.out.mono hbel.size)
        have hb5 : Below w3.heap.size w3 w5 := (hb4.alloc hb4.size _).grown hgrow (by have := hb4.size; simp; omega) (fun q hq => (HP4.out.out.lt q hq).1)
        clear hown' hgrow hb4
        go_wp2_with fail
        go_roundw
        case rel => exact ⟨k + 1, _, _, by omega, by go_num, hid (by rw [HS.out]; exact HP5.out), hb5⟩
        case measure => simp [intOf]; omega
      · have hkn : k = R.length := by omega
        subst hkn
        obtain ⟨A', c', rfl, ho'⟩ := HP.out.own2
        have HO := hid ho'
        clear ho'
        go_wp2_with fail
        go_ret2
        obtain ⟨P', C', h⟩ := HO.out
        exact ⟨A', c', rfl, ⟨P', C', ⟨ownsRow_mo h.out hs3, h.outS, fun j hj => (h.row j hj).more hs3, h.rowS, h.apart⟩⟩, HB3.out.trans (hbel.mono hs3)⟩
end Go.Proofs.Ytmbfobcbnnalbaa
