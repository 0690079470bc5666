/-
  Contracts: QuotientOf of the program and of the model.
-/
import Derived.Test.YtmjncedijddmmaaEvn
import Derived.Test.YtmjncedijddmmaaRnO
import Derived.Test.YtmjncedijddmmaaCA
import Derived.Test.YtmjncedijddmmaaCE
import Derived.Test.YtmjncedijddmmaaCB
namespace Go.Proofs.Ytmjncedijddmmaa
open Go.RowKit

def quoR (t : Nat) (xs : List Int) (i : Nat) : List Int := partsL (rnL t xs i)
def quoF (xs : List Int) (t : Int) : List (List Int) := if crB xs t then (List.range t.toNat).map (quoR t.toNat (evF xs t)) else []
theorem quoF_f {xs : List Int} {t : Int} (h : crB xs t = false) : quoF xs t = [] := by simp [quoF, h]
theorem quoF_t {xs : List Int} {t : Nat} (h : crB xs t = true) : quoF xs t = (List.range t).map (quoR t (evF xs t)) := by simp [quoF, h]
theorem evF_t {xs : List Int} {t : Nat} (h : crB xs t = true) : evF xs t = beadsL xs (mulN t xs.length) := by simp [evF, h, evN]
def midQ (f g : Nat → List Int) (t k : Nat) : List (List Int) := (List.range t).map fun j => if j < k then f j else g j
theorem midQ_len (f g : Nat → List Int) (t k : Nat) : (midQ f g t k).length = t := by simp [midQ]
theorem midQ_zero (f g : Nat → List Int) (t : Nat) : midQ f g t 0 = (List.range t).map g := by simp [midQ]
theorem midQ_get (f g : Nat → List Int) (t k : Nat) (h : k < t) : (midQ f g t k).getD k [] = g k := by simp [midQ, List.getD, h]
theorem midQ_set (f g : Nat → List Int) (t k : Nat) : (midQ f g t k).set k (f k) = midQ f g t (k + 1) := by
  apply List.ext_getElem
  · simp [midQ]
  · intro j h1 h2
    rw [List.getElem_set]
    simp only [midQ, List.getElem_map, List.getElem_range]
    by_cases e : k = j
    · subst e; simp
    · rw [if_neg e]
      by_cases h3 : j < k
      · rw [if_pos h3, if_pos (by omega)]
      · rw [if_neg h3, if_neg (by omega)]
theorem midQ_all (f g : Nat → List Int) (t : Nat) : midQ f g t t = (List.range t).map f := by
  unfold midQ
  exact List.map_congr_left fun j hj => by rw [if_pos (List.mem_range.1 hj)]

theorem rnL_bd {t : Nat} {xs : List Int} (ht : 2 ≤ t ∧ t ≤ 6) (G : GoodB xs) (i : Nat) (j : Nat) (hj : j < (rnL t xs i).length) : 0 ≤ (rnL t xs i).getD j 0 ∧ (rnL t xs i).getD j 0 ≤ 1000 := by
  have hm : (rnL t xs i).getD j 0 ∈ rnL t xs i := mem_getD.2 ⟨j, hj, rfl⟩
  obtain ⟨x, hx⟩ : ∃ x, x = (rnL t xs i).getD j 0 := ⟨_, rfl⟩
  rw [← hx] at hm ⊢
  unfold rnL at hm
  obtain ⟨y, hy, rfl⟩ := List.mem_map.1 hm
  obtain ⟨k, hk, e⟩ := mem_getD.1 (List.mem_filter.1 hy).1
  have hb := G.top hk
  rw [e] at hb
  have h1 := Int.mul_ediv_add_emod y t
  have h2 := Int.emod_nonneg y (show (t : Int) ≠ 0 by omega)
  have h3 : 0 ≤ y / (t : Int) := Int.ediv_nonneg hb.1 (by omega)
  have h4 : y / (t : Int) ≤ y := Int.ediv_le_self _ hb.1
  omega
theorem rnL_len40 {t : Nat} {xs : List Int} (G : GoodB xs) (i : Nat) : (rnL t xs i).length ≤ 1000 := by
  have := rnL_len t xs i; have := G.len; omega

set_option maxRecDepth 100000 in
set_option maxHeartbeats 4000000 in
theorem crQuotient_any (A : Option Addr) (c : Nat) (xs : List Int) (t : Nat) (w : World) (ht : 2 ≤ t ∧ t ≤ 6) (G : Good xs) (hc : Cells w A xs) :
    Calls Try.prog 77 #[.slice A xs.length c, .int .i64 t] w fun e w' => ∃ A' c', e = .returned (.slice A' t c') ∧ Own2 w' w.heap.size w'.heap.size A' c' ((List.range t).map (quoR t (beadsL xs (mulN t xs.length)))) ∧ Below w.heap.size w w' := by
  obtain ⟨i1, hj, hy0, hy1, hy2⟩ := info_parts Try.infoInts
  have HA := hid fun W (h : Cells W A xs) => crAbacus_any A c xs t W ht G h
  have GB : GoodB (beadsL xs (mulN t xs.length)) := by
    have hb := mulN_bd (t := t) (n := xs.length) ht
    have := G.len
    exact goodB_iff.1 (beadsL_goodB G hb.1 (by omega))
  obtain ⟨L, hL⟩ : ∃ L, L = beadsL xs (mulN t xs.length) := ⟨_, rfl⟩
  rw [← hL] at HA GB ⊢
  have HRN := hid fun A1 c1 W (h : Cells W A1 L) => abRows_any t A1 c1 L W (by omega) GB.len GB.rise.bd h
  have HP := hid fun (i : Nat) A1 c1 W (h : Cells W A1 (rnL t L i)) => abParts_any A1 c1 (rnL t L i) W (rnL_len40 GB i) (rnL_bd ht GB i) h
  have hml := fun k => midQ_len (quoR t L) (fun _ => []) t k
  clear hL GB G
  go_enter Try.func77, Try.ntmps77
  go_wp2_with fail
  refine (HA.out _ hc).mono ?_
  rintro e w1 ⟨A1, c1, rfl, o1, b1⟩
  go_wp2_with fail
  refine (HRN.out _ _ _ o1.cells).mono ?_
  rintro e w2 ⟨A2, c2, rfl, o2, b2⟩
  obtain ⟨Pt, Ct, hA1, hA2⟩ := o2.cells
  rw [rnS_len] at hA1 hA2
  have HA1 := hid hA1
  have HA2 := hid hA2
  have HB2 := hid (Below.next b1 b2)
  clear o2 hA1 hA2
  go_wp2_with fail
  go_loopw [5, 13] (fun v i wr => ∃ k : Nat, k ≤ t ∧ i = .int .i64 k ∧ (∃ P C, Hid (Push wr w2.heap.size v ((List.range k).map (quoR t L)) P C)) ∧ Below w2.heap.size w2 wr) (fun _ i _ => t - (intOf i).toNat)
  case atStart => exact ⟨0, Nat.zero_le _, rfl, ⟨_, _, hid (push_nil _ _)⟩, Below.refl _ _⟩
  case round =>
    obtain ⟨k, hk, rfl, ⟨P, C, HP2⟩, hbel⟩ := hrel
    have hszr := hbel.size
    by_cases hlt : k < t
    · obtain ⟨b, o, rfl, hcc⟩ := HA1.out (by omega)
      have hck := (hbel.cell (World.block_lt_of_cell? w2 _ (hcc k hlt))).trans (hcc k hlt)
      rw [rnS_get _ _ _ hlt] at hck
      have hrow := HA2.out k hlt
      rw [rnS_get _ _ _ hlt] at hrow
      have HCK := hid (HP.out k (Pt k) (Ct k) wr (hrow.below hbel))
      obtain ⟨R, hR⟩ : ∃ R, R = rnL t L k := ⟨_, rfl⟩
      rw [← hR] at hck HCK
      have hqr : partsL R = quoR t L k := by rw [hR]; rfl
      have hs : (List.range (k + 1)).map (quoR t L) = (List.range k).map (quoR t L) ++ [partsL R] := by rw [hqr, List.range_succ, List.map_append]; rfl
      have HS := hid hs
      have hkl : ((List.range k).map (quoR t L)).length = k := by simp
      have HKL := hid hkl
      clear hrow hcc hqr hs hkl hR
      go_wp2_with fail
      refine HCK.out.mono ?_
      rintro e w3 ⟨A3, c3, rfl, o3, b3⟩
      have hsz3 := b3.size
      have HO3 := hid o3
      clear o3
      go_wp2_with (at_builtin; refine wpList_append_own _ rfl _ _ 34 rfl w2.heap.size 22 i1 (.slice none 0 0) 1 24 Try.underlying34 hj hy0 hy1 hy2 rfl (by decide) _ _ _ rfl ((HP2.out.below b3).out.alloc _) ⟨w3.heap.size, 0, none⟩ 1 1 [.slice A3 (partsL R).length c3] rfl rfl one_at (one_cellS _ _ _) (by rw [HKL.out]; unfold maxLen; omega) (by rw [HKL.out]; omega) (by simp; omega) ?_)
      intro v' w4 hown' hgrow _
      have hb1 : Below w2.heap.size w2 w4 := (((hbel.trans (b3.mono hszr))).alloc (by omega) _).grown hgrow (by simp; omega) (fun q hq => (HP2.out.out.lt q hq).1)
      have hp2 := HP2.out.push b3 HO3.out hszr (by rw [HKL.out]; exact hown') hgrow
      rw [← HS.out] at hp2
      have HP3 := hid hp2
      clear hown' hgrow hp2
      go_wp2_with fail
      go_roundw
      case rel => exact ⟨k + 1, by omega, by go_num, ⟨_, _, HP3⟩, hb1⟩
      case measure => simp [intOf]; omega
    · have hkl : k = t := by omega
      subst hkl
      obtain ⟨A', c', rfl, ho⟩ := HP2.out.own2
      go_wp2_with fail
      go_ret
      exact ⟨A', c', by rw [show ((List.range k).map (quoR k L)).length = k by simp]; rfl, ho.more HB2.out.size, Below.next HB2.out hbel⟩

theorem bound_QuotientOf (xs : List Int) (t : Int) : (quoF xs t).length ≤ 1048576 ∧ tot (quoF xs t) ≤ 1048576 := by
  unfold quoF; split
  · rename_i h
    obtain ⟨hg, ht⟩ := crB_good h
    have hin := inB_iff.1 ht
    have hb := ev_bd (xs := xs) ht
    have G := ((good_iff xs).1 hg).len
    have he : (evF xs t).length ≤ 40 := by unfold evF; rw [if_pos h, beadsL_len]; omega
    refine ⟨by simp; omega, ?_⟩
    have key : ∀ (l : List Nat), tot (l.map (quoR t.toNat (evF xs t))) ≤ l.length * 40 := by
      intro l
      induction l with
      | nil => simp [tot]
      | cons a q ih =>
        have h1 : (quoR t.toNat (evF xs t) a).length ≤ 40 := by
          have := partsL_len (rnL t.toNat (evF xs t) a)
          have := rnL_len t.toNat (evF xs t) a
          unfold quoR; omega
        simp only [List.map_cons, tot, List.length_cons]; omega
    have := key (List.range t.toNat)
    rw [List.length_range] at this; omega
  · simp [tot]
end Go.Proofs.Ytmjncedijddmmaa
