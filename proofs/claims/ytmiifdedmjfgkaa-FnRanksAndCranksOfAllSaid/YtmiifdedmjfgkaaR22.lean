/-
  Several texts in one.
-/
import Derived.Test.YtmiifdedmjfgkaaR18
import Derived.Test.YtmiifdedmjfgkaaR19
import Derived.Test.YtmiifdedmjfgkaaR21
/-
  Contracts: RankSpread, CrankSpread of the model.
-/
namespace Go.Proofs.Ytmiifdedmjfgkaa
open Go.RowKit Go.Maps

theorem fnRow_extS (n : Nat) {f g : Nat → Int} (h : ∀ j, j < n → f j = g j) : fnRow n f = fnRow n g := by
  unfold fnRow
  exact List.map_congr_left fun j hj => h j (List.mem_range.1 hj)
/-- How many of the first N values are x, for each x below m. -/
def rsL (V : Nat → Int) (m N : Nat) : List Int := fnRow m fun x => (cntV V (x : Int) N : Nat)
theorem rsL_len (V : Nat → Int) (m N : Nat) : (rsL V m N).length = m := fnRow_len _ _
theorem rsL_get (V : Nat → Int) (m N x : Nat) (h : x < m) : (rsL V m N).getD x 0 = (cntV V (x : Int) N : Nat) := fnRow_get _ _ _ h
theorem rsL_zero (V : Nat → Int) (m : Nat) : rsL V m 0 = fnRow m (fun _ => 0) := rfl
theorem rsL_step {V : Nat → Int} {m k x : Nat} (h : V k = (x : Int)) : (rsL V m k).set x ((cntV V (x : Int) k : Nat) + 1) = rsL V m (k + 1) := by
  rw [rsL, fnRow_set]
  refine fnRow_extS _ fun j hj => ?_
  by_cases e : j = x
  · subst e; rw [if_pos rfl, cntV_yes h]; rfl
  · rw [if_neg e, cntV_no (by rw [h]; omega)]
/-- The same, filled up to j. -/
def rsP (V : Nat → Int) (m N j : Nat) : List Int := fnRow m fun x => if x < j then (cntV V (x : Int) N : Nat) else 0
theorem rsP_len (V : Nat → Int) (m N j : Nat) : (rsP V m N j).length = m := fnRow_len _ _
theorem rsP_zero (V : Nat → Int) (m N : Nat) : rsP V m N 0 = fnRow m (fun _ => 0) := fnRow_extS _ fun j _ => by rw [if_neg (by omega)]
theorem rsP_step (V : Nat → Int) (m N j : Nat) : (rsP V m N j).set j (cntV V (j : Int) N : Nat) = rsP V m N (j + 1) := by
  rw [rsP, fnRow_set]
  refine fnRow_extS _ fun i hi => ?_
  by_cases e : i = j
  · subst e; rw [if_pos rfl, if_pos (by omega)]
  · rw [if_neg e]
    by_cases h : i < j
    · rw [if_pos h, if_pos (by omega)]
    · rw [if_neg h, if_neg (by omega)]
theorem rsP_full (V : Nat → Int) (m N : Nat) : rsP V m N m = rsL V m N := fnRow_extS _ fun j hj => by rw [if_pos hj]

def rsB (n m : Int) : Bool := spB n && inB 2 11 m
theorem rsB_iff {n m : Int} : rsB n m = true ↔ spB n = true ∧ (2 ≤ m ∧ m ≤ 11) := by rw [rsB, Bool.and_eq_true, inB_iff]
/-- The remainder of the number of the partition k of n. -/
def rsV (num : List Int → Int) (n : Nat) (m : Int) (k : Nat) : Int := num ((prt n).getD k []) % m
def rsF (num : List Int → Int) (n m : Int) : List Int := if rsB n m then rsL (rsV num n.toNat m) m.toNat (prt n.toNat).length else []
theorem rsF_f {num : List Int → Int} {n m : Int} (h : rsB n m = false) : rsF num n m = [] := by simp [rsF, h]
theorem rsF_t {num : List Int → Int} {n m : Nat} (h : rsB n m = true) : rsF num n m = rsL (rsV num n m) m (prt n).length := by simp [rsF, h]
theorem rsF_bd (num : List Int → Int) (n m : Int) : (rsF num n m).length ≤ 1048576 := by
  cases h : rsB n m
  · rw [rsF_f h]; simp
  · have := (rsB_iff.1 h).2
    unfold rsF
    rw [if_pos h, rsL_len]; omega
def rksF (n m : Int) : List Int := rsF rkV n m
def crsF (n m : Int) : List Int := rsF crV n m
theorem bound_RankSpread (n m : Int) : (rksF n m).length ≤ 1048576 := rsF_bd _ _ _
theorem bound_CrankSpread (n m : Int) : (crsF n m).length ≤ 1048576 := rsF_bd _ _ _
theorem crV_bd {p : List Int} (G : Good p) (h : 0 < p.length) : -30 ≤ crV p ∧ crV p ≤ 30 := by
  have h1 := G.len; have h2 := G.le 0 h; have h3 := G.pos 0 h
  have h4 := colH_bound p 1
  have h5 := colH_bound p (onesN p)
  have h6 : onesN p = p.length - colH p 1 := rfl
  unfold crV
  split <;> omega

set_option maxHeartbeats 400000 in
theorem rkTask_b (n m : Int) (w : World) (b : Bool) (h : rsB n m = b) : Calls Try.prog 22 #[.int .i64 n, .int .i64 m] w fun e w' => e = .returned (.bool b) ∧ w = w' := by
  subst h
  cases hs : spB n
  · have e : rsB n m = false := by simp [rsB, hs]
    rw [e]
    have H := hid hs; clear hs e
    go_enter Try.func22, Try.ntmps22
    go_wp2_with (go_at_call 33; refine (rkSpread_b _ _ _ H.out).mono ?_; rintro e w' ⟨rfl, rfl⟩)
    go_ret
    exact ⟨rfl, rfl⟩
  · have e : rsB n m = inB 2 11 m := by simp [rsB, hs]
    rw [e]
    have H := hid hs
    obtain ⟨q, hq⟩ : ∃ q, q = inB 2 11 m := ⟨_, rfl⟩
    have HQ := hid hq.symm
    rw [← hq]
    clear hs e hq
    go_enter Try.func22, Try.ntmps22
    go_wp2_with (first | (go_at_call 33; refine (rkSpread_b _ _ _ H.out).mono ?_; rintro e w' ⟨rfl, rfl⟩) | (go_at_call 34; refine (l1In_b _ _ _ _ _ HQ.out).mono ?_; rintro e w' ⟨rfl, rfl⟩))
    go_ret
    exact ⟨rfl, rfl⟩

set_option maxRecDepth 100000 in
set_option maxHeartbeats 2000000 in
theorem spec_RankSpread (n m : Int) (w : World) (_ : I64 n) (_ : I64 m) :
    Calls Try.prog 5 #[.int .i64 n, .int .i64 m] w fun e w' => ∃ A' c', e = .returned (.tuple #[.slice A' (rksF n m).length c', .bool (rsB n m)]) ∧ Own w' w.heap.size A' c' (rksF n m) ∧ Below w.heap.size w w' := by
  unfold rksF
  cases h : rsB n m
  · rw [rsF_f h]
    have H := hid h; clear h
    go_enter Try.func5, Try.ntmps5
    go_wp2_with (go_at_call 22; refine (rkTask_b _ _ _ _ H.out).mono ?_; rintro e w' ⟨rfl, rfl⟩)
    go_ret2
    exact ⟨none, 0, rfl, own_nil _ _, Below.refl _ _⟩
  have H := hid h
  obtain ⟨hs, hm1, hm2⟩ := rsB_iff.1 h
  obtain ⟨n, rfl, hn1, hn⟩ := spB_nat hs
  obtain ⟨m, rfl⟩ : ∃ t : Nat, m = t := ⟨m.toNat, by omega⟩
  rw [rsF_t h, rsL_len]
  have hm2 : m ≤ 11 := by omega
  have hm1 : 2 ≤ m := by omega
  have HL := hid (fun wx => allPrt n wx hn)
  have hll := prt_len hn
  have HR := hid (fun k (hk : k < (prt n).length) => (⟨(prt_row hn hk).1, prt_pos hn1 hn hk⟩ : Good ((prt n).getD k []) ∧ 0 < ((prt n).getD k []).length))
  have HV := hid (fun k => (show rsV rkV n m k = rkV ((prt n).getD k []) % (m : Int) from rfl))
  obtain ⟨R, hR⟩ : ∃ R, R = prt n := ⟨_, rfl⟩
  obtain ⟨V, hV⟩ : ∃ V, V = rsV rkV n m := ⟨_, rfl⟩
  rw [← hR] at HL HR hll
  rw [← hR, ← hV] at HV
  rw [← hR, ← hV]
  have hmk := run_make_row' (P := Try.prog) 22 3 (.int .i64 0) 8 Try.underlying22 Try.infoInt rfl .i64 .i64 m (by omega) (by omega)
  obtain ⟨w1, hw1⟩ : ∃ w1, w1 = w.alloc (.cells (madeCells #[.int .i64 0] m) 3) := ⟨_, rfl⟩
  have o1 : Own w1 w.heap.size (some ⟨w.heap.size, 0, none⟩) m (rsL V m 0) := by rw [hw1, rsL_zero]; exact own_made w m (by omega)
  have b1 : Below w.heap.size w w1 := by rw [hw1]; exact (Below.refl _ _).alloc (Nat.le_refl _) _
  have hgs : w.heap.size < w1.heap.size := by rw [hw1]; simp
  have HW := hid hw1
  have HO1 := hid o1
  have HB1 := hid b1
  clear hR hV hs h hw1 o1 b1
  go_enter Try.func5, Try.ntmps5
  go_wp2_with (go_at_call 22; refine (rkTask_b _ _ _ _ H.out).mono ?_; rintro e w' ⟨rfl, rfl⟩)
  rw [← HW.out]
  refine (HL.out _).mono ?_
  rintro e w2 ⟨A2, c2, rfl, o2, b2⟩
  have HO2 := hid (show ∃ B S, Own2 w2 B S A2 c2 R ∧ w.heap.size < B from ⟨_, _, o2, hgs⟩)
  have HOW := hid (HO1.out.below b2)
  have HBW := hid (HB1.out.trans (b2.mono HB1.out.size))
  clear o2 b2 hmk
  go_wp2_with fail
  go_loopw [19] (fun i wr => ∃ k : Nat, k ≤ R.length ∧ i = .int .i64 k ∧ Hid (Own wr w.heap.size (some ⟨w.heap.size, 0, none⟩) m (rsL V m k)) ∧ Hid (Below w.heap.size w wr) ∧ Hid (w2.grownBy wr (some w.heap.size))) (fun i _ => R.length - (intOf i).toNat)
  case atStart => exact ⟨0, Nat.zero_le _, rfl, HOW, HBW, hid ⟨rfl, rfl, rfl, Nat.le_refl _, fun _ _ _ => rfl⟩⟩
  case round =>
    obtain ⟨k, hk, rfl, HO, HB, HG⟩ := hrel
    by_cases hlt : k < R.length
    · obtain ⟨Bq, Sq, oq, hqg⟩ := HO2.out
      have or := oq.keep (fun b hb hB _ => HG.out.block b hb (fun e => by injection e with e; omega))
      obtain ⟨P, C, h1, h2⟩ := or.cells
      obtain ⟨b, o, rfl, hcc⟩ := h1 (by omega)
      have hck := hcc k hlt
      obtain ⟨G, hp⟩ := HR.out k hlt
      have hc0 := h2 k hlt
      have hv := HV.out k
      have hcn := fun x : Int => cntV_le V x k
      obtain ⟨p, hpe⟩ : ∃ p, p = R.getD k [] := ⟨_, rfl⟩
      rw [← hpe] at hck hp hc0 hv G
      clear hcc h1 h2 hpe oq or
      have hln := G.len
      have hx0 := G.le 0 hp
      have hx1 := G.pos 0 hp
      obtain ⟨b2, o2, he, hcc2⟩ := hc0 hp
      have hcx := hcc2 0 hp
      rw [Nat.add_zero] at hcx
      rw [he] at hck
      unfold rkV at hv
      obtain ⟨x, hx⟩ : ∃ x, x = p.getD 0 0 := ⟨_, rfl⟩
      rw [← hx] at hcx hv hx0 hx1
      obtain ⟨L, hL⟩ : ∃ L, L = p.length := ⟨_, rfl⟩
      rw [← hL] at hck hln hv hp
      clear hcc2 hx hL he
      obtain ⟨z, hz⟩ : ∃ z, z = x - (L : Int) := ⟨_, rfl⟩
      rw [← hz] at hv
      have hzb : -30 ≤ z ∧ z ≤ 30 := by omega
      obtain ⟨t1, t2, t3⟩ := tmod_resid11 (x := z) (t := (m : Int)) (by omega)
      have hq1 := Int.emod_nonneg z (show (m : Int) ≠ 0 by omega)
      have hq2 := Int.emod_lt_of_pos z (show (0 : Int) < m by omega)
      obtain ⟨q, hq⟩ : ∃ q : Nat, z % (m : Int) = q := ⟨(z % (m : Int)).toNat, by omega⟩
      rw [hq] at hv t3 hq2
      obtain ⟨y, hy⟩ : ∃ y, y = Int.tmod z (m : Int) := ⟨_, rfl⟩
      rw [← hy] at t1 t2 t3
      have hyy : Int.tmod z (m : Int) = y := hy.symm
      have hqm : q < m := by omega
      have hgt := rsL_get V m k q hqm
      have hcl := own_get HO.out (k := q) (by rw [rsL_len]; exact hqm)
      have hfz := own_froz HO.out q
      have hst := own_set HO.out q ((cntV V (q : Int) k : Nat) + 1)
      rw [rsL_step hv] at hst
      have hgr := (World.ownsRow.stored HO.out q (.int .i64 ((cntV V (q : Int) k : Nat) + 1))).2
      rw [hgt] at hcl
      have hcb := hcn (q : Int)
      have hbb := HB.out.setCell (Nat.le_refl _) (p := ⟨w.heap.size, q, none⟩) (.int .i64 ((cntV V (q : Int) k : Nat) + 1))
      obtain ⟨s, hs⟩ : ∃ s : Nat, s = cntV V (q : Int) k := ⟨_, rfl⟩
      rw [← hs] at hcl hst hgr hcb hbb
      have HST := hid hst
      have HGR := hid (HG.out.trans hgr)
      have HBB := hid hbb
      have hne : ¬ ((m : Int) = 0) := by omega
      subst hz
      clear hq hq1 hy hgt hst hgr hs hcn hv hbb G hc0 HO HB HG
      go_wp2_with fail
      go_roundw
      case rel => exact ⟨k + 1, by omega, by go_num, HST, HBB, HGR⟩
      case measure => simp [intOf]; omega
    · have hkl : k = R.length := by omega
      subst hkl
      go_wp2_with fail
      go_ret2
      exact ⟨_, m, rfl, HO.out, HB.out⟩

set_option maxRecDepth 100000 in
set_option maxHeartbeats 2000000 in
theorem spec_CrankSpread (n m : Int) (w : World) (_ : I64 n) (_ : I64 m) :
    Calls Try.prog 7 #[.int .i64 n, .int .i64 m] w fun e w' => ∃ A' c', e = .returned (.tuple #[.slice A' (crsF n m).length c', .bool (rsB n m)]) ∧ Own w' w.heap.size A' c' (crsF n m) ∧ Below w.heap.size w w' := by
  unfold crsF
  cases h : rsB n m
  · rw [rsF_f h]
    have H := hid h; clear h
    go_enter Try.func7, Try.ntmps7
    go_wp2_with (go_at_call 22; refine (rkTask_b _ _ _ _ H.out).mono ?_; rintro e w' ⟨rfl, rfl⟩)
    go_ret2
    exact ⟨none, 0, rfl, own_nil _ _, Below.refl _ _⟩
  have H := hid h
  obtain ⟨hs, hm1, hm2⟩ := rsB_iff.1 h
  obtain ⟨n, rfl, hn1, hn⟩ := spB_nat hs
  obtain ⟨m, rfl⟩ : ∃ t : Nat, m = t := ⟨m.toNat, by omega⟩
  rw [rsF_t h, rsL_len]
  have hm2 : m ≤ 11 := by omega
  have hm1 : 2 ≤ m := by omega
  have HL := hid (fun wx => allPrt n wx hn)
  have hll := prt_len hn
  have HR := hid (fun k (hk : k < (prt n).length) => (⟨(prt_row hn hk).1, prt_pos hn1 hn hk⟩ : Good ((prt n).getD k []) ∧ 0 < ((prt n).getD k []).length))
  have HV := hid (fun k => (show rsV crV n m k = crV ((prt n).getD k []) % (m : Int) from rfl))
  obtain ⟨R, hR⟩ : ∃ R, R = prt n := ⟨_, rfl⟩
  obtain ⟨V, hV⟩ : ∃ V, V = rsV crV n m := ⟨_, rfl⟩
  rw [← hR] at HL HR hll
  rw [← hR, ← hV] at HV
  rw [← hR, ← hV]
  have hmk := run_make_row' (P := Try.prog) 22 3 (.int .i64 0) 8 Try.underlying22 Try.infoInt rfl .i64 .i64 m (by omega) (by omega)
  obtain ⟨w1, hw1⟩ : ∃ w1, w1 = w.alloc (.cells (madeCells #[.int .i64 0] m) 3) := ⟨_, rfl⟩
  have o1 : Own w1 w.heap.size (some ⟨w.heap.size, 0, none⟩) m (rsL V m 0) := by rw [hw1, rsL_zero]; exact own_made w m (by omega)
  have b1 : Below w.heap.size w w1 := by rw [hw1]; exact (Below.refl _ _).alloc (Nat.le_refl _) _
  have hgs : w.heap.size < w1.heap.size := by rw [hw1]; simp
  have HW := hid hw1
  have HO1 := hid o1
  have HB1 := hid b1
  clear hR hV hs h hw1 o1 b1
  go_enter Try.func7, Try.ntmps7
  go_wp2_with (go_at_call 22; refine (rkTask_b _ _ _ _ H.out).mono ?_; rintro e w' ⟨rfl, rfl⟩)
  rw [← HW.out]
  refine (HL.out _).mono ?_
  rintro e w2 ⟨A2, c2, rfl, o2, b2⟩
  have HO2 := hid (show ∃ B S, Own2 w2 B S A2 c2 R ∧ w.heap.size < B from ⟨_, _, o2, hgs⟩)
  have HOW := hid (HO1.out.below b2)
  have HBW := hid (HB1.out.trans (b2.mono HB1.out.size))
  clear o2 b2 hmk
  go_wp2_with fail
  go_loopw [19] (fun i wr => ∃ k : Nat, k ≤ R.length ∧ i = .int .i64 k ∧ Hid (Own wr w.heap.size (some ⟨w.heap.size, 0, none⟩) m (rsL V m k)) ∧ Hid (Below w.heap.size w wr) ∧ Hid (w2.grownBy wr (some w.heap.size))) (fun i _ => R.length - (intOf i).toNat)
  case atStart => exact ⟨0, Nat.zero_le _, rfl, HOW, HBW, hid ⟨rfl, rfl, rfl, Nat.le_refl _, fun _ _ _ => rfl⟩⟩
  case round =>
    obtain ⟨k, hk, rfl, HO, HB, HG⟩ := hrel
    by_cases hlt : k < R.length
    · obtain ⟨Bq, Sq, oq, hqg⟩ := HO2.out
      have or := oq.keep (fun b hb hB _ => HG.out.block b hb (fun e => by injection e with e; omega))
      obtain ⟨P, C, h1, h2⟩ := or.cells
      obtain ⟨b, o, rfl, hcc⟩ := h1 (by omega)
      have hck := hcc k hlt
      obtain ⟨G, hp⟩ := HR.out k hlt
      have hc0 := h2 k hlt
      have hv := HV.out k
      have hcn := fun x : Int => cntV_le V x k
      obtain ⟨p, hpe⟩ : ∃ p, p = R.getD k [] := ⟨_, rfl⟩
      rw [← hpe] at hck hp hc0 hv G
      clear hcc h1 h2 hpe oq or
      have hzb := crV_bd G hp
      have HC := hid (rkCrank_any (P k) (C k) p wr G hp hc0)
      obtain ⟨z, hz⟩ : ∃ z, z = crV p := ⟨_, rfl⟩
      rw [← hz] at hzb HC hv
      clear hz
      obtain ⟨t1, t2, t3⟩ := tmod_resid11 (x := z) (t := (m : Int)) (by omega)
      have hq1 := Int.emod_nonneg z (show (m : Int) ≠ 0 by omega)
      have hq2 := Int.emod_lt_of_pos z (show (0 : Int) < m by omega)
      obtain ⟨q, hq⟩ : ∃ q : Nat, z % (m : Int) = q := ⟨(z % (m : Int)).toNat, by omega⟩
      rw [hq] at hv t3 hq2
      obtain ⟨y, hy⟩ : ∃ y, y = Int.tmod z (m : Int) := ⟨_, rfl⟩
      rw [← hy] at t1 t2 t3
      have hyy : Int.tmod z (m : Int) = y := hy.symm
      have hqm : q < m := by omega
      have hgt := rsL_get V m k q hqm
      have hcl := own_get HO.out (k := q) (by rw [rsL_len]; exact hqm)
      have hfz := own_froz HO.out q
      have hst := own_set HO.out q ((cntV V (q : Int) k : Nat) + 1)
      rw [rsL_step hv] at hst
      have hgr := (World.ownsRow.stored HO.out q (.int .i64 ((cntV V (q : Int) k : Nat) + 1))).2
      rw [hgt] at hcl
      have hcb := hcn (q : Int)
      have hbb := HB.out.setCell (Nat.le_refl _) (p := ⟨w.heap.size, q, none⟩) (.int .i64 ((cntV V (q : Int) k : Nat) + 1))
      obtain ⟨s, hs⟩ : ∃ s : Nat, s = cntV V (q : Int) k := ⟨_, rfl⟩
      rw [← hs] at hcl hst hgr hcb hbb
      have HST := hid hst
      have HGR := hid (HG.out.trans hgr)
      have HBB := hid hbb
      have hne : ¬ ((m : Int) = 0) := by omega
      clear hq hq1 hy hgt hst hgr hs hcn hv hbb G hc0 HO HB HG
      go_wp2_with (go_at_call 25; refine HC.out.mono ?_; rintro e w5 ⟨rfl, rfl⟩)
      go_roundw
      case rel => exact ⟨k + 1, by omega, by go_num, HST, HBB, HGR⟩
      case measure => simp [intOf]; omega
    · have hkl : k = R.length := by omega
      subst hkl
      go_wp2_with fail
      go_ret2
      exact ⟨_, m, rfl, HO.out, HB.out⟩
end Go.Proofs.Ytmiifdedmjfgkaa
/-
  Maps that count ints.
-/
namespace Go.Proofs.Ytmiifdedmjfgkaa
open Go.RowKit Go.Maps

theorem grownBelowI {w w' : World} (hb : Below w.heap.size w w') : w.grownBy w' none := ⟨hb.os, hb.tape, hb.output, hb.size, fun i h _ => hb.block i h⟩

theorem Try.spILaw : Keyed Try.prog 3 := int_keyed Try.underlying3
theorem Try.spIZero (w : World) : (zeroValue 3).run Try.prog w = .ok (.int .i64 0) w := by kernel_rfl
/-- Block b is a map that tells how often each value is met among the first k. -/
def SpI (w : World) (b k : Nat) (V : Nat → Int) : Prop := ∃ D : DataW Unit, w.ownsMap Try.prog 3 (plainElem Try.prog 3) b k D ∧ ∀ x, (Lit.int .i64 x).wf = true → D.atKey (.int .i64 x) (.lit (.int .i64 0)) = .lit (.int .i64 (cntV V x k))
theorem SpI.below {w w' : World} {b k : Nat} {V : Nat → Int} (h : SpI w b k V) (hb : Below w.heap.size w w') : SpI w' b k V := by
  obtain ⟨D, h1, h2⟩ := h
  exact ⟨D, h1.kept (grownBelowI hb) (by simp), h2⟩
theorem SpI.look {w : World} {b k : Nat} {V : Nat → Int} (h : SpI w b k V) (x : Int) (hx : (Lit.int .i64 x).wf = true) :
    (Instr.lookup 41 (.map (some b)) (.int .i64 x) false).run Try.prog w = .ok (.int .i64 (cntV V x k)) w := by
  obtain ⟨D, h1, h2⟩ := h
  obtain ⟨c, hrun, hat, _⟩ := h1.lookup_int Try.spILaw Try.underlying41 Try.underlying3 (Try.spIZero _) (keyOf_int_mk Try.underlying3 hx)
  rw [h2 x hx] at hat
  have e : ((cntV V x k : Nat) : Int) = c := lit_injI hat
  rw [e]; exact hrun
theorem SpI.put {w : World} {b k : Nat} {V : Nat → Int} {x : Int} {D : DataW Unit} (hat : ∀ x, (Lit.int .i64 x).wf = true → D.atKey (.int .i64 x) (.lit (.int .i64 0)) = .lit (.int .i64 (cntV V x k))) (hD : IsMap D) (hx : (Lit.int .i64 x).wf = true) (hv : V k = x)
    (h : w.ownsMap Try.prog 3 (plainElem Try.prog 3) b (k + 1) (D.put (.int .i64 x) (.lit (.int .i64 ((cntV V x k : Nat) + 1))))) : SpI w b (k + 1) V := by
  refine ⟨_, h, fun y hy => ?_⟩
  by_cases e : y = x
  · subst e
    rw [atKey_put_same hD (Try.spILaw.key (keyOf_int_mk Try.underlying3 hx)), cntV_yes hv]
    rfl
  · rw [atKey_put_other (fun h => e (by injection h)), hat y hy, cntV_no (fun h => e (h.symm.trans hv))]
end Go.Proofs.Ytmiifdedmjfgkaa
