/-
  Several texts in one.
-/
import Derived.Test.YtmiifdedmjfgkaaR26
import Derived.Test.YtmiifdedmjfgkaaR22
/-
  What the spreads of ranks and cranks hold: sums, signs, and where they are even. No walk in this text.
-/
namespace Go.Proofs.Ytmiifdedmjfgkaa
open Go.RowKit

theorem spr_get (num : List Int → Int) {N M : Nat} (h : rsB (N : Int) (M : Int) = true) {x : Nat} (hx : x < M) : (rsF num N M).getD x 0 = (((prt N).countP (fun p => decide (num p % (M : Int) = (x : Int))) : Nat) : Int) := by
  rw [rsF_t h, rsL_get _ _ _ _ hx]
  have e := cntV_lst2 (fun p : List Int => num p % (M : Int)) (x : Int) (prt N) (prt N).length (Nat.le_refl _)
  rw [List.take_length] at e
  exact congrArg _ e
theorem ind_sum (v : Nat) : ∀ M : Nat, ((List.range M).map fun x : Nat => if v = x then (1 : Int) else 0).sum = if v < M then 1 else 0
  | 0 => rfl
  | M + 1 => by
    rw [List.range_succ, List.map_append, List.sum_append, ind_sum v M]
    simp only [List.map_cons, List.map_nil, List.sum_cons, List.sum_nil]
    split <;> split <;> split <;> omega
theorem cnt_sum {M : Nat} (f : List Int → Int) (hf : ∀ p, 0 ≤ f p ∧ f p < M) : ∀ L : List (List Int), ((List.range M).map fun x : Nat => ((L.countP (fun p => decide (f p = (x : Int))) : Nat) : Int)).sum = L.length
  | [] => by
    have : ∀ M : Nat, ((List.range M).map fun _ : Nat => (0 : Int)).sum = 0 := by
      intro M
      induction M with
      | zero => rfl
      | succ M ih => rw [List.range_succ, List.map_append, List.sum_append, ih]; rfl
    simpa using this M
  | p :: t => by
    have ih := cnt_sum f hf t
    have h1 := hf p
    have e : ∀ R : List Nat, (R.map fun x : Nat => (((p :: t).countP (fun p => decide (f p = (x : Int))) : Nat) : Int)).sum = (R.map fun x : Nat => ((t.countP (fun p => decide (f p = (x : Int))) : Nat) : Int)).sum + (R.map fun x : Nat => if (f p).toNat = x then (1 : Int) else 0).sum := by
      intro R
      induction R with
      | nil => rfl
      | cons a R ihR =>
        rw [List.map_cons, List.sum_cons, ihR, List.map_cons, List.sum_cons, List.map_cons, List.sum_cons, List.countP_cons]
        by_cases ha : f p = (a : Int)
        · rw [if_pos (decide_eq_true ha), if_pos (by omega)]; omega
        · rw [if_neg (by simpa using ha), if_neg (by omega)]; omega
    rw [e, ih, ind_sum, if_pos (by omega), List.length_cons]
    omega
theorem spr_sum (num : List Int → Int) {N M : Nat} (h : rsB (N : Int) (M : Int) = true) : (rsF num N M).sum = (prt N).length := by
  have hm := (rsB_iff.1 h).2
  have e : rsF num N M = (List.range M).map fun x : Nat => (((prt N).countP (fun p => decide (num p % (M : Int) = (x : Int))) : Nat) : Int) := by
    rw [rsF_t h]
    unfold rsL fnRow
    refine List.map_congr_left fun x _ => ?_
    have e := cntV_lst2 (fun p : List Int => num p % (M : Int)) (x : Int) (prt N) (prt N).length (Nat.le_refl _)
    rw [List.take_length] at e
    exact congrArg _ e
  rw [e]
  exact cnt_sum (fun p => num p % (M : Int)) (fun p => ⟨Int.emod_nonneg _ (by omega), Int.emod_lt_of_pos _ (by omega)⟩) _
theorem rsB_nat {n m : Int} (h : rsB n m = true) : ∃ N M : Nat, n = N ∧ m = M ∧ (1 ≤ N ∧ N ≤ 30) ∧ (2 ≤ M ∧ M ≤ 11) := by
  obtain ⟨h1, h2⟩ := rsB_iff.1 h
  obtain ⟨N, rfl, h3, h4⟩ := spB_nat h1
  exact ⟨N, m.toNat, rfl, by omega, ⟨h3, h4⟩, by omega⟩
theorem mod_neg {M x : Nat} (hx : x < M) (v : Int) (hM : 2 ≤ M ∧ M ≤ 11) : (-v) % (M : Int) = (x : Int) ↔ v % (M : Int) = (((M - x) % M : Nat) : Int) := by
  obtain ⟨a, b⟩ := hM
  have : M = 2 ∨ M = 3 ∨ M = 4 ∨ M = 5 ∨ M = 6 ∨ M = 7 ∨ M = 8 ∨ M = 9 ∨ M = 10 ∨ M = 11 := by omega
  rcases this with rfl | rfl | rfl | rfl | rfl | rfl | rfl | rfl | rfl | rfl <;> omega
theorem rk_sym {N M : Nat} (h : rsB (N : Int) (M : Int) = true) {x : Nat} (hx : x < M) : (rksF N M).getD x 0 = (rksF N M).getD ((M - x) % M) 0 := by
  obtain ⟨_, _, e1, e2, hN, hM⟩ := rsB_nat h
  have hN2 : N ≤ 30 := by omega
  have hM2 : 2 ≤ M ∧ M ≤ 11 := by omega
  unfold rksF
  rw [spr_get rkV h hx, spr_get rkV h (Nat.mod_lt _ (by omega)), cnt_neg hN2 (fun v => decide (v % (M : Int) = (x : Int)))]
  congr 1
  refine List.countP_congr fun p _ => ?_
  simp only [decide_eq_true_eq]
  exact mod_neg hx _ hM2
theorem prt_T (N : Nat) : (prt N).length = T N N := by unfold prt; rw [lst_len]
theorem pv_T {N : Nat} (h1 : 1 ≤ N) (h2 : N ≤ 30) : nmB (N : Int) = true ∧ pvF (N : Int) = ((prt N).length : Int) := by
  have hb : nmB (N : Int) = true := inB_iff.2 (by omega)
  refine ⟨hb, ?_⟩
  have h := List.all_eq_true.1 pn_T N (List.mem_range.2 (by omega))
  rw [Bool.or_eq_true] at h
  rcases h with h | h
  · have := eq_of_beq h; omega
  · rw [pvF_t hb, of_decide_eq_true h, prt_T]
def evR (n m : Int) : Prop := (m = 5 ∧ n % 5 = 4) ∨ (m = 7 ∧ n % 7 = 5)
theorem evC_at {V : List Int → Int} {L : List (List Int)} {M N : Nat} (h : evC V L M N = true) {i : Nat} (hi : i < M) : ((L.countP (fun p => decide (V p % (M : Int) = (i : Int))) : Nat) : Int) * M = N := by
  have := of_decide_eq_true (List.all_eq_true.1 h i (List.mem_range.2 hi))
  exact_mod_cast this
theorem ev_get {num : List Int → Int} {N M f : Nat} (h : rsB (N : Int) (M : Int) = true) (hf : N ≤ f) (hc : evC num (lA f N N) M (T N N) = true) {x : Nat} (hx : x < M) : (M : Int) * (rsF num N M).getD x 0 = pvF N := by
  obtain ⟨_, _, e1, e2, hN, hM⟩ := rsB_nat h
  rw [spr_get num h hx, (pv_T (by omega) (by omega)).2, prt_T, prt_lA (by omega) f hf, Int.mul_comm]
  exact evC_at hc hx
theorem ev_rk {N M : Nat} (h : rsB (N : Int) (M : Int) = true) (he : (M = 5 ∧ N % 5 = 4) ∨ (M = 7 ∧ N % 7 = 5)) {x : Nat} (hx : x < M) : (M : Int) * (rksF N M).getD x 0 = pvF N := by
  obtain ⟨_, _, e1, e2, hN, hM⟩ := rsB_nat h
  rcases he with ⟨rfl, h4⟩ | ⟨rfl, h5⟩
  · have e : 5 * ((N - 4) / 5) + 4 = N := by omega
    have hc := List.all_eq_true.1 ev_rk5 ((N - 4) / 5) (List.mem_range.2 (by omega))
    rw [e] at hc
    exact ev_get h (by omega) hc hx
  · have e : 7 * ((N - 5) / 7) + 5 = N := by omega
    have hc := List.all_eq_true.1 ev_rk7 ((N - 5) / 7) (List.mem_range.2 (by omega))
    rw [e] at hc
    exact ev_get h (by omega) hc hx
theorem ev_cr {N M : Nat} (h : rsB (N : Int) (M : Int) = true) (he : (M = 5 ∧ N % 5 = 4) ∨ (M = 7 ∧ N % 7 = 5) ∨ (M = 11 ∧ N % 11 = 6)) {x : Nat} (hx : x < M) : (M : Int) * (crsF N M).getD x 0 = pvF N := by
  obtain ⟨_, _, e1, e2, hN, hM⟩ := rsB_nat h
  rcases he with ⟨rfl, h4⟩ | ⟨rfl, h5⟩ | ⟨rfl, h6⟩
  · have e : 5 * ((N - 4) / 5) + 4 = N := by omega
    have hc := List.all_eq_true.1 ev_cr5 ((N - 4) / 5) (List.mem_range.2 (by omega))
    rw [e] at hc
    exact ev_get h (by omega) hc hx
  · have e : 7 * ((N - 5) / 7) + 5 = N := by omega
    have hc := List.all_eq_true.1 ev_cr7 ((N - 5) / 7) (List.mem_range.2 (by omega))
    rw [e] at hc
    exact ev_get h (by omega) hc hx
  · have e : 11 * ((N - 6) / 11) + 6 = N := by omega
    have hc := List.all_eq_true.1 ev_cr11 ((N - 6) / 11) (List.mem_range.2 (by omega))
    rw [e] at hc
    exact ev_get h (by omega) hc hx
/-- Ranks are as often r as -r. -/
theorem rct_neg {n r : Int} (h : rctB n r = true) : rctB n (-r) = true ∧ rctF n (-r) = rctF n r := by
  have h2 := h
  unfold rctB at h2
  rw [Bool.and_eq_true] at h2
  obtain ⟨N, rfl, hN1, hN⟩ := spB_nat h2.1
  have hr := inB_iff.1 h2.2
  have hb : rctB (N : Int) (-r) = true := by
    unfold rctB
    rw [h2.1, Bool.true_and]
    exact inB_iff.2 (by omega)
  refine ⟨hb, ?_⟩
  unfold rctF
  rw [if_pos hb, if_pos h, Int.toNat_natCast]
  have e : ∀ q : Int, cntV (rnkV N) q (prt N).length = (prt N).countP (fun p => decide (rkV p = q)) := fun q => by
    have := cntV_lst2 rkV q (prt N) (prt N).length (Nat.le_refl _)
    rw [List.take_length] at this
    exact this
  rw [e, e, cnt_neg hN (fun v => decide (v = -r))]
  congr 1
  refine List.countP_congr fun p _ => ?_
  simp only [decide_eq_true_eq]
  omega
theorem rct_bd (n r : Int) : 0 ≤ rctF n r ∧ rctF n r ≤ 5604 := by
  unfold rctF
  split
  · rename_i h
    unfold rctB at h
    rw [Bool.and_eq_true] at h
    obtain ⟨N, rfl, hN1, hN⟩ := spB_nat h.1
    have h1 := prt_len hN
    have h2 : cntV (rnkV N) r (prt N).length ≤ (prt N).length := by
      have := cntV_lst2 rkV r (prt N) (prt N).length (Nat.le_refl _)
      rw [List.take_length] at this
      have h3 : cntV (rnkV N) r (prt N).length = (prt N).countP (fun p => decide (rkV p = r)) := this
      rw [h3]; exact List.countP_le_length
    rw [Int.toNat_natCast]
    omega
  · omega
theorem spr_bd (num : List Int → Int) {N M : Nat} (h : rsB (N : Int) (M : Int) = true) {x : Nat} (hx : x < M) : 0 ≤ (rsF num N M).getD x 0 ∧ (rsF num N M).getD x 0 ≤ 5604 := by
  obtain ⟨_, _, e1, e2, hN, hM⟩ := rsB_nat h
  rw [spr_get num h hx]
  have h1 := prt_len (show N ≤ 30 by omega)
  have h2 : (prt N).countP (fun p => decide (num p % (M : Int) = (x : Int))) ≤ (prt N).length := List.countP_le_length
  omega
end Go.Proofs.Ytmiifdedmjfgkaa
/-
  Contract: spreadOf with 36.
-/
namespace Go.Proofs.Ytmiifdedmjfgkaa
open Go.RowKit Go.Maps

set_option maxRecDepth 100000 in
set_option maxHeartbeats 2000000 in
theorem spreadC_any (A : Option Addr) (c : Nat) (R : List (List Int)) (V : Nat → Int) (w : World) (g1 g2 : Nat) (hl : R.length ≤ 10000) (hc : Cells2 w A R) (hV : ∀ k, k < R.length → -1000 ≤ V k ∧ V k ≤ 1000)
    (hcl : ∀ k, k < R.length → ∀ (wx : World) (A' : Option Addr) (c' : Nat), Below w.heap.size w wx → Cells wx A' (R.getD k []) → Calls Try.prog 36 #[.slice A' (R.getD k []).length c', .pointer (some ⟨g1, 0, none⟩), .pointer (some ⟨g2, 0, none⟩)] wx fun e w' => e = .returned (.int .i64 (V k)) ∧ Below wx.heap.size wx w') :
    Calls Try.prog 31 #[.slice A R.length c, .func (.func 36) #[] #[.pointer (some ⟨g1, 0, none⟩), .pointer (some ⟨g2, 0, none⟩)]] w fun e w' => e = .returned (.map (some w.heap.size)) ∧ SpI w' w.heap.size R.length V ∧ Below w.heap.size w w' := by
  have hmm := @run_makeMap Try.prog
  have HCL := hid hcl
  clear hcl
  go_enter Try.func31, Try.ntmps31
  go_wp2_with fail
  go_loopw [11] (fun i wr => ∃ k : Nat, k ≤ R.length ∧ i = .int .i64 k ∧ Hid (SpI wr w.heap.size k V) ∧ Hid (Below w.heap.size w wr)) (fun i _ => R.length - (intOf i).toNat)
  case atStart => exact ⟨0, Nat.zero_le _, rfl, hid ⟨_, World.ownsMap_made _ _ _ _, fun _ _ => rfl⟩, hid ((Below.refl _ _).alloc (Nat.le_refl _) _)⟩
  case round =>
    obtain ⟨k, hk, rfl, HS, HB⟩ := hrel
    clear hmm
    by_cases hlt : k < R.length
    · have hc2 := cells2_below hc HB.out
      obtain ⟨P, C, h1, h2⟩ := hc2
      obtain ⟨b, o, rfl, hcc⟩ := h1 (by omega)
      have hck := hcc k hlt
      have HF := hid (HCL.out k hlt wr (P k) (C k) HB.out (h2 k hlt))
      obtain ⟨r, hr⟩ : ∃ r, r = R.getD k [] := ⟨_, rfl⟩
      rw [← hr] at hck HF
      have hvb := hV k hlt
      obtain ⟨v, hv⟩ : ∃ v, v = V k := ⟨_, rfl⟩
      rw [← hv] at hvb
      have hvw : (Lit.int .i64 v).wf = true := WalkArith.wf_i64 (by omega)
      have hcn := cntV_le V v k
      have HV := hid hv
      rw [← hv] at HF
      clear h1 h2 hcc hr hv
      go_wp2_with (first | (go_at_call 36; refine HF.out.mono ?_; rintro e w2 ⟨rfl, b2⟩; have s2 := HS.out.below b2; have hrun := s2.look v hvw; obtain ⟨D, hown, hat⟩ := s2; have HAT := hid hat; have HBB := hid (HB.out.trans (b2.mono HB.out.size)); clear hat; obtain ⟨n, hn⟩ : ∃ n : Nat, n = cntV V v k := ⟨_, rfl⟩; rw [← hn] at hrun hcn; have HN := hid hn; clear hn) | (at_mapUpdate; refine wpList_mapUpdate_own _ rfl _ _ _ 41 rfl 3 3 Try.spILaw Try.underlying41 _ w.heap.size k _ rfl hown (by unfold maxLen; omega) _ _ _ rfl rfl (keyOf_int_mk Try.underlying3 hvw) _ [] (plainElem_int Try.underlying3 (WalkArith.wf_i64 (by omega))) ?_; intro w3 hown3 hgrow3))
      have hs3 := SpI.put HAT.out (hown.tidy Try.spILaw).isMap hvw HV.out.symm (by rw [← HN.out]; exact hown3)
      have hb3 := HBB.out.grown hgrow3 HBB.out.size (fun j hj => by cases hj; exact Nat.le_refl _)
      have HS3 := hid hs3
      have HB3 := hid hb3
      clear hs3 hb3 hown3 hgrow3 hown
      go_roundw
      case rel => exact ⟨k + 1, by omega, by go_num, HS3, HB3⟩
      case measure => simp [intOf]; omega
    · have hkl : k = R.length := by omega
      subst hkl
      go_wp2_with fail
      go_ret
      exact ⟨rfl, HS.out, HB.out⟩
end Go.Proofs.Ytmiifdedmjfgkaa
