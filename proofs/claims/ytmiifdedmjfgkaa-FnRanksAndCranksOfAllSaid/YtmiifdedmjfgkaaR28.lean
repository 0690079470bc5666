/-
  Several texts in one.
-/
import Derived.Test.YtmiifdedmjfgkaaR22
import Derived.Test.YtmiifdedmjfgkaaR27
import Derived.Deep.RegionHeld3
import Derived.Test.YtmiifdedmjfgkaaR26
/-
  Contracts: RankSpread, CrankSpread of the program.
-/
namespace Go.Proofs.Ytmiifdedmjfgkaa
open Go.RowKit Go.Maps

theorem SpI.belowN {w w' : World} {b k B : Nat} {V : Nat → Int} (h : SpI w b k V) (hb : Below B w w') (hlt : b < B) : SpI w' b k V := by
  obtain ⟨D, ⟨es, clock, hb0, F, hs, hD⟩, h2⟩ := h
  exact ⟨D, ⟨es, clock, (hb.block b hlt).trans hb0, F, hs, hD⟩, h2⟩

set_option maxRecDepth 100000 in
set_option maxHeartbeats 1000000 in
theorem remR_any (A : Option Addr) (c : Nat) (p : List Int) (m : Int) (g1 g2 : Nat) (w : World) (G : Good p) (h0 : 0 < p.length) (hm : 2 ≤ m ∧ m ≤ 11) (hc : Cells w A p) (h1 : w.cell? ⟨g1, 0, none⟩ = some (.func (.func 21) #[] #[])) (h2 : w.cell? ⟨g2, 0, none⟩ = some (.int .i64 m)) :
    Calls Try.prog 36 #[.slice A p.length c, .pointer (some ⟨g1, 0, none⟩), .pointer (some ⟨g2, 0, none⟩)] w fun e w' => e = .returned (.int .i64 (rkV p % m)) ∧ Below w.heap.size w w' := by
  have HN := hid fun W (h : Cells W A p) => rankOf_any A c p W G h0 h
  have HC := hid hc
  obtain ⟨z, hz⟩ : ∃ z, z = rkV p := ⟨_, rfl⟩
  rw [← hz] at HN ⊢
  have HRS := hid fun W => residueOf_11 z m W hm
  obtain ⟨q, hq⟩ : ∃ q, q = z % m := ⟨_, rfl⟩
  rw [← hq] at HRS ⊢
  have hl1 := World.block_lt_of_cell? w _ h1
  have hl2 := World.block_lt_of_cell? w _ h2
  clear hz hq hc G
  go_enter Try.func36, Try.ntmps36
  go_wp2_with fail
  go_region_held3 (fun w' => w'.cell? ⟨g1, 0, none⟩ = some (.func (.func 21) #[] #[]) ∧ w'.cell? ⟨g2, 0, none⟩ = some (.int .i64 m)) (first | exact ⟨h1, h2⟩ | exact ⟨k1, k2⟩) (first | (go_at_call 21; refine (HN.out _ (by exact HC.out)).mono ?_; rintro e w5 ⟨rfl, rfl⟩) | (go_at_call 37; refine (HRS.out _).mono ?_; rintro e w6 ⟨rfl, rfl⟩))
  go_wp2_with fail
  go_ret
  exact ⟨rfl, below_drew (Below.refl _ _)⟩

set_option maxRecDepth 100000 in
set_option maxHeartbeats 2000000 in
theorem remCountsR_any (n m : Int) (w : World) :
    Calls Try.prog 20 #[.int .i64 n, .int .i64 m, .func (.func 21) #[] #[]] w fun e w' => ∃ A' c', e = .returned (.tuple #[.slice A' (rsF rkV n m).length c', .bool (rsB n m)]) ∧ Own w' w.heap.size A' c' (rsF rkV n m) ∧ Below w.heap.size w w' := by
  obtain ⟨w1, hw1⟩ : ∃ w1, w1 = (w.alloc (.cells #[.int .i64 m] 3)).alloc (.cells #[.func (.func 21) #[] #[]] 29) := ⟨_, rfl⟩
  have b1 : Below w.heap.size w w1 := by rw [hw1]; exact ((Below.refl _ _).alloc (Nat.le_refl _) _).alloc (by simp) _
  have hg2 : w1.cell? ⟨w.heap.size, 0, none⟩ = some (.int .i64 m) := by
    have h := one_at (w := w) (t := 3) 0 (.int .i64 m) (x := .int .i64 m) rfl
    rw [hw1, World.cell?_of_block (w := w.alloc (.cells #[.int .i64 m] 3)) (Below.heap_alloc _ _ _ (by simp))]
    exact h
  have hg1 : w1.cell? ⟨w.heap.size + 1, 0, none⟩ = some (.func (.func 21) #[] #[]) := by
    have h := one_at (w := w.alloc (.cells #[.int .i64 m] 3)) (t := 29) 0 (.func (.func 21) #[] #[]) (x := .func (.func 21) #[] #[]) rfl
    rw [World.size_alloc] at h
    rw [hw1]; exact h
  have hs1 : w1.heap.size = w.heap.size + 2 := by rw [hw1]; simp
  have HW := hid hw1
  have HB1 := hid b1
  clear hw1 b1
  cases hs : spB n
  · have h : rsB n m = false := by simp [rsB, hs]
    rw [rsF_f h, h]
    have H := hid hs; clear hs h
    go_enter Try.func20, Try.ntmps20
    go_wp2_with fail
    rw [← HW.out]
    refine (isSpread_b _ _ _ H.out).mono ?_
    rintro e w' ⟨rfl, rfl⟩
    go_wp2_with fail
    go_ret2
    exact ⟨none, 0, rfl, own_nil _ _, HB1.out⟩
  have H := hid hs
  by_cases hm1 : 2 ≤ m
  case neg =>
    have h : rsB n m = false := by simp [rsB, inB]; omega
    rw [rsF_f h, h]
    clear hs h
    go_enter Try.func20, Try.ntmps20
    go_wp2_with fail
    rw [← HW.out]
    refine (isSpread_b _ _ _ H.out).mono ?_
    rintro e w' ⟨rfl, rfl⟩
    go_wp2_with fail
    go_ret2
    exact ⟨none, 0, rfl, own_nil _ _, HB1.out⟩
  by_cases hm2 : m ≤ 11
  case neg =>
    have h : rsB n m = false := by simp [rsB, inB]; omega
    rw [rsF_f h, h]
    clear hs h
    go_enter Try.func20, Try.ntmps20
    go_wp2_with fail
    rw [← HW.out]
    refine (isSpread_b _ _ _ H.out).mono ?_
    rintro e w' ⟨rfl, rfl⟩
    go_wp2_with fail
    go_ret2
    exact ⟨none, 0, rfl, own_nil _ _, HB1.out⟩
  have h : rsB n m = true := rsB_iff.2 ⟨hs, hm1, hm2⟩
  obtain ⟨n, rfl, hn1, hn⟩ := spB_nat hs
  obtain ⟨m, rfl⟩ : ∃ t : Nat, m = t := ⟨m.toNat, by omega⟩
  rw [rsF_t h, rsL_len, h]
  have HL := hid (fun wx => listPrt n wx hn)
  have hll := prt_len hn
  have hVd : ∀ k, rsV rkV n m k = rkV ((prt n).getD k []) % (m : Int) := fun _ => rfl
  have HVB := hid (fun k => (show 0 ≤ rsV rkV n m k ∧ rsV rkV n m k < m from ⟨Int.emod_nonneg _ (by omega), Int.emod_lt_of_pos _ (by omega)⟩))
  have HSP := hid (fun (A : Option Addr) (c : Nat) (wx : World) (hx : Cells2 wx A (prt n)) (hbx : Below w1.heap.size w1 wx) => spreadC_any A c (prt n) (rsV rkV n m) wx (w.heap.size + 1) w.heap.size (by omega) hx
    (fun k hk => by have := HVB.out k; omega)
    (fun k hk wy A' c' hby hcy => remR_any A' c' _ m _ _ wy (prt_row hn hk).1 (prt_pos hn1 hn hk) ⟨hm1, hm2⟩ hcy
      ((((Below.next hbx hby)).cell (by show w.heap.size + 1 < _; omega)).trans hg1) ((((Below.next hbx hby)).cell (by show w.heap.size < _; omega)).trans hg2)))
  have hmk := run_make_row' (P := Try.prog) 22 3 (.int .i64 0) 8 Try.underlying22 Try.infoInt rfl .i64 .i64 m (by omega) (by omega)
  obtain ⟨R, hR⟩ : ∃ R, R = prt n := ⟨_, rfl⟩
  obtain ⟨V, hV⟩ : ∃ V, V = rsV rkV n m := ⟨_, rfl⟩
  rw [← hR] at HL hll
  rw [← hR, ← hV] at HSP
  rw [← hR, ← hV]
  have hm3 : m ≤ 11 := by omega
  clear hR hV hs h hVd HVB
  go_enter Try.func20, Try.ntmps20
  go_wp2_with fail
  rw [← HW.out]
  refine (isSpread_b _ _ _ H.out).mono ?_
  rintro e w' ⟨rfl, rfl⟩
  go_wp2_with fail
  refine (HL.out _).mono ?_
  rintro e w2 ⟨A2, c2, rfl, o2, b2⟩
  have HO2 := hid o2.cells
  have HB2 := hid b2
  clear o2 b2
  go_wp2_with fail
  refine (HSP.out _ _ _ HO2.out HB2.out).mono ?_
  rintro e w3 ⟨rfl, s3, b3⟩
  have HS3 := hid s3
  have hb13 := Below.next HB2.out b3
  have hgm := (hb13.cell (World.block_lt_of_cell? w1 _ hg2)).trans hg2
  have HB3 := hid (HB1.out.trans (hb13.mono HB1.out.size))
  have hsz := b3.size
  have hsz1 := HB3.out.size
  have hsm : w2.heap.size < w3.heap.size := by
    obtain ⟨D, ⟨es, clock, hb0, _⟩, _⟩ := HS3.out
    exact (Array.getElem?_eq_some_iff.1 hb0).1
  clear s3 b3 hb13 hg1 hg2 HL HSP HO2
  go_wp2_with fail
  obtain ⟨w4, hw4⟩ : ∃ w4, w4 = w3.alloc (.cells (madeCells #[.int .i64 0] m) 3) := ⟨_, rfl⟩
  rw [← hw4]
  have HO4 := hid (show Own w4 w3.heap.size (some ⟨w3.heap.size, 0, none⟩) m (rsP V m R.length 0) by rw [hw4, rsP_zero]; exact own_made w3 m (by omega))
  have HS4 := hid (HS3.out.belowN (B := w3.heap.size) (w' := w4) (by rw [hw4]; exact (Below.refl _ _).alloc (Nat.le_refl _) _) hsm)
  have HB4 := hid (show Below w.heap.size w w4 by rw [hw4]; exact HB3.out.alloc HB3.out.size _)
  clear hw4 hmk hgm
  go_loopw [30] (fun i wr => ∃ j : Nat, j ≤ m ∧ i = .int .i64 j ∧ Hid (Own wr w3.heap.size (some ⟨w3.heap.size, 0, none⟩) m (rsP V m R.length j)) ∧ Hid (SpI wr w2.heap.size R.length V) ∧ Hid (Below w.heap.size w wr)) (fun i _ => m - (intOf i).toNat)
  case atStart => exact ⟨0, Nat.zero_le _, rfl, HO4, HS4, HB4⟩
  case round =>
    obtain ⟨j, hj, rfl, HO, HS, HB⟩ := hrel
    by_cases hlt : j < m
    · have hrun := HS.out.look (j : Int) (WalkArith.wf_i64 (by omega))
      have hcl := own_get HO.out (k := j) (by rw [rsP_len]; exact hlt)
      have hfz := own_froz HO.out j
      have hst := own_set HO.out j (cntV V (j : Int) R.length : Nat)
      rw [rsP_step] at hst
      have HSS := hid (HS.out.belowN (B := w3.heap.size) (w' := wr.setCell ⟨w3.heap.size, j, none⟩ (.int .i64 (cntV V (j : Int) R.length : Nat))) ((Below.refl w3.heap.size wr).setCell (Nat.le_refl _) (p := ⟨w3.heap.size, j, none⟩) _) hsm)
      have HBB := hid (HB.out.setCell hsz1 (p := ⟨w3.heap.size, j, none⟩) (.int .i64 (cntV V (j : Int) R.length : Nat)))
      obtain ⟨s, hs⟩ : ∃ s : Nat, s = cntV V (j : Int) R.length := ⟨_, rfl⟩
      rw [← hs] at hrun hst HSS HBB
      obtain ⟨x, hx⟩ : ∃ x, x = (rsP V m R.length j).getD j 0 := ⟨_, rfl⟩
      rw [← hx] at hcl
      have HST := hid hst
      have hjm : (j : Int) < (m : Int) := by omega
      clear hs hst HO HS HB hx
      go_wp2_with fail
      go_roundw
      case rel => exact ⟨j + 1, by omega, by go_num, HST, HSS, HBB⟩
      case measure => simp [intOf]; omega
    · have hje : j = m := by omega
      subst hje
      have HOL := hid (own_len HO.out (rsP_full V j R.length))
      go_wp2_with fail
      go_ret2
      exact ⟨_, j, rfl, HOL.out.more hsz1, HB.out⟩

set_option maxHeartbeats 1000000 in
theorem impl_RankSpread (n m : Int) (w : World) (_ : I64 n) (_ : I64 m) :
    Calls Try.prog 4 #[.int .i64 n, .int .i64 m] w fun e w' => ∃ A' c', e = .returned (.tuple #[.slice A' (rksF n m).length c', .bool (rsB n m)]) ∧ Own w' w.heap.size A' c' (rksF n m) ∧ Below w.heap.size w w' := by
  have HC := hid (remCountsR_any n m w)
  unfold rksF
  go_enter Try.func4, Try.ntmps4
  go_wp2_with (go_at_call 20; refine HC.out.mono ?_; rintro e w2 ⟨A2, c2, rfl, o2, b2⟩)
  go_ret2
  exact ⟨A2, c2, rfl, o2, b2⟩

set_option maxRecDepth 100000 in
set_option maxHeartbeats 1000000 in
theorem remC_any (A : Option Addr) (c : Nat) (p : List Int) (m : Int) (g1 g2 : Nat) (w : World) (G : Good p) (h0 : 0 < p.length) (hm : 2 ≤ m ∧ m ≤ 11) (hc : Cells w A p) (h1 : w.cell? ⟨g1, 0, none⟩ = some (.func (.func 24) #[] #[])) (h2 : w.cell? ⟨g2, 0, none⟩ = some (.int .i64 m)) :
    Calls Try.prog 36 #[.slice A p.length c, .pointer (some ⟨g1, 0, none⟩), .pointer (some ⟨g2, 0, none⟩)] w fun e w' => e = .returned (.int .i64 (crV p % m)) ∧ Below w.heap.size w w' := by
  have HN := hid fun W (h : Cells W A p) => crankOf_any A c p W G h0 h
  have HC := hid hc
  obtain ⟨z, hz⟩ : ∃ z, z = crV p := ⟨_, rfl⟩
  rw [← hz] at HN ⊢
  have HRS := hid fun W => residueOf_11 z m W hm
  obtain ⟨q, hq⟩ : ∃ q, q = z % m := ⟨_, rfl⟩
  rw [← hq] at HRS ⊢
  have hl1 := World.block_lt_of_cell? w _ h1
  have hl2 := World.block_lt_of_cell? w _ h2
  clear hz hq hc G
  go_enter Try.func36, Try.ntmps36
  go_wp2_with fail
  go_region_held3 (fun w' => w'.cell? ⟨g1, 0, none⟩ = some (.func (.func 24) #[] #[]) ∧ w'.cell? ⟨g2, 0, none⟩ = some (.int .i64 m)) (first | exact ⟨h1, h2⟩ | exact ⟨k1, k2⟩) (first | (go_at_call 24; refine (HN.out _ (by exact HC.out)).mono ?_; rintro e w5 ⟨rfl, b5⟩; have k1 := (b5.cell hl1).trans h1; have k2 := (b5.cell hl2).trans h2; have B5 := hid b5) | (go_at_call 37; refine (HRS.out _).mono ?_; rintro e w6 ⟨rfl, rfl⟩))
  go_wp2_with fail
  go_ret
  exact ⟨rfl, Below.next (below_drew (Below.refl _ _)) B5.out⟩

set_option maxRecDepth 100000 in
set_option maxHeartbeats 2000000 in
theorem remCountsC_any (n m : Int) (w : World) :
    Calls Try.prog 20 #[.int .i64 n, .int .i64 m, .func (.func 24) #[] #[]] w fun e w' => ∃ A' c', e = .returned (.tuple #[.slice A' (rsF crV n m).length c', .bool (rsB n m)]) ∧ Own w' w.heap.size A' c' (rsF crV n m) ∧ Below w.heap.size w w' := by
  obtain ⟨w1, hw1⟩ : ∃ w1, w1 = (w.alloc (.cells #[.int .i64 m] 3)).alloc (.cells #[.func (.func 24) #[] #[]] 29) := ⟨_, rfl⟩
  have b1 : Below w.heap.size w w1 := by rw [hw1]; exact ((Below.refl _ _).alloc (Nat.le_refl _) _).alloc (by simp) _
  have hg2 : w1.cell? ⟨w.heap.size, 0, none⟩ = some (.int .i64 m) := by
    have h := one_at (w := w) (t := 3) 0 (.int .i64 m) (x := .int .i64 m) rfl
    rw [hw1, World.cell?_of_block (w := w.alloc (.cells #[.int .i64 m] 3)) (Below.heap_alloc _ _ _ (by simp))]
    exact h
  have hg1 : w1.cell? ⟨w.heap.size + 1, 0, none⟩ = some (.func (.func 24) #[] #[]) := by
    have h := one_at (w := w.alloc (.cells #[.int .i64 m] 3)) (t := 29) 0 (.func (.func 24) #[] #[]) (x := .func (.func 24) #[] #[]) rfl
    rw [World.size_alloc] at h
    rw [hw1]; exact h
  have hs1 : w1.heap.size = w.heap.size + 2 := by rw [hw1]; simp
  have HW := hid hw1
  have HB1 := hid b1
  clear hw1 b1
  cases hs : spB n
  · have h : rsB n m = false := by simp [rsB, hs]
    rw [rsF_f h, h]
    have H := hid hs; clear hs h
    go_enter Try.func20, Try.ntmps20
    go_wp2_with fail
    rw [← HW.out]
    refine (isSpread_b _ _ _ H.out).mono ?_
    rintro e w' ⟨rfl, rfl⟩
    go_wp2_with fail
    go_ret2
    exact ⟨none, 0, rfl, own_nil _ _, HB1.out⟩
  have H := hid hs
  by_cases hm1 : 2 ≤ m
  case neg =>
    have h : rsB n m = false := by simp [rsB, inB]; omega
    rw [rsF_f h, h]
    clear hs h
    go_enter Try.func20, Try.ntmps20
    go_wp2_with fail
    rw [← HW.out]
    refine (isSpread_b _ _ _ H.out).mono ?_
    rintro e w' ⟨rfl, rfl⟩
    go_wp2_with fail
    go_ret2
    exact ⟨none, 0, rfl, own_nil _ _, HB1.out⟩
  by_cases hm2 : m ≤ 11
  case neg =>
    have h : rsB n m = false := by simp [rsB, inB]; omega
    rw [rsF_f h, h]
    clear hs h
    go_enter Try.func20, Try.ntmps20
    go_wp2_with fail
    rw [← HW.out]
    refine (isSpread_b _ _ _ H.out).mono ?_
    rintro e w' ⟨rfl, rfl⟩
    go_wp2_with fail
    go_ret2
    exact ⟨none, 0, rfl, own_nil _ _, HB1.out⟩
  have h : rsB n m = true := rsB_iff.2 ⟨hs, hm1, hm2⟩
  obtain ⟨n, rfl, hn1, hn⟩ := spB_nat hs
  obtain ⟨m, rfl⟩ : ∃ t : Nat, m = t := ⟨m.toNat, by omega⟩
  rw [rsF_t h, rsL_len, h]
  have HL := hid (fun wx => listPrt n wx hn)
  have hll := prt_len hn
  have hVd : ∀ k, rsV crV n m k = crV ((prt n).getD k []) % (m : Int) := fun _ => rfl
  have HVB := hid (fun k => (show 0 ≤ rsV crV n m k ∧ rsV crV n m k < m from ⟨Int.emod_nonneg _ (by omega), Int.emod_lt_of_pos _ (by omega)⟩))
  have HSP := hid (fun (A : Option Addr) (c : Nat) (wx : World) (hx : Cells2 wx A (prt n)) (hbx : Below w1.heap.size w1 wx) => spreadC_any A c (prt n) (rsV crV n m) wx (w.heap.size + 1) w.heap.size (by omega) hx
    (fun k hk => by have := HVB.out k; omega)
    (fun k hk wy A' c' hby hcy => remC_any A' c' _ m _ _ wy (prt_row hn hk).1 (prt_pos hn1 hn hk) ⟨hm1, hm2⟩ hcy
      ((((Below.next hbx hby)).cell (by show w.heap.size + 1 < _; omega)).trans hg1) ((((Below.next hbx hby)).cell (by show w.heap.size < _; omega)).trans hg2)))
  have hmk := run_make_row' (P := Try.prog) 22 3 (.int .i64 0) 8 Try.underlying22 Try.infoInt rfl .i64 .i64 m (by omega) (by omega)
  obtain ⟨R, hR⟩ : ∃ R, R = prt n := ⟨_, rfl⟩
  obtain ⟨V, hV⟩ : ∃ V, V = rsV crV n m := ⟨_, rfl⟩
  rw [← hR] at HL hll
  rw [← hR, ← hV] at HSP
  rw [← hR, ← hV]
  have hm3 : m ≤ 11 := by omega
  clear hR hV hs h hVd HVB
  go_enter Try.func20, Try.ntmps20
  go_wp2_with fail
  rw [← HW.out]
  refine (isSpread_b _ _ _ H.out).mono ?_
  rintro e w' ⟨rfl, rfl⟩
  go_wp2_with fail
  refine (HL.out _).mono ?_
  rintro e w2 ⟨A2, c2, rfl, o2, b2⟩
  have HO2 := hid o2.cells
  have HB2 := hid b2
  clear o2 b2
  go_wp2_with fail
  refine (HSP.out _ _ _ HO2.out HB2.out).mono ?_
  rintro e w3 ⟨rfl, s3, b3⟩
  have HS3 := hid s3
  have hb13 := Below.next HB2.out b3
  have hgm := (hb13.cell (World.block_lt_of_cell? w1 _ hg2)).trans hg2
  have HB3 := hid (HB1.out.trans (hb13.mono HB1.out.size))
  have hsz := b3.size
  have hsz1 := HB3.out.size
  have hsm : w2.heap.size < w3.heap.size := by
    obtain ⟨D, ⟨es, clock, hb0, _⟩, _⟩ := HS3.out
    exact (Array.getElem?_eq_some_iff.1 hb0).1
  clear s3 b3 hb13 hg1 hg2 HL HSP HO2
  go_wp2_with fail
  obtain ⟨w4, hw4⟩ : ∃ w4, w4 = w3.alloc (.cells (madeCells #[.int .i64 0] m) 3) := ⟨_, rfl⟩
  rw [← hw4]
  have HO4 := hid (show Own w4 w3.heap.size (some ⟨w3.heap.size, 0, none⟩) m (rsP V m R.length 0) by rw [hw4, rsP_zero]; exact own_made w3 m (by omega))
  have HS4 := hid (HS3.out.belowN (B := w3.heap.size) (w' := w4) (by rw [hw4]; exact (Below.refl _ _).alloc (Nat.le_refl _) _) hsm)
  have HB4 := hid (show Below w.heap.size w w4 by rw [hw4]; exact HB3.out.alloc HB3.out.size _)
  clear hw4 hmk hgm
  go_loopw [30] (fun i wr => ∃ j : Nat, j ≤ m ∧ i = .int .i64 j ∧ Hid (Own wr w3.heap.size (some ⟨w3.heap.size, 0, none⟩) m (rsP V m R.length j)) ∧ Hid (SpI wr w2.heap.size R.length V) ∧ Hid (Below w.heap.size w wr)) (fun i _ => m - (intOf i).toNat)
  case atStart => exact ⟨0, Nat.zero_le _, rfl, HO4, HS4, HB4⟩
  case round =>
    obtain ⟨j, hj, rfl, HO, HS, HB⟩ := hrel
    by_cases hlt : j < m
    · have hrun := HS.out.look (j : Int) (WalkArith.wf_i64 (by omega))
      have hcl := own_get HO.out (k := j) (by rw [rsP_len]; exact hlt)
      have hfz := own_froz HO.out j
      have hst := own_set HO.out j (cntV V (j : Int) R.length : Nat)
      rw [rsP_step] at hst
      have HSS := hid (HS.out.belowN (B := w3.heap.size) (w' := wr.setCell ⟨w3.heap.size, j, none⟩ (.int .i64 (cntV V (j : Int) R.length : Nat))) ((Below.refl w3.heap.size wr).setCell (Nat.le_refl _) (p := ⟨w3.heap.size, j, none⟩) _) hsm)
      have HBB := hid (HB.out.setCell hsz1 (p := ⟨w3.heap.size, j, none⟩) (.int .i64 (cntV V (j : Int) R.length : Nat)))
      obtain ⟨s, hs⟩ : ∃ s : Nat, s = cntV V (j : Int) R.length := ⟨_, rfl⟩
      rw [← hs] at hrun hst HSS HBB
      obtain ⟨x, hx⟩ : ∃ x, x = (rsP V m R.length j).getD j 0 := ⟨_, rfl⟩
      rw [← hx] at hcl
      have HST := hid hst
      have hjm : (j : Int) < (m : Int) := by omega
      clear hs hst HO HS HB hx
      go_wp2_with fail
      go_roundw
      case rel => exact ⟨j + 1, by omega, by go_num, HST, HSS, HBB⟩
      case measure => simp [intOf]; omega
    · have hje : j = m := by omega
      subst hje
      have HOL := hid (own_len HO.out (rsP_full V j R.length))
      go_wp2_with fail
      go_ret2
      exact ⟨_, j, rfl, HOL.out.more hsz1, HB.out⟩

set_option maxHeartbeats 1000000 in
theorem impl_CrankSpread (n m : Int) (w : World) (_ : I64 n) (_ : I64 m) :
    Calls Try.prog 6 #[.int .i64 n, .int .i64 m] w fun e w' => ∃ A' c', e = .returned (.tuple #[.slice A' (crsF n m).length c', .bool (rsB n m)]) ∧ Own w' w.heap.size A' c' (crsF n m) ∧ Below w.heap.size w w' := by
  have HC := hid (remCountsC_any n m w)
  unfold crsF
  go_enter Try.func6, Try.ntmps6
  go_wp2_with (go_at_call 20; refine HC.out.mono ?_; rintro e w2 ⟨A2, c2, rfl, o2, b2⟩)
  go_ret2
  exact ⟨A2, c2, rfl, o2, b2⟩
end Go.Proofs.Ytmiifdedmjfgkaa
/-
  Contracts: PartitionNumbers, PartitionNumber of the model.
-/
namespace Go.Proofs.Ytmiifdedmjfgkaa
open Go.RowKit

theorem sg1_next (k : Nat) : sg1 (k + 1) = - sg1 k := by
  unfold sg1
  rcases Nat.mod_two_eq_zero_or_one k with h | h
  · rw [if_pos h, if_neg (show ¬ (k + 1) % 2 = 0 by omega)]
  · rw [if_neg (show ¬ k % 2 = 0 by omega), if_pos (show (k + 1) % 2 = 0 by omega)]; rfl
theorem pq_neg {n q : Nat} (h : ¬ q ≤ n) : pq n q = 0 := by simp [pq, h]
theorem pq_get {n q : Nat} (h1 : 1 ≤ q) (h : q ≤ n) : (pnT.take n).getD (n - q) 0 = pq n q := by
  unfold pq
  rw [if_pos h, List.getD_eq_getElem?_getD, List.getD_eq_getElem?_getD, List.getElem?_take_of_lt (by omega)]

end Go.Proofs.Ytmiifdedmjfgkaa
