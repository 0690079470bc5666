/-
  Contracts: TakeRim of the program and of the model.
-/
import Derived.Test.YtblkmomcdchdoaaCC
import Derived.Test.YtblkmomcdchdoaaOutF
import Derived.Test.YtblkmomcdchdoaaSgn
import Derived.Deep.RegionWith
import Derived.Deep.CutRange
namespace Go.Proofs.Ytblkmomcdchdoaa
open Go.RowKit

def takeAt (xs : List Int) (t k : Int) : Nat × Nat := (rimCs xs t).getD k.toNat (0, 0)
def takeB (xs : List Int) (t k : Int) : Bool := crB xs t && (decide (0 ≤ k) && decide (k < ((rimCs xs t).length : Int)))
def takeL (xs : List Int) (q : Nat × Nat) : List Int := outL xs q.1 q.2 (lowN xs q.2)
def takeSg (xs : List Int) (q : Nat × Nat) : Int := sgn ((lowN xs q.2 : Int) - q.1)
def takeF (xs : List Int) (t k : Int) : List Int := if takeB xs t k then takeL xs (takeAt xs t k) else []
def takeS (xs : List Int) (t k : Int) : Int := if takeB xs t k then takeSg xs (takeAt xs t k) else 0
theorem takeL_len (xs : List Int) (q : Nat × Nat) : (takeL xs q).length ≤ xs.length := outL_len _ _ _ _
theorem bound_TakeRim (xs : List Int) (t k : Int) : (takeF xs t k).length ≤ 1048576 := by
  unfold takeF
  split
  · rename_i h
    have := takeL_len xs (takeAt xs t k)
    simp only [takeB, Bool.and_eq_true] at h
    have := ((good_iff xs).1 (crB_good h.1).1).len
    omega
  · simp
theorem takeB_nat {xs : List Int} {t k : Int} (h : takeB xs t k = true) : crB xs t = true ∧ ∃ k' : Nat, k = k' ∧ k' < (rimCs xs t).length := by
  simp only [takeB, Bool.and_eq_true, decide_eq_true_eq] at h
  exact ⟨h.1, k.toNat, by omega, by omega⟩
theorem getD_mem {α : Type} (L : List α) (k : Nat) (d : α) (h : k < L.length) : L.getD k d ∈ L := by
  rw [List.getD_eq_getElem?_getD, List.getElem?_eq_getElem h]; exact List.getElem_mem h
theorem pairs_get (L : List (Nat × Nat)) (k : Nat) (h : k < L.length) : (pairs L).getD k [] = [((L.getD k (0, 0)).1 : Int), ((L.getD k (0, 0)).2 : Int)] := by
  simp [pairs, List.getD, h]
theorem two_cells {w : World} {A : Option Addr} {x y : Int} (h : Cells w A [x, y]) : ∃ b o, A = some ⟨b, o, none⟩ ∧ w.cell? ⟨b, o, none⟩ = some (.int .i64 x) ∧ w.cell? ⟨b, o + 1, none⟩ = some (.int .i64 y) := by
  obtain ⟨b, o, rfl, hc⟩ := h (by simp)
  exact ⟨b, o, rfl, by simpa using hc 0 (by simp), by simpa using hc 1 (by simp)⟩
/-- A row of two numbers, read out of the rows. -/
theorem pair_at {w : World} {A : Option Addr} {L : List (Nat × Nat)} (h : Cells2 w A (pairs L)) (k : Nat) (hk : k < L.length) :
    ∃ b o b2 o2 c2, A = some ⟨b, o, none⟩ ∧ w.cell? ⟨b, o + k, none⟩ = some (.slice (some ⟨b2, o2, none⟩) 2 c2) ∧ w.cell? ⟨b2, o2, none⟩ = some (.int .i64 ((L.getD k (0, 0)).1 : Int)) ∧ w.cell? ⟨b2, o2 + 1, none⟩ = some (.int .i64 ((L.getD k (0, 0)).2 : Int)) := by
  obtain ⟨P, C, h1, h2⟩ := h
  obtain ⟨b, o, rfl, hc⟩ := h1 (by rw [pairs_len]; omega)
  have hk' : k < (pairs L).length := by rw [pairs_len]; exact hk
  have hck := hc k hk'
  have hr := h2 k hk'
  rw [pairs_get L k hk] at hck hr
  obtain ⟨b2, o2, e, x1, x2⟩ := two_cells hr
  rw [e] at hck
  exact ⟨b, o, b2, o2, C k, rfl, hck, x1, x2⟩

set_option maxRecDepth 100000 in
set_option maxHeartbeats 4000000 in
theorem impl_TakeRim' (A : Option Addr) (c : Nat) (xs : List Int) (t k : Int) (w : World) (hl : xs.length ≤ 1048576) (hc : Cells w A xs) (h64 : I64 t) :
    Calls Try.prog 41 #[.slice A xs.length c, .int .i64 t, .int .i64 k] w fun e w' => ∃ A' c', e = .returned (.tuple #[.slice A' (takeF xs t k).length c', .int .i64 (takeS xs t k), .bool (takeB xs t k)]) ∧ Own w' w.heap.size A' c' (takeF xs t k) ∧ Below w.heap.size w w' := by
  have HH := hid (impl_RimCells A c xs t w hl hc h64)
  cases hg : crB xs t
  · have hb : takeB xs t k = false := by simp [takeB, hg]
    rw [show takeF xs t k = [] by simp [takeF, hb], show takeS xs t k = 0 by simp [takeS, hb], hb]
    rw [hg] at HH
    clear hb hg
    go_enter Try.func41, Try.ntmps41
    go_wp2_with (go_at_call 39; refine (HH.out).mono ?_; rintro e w2 ⟨A2, c2, rfl, o2, b2⟩)
    go_ret3
    exact ⟨none, 0, rfl, own_nil _ _, b2⟩
  have G := (good_iff xs).1 (crB_good hg).1
  have hlen := rimCs_len G t
  have hcF : rimCellsF xs t = pairs (rimCs xs t) := by simp [rimCellsF, hg]
  have hpl := pairs_len (rimCs xs t)
  rw [hg, hcF] at HH
  cases hb : takeB xs t k
  · rw [show takeF xs t k = [] by simp [takeF, hb], show takeS xs t k = 0 by simp [takeS, hb]]
    have hor : k < 0 ∨ ((rimCs xs t).length : Int) ≤ k := by
      simp only [takeB, hg, Bool.true_and, Bool.and_eq_false_iff, decide_eq_false_iff_not] at hb; omega
    obtain ⟨n, hn⟩ : ∃ n, n = (pairs (rimCs xs t)).length := ⟨_, rfl⟩
    rw [← hpl, ← hn] at hor
    have HN := hid hn
    have hn9 : n ≤ 900 := by omega
    clear hb hg hcF hpl hlen hn G
    by_cases hk0 : k < 0
    · go_enter Try.func41, Try.ntmps41
      go_wp2_with (go_at_call 39; refine (HH.out).mono ?_; rw [← HN.out]; rintro e w2 ⟨A2, c2, rfl, o2, b2⟩)
      go_ret3
      exact ⟨none, 0, rfl, own_nil _ _, b2⟩
    · have hk1 : (n : Int) ≤ k := by omega
      go_enter Try.func41, Try.ntmps41
      go_wp2_with (go_at_call 39; refine (HH.out).mono ?_; rw [← HN.out]; rintro e w2 ⟨A2, c2, rfl, o2, b2⟩)
      go_ret3
      exact ⟨none, 0, rfl, own_nil _ _, b2⟩
  obtain ⟨_, k', rfl, hkl⟩ := takeB_nat hb
  have hmem := getD_mem (rimCs xs t) k' (0, 0) hkl
  have hm2 := rimCs_mem hmem
  rw [show takeF xs t k' = takeL xs (takeAt xs t k') by simp [takeF, hb], show takeS xs t k' = takeSg xs (takeAt xs t k') by simp [takeS, hb]]
  have hq : takeAt xs t k' = (rimCs xs t).getD k' (0, 0) := rfl
  have R := rim_ok G hm2.1 hm2.2
  have hra := fun W => pair_at (w := W) (A := A) (L := rimCs xs t)
  have HPA := hid fun W Ax (h : Cells2 W Ax (pairs (rimCs xs t))) => pair_at h k' hkl
  rw [← hq] at hm2 R HPA
  obtain ⟨q, hqe⟩ : ∃ q, q = takeAt xs t k' := ⟨_, rfl⟩
  rw [← hqe] at hm2 R HPA ⊢
  obtain ⟨r', c'⟩ := q
  have hatB : atB xs (r' : Int) (c' : Int) = true := by
    simp only [atB, (crB_good hg).1, Bool.true_and, cellB, Bool.and_eq_true, decide_eq_true_eq]
    have h1 : r' < xs.length := hm2.1
    have h2 : (c' : Int) < xs.getD r' 0 := hm2.2
    rw [Int.toNat_natCast]
    exact ⟨by omega, by omega, by omega, h2⟩
  have hoF : outF xs r' c' = takeL xs (r', c') := by simp [outF, hatB, takeL]
  have hlF : legF xs r' c' = (lowN xs c' : Int) - r' := by simp [legF, hatB]
  have hll := R.low_lt
  have hrl := R.r_le
  have hlen30 := G.len
  have HW := hid fun W (h : Cells W A xs) => impl_WithoutRim A c xs r' c' W hl h (by unfold I64; omega) (by have := R.le30 hrl; have := hm2.2; unfold I64; omega)
  rw [hoF, hlF, hatB] at HW
  have hx30 : (c' : Int) < 31 := by have h1 := G.le r' hm2.1; have h2 : (c' : Int) < xs.getD r' 0 := hm2.2; omega
  obtain ⟨n, hn⟩ : ∃ n, n = (pairs (rimCs xs t)).length := ⟨_, rfl⟩
  rw [← hpl, ← hn] at hkl hlen
  have HN := hid hn
  obtain ⟨low, hlow⟩ : ∃ low, low = lowN xs c' := ⟨_, rfl⟩
  have hsg : takeSg xs (r', c') = sgn ((low : Int) - r') := by rw [hlow]; rfl
  rw [hsg]
  rw [← hlow] at HW
  have hlow2 : low < xs.length ∧ r' ≤ low := by rw [hlow]; exact ⟨hll, hrl⟩
  obtain ⟨F, hF⟩ : ∃ F, F = takeL xs (r', c') := ⟨_, rfl⟩
  rw [← hF] at HW ⊢
  have hkk : (k' : Int) < (n : Int) := by omega
  have hk0 : (0 : Int) ≤ (k' : Int) := by omega
  clear hra hb hg hcF hpl hn G hmem hq hqe hatB hoF hlF hll hrl R hm2 hlow hsg hF
  go_enter Try.func41, Try.ntmps41
  go_wp2_with (go_at_call 39; refine (HH.out).mono ?_; rw [← HN.out]; rintro e w2 ⟨A2, c2, rfl, o2, b2⟩)
  obtain ⟨b, o, b3, o3, c3, rfl, h1, h2, h3⟩ := HPA.out _ _ o2.cells
  clear o2
  have h1d : w2.drew.cell? ⟨b, o + k', none⟩ = some (.slice (some ⟨b3, o3, none⟩) 2 c3) := h1
  have h2d : w2.drew.cell? ⟨b3, o3, none⟩ = some (.int .i64 r') := h2
  have h3d : w2.drew.cell? ⟨b3, o3 + 1, none⟩ = some (.int .i64 c') := h3
  have hcd : Cells w2.drew A xs := hc.later (below_drewN b2 1)
  have bd : Below w.heap.size w w2.drew := below_drewN b2 1
  go_region_with (first | (go_at_call 37; refine (HW.out _ hcd).mono ?_; rintro e w4 ⟨A4, c4, rfl, o4, b4⟩))
  all_goals go_wp2_with (go_at_call 85; refine (evenSign_any _ _ (by omega) (by omega)).mono ?_; rintro e w' ⟨rfl, rfl⟩)
  all_goals go_ret3
  all_goals exact ⟨_, _, rfl, o4.more bd.size, Below.next bd b4⟩

theorem impl_TakeRim (A : Option Addr) (c : Nat) (xs : List Int) (t k : Int) (w : World) (hl : xs.length ≤ 1048576) (hc : Cells w A xs) (h64 : I64 t) (_ : I64 k) :
    Calls Try.prog 41 #[.slice A xs.length c, .int .i64 t, .int .i64 k] w fun e w' => ∃ A' c', e = .returned (.tuple #[.slice A' (takeF xs t k).length c', .int .i64 (takeS xs t k), .bool (takeB xs t k)]) ∧ Own w' w.heap.size A' c' (takeF xs t k) ∧ Below w.heap.size w w' :=
  impl_TakeRim' A c xs t k w hl hc h64
set_option maxRecDepth 100000 in
set_option maxHeartbeats 4000000 in
theorem crTake_any (A : Option Addr) (c b3 o3 c3 : Nat) (xs : List Int) (r' c' low : Nat) (w : World) (R : RimOK xs r' c' low) (hlw : low = lowN xs c') (hc : Cells w A xs)
    (h2 : w.cell? ⟨b3, o3, none⟩ = some (.int .i64 r')) (h3 : w.cell? ⟨b3, o3 + 1, none⟩ = some (.int .i64 c')) :
    Calls Try.prog 84 #[.slice A xs.length c, .slice (some ⟨b3, o3, none⟩) 2 c3] w fun e w' => ∃ A' cc, e = .returned (.tuple #[.slice A' (takeL xs (r', c')).length cc, .int .i64 (takeSg xs (r', c'))]) ∧ Own w' w.heap.size A' cc (takeL xs (r', c')) ∧ Below w.heap.size w w' := by
  have G := R.good
  have hlt := R.low_lt
  have hrl := R.r_le
  have hlen := G.len
  have hkc : c' < (cols xs).length := col_lt G (by omega) (R.tall r' hrl)
  have hck : (cols xs).getD c' 0 = (low : Int) + 1 := by rw [cols_get xs c' (by rw [cols_len] at hkc; exact hkc), R.col]
  have hk0 : (0 : Int) ≤ (c' : Int) := by omega
  have hkk : (c' : Int) < ((cols xs).length : Int) := by omega
  have hw1 : IntKind.i64.wrap ((low : Int) + 1 - 1) = low := by rw [IntWalk.i64_in _ (by omega)]; omega
  have hw3 : IntKind.i64.wrap ((low : Int) - r') = (low : Int) - r' := by rw [IntWalk.i64_in _ (by omega)]
  have h2d : w.drew.cell? ⟨b3, o3, none⟩ = some (.int .i64 r') := h2
  have h3d : w.drew.cell? ⟨b3, o3 + 1, none⟩ = some (.int .i64 c') := h3
  have hcd : Cells w.drew A xs := hc
  have bd : Below w.heap.size w w.drew := below_drewN (Below.refl _ _) 1
  have hsg : takeSg xs (r', c') = sgn ((low : Int) - r') := by rw [hlw]; rfl
  have hLL : takeL xs (r', c') = outL xs r' c' low := by rw [hlw]; rfl
  have hfin := fun W h => ptWithout_any A c xs r' c' low W R h
  rw [hsg, hLL]
  have hmod : ((low : Int) - r').tmod 2 = ((low : Int) - r') % 2 := Int.tmod_eq_emod_of_nonneg (by omega)
  obtain ⟨d, hd⟩ : ∃ d : Int, d = (low : Int) - r' := ⟨_, rfl⟩
  rw [← hd] at hw3 hmod ⊢
  have HPV := hid (show IntKind.i64.wrap (IntKind.i64.wrap (low : Int) - r') = d by rw [show IntKind.i64.wrap (low : Int) = low from IntWalk.i64_in _ (by omega), ← hd, hw3])
  have HF := hid hfin
  have HG := hid G
  have HD := hid hd
  have HCK := hid hck
  have hb2 : ∀ W, Below w.heap.size w W → W.cell? ⟨b3, o3, none⟩ = some (.int .i64 r') ∧ W.cell? ⟨b3, o3 + 1, none⟩ = some (.int .i64 c') := fun W hW => ⟨(hW.cell (World.block_lt_of_cell? w _ h2)).trans h2, (hW.cell (World.block_lt_of_cell? w _ h3)).trans h3⟩
  have HB := hid hb2
  have hdd : (low : Int) - r' = d := hd.symm
  clear R hfin G hd hck hb2 hsg hLL hlw
  by_cases hpar : d % 2 = 0
  · have hm2 : ¬ d.tmod 2 = 1 := by omega
    rw [show sgn d = 1 by simp [sgn, hpar]]
    go_enter Try.func84, Try.ntmps84
    go_upto_region 2 with fail
    go_cut [20] from 7 to 19 (fun s20 wx => s20 = .bool false ∧ Below w.heap.size w wx)
    case first =>
      go_region_with (first | (go_at_call 65; refine (ptTurn_any _ _ _ _ HG.out hcd).mono ?_; rintro e w1 ⟨A1, c1, rfl, o1, b1⟩; obtain ⟨b5, o5, rfl, hcol⟩ := o1.cells.get hkc; rw [HCK.out] at hcol; have B1 := Below.next bd b1; obtain ⟨h21, h31⟩ := HB.out _ B1; have hc1 := hcd.below b1))
      all_goals go_wp2_with fail
      all_goals go_meet
      all_goals exact ⟨by rw [HPV.out]; simp [hm2], B1⟩
    case rest =>
    obtain ⟨rfl, B1⟩ := hcut
    have hc1 : Cells wc A xs := hc.later B1
    have hc1d : Cells wc.drew A xs := hc1
    obtain ⟨h21, h31⟩ := HB.out _ B1
    have h21d : wc.drew.cell? ⟨b3, o3, none⟩ = some (.int .i64 r') := h21
    have h31d : wc.drew.cell? ⟨b3, o3 + 1, none⟩ = some (.int .i64 c') := h31
    have B1d : Below w.heap.size w wc.drew := below_drewN B1 1
    go_wp2_with fail
    go_region_with (first | (go_at_call 77; refine (HF.out _ hc1d).mono ?_; rintro e w4 ⟨A4, c4, rfl, o4, b4⟩))
    all_goals go_wp2_with fail
    all_goals go_ret2
    all_goals exact ⟨_, _, rfl, o4.more B1d.size, Below.next B1d b4⟩
  · have hm2 : d.tmod 2 = 1 := by omega
    rw [show sgn d = -1 by simp [sgn, hpar]]
    go_enter Try.func84, Try.ntmps84
    go_upto_region 2 with fail
    go_cut [20] from 7 to 19 (fun s20 wx => s20 = .bool true ∧ Below w.heap.size w wx)
    case first =>
      go_region_with (first | (go_at_call 65; refine (ptTurn_any _ _ _ _ HG.out hcd).mono ?_; rintro e w1 ⟨A1, c1, rfl, o1, b1⟩; obtain ⟨b5, o5, rfl, hcol⟩ := o1.cells.get hkc; rw [HCK.out] at hcol; have B1 := Below.next bd b1; obtain ⟨h21, h31⟩ := HB.out _ B1; have hc1 := hcd.below b1))
      all_goals go_wp2_with fail
      all_goals go_meet
      all_goals exact ⟨by rw [HPV.out]; simp [hm2], B1⟩
    case rest =>
    obtain ⟨rfl, B1⟩ := hcut
    have hc1 : Cells wc A xs := hc.later B1
    have hc1d : Cells wc.drew A xs := hc1
    obtain ⟨h21, h31⟩ := HB.out _ B1
    have h21d : wc.drew.cell? ⟨b3, o3, none⟩ = some (.int .i64 r') := h21
    have h31d : wc.drew.cell? ⟨b3, o3 + 1, none⟩ = some (.int .i64 c') := h31
    have B1d : Below w.heap.size w wc.drew := below_drewN B1 1
    go_wp2_with fail
    go_region_with (first | (go_at_call 77; refine (HF.out _ hc1d).mono ?_; rintro e w4 ⟨A4, c4, rfl, o4, b4⟩))
    all_goals go_wp2_with fail
    all_goals go_ret2
    all_goals exact ⟨_, _, rfl, o4.more B1d.size, Below.next B1d b4⟩

set_option maxRecDepth 100000 in
set_option maxHeartbeats 4000000 in
theorem spec_TakeRim' (A : Option Addr) (c : Nat) (xs : List Int) (t k : Int) (w : World) (hl : xs.length ≤ 1048576) (hc : Cells w A xs) (_ : I64 t) :
    Calls Try.prog 40 #[.slice A xs.length c, .int .i64 t, .int .i64 k] w fun e w' => ∃ A' c', e = .returned (.tuple #[.slice A' (takeF xs t k).length c', .int .i64 (takeS xs t k), .bool (takeB xs t k)]) ∧ Own w' w.heap.size A' c' (takeF xs t k) ∧ Below w.heap.size w w' := by
  cases hg : crB xs t
  · have hb : takeB xs t k = false := by simp [takeB, hg]
    rw [show takeF xs t k = [] by simp [takeF, hb], show takeS xs t k = 0 by simp [takeS, hb], hb]
    have HG := hid hg; clear hb hg
    go_enter Try.func40, Try.ntmps40
    go_wp2_with (go_at_call 80; refine (crT_any _ _ _ _ _ hl hc _ HG.out).mono ?_; rintro e w' ⟨rfl, n, rfl⟩)
    go_ret3
    exact ⟨none, 0, rfl, own_nil _ _, below_drew' _ _⟩
  have G := (good_iff xs).1 (crB_good hg).1
  have HCC := hid fun W (h : Cells W A xs) => crCells_any A c xs t W G h
  have hpl := pairs_len (rimCs xs t)
  have hlen := rimCs_len G t
  cases hb : takeB xs t k
  · rw [show takeF xs t k = [] by simp [takeF, hb], show takeS xs t k = 0 by simp [takeS, hb]]
    have hor : inB 0 ((((pairs (rimCs xs t)).length : Nat) : Int) - 1) k = false := by
      simp only [takeB, hg, Bool.true_and, Bool.and_eq_false_iff, decide_eq_false_iff_not] at hb
      simp only [inB, Bool.and_eq_false_iff, decide_eq_false_iff_not]; omega
    obtain ⟨n, hn⟩ : ∃ n, n = (pairs (rimCs xs t)).length := ⟨_, rfl⟩
    rw [← hn] at hor
    have HN := hid hn
    have hn9 : n ≤ 900 := by omega
    have HG := hid hg
    have HOR := hid hor
    clear hb hg hpl hlen hn hor
    go_enter Try.func40, Try.ntmps40
    go_wp2_with (first | (go_at_call 80; refine (crT_any _ _ _ _ _ hl hc _ HG.out).mono ?_; rintro e w' ⟨rfl, nd, rfl⟩) | (go_at_call 81; refine (HCC.out _ (by exact hc)).mono ?_; rw [← HN.out]; rintro e w2 ⟨A2, c2, rfl, o2, b2⟩) | (go_at_call 83; refine (l1In_b _ _ _ _ _ HOR.out).mono ?_; rintro e w' ⟨rfl, rfl⟩))
    go_ret3
    exact ⟨none, 0, rfl, own_nil _ _, Below.next (below_drew' w nd) b2⟩
  obtain ⟨_, k', rfl, hkl⟩ := takeB_nat hb
  have hmem := getD_mem (rimCs xs t) k' (0, 0) hkl
  have hm2 := rimCs_mem hmem
  rw [show takeF xs t k' = takeL xs (takeAt xs t k') by simp [takeF, hb], show takeS xs t k' = takeSg xs (takeAt xs t k') by simp [takeS, hb]]
  have hq : takeAt xs t k' = (rimCs xs t).getD k' (0, 0) := rfl
  have R := rim_ok G hm2.1 hm2.2
  have HPA := hid fun W Ax (h : Cells2 W Ax (pairs (rimCs xs t))) => pair_at h k' hkl
  rw [← hq] at hm2 R HPA
  obtain ⟨q, hqe⟩ : ∃ q, q = takeAt xs t k' := ⟨_, rfl⟩
  rw [← hqe] at hm2 R HPA ⊢
  obtain ⟨r', c'⟩ := q
  have HT := hid fun W b o cc (h : Cells W A xs) h2 h3 => crTake_any A c b o cc xs r' c' _ W R rfl h h2 h3
  obtain ⟨n, hn⟩ : ∃ n, n = (pairs (rimCs xs t)).length := ⟨_, rfl⟩
  rw [← hpl, ← hn] at hkl hlen
  have HN := hid hn
  have hin : inB 0 ((n : Int) - 1) (k' : Int) = true := inB_iff.2 (by omega)
  have HIN := hid hin
  have hkk : (k' : Int) < (n : Int) := by omega
  have hk0 : (0 : Int) ≤ (k' : Int) := by omega
  obtain ⟨F, hF⟩ : ∃ F, F = takeL xs (r', c') := ⟨_, rfl⟩
  obtain ⟨S, hS⟩ : ∃ S, S = takeSg xs (r', c') := ⟨_, rfl⟩
  rw [← hF, ← hS] at HT
  rw [← hF, ← hS]
  have HG := hid hg
  clear hb hg hpl hn hmem hq hqe hin hF hS R hm2 G
  go_enter Try.func40, Try.ntmps40
  go_wp2_with (first | (go_at_call 80; refine (crT_any _ _ _ _ _ hl hc _ HG.out).mono ?_; rintro e w' ⟨rfl, nd, rfl⟩) | (go_at_call 81; refine (HCC.out _ (by exact hc)).mono ?_; rw [← HN.out]; rintro e w2 ⟨A2, c2, rfl, o2, b2⟩; have B2 := Below.next (below_drew' w nd) b2; obtain ⟨b, o, b3, o3, c3, rfl, h1, h2, h3⟩ := HPA.out _ _ o2.cells; clear o2) | (go_at_call 83; refine (l1In_b _ _ _ _ _ HIN.out).mono ?_; rintro e w' ⟨rfl, rfl⟩) | (go_at_call 84; refine (HT.out _ _ _ _ (hc.later B2) h2 h3).mono ?_; rintro e w4 ⟨A4, c4, rfl, o4, b4⟩))
  go_ret3
  exact ⟨_, _, rfl, o4.more B2.size, Below.next B2 b4⟩
theorem spec_TakeRim (A : Option Addr) (c : Nat) (xs : List Int) (t k : Int) (w : World) (hl : xs.length ≤ 1048576) (hc : Cells w A xs) (h64 : I64 t) (_ : I64 k) :
    Calls Try.prog 40 #[.slice A xs.length c, .int .i64 t, .int .i64 k] w fun e w' => ∃ A' c', e = .returned (.tuple #[.slice A' (takeF xs t k).length c', .int .i64 (takeS xs t k), .bool (takeB xs t k)]) ∧ Own w' w.heap.size A' c' (takeF xs t k) ∧ Below w.heap.size w w' :=
  spec_TakeRim' A c xs t k w hl hc h64
end Go.Proofs.Ytblkmomcdchdoaa
