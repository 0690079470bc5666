/-
  Several texts in one.
-/
import Derived.Test.YtelfapheigobeaaR09
import Derived.Test.YtelfapheigobeaaCB
/-
  Plain facts: the core and the weight are the same for any number of beads. No program in this text.
-/
namespace Go.Proofs.Ytelfapheigobeaa
open Go.RowKit

def shL (L : List Int) : List Int := 0 :: L.map fun x => x + 1
theorem shL_len (L : List Int) : (shL L).length = L.length + 1 := by simp [shL]
theorem shL_sum (L : List Int) : (shL L).sum = L.sum + L.length := by
  unfold shL
  rw [List.sum_cons]
  induction L with
  | nil => simp
  | cons x r ih => rw [List.map_cons, List.sum_cons, List.sum_cons, List.length_cons]; omega
theorem shL_get (L : List Int) (j : Nat) (h : j < L.length) : (shL L).getD (j + 1) 0 = L.getD j 0 + 1 := by
  unfold shL
  rw [List.getD_cons_succ, List.getD_eq_getElem?_getD, List.getElem?_map, List.getElem?_eq_getElem h, List.getD_eq_getElem?_getD, List.getElem?_eq_getElem h]; rfl
theorem beads_next {p : List Int} {n : Nat} (h : p.length ≤ n) : beadsL p (n + 1) = shL (beadsL p n) := by
  unfold beadsL shL fnRow
  rw [List.range_succ_eq_map, List.map_cons, List.map_map, List.map_map]
  congr 1
  · unfold bead
    rw [List.getD_eq_getElem?_getD, List.getElem?_eq_none (by omega)]; rfl
  · refine List.map_congr_left fun j hj => ?_
    have := List.mem_range.1 hj
    show bead p (n + 1) (j + 1) = bead p n j + 1
    unfold bead
    rw [show n + 1 - 1 - (j + 1) = n - 1 - j by omega]; omega
/-- The runner below. -/
def pdI (t i : Nat) : Nat := if i = 0 then t - 1 else i - 1
theorem succ_mod {t : Nat} (ht : 0 < t) (x : Int) : ((x + 1) % (t : Int) = 0 ∧ x % (t : Int) = t - 1 ∧ (x + 1) / (t : Int) = x / (t : Int) + 1) ∨ ((x + 1) % (t : Int) = x % (t : Int) + 1 ∧ x % (t : Int) < t - 1 ∧ (x + 1) / (t : Int) = x / (t : Int)) := by
  have h4 := Int.emod_nonneg x (show (t : Int) ≠ 0 by omega)
  have h5 := Int.emod_lt_of_pos x (show 0 < (t : Int) by omega)
  have h6 := Int.mul_ediv_add_emod x t
  rw [Int.mul_comm] at h6
  by_cases e : x % (t : Int) = t - 1
  · left
    have e1 : x + 1 = (x / (t : Int) + 1) * (t : Int) + ((0 : Nat) : Int) := by rw [Int.add_mul]; omega
    obtain ⟨d1, d2⟩ := lay_div (t := t) (i := 0) (y := x / (t : Int) + 1) ht
    rw [← e1] at d1 d2
    exact ⟨d2, e, d1⟩
  · right
    have e1 : x + 1 = (x / (t : Int)) * (t : Int) + (((x % (t : Int)).toNat + 1 : Nat) : Int) := by omega
    obtain ⟨d1, d2⟩ := lay_div (t := t) (i := (x % (t : Int)).toNat + 1) (y := x / (t : Int)) (by omega)
    rw [← e1] at d1 d2
    exact ⟨by omega, by omega, d1⟩
theorem rn_succ {t i : Nat} (hi : i < t) : ∀ L : List Int, (rnL t (L.map fun x => x + 1) i).length = (rnL t L (pdI t i)).length
  | [] => rfl
  | x :: L => by
    have ih := rn_succ hi L
    rw [List.map_cons, rnL_cons, rnL_cons]
    have key : (x + 1) % (t : Int) = (i : Int) ↔ x % (t : Int) = ((pdI t i : Nat) : Int) := by
      have h4 := Int.emod_nonneg x (show (t : Int) ≠ 0 by omega)
      unfold pdI
      rcases succ_mod (t := t) (by omega) x with ⟨h1, h2, _⟩ | ⟨h1, h2, _⟩ <;> split <;> omega
    by_cases h : (x + 1) % (t : Int) = (i : Int)
    · rw [if_pos h, if_pos (key.1 h), List.length_cons, List.length_cons, ih]
    · rw [if_neg h, if_neg (fun hh => h (key.2 hh)), ih]
theorem rn_sh {t i : Nat} (hi : i < t) (L : List Int) : (rnL t (shL L) i).length = (if i = 0 then 1 else 0) + (rnL t L (pdI t i)).length := by
  unfold shL
  rw [rnL_cons, Int.zero_emod]
  by_cases e : i = 0
  · subst e
    rw [if_pos (show (0 : Int) = ((0 : Nat) : Int) from rfl), if_pos rfl, List.length_cons, rn_succ hi]; omega
  · rw [if_neg (by omega), if_neg e, rn_succ hi]; omega
theorem dw_sh {t : Nat} (ht : 0 < t) (L : List Int) : dwL t (shL L) = shL (dwL t L) := by
  refine pw_ext (dwL_pw _ _) ?_ fun x => ?_
  · unfold shL
    rw [List.pairwise_cons]
    refine ⟨fun y hy => ?_, ?_⟩
    · obtain ⟨z, hz, rfl⟩ := List.mem_map.1 hy
      have := ((mem_dwL ht).1 hz).1
      omega
    · rw [List.pairwise_map]
      refine List.Pairwise.imp ?_ (dwL_pw t L)
      intro a b h; omega
  · have hm : x ∈ shL (dwL t L) ↔ x = 0 ∨ x - 1 ∈ dwL t L := by
      unfold shL
      rw [List.mem_cons, List.mem_map]
      constructor
      · rintro (h | ⟨y, hy, rfl⟩)
        · exact .inl h
        · exact .inr (by rw [show y + 1 - 1 = y by omega]; exact hy)
      · rintro (h | h)
        · exact .inl h
        · exact .inr ⟨x - 1, h, by omega⟩
    rw [hm, mem_dwL ht, mem_dwL ht]
    have g4 := Int.emod_nonneg x (show (t : Int) ≠ 0 by omega)
    have g5 := Int.emod_lt_of_pos x (show 0 < (t : Int) by omega)
    rw [rn_sh (show (x % (t : Int)).toNat < t by omega)]
    have k4 := Int.emod_nonneg (x - 1) (show (t : Int) ≠ 0 by omega)
    by_cases e0 : x = 0
    · subst e0
      simp only [Int.zero_emod, Int.toNat_zero, if_true, true_or, iff_true]
      rw [Int.zero_ediv]; omega
    · have hs := succ_mod ht (x - 1)
      rw [show x - 1 + 1 = x by omega] at hs
      rcases hs with ⟨h1, h2, h3⟩ | ⟨h1, h2, h3⟩
      · rw [h1, h3, h2]
        simp only [Int.toNat_zero, if_true, pdI]
        rw [show ((t : Int) - 1).toNat = t - 1 by omega]
        omega
      · rw [if_neg (show ¬ (x % (t : Int)).toNat = 0 by omega), h3]
        rw [show pdI t (x % (t : Int)).toNat = ((x - 1) % (t : Int)).toNat by unfold pdI; rw [if_neg (by omega)]; omega]
        omega
theorem bpk_sh (M : List Int) : ∀ k, k ≤ M.length → bpk (shL M) k = bpk M k
  | 0, _ => rfl
  | k + 1, h => by
    have ih := bpk_sh M k (by omega)
    have hg := shL_get M (M.length - 1 - k) (by omega)
    have hi : M.length - 1 - k + 1 = (shL M).length - 1 - k := by rw [shL_len]; omega
    by_cases c : ((M.length - 1 - k : Nat) : Int) < M.getD (M.length - 1 - k) 0
    · rw [bpk_yes hi hg.symm (by omega), bpk_yes rfl rfl c, ih]
      congr 2; omega
    · rw [bpk_no hi hg.symm (by omega), bpk_no rfl rfl c, ih]
theorem parts_sh (M : List Int) : partsL (shL M) = partsL M := by
  unfold partsL
  rw [shL_len, bpk_no (i := 0) (x := 0) (by rw [shL_len]; omega) rfl (by simp), bpk_sh M _ (Nat.le_refl _)]
def coreL (t : Nat) (p : List Int) : List Int := partsL (dwL t (beadsL p p.length))
def wgtN (t : Nat) (p : List Int) : Int := dwM t (beadsL p p.length)
theorem core_n {t : Nat} (ht : 0 < t) (p : List Int) : ∀ d, partsL (dwL t (beadsL p (p.length + d))) = coreL t p ∧ dwM t (beadsL p (p.length + d)) = wgtN t p
  | 0 => ⟨rfl, rfl⟩
  | d + 1 => by
    obtain ⟨h1, h2⟩ := core_n ht p d
    rw [show p.length + (d + 1) = (p.length + d) + 1 by omega, beads_next (by omega), dw_sh ht, parts_sh, h1]
    refine ⟨rfl, ?_⟩
    rw [← h2]
    obtain ⟨L, hL⟩ : ∃ L, L = beadsL p (p.length + d) := ⟨_, rfl⟩
    rw [← hL]
    have e1 := dwL_sum (t := t) ht (shL L)
    have e2 := dwL_sum (t := t) ht L
    rw [dw_sh ht, shL_sum, shL_sum, dwL_len ht] at e1
    have e3 : (t : Int) * dwM t (shL L) = (t : Int) * dwM t L := by omega
    exact Int.eq_of_mul_eq_mul_left (by omega) e3
theorem core_at {t n : Nat} (ht : 0 < t) {p : List Int} (h : p.length ≤ n) : partsL (dwL t (beadsL p n)) = coreL t p ∧ dwM t (beadsL p n) = wgtN t p := by
  have := core_n ht p (n - p.length)
  rw [show p.length + (n - p.length) = n by omega] at this; exact this
end Go.Proofs.Ytelfapheigobeaa
/-
  Contracts: all beads of a board moved down.
-/
namespace Go.Proofs.Ytelfapheigobeaa
open Go.RowKit

set_option maxRecDepth 100000 in
set_option maxHeartbeats 8000000 in
theorem pushed_any (t : Nat) (F : Nat → Bool) (w : World) (ht : 2 ≤ t ∧ t ≤ 6) :
    Calls Try.prog 53 #[bdV t F] w fun e w' => e = .returned (.tuple #[bdV t (pdB t F), .int .i64 (wB F t - wB (pdB t F) t)]) ∧ Below w.heap.size w w' := by
  have hz := Try.bdZero
  unfold bdV at hz ⊢
  obtain ⟨w0, hw0⟩ : ∃ w0, w0 = ((w.alloc (.cells (ca 217 (brdV t F)) 58)).alloc (.cells (ca 217 (brdV 0 fun _ => false)) 58)) := ⟨_, rfl⟩
  have x1 : Blk w0 w.heap.size 58 217 (brdV t F) := by rw [hw0]; exact (Blk.new w 58 217 (brdV t F)).alloc _
  have x2 : Blk w0 (w.heap.size + 1) 58 217 (brdV 0 fun _ => false) := by
    rw [hw0]
    have h := Blk.new (w.alloc (.cells (ca 217 (brdV t F)) 58)) 58 217 (brdV 0 fun _ => false)
    rw [World.size_alloc] at h; exact h
  have hb : Below w.heap.size w w0 := by rw [hw0]; exact ((Below.refl _ _).alloc (Nat.le_refl _) _).alloc (by simp) _
  have hw0s : w0.heap.size = w.heap.size + 2 := by rw [hw0]; simp
  have X1 := hid x1; have X2 := hid x2
  have HW := hid hw0
  clear hw0 x1 x2
  have HLO := hid fun F W => lowered_any t F W ht
  unfold bdV at HLO
  have hwb := wB_bd F t
  obtain ⟨V, hV⟩ : ∃ V, V = wB F t := ⟨_, rfl⟩
  have HV := hid hV
  rw [← hV] at hwb ⊢
  clear hV
  obtain ⟨Z, hZ⟩ : ∃ Z, Z = pdB t F := ⟨_, rfl⟩
  obtain ⟨M, hM⟩ : ∃ M, M = V - wB (pdB t F) t := ⟨_, rfl⟩
  rw [← hM, ← hZ]
  have HZ := hid hZ; have HM := hid hM
  clear hZ hM
  go_enter Try.func53, Try.ntmps53
  go_upto_region 1 with fail
  rw [← HW.out]
  go_wp2_with (refine wpList_load_row rfl 58 _ rfl w.heap.size rfl 58 _ (0, 0) _ X1.out Try.underlying58 rfl (by rw [ca_size]; exact Try.bdSize) ?_)
  refine (HLO.out F _).mono ?_
  rintro e w1 ⟨G1, rfl, hG1, b1⟩
  have hs1 := b1.size
  have L0 := hid (Blk.new w1 58 217 (brdV 0 fun _ => false))
  obtain ⟨w2, hw2⟩ : ∃ w2, w2 = (w1.alloc (.cells (ca 217 (brdV 0 fun _ => false)) 58)).setRow w1.heap.size (ca 217 (brdV t G1)) := ⟨_, rfl⟩
  have b12 : Below w1.heap.size w1 w2 := by rw [hw2]; exact setRow_below ((Below.refl _ _).alloc (Nat.le_refl _) _) (Nat.le_refl _) _
  have Y1 := hid ((X1.out.next b1).next b12)
  have Y2 := hid ((X2.out.next b1).next b12)
  have Y3 : Hid (Blk w2 w1.heap.size 58 217 (brdV t G1)) := hid (by rw [hw2]; exact setRow_blk L0.out (brdV t G1))
  have B2 : Below w.heap.size w w2 := Below.next (Below.next hb b1) b12
  have hs2 : w2.heap.size = w1.heap.size + 1 := by rw [hw2]; simp
  have HW2 := hid hw2
  have HLow := hid hG1
  clear hw2 hG1 b12 X1 X2 hb
  go_wp2_with (refine wpList_store_row rfl 58 _ _ rfl w1.heap.size _ rfl rfl 58 _ L0.out (by rw [ca_size]; exact Try.bdSize) (by rw [ca_size, ca_size]) (brd_one _ _) ?_)
  rw [← HW2.out]
  simp only [Act.put]
  clear HW2 L0
  go_loopw [4, 5] (fun mv p wr => ∃ (m : Int) (g : Nat) (F' G : Nat → Bool), mv = .int .i64 m ∧ p = .pointer (some ⟨g, 0, none⟩) ∧ 0 ≤ m ∧ Hid (pdB t F' = pdB t F) ∧ Hid (wB F' t + m = V) ∧ Hid (Low t F' G) ∧ Hid (Blk wr w.heap.size 58 217 (brdV t F')) ∧ Hid (Blk wr (w.heap.size + 1) 58 217 (brdV 0 fun _ => false)) ∧ Hid (Blk wr g 58 217 (brdV t G)) ∧ w.heap.size + 2 ≤ g ∧ Below w.heap.size w wr) (fun mv _ _ => (V - intOf mv).toNat)
  case atStart => exact ⟨0, w1.heap.size, F, G1, rfl, rfl, by omega, hid rfl, hid (by rw [HV.out]; omega), HLow, Y1, Y2, Y3, by omega, B2⟩
  case round =>
    obtain ⟨m, g, F', G, rfl, rfl, hm0, HPD, HWB, HL, HX, HR, HG, hg2, hbel⟩ := hrel
    clear Y1 Y2 Y3 B2 HLow
    have hwb2 := wB_bd F' t
    have hmv : m ≤ V := by have := HWB.out; omega
    have hgl := HG.out.lt
    by_cases hE : ∀ k, k < 216 → G k = F' k
    · have hpd := low_eq HL.out ht.2 hE
      have heq := fun W => run_eq_bd (t : Int) (by unfold I64; omega) G F' W true (by simp only [true_iff]; exact hE)
      unfold bdV at heq
      have hfe : F' = pdB t F := hpd.trans HPD.out
      have hmm : m = V - wB (pdB t F) t := by have := HWB.out; rw [← hfe]; omega
      have hzz : F' = Z := by rw [HZ.out]; exact hfe
      have hmm2 : m = M := by rw [HM.out]; exact hmm
      subst hzz hmm2
      have z3 := setRow_blk HR.out (brdV t F')
      clear hE hpd hfe hmm hwb2
      go_wp2_with (first | (refine wpList_load_row rfl 58 _ rfl g rfl 58 _ (0, 0) _ HG.out Try.underlying58 rfl (by rw [ca_size]; exact Try.bdSize) ?_) | (refine wpList_load_row rfl 58 _ rfl w.heap.size rfl 58 _ (0, 0) _ HX.out Try.underlying58 rfl (by rw [ca_size]; exact Try.bdSize) ?_) | (refine wpList_store_row rfl 58 _ _ rfl (w.heap.size + 1) _ rfl rfl 58 _ HR.out (by rw [ca_size]; exact Try.bdSize) (by rw [ca_size, ca_size]) (brd_one _ _) ?_))
      refine bodyPost_ret (results_cell2 rfl _ _ _ (w.heap.size + 1) 58 _ (0, 0) _ rfl z3 Try.underlying58 rfl (by rw [ca_size]; exact Try.bdSize)) rfl ⟨rfl, setRow_below hbel (by omega) _⟩
    · obtain ⟨hp1, hp2⟩ := low_ne HL.out hE
      have heq := fun W => run_eq_bd (t : Int) (by unfold I64; omega) G F' W false (by simp only [Bool.false_eq_true, false_iff]; exact hE)
      unfold bdV at heq
      have hwb3 := wB_bd G t
      have HP1 := hid (hp1.trans HPD.out)
      have HP2 := hid (show wB G t + (m + 1) = V by have := HWB.out; omega)
      have hmv2 : m + 1 ≤ V := by have := HWB.out; omega
      have HGB := hid hwb3
      clear hE hp1 hp2 hwb2 HPD HWB HL hwb3
      obtain ⟨w3, hw3⟩ : ∃ w3, w3 = wr.setRow w.heap.size (ca 217 (brdV t G)) := ⟨_, rfl⟩
      have n1 : Blk w3 w.heap.size 58 217 (brdV t G) := by rw [hw3]; exact setRow_blk HX.out _
      have n2 : Blk w3 (w.heap.size + 1) 58 217 (brdV 0 fun _ => false) := by rw [hw3]; exact HR.out.otherR (by omega) _
      have n3 : Blk w3 g 58 217 (brdV t G) := by rw [hw3]; exact HG.out.otherR (by omega) _
      have B3 : Below w.heap.size w w3 := by rw [hw3]; exact setRow_below hbel (Nat.le_refl _) _
      have N0 := hid (Blk.new w3 58 217 (brdV 0 fun _ => false))
      obtain ⟨w4, hw4⟩ : ∃ w4, w4 = (w3.alloc (.cells (ca 217 (brdV 0 fun _ => false)) 58)).setRow w3.heap.size (ca 217 (brdV t G)) := ⟨_, rfl⟩
      have b34 : Below w3.heap.size w3 w4 := by rw [hw4]; exact setRow_below ((Below.refl _ _).alloc (Nat.le_refl _) _) (Nat.le_refl _) _
      have N1 := hid (n1.next b34); have N2 := hid (n2.next b34)
      have N3 := hid n3
      have N4 : Hid (Blk w4 w3.heap.size 58 217 (brdV t G)) := hid (by rw [hw4]; exact setRow_blk N0.out _)
      have B4 : Below w.heap.size w w4 := Below.next B3 b34
      have hs3 := b34.size
      have hs3g : g < w3.heap.size := n3.lt
      have HW3 := hid hw3; have HW4 := hid hw4
      clear hw3 hw4 n1 n2 n3 b34 B3
      go_upto_region 7 with (first | (refine wpList_load_row rfl 58 _ rfl g rfl 58 _ (0, 0) _ HG.out Try.underlying58 rfl (by rw [ca_size]; exact Try.bdSize) ?_) | (refine wpList_load_row rfl 58 _ rfl w.heap.size rfl 58 _ (0, 0) _ HX.out Try.underlying58 rfl (by rw [ca_size]; exact Try.bdSize) ?_) | (refine wpList_store_row rfl 58 _ _ rfl w.heap.size _ rfl rfl 58 _ HX.out (by rw [ca_size]; exact Try.bdSize) (by rw [ca_size, ca_size]) (brd_one _ _) ?_))
      rw [← HW3.out]
      go_upto_region 4 with (first | (refine wpList_load_row rfl 58 _ rfl g rfl 58 _ (0, 0) _ N3.out Try.underlying58 rfl (by rw [ca_size]; exact Try.bdSize) ?_) | (refine wpList_store_row rfl 58 _ _ rfl w3.heap.size _ rfl rfl 58 _ N0.out (by rw [ca_size]; exact Try.bdSize) (by rw [ca_size, ca_size]) (brd_one _ _) ?_))
      rw [← HW4.out]
      go_wp2_with (refine wpList_load_row rfl 58 _ rfl w.heap.size rfl 58 _ (0, 0) _ N1.out Try.underlying58 rfl (by rw [ca_size]; exact Try.bdSize) ?_)
      refine (HLO.out G _).mono ?_
      rintro e w5 ⟨G2, rfl, hG2, b5⟩
      have hs5 := b5.size
      have HG2 := hid hG2
      have M4 := hid (N4.out.next b5)
      have B5 : Below w.heap.size w w5 := Below.next B4 b5
      obtain ⟨w6, hw6⟩ : ∃ w6, w6 = w5.setRow w3.heap.size (ca 217 (brdV t G2)) := ⟨_, rfl⟩
      have M1 : Hid (Blk w6 w.heap.size 58 217 (brdV t G)) := hid (by rw [hw6]; exact (N1.out.next b5).otherR (by omega) _)
      have M2 : Hid (Blk w6 (w.heap.size + 1) 58 217 (brdV 0 fun _ => false)) := hid (by rw [hw6]; exact (N2.out.next b5).otherR (by omega) _)
      have M3 : Hid (Blk w6 w3.heap.size 58 217 (brdV t G2)) := hid (by rw [hw6]; exact setRow_blk M4.out _)
      have B6 : Below w.heap.size w w6 := by rw [hw6]; exact setRow_below B5 (by omega) _
      have HW6 := hid hw6
      clear hw6 hG2
      go_wp2_with (refine wpList_store_row rfl 58 _ _ rfl w3.heap.size _ rfl rfl 58 _ M4.out (by rw [ca_size]; exact Try.bdSize) (by rw [ca_size, ca_size]) (brd_one _ _) ?_)
      rw [← HW6.out]
      simp only [Act.put]
      go_roundw
      case rel => exact ⟨m + 1, w3.heap.size, G, G2, by go_num, rfl, by omega, HP1, HP2, HG2, M1, M2, M3, by omega, B6⟩
      case measure => simp [intOf]; omega
end Go.Proofs.Ytelfapheigobeaa
