/-
  Contracts: all beads of a board moved down.
-/
import Derived.Test.YtnhjofcmaodamaaPshMath
import Derived.Test.YtnhjofcmaodamaaCB
namespace Go.Proofs.Ytnhjofcmaodamaa
open Go.RowKit

set_option maxRecDepth 100000 in
set_option maxHeartbeats 8000000 in
theorem pushed_any (t : Nat) (F : Nat → Bool) (w : World) (ht : 2 ≤ t ∧ t ≤ 6) :
    Calls Try.prog 92 #[bdV t F] w fun e w' => e = .returned (.tuple #[bdV t (pdB t F), .int .i64 (wB F t - wB (pdB t F) t)]) ∧ Below w.heap.size w w' := by
  have hz := Try.bdZero
  unfold bdV at hz ⊢
  obtain ⟨w0, hw0⟩ : ∃ w0, w0 = ((w.alloc (.cells (ca 217 (brdV t F)) 77)).alloc (.cells (ca 217 (brdV 0 fun _ => false)) 77)) := ⟨_, rfl⟩
  have x1 : Blk w0 w.heap.size 77 217 (brdV t F) := by rw [hw0]; exact (Blk.new w 77 217 (brdV t F)).alloc _
  have x2 : Blk w0 (w.heap.size + 1) 77 217 (brdV 0 fun _ => false) := by
    rw [hw0]
    have h := Blk.new (w.alloc (.cells (ca 217 (brdV t F)) 77)) 77 217 (brdV 0 fun _ => false)
    rw [World.size_alloc] at h; exact h
  have hb : Below w.heap.size w w0 := by rw [hw0]; exact ((Below.refl _ _).alloc (Nat.le_refl _) _).alloc (by simp) _
  have hw0s : w0.heap.size = w.heap.size + 2 := by rw [hw0]; simp
  have X1 := hid x1; have X2 := hid x2
  have HW := hid hw0
  clear hw0 x1 x2
  have HLO := hid fun F W => lowered_any t F W ht
  unfold bdV at HLO
  have hwb := wB_bd F t
  obtain ⟨V, hV⟩ : ∃ V, V = wB F t := ⟨_, rfl⟩
  have HV := hid hV
  rw [← hV] at hwb ⊢
  clear hV
  obtain ⟨Z, hZ⟩ : ∃ Z, Z = pdB t F := ⟨_, rfl⟩
  obtain ⟨M, hM⟩ : ∃ M, M = V - wB (pdB t F) t := ⟨_, rfl⟩
  rw [← hM, ← hZ]
  have HZ := hid hZ; have HM := hid hM
  clear hZ hM
  go_enter Try.func92, Try.ntmps92
  go_upto_region 1 with fail
  rw [← HW.out]
  go_wp2_with (refine wpList_load_row rfl 77 _ rfl w.heap.size rfl 77 _ (0, 0) _ X1.out Try.underlying77 rfl (by rw [ca_size]; exact Try.bdSize) ?_)
  refine (HLO.out F _).mono ?_
  rintro e w1 ⟨G1, rfl, hG1, b1⟩
  have hs1 := b1.size
  have L0 := hid (Blk.new w1 77 217 (brdV 0 fun _ => false))
  obtain ⟨w2, hw2⟩ : ∃ w2, w2 = (w1.alloc (.cells (ca 217 (brdV 0 fun _ => false)) 77)).setRow w1.heap.size (ca 217 (brdV t G1)) := ⟨_, rfl⟩
  have b12 : Below w1.heap.size w1 w2 := by rw [hw2]; exact setRow_below ((Below.refl _ _).alloc (Nat.le_refl _) _) (Nat.le_refl _) _
  have Y1 := hid ((X1.out.next b1).next b12)
  have Y2 := hid ((X2.out.next b1).next b12)
  have Y3 : Hid (Blk w2 w1.heap.size 77 217 (brdV t G1)) := hid (by rw [hw2]; exact setRow_blk L0.out (brdV t G1))
  have B2 : Below w.heap.size w w2 := Below.next (Below.next hb b1) b12
  have hs2 : w2.heap.size = w1.heap.size + 1 := by rw [hw2]; simp
  have HW2 := hid hw2
  have HLow := hid hG1
  clear hw2 hG1 b12 X1 X2 hb
  go_wp2_with (refine wpList_store_row rfl 77 _ _ rfl w1.heap.size _ rfl rfl 77 _ L0.out (by rw [ca_size]; exact Try.bdSize) (by rw [ca_size, ca_size]) (brd_one _ _) ?_)
  rw [← HW2.out]
  simp only [Act.put]
  clear HW2 L0
  go_loopw [4, 5] (fun mv p wr => ∃ (m : Int) (g : Nat) (F' G : Nat → Bool), mv = .int .i64 m ∧ p = .pointer (some ⟨g, 0, none⟩) ∧ 0 ≤ m ∧ Hid (pdB t F' = pdB t F) ∧ Hid (wB F' t + m = V) ∧ Hid (Low t F' G) ∧ Hid (Blk wr w.heap.size 77 217 (brdV t F')) ∧ Hid (Blk wr (w.heap.size + 1) 77 217 (brdV 0 fun _ => false)) ∧ Hid (Blk wr g 77 217 (brdV t G)) ∧ w.heap.size + 2 ≤ g ∧ Below w.heap.size w wr) (fun mv _ _ => (V - intOf mv).toNat)
  case atStart => exact ⟨0, w1.heap.size, F, G1, rfl, rfl, by omega, hid rfl, hid (by rw [HV.out]; omega), HLow, Y1, Y2, Y3, by omega, B2⟩
  case round =>
    obtain ⟨m, g, F', G, rfl, rfl, hm0, HPD, HWB, HL, HX, HR, HG, hg2, hbel⟩ := hrel
    clear Y1 Y2 Y3 B2 HLow
    have hwb2 := wB_bd F' t
    have hmv : m ≤ V := by have := HWB.out; omega
    have hgl := HG.out.lt
    by_cases hE : ∀ k, k < 216 → G k = F' k
    · have hpd := low_eq HL.out ht.2 hE
      have heq := fun W => run_eq_bd (t : Int) (by unfold I64; omega) G F' W true (by simp only [true_iff]; exact hE)
      unfold bdV at heq
      have hfe : F' = pdB t F := hpd.trans HPD.out
      have hmm : m = V - wB (pdB t F) t := by have := HWB.out; rw [← hfe]; omega
      have hzz : F' = Z := by rw [HZ.out]; exact hfe
      have hmm2 : m = M := by rw [HM.out]; exact hmm
      subst hzz hmm2
      have z3 := setRow_blk HR.out (brdV t F')
      clear hE hpd hfe hmm hwb2
      go_wp2_with (first | (refine wpList_load_row rfl 77 _ rfl g rfl 77 _ (0, 0) _ HG.out Try.underlying77 rfl (by rw [ca_size]; exact Try.bdSize) ?_) | (refine wpList_load_row rfl 77 _ rfl w.heap.size rfl 77 _ (0, 0) _ HX.out Try.underlying77 rfl (by rw [ca_size]; exact Try.bdSize) ?_) | (refine wpList_store_row rfl 77 _ _ rfl (w.heap.size + 1) _ rfl rfl 77 _ HR.out (by rw [ca_size]; exact Try.bdSize) (by rw [ca_size, ca_size]) (brd_one _ _) ?_))
      refine bodyPost_ret (results_cell2 rfl _ _ _ (w.heap.size + 1) 77 _ (0, 0) _ rfl z3 Try.underlying77 rfl (by rw [ca_size]; exact Try.bdSize)) rfl ⟨rfl, setRow_below hbel (by omega) _⟩
    · obtain ⟨hp1, hp2⟩ := low_ne HL.out hE
      have heq := fun W => run_eq_bd (t : Int) (by unfold I64; omega) G F' W false (by simp only [Bool.false_eq_true, false_iff]; exact hE)
      unfold bdV at heq
      have hwb3 := wB_bd G t
      have HP1 := hid (hp1.trans HPD.out)
      have HP2 := hid (show wB G t + (m + 1) = V by have := HWB.out; omega)
      have hmv2 : m + 1 ≤ V := by have := HWB.out; omega
      have HGB := hid hwb3
      clear hE hp1 hp2 hwb2 HPD HWB HL hwb3
      obtain ⟨w3, hw3⟩ : ∃ w3, w3 = wr.setRow w.heap.size (ca 217 (brdV t G)) := ⟨_, rfl⟩
      have n1 : Blk w3 w.heap.size 77 217 (brdV t G) := by rw [hw3]; exact setRow_blk HX.out _
      have n2 : Blk w3 (w.heap.size + 1) 77 217 (brdV 0 fun _ => false) := by rw [hw3]; exact HR.out.otherR (by omega) _
      have n3 : Blk w3 g 77 217 (brdV t G) := by rw [hw3]; exact HG.out.otherR (by omega) _
      have B3 : Below w.heap.size w w3 := by rw [hw3]; exact setRow_below hbel (Nat.le_refl _) _
      have N0 := hid (Blk.new w3 77 217 (brdV 0 fun _ => false))
      obtain ⟨w4, hw4⟩ : ∃ w4, w4 = (w3.alloc (.cells (ca 217 (brdV 0 fun _ => false)) 77)).setRow w3.heap.size (ca 217 (brdV t G)) := ⟨_, rfl⟩
      have b34 : Below w3.heap.size w3 w4 := by rw [hw4]; exact setRow_below ((Below.refl _ _).alloc (Nat.le_refl _) _) (Nat.le_refl _) _
      have N1 := hid (n1.next b34); have N2 := hid (n2.next b34)
      have N3 := hid n3
      have N4 : Hid (Blk w4 w3.heap.size 77 217 (brdV t G)) := hid (by rw [hw4]; exact setRow_blk N0.out _)
      have B4 : Below w.heap.size w w4 := Below.next B3 b34
      have hs3 := b34.size
      have hs3g : g < w3.heap.size := n3.lt
      have HW3 := hid hw3; have HW4 := hid hw4
      clear hw3 hw4 n1 n2 n3 b34 B3
      go_upto_region 7 with (first | (refine wpList_load_row rfl 77 _ rfl g rfl 77 _ (0, 0) _ HG.out Try.underlying77 rfl (by rw [ca_size]; exact Try.bdSize) ?_) | (refine wpList_load_row rfl 77 _ rfl w.heap.size rfl 77 _ (0, 0) _ HX.out Try.underlying77 rfl (by rw [ca_size]; exact Try.bdSize) ?_) | (refine wpList_store_row rfl 77 _ _ rfl w.heap.size _ rfl rfl 77 _ HX.out (by rw [ca_size]; exact Try.bdSize) (by rw [ca_size, ca_size]) (brd_one _ _) ?_))
      rw [← HW3.out]
      go_upto_region 4 with (first | (refine wpList_load_row rfl 77 _ rfl g rfl 77 _ (0, 0) _ N3.out Try.underlying77 rfl (by rw [ca_size]; exact Try.bdSize) ?_) | (refine wpList_store_row rfl 77 _ _ rfl w3.heap.size _ rfl rfl 77 _ N0.out (by rw [ca_size]; exact Try.bdSize) (by rw [ca_size, ca_size]) (brd_one _ _) ?_))
      rw [← HW4.out]
      go_wp2_with (refine wpList_load_row rfl 77 _ rfl w.heap.size rfl 77 _ (0, 0) _ N1.out Try.underlying77 rfl (by rw [ca_size]; exact Try.bdSize) ?_)
      refine (HLO.out G _).mono ?_
      rintro e w5 ⟨G2, rfl, hG2, b5⟩
      have hs5 := b5.size
      have HG2 := hid hG2
      have M4 := hid (N4.out.next b5)
      have B5 : Below w.heap.size w w5 := Below.next B4 b5
      obtain ⟨w6, hw6⟩ : ∃ w6, w6 = w5.setRow w3.heap.size (ca 217 (brdV t G2)) := ⟨_, rfl⟩
      have M1 : Hid (Blk w6 w.heap.size 77 217 (brdV t G)) := hid (by rw [hw6]; exact (N1.out.next b5).otherR (by omega) _)
      have M2 : Hid (Blk w6 (w.heap.size + 1) 77 217 (brdV 0 fun _ => false)) := hid (by rw [hw6]; exact (N2.out.next b5).otherR (by omega) _)
      have M3 : Hid (Blk w6 w3.heap.size 77 217 (brdV t G2)) := hid (by rw [hw6]; exact setRow_blk M4.out _)
      have B6 : Below w.heap.size w w6 := by rw [hw6]; exact setRow_below B5 (by omega) _
      have HW6 := hid hw6
      clear hw6 hG2
      go_wp2_with (refine wpList_store_row rfl 77 _ _ rfl w3.heap.size _ rfl rfl 77 _ M4.out (by rw [ca_size]; exact Try.bdSize) (by rw [ca_size, ca_size]) (brd_one _ _) ?_)
      rw [← HW6.out]
      simp only [Act.put]
      go_roundw
      case rel => exact ⟨m + 1, w3.heap.size, G, G2, by go_num, rfl, by omega, HP1, HP2, HG2, M1, M2, M3, by omega, B6⟩
      case measure => simp [intOf]; omega
end Go.Proofs.Ytnhjofcmaodamaa
