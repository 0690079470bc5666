/-
  Contracts: LiftBead of the program.
-/
import Derived.Test.YtmbfobcbnnalbaaCF
import Derived.Test.YtmbfobcbnnalbaaCB
namespace Go.Proofs.Ytmbfobcbnnalbaa
open Go.RowKit

def lfB (r : Int) (xs : List Int) (a : Int) : Bool := isAba r xs && (canGo xs a (a + r) && isAba r (insF (mvL a (a + r) xs)))
def lfR (r : Int) (xs : List Int) (a : Int) : Int := if lfB r xs a then r else 0
def lfF (r : Int) (xs : List Int) (a : Int) : List Int := if lfB r xs a then insF (mvL a (a + r) xs) else []
theorem lf_no {r : Int} {xs : List Int} {a : Int} (h : lfB r xs a = false) : lfR r xs a = 0 ∧ lfF r xs a = [] := by simp [lfR, lfF, h]
theorem lf_yes {r : Int} {xs : List Int} {a : Int} (h : lfB r xs a = true) : lfR r xs a = r ∧ lfF r xs a = insF (mvL a (a + r) xs) := by simp [lfR, lfF, h]

theorem bound_LiftBead (r : Int) (xs : List Int) (a : Int) : (lfF r xs a).length ≤ 1048576 := by
  cases h : lfB r xs a
  · rw [(lf_no h).2]; simp
  · rw [(lf_yes h).2]
    simp only [lfB, Bool.and_eq_true] at h
    have h2 := h.2.2
    simp only [isAba, Bool.and_eq_true] at h2
    have := (goodB_iff.1 h2.2).len; omega

set_option maxRecDepth 100000 in
set_option maxHeartbeats 8000000 in
theorem impl_LiftBead (r : Int) (A : Option Addr) (c : Nat) (xs : List Int) (a : Int) (w : World) (hl : xs.length ≤ 1048576) (hc : Cells w A xs) (_ : I64 a) :
    Calls Try.prog 158 #[.agg #[.int .i64 r, .slice A xs.length c], .int .i64 a] w fun e w' => ∃ A' c', e = .returned (.tuple #[.agg #[.int .i64 (lfR r xs a), .slice A' (lfF r xs a).length c'], .bool (lfB r xs a)]) ∧ Own w' w.heap.size A' c' (lfF r xs a) ∧ Below w.heap.size w w' := by
  have hz := Try.bdZero
  unfold bdV at hz
  obtain ⟨w0, hw0⟩ : ∃ w0, w0 = (w.alloc (.cells #[.int .i64 r, .slice A xs.length c] 85)).alloc (.cells #[.int .i64 0, .slice none 0 0] 85) := ⟨_, rfl⟩
  have y0 : Box2 w0 w.heap.size 85 (.int .i64 r) (.slice A xs.length c) := by rw [hw0]; exact (Box2.new w _ _ _).alloc _
  have z0 : Box2 w0 (w.heap.size + 1) 85 (.int .i64 0) (.slice none 0 0) := by
    rw [hw0]; have h := Box2.new (w.alloc (.cells #[.int .i64 r, .slice A xs.length c] 85)) 85 (.int .i64 0) (.slice none 0 0); rw [World.size_alloc] at h; exact h
  have b0 : Below w.heap.size w w0 := by rw [hw0]; exact ((Below.refl _ _).alloc (Nat.le_refl _) _).alloc (by simp) _
  have hs0 : w0.heap.size = w.heap.size + 1 + 1 := by rw [hw0]; simp
  have h0 := y0.cell0
  have h1 := y0.cell1
  rw [hw0] at h0 h1
  have HW := hid hw0
  clear hw0
  cases hab : isAba r xs
  · obtain ⟨e1, e2⟩ := lf_no (r := r) (xs := xs) (a := a) (by simp [lfB, hab])
    rw [e1, e2, show lfB r xs a = false by simp [lfB, hab]]
    have HA := hid hab
    clear hab e1 e2
    go_enter Try.func158, Try.ntmps158
    go_wp2_with fail
    rw [← HW.out]
    refine (IsAbacus_b r A c xs w0 hl (hc.below b0) _ HA.out).mono ?_
    rintro e w1 ⟨rfl, b1⟩
    have z1 := z0.next b1
    have f1 := z1.cell0
    have f2 := z1.froz 0
    have z2 := z1.set0 (.int .i64 0)
    have f3 := z2.cell1
    have f4 := z2.froz 1
    have Z3 := hid (z2.set1 (.slice none 0 0))
    clear z1 z2 z0 y0
    go_wp2_with fail
    refine bodyPost_ret (results_cell2 rfl _ _ _ (w.heap.size + 1) 85 #[.int .i64 0, .slice none 0 0] (0, 0) _ rfl Z3.out Try.underlying85 rfl (by kernel_rfl)) rfl ⟨none, 0, rfl, own_nil _ _, ((Below.next b0 b1).setCell (by simp) _).setCell (by simp) _⟩
  have hab2 := hab
  simp only [isAba, Bool.and_eq_true] at hab2
  have ht := inB_iff.1 hab2.1
  obtain ⟨t, rfl⟩ : ∃ t : Nat, r = t := ⟨r.toNat, by omega⟩
  have ht2 : 2 ≤ t ∧ t ≤ 6 := by omega
  have GB := hid (goodB_iff.1 hab2.2)
  have hlen := GB.out.len
  have HBO := hid fun W (h : Cells W A xs) => boardOf_any t A c xs W ht2 hlen (fun j hj => by have := GB.out.top hj; omega) h
  have HPG := hid (put_gen ht2 GB.out (a := a) (b := a + t) (.inl rfl))
  have HPA := hid fun F b W (hb : 0 ≤ a → a < (t : Int) * 36 → b < 1000000) => brdPut_all t F a b W ht2 hb
  obtain ⟨F, hF⟩ : ∃ F, F = bitsK t xs xs.length := ⟨_, rfl⟩
  rw [← hF] at HBO HPG
  have HA := hid hab
  have HY := hid y0; have HZ := hid z0
  have hlfb : lfB t xs a = (canGo xs a (a + t) && isAba t (insF (mvL a (a + t) xs))) := by simp [lfB, hab]
  have HLF := hid hlfb
  clear hab hab2 hF y0 z0 hlfb
  by_cases hin : 0 ≤ a ∧ a < (t : Int) * 36
  · obtain ⟨hin1, hin2⟩ := hin
    cases hcg : canGo xs a (a + t)
    · obtain ⟨e1, e2⟩ := lf_no (r := t) (xs := xs) (a := a) (by rw [HLF.out, hcg]; rfl)
      have e3 : lfB t xs a = false := by rw [HLF.out, hcg]; rfl
      rw [e1, e2, e3]
      have hput := fun W => HPA.out F (a + t) W (fun _ _ => by omega)
      rw [HPG.out.1 hcg] at hput
      have HPU := hid hput
      clear e1 e2 e3 hcg hput
      go_enter Try.func158, Try.ntmps158
      go_wp2_with fail
      rw [← HW.out]
      refine (IsAbacus_b t A c xs w0 hl (hc.below b0) _ HA.out).mono ?_
      rintro e w1 ⟨rfl, b1⟩
      have B1 := Below.next b0 b1
      have HY1 := hid (HY.out.next b1); have HZ1 := hid (HZ.out.next b1)
      have h2 := HY1.out.cell0
      have h3 := HY1.out.cell1
      have hs1 := b1.size
      clear h0 h1
      go_wp2_with fail
      refine (HBO.out _ (hc.later B1)).mono ?_
      rintro e w2 ⟨rfl, b2⟩
      have B2 := Below.next B1 b2
      have hs2 := b2.size
      have X0 := hid (Blk.new w2 131 217 (brdV 0 fun _ => false))
      have X3 := hid (setRow_blk X0.out (brdV t F))
      obtain ⟨w3, hw3⟩ : ∃ w3, w3 = (w2.alloc (.cells (ca 217 (brdV 0 fun _ => false)) 131)).setRow w2.heap.size (ca 217 (brdV t F)) := ⟨_, rfl⟩
      have B3 : Below w.heap.size w w3 := by rw [hw3]; exact setRow_below (B2.alloc (by omega) _) (by omega) _
      have b23 : Below w2.heap.size w2 w3 := by rw [hw3]; exact setRow_below ((Below.refl _ _).alloc (Nat.le_refl _) _) (Nat.le_refl _) _
      have HX3 : Hid (Blk w3 w2.heap.size 131 217 (brdV t F)) := by rw [hw3]; exact X3
      have hs3 : w3.heap.size = w2.heap.size + 1 := by rw [hw3]; simp
      have HY3 := hid ((HY1.out.next b2).next b23); have HZ3 := hid ((HZ1.out.next b2).next b23)
      have h4 := HY3.out.cell0
      rw [hw3] at h4
      have HW3 := hid hw3
      clear h2 h3 hw3
      unfold bdV
      go_wp2_with (first | (refine wpList_store_row rfl 131 _ _ rfl w2.heap.size _ rfl rfl 131 _ X0.out (by rw [ca_size]; exact Try.bdSize) (by rw [ca_size, ca_size]) (brd_one _ _) ?_) | (refine wpList_load_row rfl 131 _ rfl w2.heap.size rfl 131 _ (0, 0) _ X3.out Try.underlying131 rfl (by rw [ca_size]; exact Try.bdSize) ?_))
      rw [← HW3.out]
      refine (HPU.out _).mono ?_
      rintro e w4 ⟨rfl, b4⟩
      have B4 := Below.next B3 b4
      have hs4 := b4.size
      have X4 := hid (Blk.new w4 131 217 (brdV 0 fun _ => false))
      have X5 := hid (setRow_blk X4.out (brdV t (F)))
      obtain ⟨w5, hw5⟩ : ∃ w5, w5 = (w4.alloc (.cells (ca 217 (brdV 0 fun _ => false)) 131)).setRow w4.heap.size (ca 217 (brdV t (F))) := ⟨_, rfl⟩
      have B5 : Below w.heap.size w w5 := by rw [hw5]; exact setRow_below (B4.alloc (by omega) _) (by omega) _
      have b45 : Below w4.heap.size w4 w5 := by rw [hw5]; exact setRow_below ((Below.refl _ _).alloc (Nat.le_refl _) _) (Nat.le_refl _) _
      have HX5 : Hid (Blk w5 w4.heap.size 131 217 (brdV t (F))) := by rw [hw5]; exact X5
      have HX6 := hid ((HX3.out.next b4).next b45)
      have z5 := (HZ3.out.next b4).next b45
      have HZ5 := hid z5
      rw [hw5] at HX6
      have HW5 := hid hw5
      have heq := fun W => run_eq_bd (t : Int) (by unfold I64; omega) (F) F W true (by simp)
      unfold bdV at heq ⊢
      clear h4 hw5 z5
      have z5 := HZ5.out
      rw [HW5.out] at z5
      have f1 := z5.cell0
      have f2 := z5.froz 0
      have z6 := z5.set0 (.int .i64 0)
      have f3 := z6.cell1
      have f4 := z6.froz 1
      have Z7 := hid (z6.set1 (.slice none 0 0))
      clear z5 z6
      go_wp2_with (first | (refine wpList_store_row rfl 131 _ _ rfl w4.heap.size _ rfl rfl 131 _ X4.out (by rw [ca_size]; exact Try.bdSize) (by rw [ca_size, ca_size]) (brd_one _ _) ?_) | (refine wpList_load_row rfl 131 _ rfl w4.heap.size rfl 131 _ (0, 0) _ X5.out Try.underlying131 rfl (by rw [ca_size]; exact Try.bdSize) ?_) | (refine wpList_load_row rfl 131 _ rfl w2.heap.size rfl 131 _ (0, 0) _ HX6.out Try.underlying131 rfl (by rw [ca_size]; exact Try.bdSize) ?_))
      rw [← HW5.out] at Z7
      rw [← HW5.out]
      refine bodyPost_ret (results_cell2 rfl _ _ _ (w.heap.size + 1) 85 #[.int .i64 0, .slice none 0 0] (0, 0) _ rfl Z7.out Try.underlying85 rfl (by kernel_rfl)) rfl ⟨none, 0, rfl, own_nil _ _, (B5.setCell (by simp) _).setCell (by simp) _⟩
    · have hput := fun W => HPA.out F (a + t) W (fun _ _ => by omega)
      have HPU := hid hput
      obtain ⟨⟨kk, hk1, hk2⟩, hk3⟩ := HPG.out.2 hcg
      have hab3 := fun W => brdAb_any t (putB t F a (a + t)) W ht2
      have e1 : lfR t xs a = abT t (putB t F a (a + t)) := by unfold lfR abT; rw [HLF.out, hcg, hk3]; simp
      have e2 : lfF t xs a = abX t (putB t F a (a + t)) := by unfold lfF abX; rw [HLF.out, hcg, hk3]; simp
      have e3 : lfB t xs a = isAba t (abL t (putB t F a (a + t))) := by rw [HLF.out, hcg, hk3]; simp
      rw [e1, e2, e3]
      obtain ⟨F', hF'⟩ : ∃ F', F' = putB t F a (a + t) := ⟨_, rfl⟩
      rw [← hF'] at hab3 hk2 HPU ⊢
      have HAB := hid hab3
      have HNE := hid (show ∃ k, k < 216 ∧ F' k ≠ F k from ⟨kk, hk1, fun e => hk2 e.symm⟩)
      obtain ⟨rT, hrT⟩ : ∃ rT, rT = abT t F' := ⟨_, rfl⟩
      obtain ⟨rX, hrX⟩ : ∃ rX, rX = abX t F' := ⟨_, rfl⟩
      obtain ⟨rB, hrB⟩ : ∃ rB, rB = isAba t (abL t F') := ⟨_, rfl⟩
      rw [← hrT, ← hrX, ← hrB] at HAB ⊢
      clear e1 e2 e3 hcg hput hk1 hk2 hk3 hF' hab3 hrT hrX hrB
      go_enter Try.func158, Try.ntmps158
      go_wp2_with fail
      rw [← HW.out]
      refine (IsAbacus_b t A c xs w0 hl (hc.below b0) _ HA.out).mono ?_
      rintro e w1 ⟨rfl, b1⟩
      have B1 := Below.next b0 b1
      have HY1 := hid (HY.out.next b1); have HZ1 := hid (HZ.out.next b1)
      have h2 := HY1.out.cell0
      have h3 := HY1.out.cell1
      have hs1 := b1.size
      clear h0 h1
      go_wp2_with fail
      refine (HBO.out _ (hc.later B1)).mono ?_
      rintro e w2 ⟨rfl, b2⟩
      have B2 := Below.next B1 b2
      have hs2 := b2.size
      have X0 := hid (Blk.new w2 131 217 (brdV 0 fun _ => false))
      have X3 := hid (setRow_blk X0.out (brdV t F))
      obtain ⟨w3, hw3⟩ : ∃ w3, w3 = (w2.alloc (.cells (ca 217 (brdV 0 fun _ => false)) 131)).setRow w2.heap.size (ca 217 (brdV t F)) := ⟨_, rfl⟩
      have B3 : Below w.heap.size w w3 := by rw [hw3]; exact setRow_below (B2.alloc (by omega) _) (by omega) _
      have b23 : Below w2.heap.size w2 w3 := by rw [hw3]; exact setRow_below ((Below.refl _ _).alloc (Nat.le_refl _) _) (Nat.le_refl _) _
      have HX3 : Hid (Blk w3 w2.heap.size 131 217 (brdV t F)) := by rw [hw3]; exact X3
      have hs3 : w3.heap.size = w2.heap.size + 1 := by rw [hw3]; simp
      have HY3 := hid ((HY1.out.next b2).next b23); have HZ3 := hid ((HZ1.out.next b2).next b23)
      have h4 := HY3.out.cell0
      rw [hw3] at h4
      have HW3 := hid hw3
      clear h2 h3 hw3
      unfold bdV
      go_wp2_with (first | (refine wpList_store_row rfl 131 _ _ rfl w2.heap.size _ rfl rfl 131 _ X0.out (by rw [ca_size]; exact Try.bdSize) (by rw [ca_size, ca_size]) (brd_one _ _) ?_) | (refine wpList_load_row rfl 131 _ rfl w2.heap.size rfl 131 _ (0, 0) _ X3.out Try.underlying131 rfl (by rw [ca_size]; exact Try.bdSize) ?_))
      rw [← HW3.out]
      refine (HPU.out _).mono ?_
      rintro e w4 ⟨rfl, b4⟩
      have B4 := Below.next B3 b4
      have hs4 := b4.size
      have X4 := hid (Blk.new w4 131 217 (brdV 0 fun _ => false))
      have X5 := hid (setRow_blk X4.out (brdV t (F')))
      obtain ⟨w5, hw5⟩ : ∃ w5, w5 = (w4.alloc (.cells (ca 217 (brdV 0 fun _ => false)) 131)).setRow w4.heap.size (ca 217 (brdV t (F'))) := ⟨_, rfl⟩
      have B5 : Below w.heap.size w w5 := by rw [hw5]; exact setRow_below (B4.alloc (by omega) _) (by omega) _
      have b45 : Below w4.heap.size w4 w5 := by rw [hw5]; exact setRow_below ((Below.refl _ _).alloc (Nat.le_refl _) _) (Nat.le_refl _) _
      have HX5 : Hid (Blk w5 w4.heap.size 131 217 (brdV t (F'))) := by rw [hw5]; exact X5
      have HX6 := hid ((HX3.out.next b4).next b45)
      have z5 := (HZ3.out.next b4).next b45
      have HZ5 := hid z5
      rw [hw5] at HX6
      have HW5 := hid hw5
      have heq := fun W => run_eq_bd (t : Int) (by unfold I64; omega) (F') F W false (by obtain ⟨k, h1, h2⟩ := HNE.out; exact ⟨fun h => (by cases h), fun h => absurd (h k h1) h2⟩)
      unfold bdV at heq ⊢
      clear h4 hw5 z5
      go_wp2_with (first | (refine wpList_store_row rfl 131 _ _ rfl w4.heap.size _ rfl rfl 131 _ X4.out (by rw [ca_size]; exact Try.bdSize) (by rw [ca_size, ca_size]) (brd_one _ _) ?_) | (refine wpList_load_row rfl 131 _ rfl w4.heap.size rfl 131 _ (0, 0) _ X5.out Try.underlying131 rfl (by rw [ca_size]; exact Try.bdSize) ?_) | (refine wpList_load_row rfl 131 _ rfl w2.heap.size rfl 131 _ (0, 0) _ HX6.out Try.underlying131 rfl (by rw [ca_size]; exact Try.bdSize) ?_))
      rw [← HW5.out]
      refine (HAB.out _).mono ?_
      rintro e w6 ⟨A6, c6, rfl, o6, b6⟩
      have hs5 := B5.size
      have z6 := HZ5.out.next b6
      have f1 := z6.cell0
      have f2 := z6.froz 0
      have z7 := z6.set0 (.int .i64 rT)
      have f3 := z7.cell1
      have f4 := z7.froz 1
      have Z8 := hid (z7.set1 (.slice A6 rX.length c6))
      have hsw5 : w.heap.size + 1 + 1 ≤ w5.heap.size := by have := b45.size; omega
      have HO6 := hid (own_set_other (g := w.heap.size + 1) (k := 1) (u := .slice A6 rX.length c6) (own_set_other (g := w.heap.size + 1) (k := 0) (u := .int .i64 rT) o6 (by omega)) (by omega))
      clear z6 z7
      go_wp2_with fail
      refine bodyPost_ret (results_cell2 rfl _ _ _ (w.heap.size + 1) 85 #[.int .i64 rT, .slice A6 rX.length c6] (0, 0) _ rfl Z8.out Try.underlying85 rfl (by kernel_rfl)) rfl ⟨A6, c6, rfl, Own.more HO6.out (by omega), ((Below.next B5 b6).setCell (by simp) _).setCell (by simp) _⟩
  · have hcg : canGo xs a (a + t) = false := by
      cases h : canGo xs a (a + t)
      · rfl
      · exfalso
        simp only [canGo, Bool.and_eq_true, decide_eq_true_eq] at h
        obtain ⟨j, hj, e⟩ := mem_getD.1 h.1
        have := GB.out.top hj
        omega
    obtain ⟨e1, e2⟩ := lf_no (r := t) (xs := xs) (a := a) (by rw [HLF.out, hcg]; rfl)
    have e3 : lfB t xs a = false := by rw [HLF.out, hcg]; rfl
    rw [e1, e2, e3]
    have hput := fun b W => HPA.out F b W (fun h1 h2 => absurd ⟨h1, h2⟩ hin)
    have hpf : ∀ b, putB t F a b = F := fun b => by
      have : canB t a b = false := by
        cases h : canB t a b
        · rfl
        · exfalso; simp only [canB, Bool.and_eq_true, decide_eq_true_eq] at h; exact hin ⟨h.1, h.2.1⟩
      simp [putB, this]
    have hput2 : ∀ b W, Calls Try.prog 201 #[bdV t F, .int .i64 a, .int .i64 b] W fun e w' => e = .returned (bdV t F) ∧ Below W.heap.size W w' := fun b W => by
      have h := hput b W; rw [hpf b] at h; exact h
    have HPU := hid hput2
    clear e1 e2 e3 hcg hput hput2 hpf hin
    go_enter Try.func158, Try.ntmps158
    go_wp2_with fail
    rw [← HW.out]
    refine (IsAbacus_b t A c xs w0 hl (hc.below b0) _ HA.out).mono ?_
    rintro e w1 ⟨rfl, b1⟩
    have B1 := Below.next b0 b1
    have HY1 := hid (HY.out.next b1); have HZ1 := hid (HZ.out.next b1)
    have h2 := HY1.out.cell0
    have h3 := HY1.out.cell1
    have hs1 := b1.size
    clear h0 h1
    go_wp2_with fail
    refine (HBO.out _ (hc.later B1)).mono ?_
    rintro e w2 ⟨rfl, b2⟩
    have B2 := Below.next B1 b2
    have hs2 := b2.size
    have X0 := hid (Blk.new w2 131 217 (brdV 0 fun _ => false))
    have X3 := hid (setRow_blk X0.out (brdV t F))
    obtain ⟨w3, hw3⟩ : ∃ w3, w3 = (w2.alloc (.cells (ca 217 (brdV 0 fun _ => false)) 131)).setRow w2.heap.size (ca 217 (brdV t F)) := ⟨_, rfl⟩
    have B3 : Below w.heap.size w w3 := by rw [hw3]; exact setRow_below (B2.alloc (by omega) _) (by omega) _
    have b23 : Below w2.heap.size w2 w3 := by rw [hw3]; exact setRow_below ((Below.refl _ _).alloc (Nat.le_refl _) _) (Nat.le_refl _) _
    have HX3 : Hid (Blk w3 w2.heap.size 131 217 (brdV t F)) := by rw [hw3]; exact X3
    have hs3 : w3.heap.size = w2.heap.size + 1 := by rw [hw3]; simp
    have HY3 := hid ((HY1.out.next b2).next b23); have HZ3 := hid ((HZ1.out.next b2).next b23)
    have h4 := HY3.out.cell0
    rw [hw3] at h4
    have HW3 := hid hw3
    clear h2 h3 hw3
    unfold bdV
    go_wp2_with (first | (refine wpList_store_row rfl 131 _ _ rfl w2.heap.size _ rfl rfl 131 _ X0.out (by rw [ca_size]; exact Try.bdSize) (by rw [ca_size, ca_size]) (brd_one _ _) ?_) | (refine wpList_load_row rfl 131 _ rfl w2.heap.size rfl 131 _ (0, 0) _ X3.out Try.underlying131 rfl (by rw [ca_size]; exact Try.bdSize) ?_))
    rw [← HW3.out]
    refine (HPU.out _ _).mono ?_
    rintro e w4 ⟨rfl, b4⟩
    have B4 := Below.next B3 b4
    have hs4 := b4.size
    have X4 := hid (Blk.new w4 131 217 (brdV 0 fun _ => false))
    have X5 := hid (setRow_blk X4.out (brdV t (F)))
    obtain ⟨w5, hw5⟩ : ∃ w5, w5 = (w4.alloc (.cells (ca 217 (brdV 0 fun _ => false)) 131)).setRow w4.heap.size (ca 217 (brdV t (F))) := ⟨_, rfl⟩
    have B5 : Below w.heap.size w w5 := by rw [hw5]; exact setRow_below (B4.alloc (by omega) _) (by omega) _
    have b45 : Below w4.heap.size w4 w5 := by rw [hw5]; exact setRow_below ((Below.refl _ _).alloc (Nat.le_refl _) _) (Nat.le_refl _) _
    have HX5 : Hid (Blk w5 w4.heap.size 131 217 (brdV t (F))) := by rw [hw5]; exact X5
    have HX6 := hid ((HX3.out.next b4).next b45)
    have z5 := (HZ3.out.next b4).next b45
    have HZ5 := hid z5
    rw [hw5] at HX6
    have HW5 := hid hw5
    have heq := fun W => run_eq_bd (t : Int) (by unfold I64; omega) (F) F W true (by simp)
    unfold bdV at heq ⊢
    clear h4 hw5 z5
    have z5 := HZ5.out
    rw [HW5.out] at z5
    have f1 := z5.cell0
    have f2 := z5.froz 0
    have z6 := z5.set0 (.int .i64 0)
    have f3 := z6.cell1
    have f4 := z6.froz 1
    have Z7 := hid (z6.set1 (.slice none 0 0))
    clear z5 z6
    go_wp2_with (first | (refine wpList_store_row rfl 131 _ _ rfl w4.heap.size _ rfl rfl 131 _ X4.out (by rw [ca_size]; exact Try.bdSize) (by rw [ca_size, ca_size]) (brd_one _ _) ?_) | (refine wpList_load_row rfl 131 _ rfl w4.heap.size rfl 131 _ (0, 0) _ X5.out Try.underlying131 rfl (by rw [ca_size]; exact Try.bdSize) ?_) | (refine wpList_load_row rfl 131 _ rfl w2.heap.size rfl 131 _ (0, 0) _ HX6.out Try.underlying131 rfl (by rw [ca_size]; exact Try.bdSize) ?_))
    rw [← HW5.out] at Z7
    rw [← HW5.out]
    refine bodyPost_ret (results_cell2 rfl _ _ _ (w.heap.size + 1) 85 #[.int .i64 0, .slice none 0 0] (0, 0) _ rfl Z7.out Try.underlying85 rfl (by kernel_rfl)) rfl ⟨none, 0, rfl, own_nil _ _, (B5.setCell (by simp) _).setCell (by simp) _⟩
end Go.Proofs.Ytmbfobcbnnalbaa
