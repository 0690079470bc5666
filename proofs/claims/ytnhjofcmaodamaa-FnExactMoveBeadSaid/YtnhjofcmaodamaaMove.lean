/-
  Contracts: MoveBead of the program.
-/
import Derived.Test.YtnhjofcmaodamaaBetw
import Derived.Test.YtnhjofcmaodamaaCB
import Derived.Deep.RegionWith
namespace Go.Proofs.Ytnhjofcmaodamaa
open Go.RowKit

def mbB (r : Int) (xs : List Int) (a : Int) : Bool := isAba r xs && canGo xs a (a - r)
def mbR (r : Int) (xs : List Int) (a : Int) : Int := if mbB r xs a then r else 0
def mbF (r : Int) (xs : List Int) (a : Int) : List Int := if mbB r xs a then insF (mvL a (a - r) xs) else []
def mbN (r : Int) (xs : List Int) (a : Int) : Int := if mbB r xs a then btN xs (a - r) a xs.length else 0
theorem mb_no {r : Int} {xs : List Int} {a : Int} (h : mbB r xs a = false) : mbR r xs a = 0 ∧ mbF r xs a = [] ∧ mbN r xs a = 0 := by simp [mbR, mbF, mbN, h]
theorem mb_yes {r : Int} {xs : List Int} {a : Int} (h : mbB r xs a = true) : mbR r xs a = r ∧ mbF r xs a = insF (mvL a (a - r) xs) ∧ mbN r xs a = btN xs (a - r) a xs.length := by simp [mbR, mbF, mbN, h]
theorem mb_len {t : Nat} {xs : List Int} {a : Int} (G : GoodB xs) (h : canGo xs a (a - t) = true) : (insF (mvL a (a - t) xs)).length = xs.length := by
  simp only [canGo, Bool.and_eq_true, decide_eq_true_eq, Bool.not_eq_true', decide_eq_false_iff_not] at h
  rw [(insF_all (mvL_nodup (a := a) (pw_nodup (rise_pw G.rise.up)) h.2.2)).2.2]; simp [mvL]
theorem bound_MoveBead (r : Int) (xs : List Int) (a : Int) : (mbF r xs a).length ≤ 1048576 := by
  cases h : mbB r xs a
  · rw [(mb_no h).2.1]; simp
  · rw [(mb_yes h).2.1]
    simp only [mbB, isAba, Bool.and_eq_true] at h
    have hr := inB_iff.1 h.1.1
    have G := goodB_iff.1 h.1.2
    obtain ⟨t, rfl⟩ : ∃ t : Nat, r = t := ⟨r.toNat, by omega⟩
    rw [mb_len G h.2]
    have := G.len; omega

set_option maxRecDepth 100000 in
set_option maxHeartbeats 8000000 in
theorem impl_MoveBead (r : Int) (A : Option Addr) (c : Nat) (xs : List Int) (a : Int) (w : World) (hl : xs.length ≤ 1048576) (hc : Cells w A xs) (_ : I64 a) :
    Calls Try.prog 27 #[.agg #[.int .i64 r, .slice A xs.length c], .int .i64 a] w fun e w' => ∃ A' c', e = .returned (.tuple #[.agg #[.int .i64 (mbR r xs a), .slice A' (mbF r xs a).length c'], .int .i64 (mbN r xs a), .bool (mbB r xs a)]) ∧ Own w' w.heap.size A' c' (mbF r xs a) ∧ Below w.heap.size w w' := by
  have hz := Try.bdZero
  unfold bdV at hz
  obtain ⟨w0, hw0⟩ : ∃ w0, w0 = (w.alloc (.cells #[.int .i64 r, .slice A xs.length c] 26)).alloc (.cells #[.int .i64 0, .slice none 0 0] 26) := ⟨_, rfl⟩
  have y0 : Box2 w0 w.heap.size 26 (.int .i64 r) (.slice A xs.length c) := by rw [hw0]; exact (Box2.new w _ _ _).alloc _
  have z0 : Box2 w0 (w.heap.size + 1) 26 (.int .i64 0) (.slice none 0 0) := by
    rw [hw0]; have h := Box2.new (w.alloc (.cells #[.int .i64 r, .slice A xs.length c] 26)) 26 (.int .i64 0) (.slice none 0 0); rw [World.size_alloc] at h; exact h
  have b0 : Below w.heap.size w w0 := by rw [hw0]; exact ((Below.refl _ _).alloc (Nat.le_refl _) _).alloc (by simp) _
  have hs0 : w0.heap.size = w.heap.size + 1 + 1 := by rw [hw0]; simp
  have h0 := y0.cell0
  have h1 := y0.cell1
  rw [hw0] at h0 h1
  have HW := hid hw0
  clear hw0
  cases hab : isAba r xs
  · obtain ⟨e1, e2, e4⟩ := mb_no (r := r) (xs := xs) (a := a) (by simp [mbB, hab])
    rw [e1, e2, e4, show mbB r xs a = false by simp [mbB, hab]]
    have HA := hid hab
    clear hab e1 e2 e4
    go_enter Try.func27, Try.ntmps27
    go_wp2_with fail
    rw [← HW.out]
    refine (IsAbacus_b r A c xs w0 hl (hc.below b0) _ HA.out).mono ?_
    rintro e w1 ⟨rfl, b1⟩
    have z1 := z0.next b1
    have f1 := z1.cell0
    have f2 := z1.froz 0
    have z2 := z1.set0 (.int .i64 0)
    have f3 := z2.cell1
    have f4 := z2.froz 1
    have Z3 := hid (z2.set1 (.slice none 0 0))
    clear z1 z2 z0 y0
    go_wp2_with fail
    refine bodyPost_ret (results_cell3 rfl _ _ _ (w.heap.size + 1) 26 #[.int .i64 0, .slice none 0 0] (0, 0) _ rfl Z3.out Try.underlying26 rfl (by kernel_rfl)) rfl ⟨none, 0, rfl, own_nil _ _, ((Below.next b0 b1).setCell (by simp) _).setCell (by simp) _⟩
  have hab2 := hab
  simp only [isAba, Bool.and_eq_true] at hab2
  have ht := inB_iff.1 hab2.1
  obtain ⟨t, rfl⟩ : ∃ t : Nat, r = t := ⟨r.toNat, by omega⟩
  have ht2 : 2 ≤ t ∧ t ≤ 6 := by omega
  have GB := hid (goodB_iff.1 hab2.2)
  have hlen := GB.out.len
  have HBO := hid fun W (h : Cells W A xs) => boardOf_any t A c xs W ht2 hlen (fun j hj => by have := GB.out.top hj; omega) h
  have HPG := hid (put_gen ht2 GB.out (a := a) (b := a - t) (.inr rfl))
  have HPA := hid fun F b W (hb : 0 ≤ a → a < (t : Int) * 36 → b < 1000000) => brdPut_all t F a b W ht2 hb
  obtain ⟨F, hF⟩ : ∃ F, F = bitsK t xs xs.length := ⟨_, rfl⟩
  rw [← hF] at HBO HPG
  have HA := hid hab
  have HY := hid y0; have HZ := hid z0
  have hlfb : mbB t xs a = canGo xs a (a - t) := by simp [mbB, hab]
  have HLF := hid hlfb
  clear hab hab2 hF y0 z0 hlfb
  by_cases hin : 0 ≤ a ∧ a < (t : Int) * 36
  · obtain ⟨hin1, hin2⟩ := hin
    cases hcg : canGo xs a (a - t)
    · obtain ⟨e1, e2, e4⟩ := mb_no (r := t) (xs := xs) (a := a) (by rw [HLF.out, hcg])
      have e3 : mbB t xs a = false := by rw [HLF.out, hcg]
      rw [e1, e2, e4, e3]
      have hput := fun W => HPA.out F (a - t) W (fun _ _ => by omega)
      rw [HPG.out.1 hcg] at hput
      have HPU := hid hput
      clear e1 e2 e3 e4 hcg hput
      go_enter Try.func27, Try.ntmps27
      go_wp2_with fail
      rw [← HW.out]
      refine (IsAbacus_b t A c xs w0 hl (hc.below b0) _ HA.out).mono ?_
      rintro e w1 ⟨rfl, b1⟩
      have B1 := Below.next b0 b1
      have HY1 := hid (HY.out.next b1); have HZ1 := hid (HZ.out.next b1)
      have h2 := HY1.out.cell0
      have h3 := HY1.out.cell1
      have hs1 := b1.size
      clear h0 h1
      go_wp2_with fail
      refine (HBO.out _ (hc.later B1)).mono ?_
      rintro e w2 ⟨rfl, b2⟩
      have B2 := Below.next B1 b2
      have hs2 := b2.size
      have X0 := hid (Blk.new w2 77 217 (brdV 0 fun _ => false))
      have X3 := hid (setRow_blk X0.out (brdV t F))
      obtain ⟨w3, hw3⟩ : ∃ w3, w3 = (w2.alloc (.cells (ca 217 (brdV 0 fun _ => false)) 77)).setRow w2.heap.size (ca 217 (brdV t F)) := ⟨_, rfl⟩
      have B3 : Below w.heap.size w w3 := by rw [hw3]; exact setRow_below (B2.alloc (by omega) _) (by omega) _
      have b23 : Below w2.heap.size w2 w3 := by rw [hw3]; exact setRow_below ((Below.refl _ _).alloc (Nat.le_refl _) _) (Nat.le_refl _) _
      have HX3 : Hid (Blk w3 w2.heap.size 77 217 (brdV t F)) := by rw [hw3]; exact X3
      have hs3 : w3.heap.size = w2.heap.size + 1 := by rw [hw3]; simp
      have HY3 := hid ((HY1.out.next b2).next b23); have HZ3 := hid ((HZ1.out.next b2).next b23)
      have h4 := HY3.out.cell0
      rw [hw3] at h4
      have HW3 := hid hw3
      clear h2 h3 hw3
      unfold bdV
      go_wp2_with (first | (refine wpList_store_row rfl 77 _ _ rfl w2.heap.size _ rfl rfl 77 _ X0.out (by rw [ca_size]; exact Try.bdSize) (by rw [ca_size, ca_size]) (brd_one _ _) ?_) | (refine wpList_load_row rfl 77 _ rfl w2.heap.size rfl 77 _ (0, 0) _ X3.out Try.underlying77 rfl (by rw [ca_size]; exact Try.bdSize) ?_))
      rw [← HW3.out]
      refine (HPU.out _).mono ?_
      rintro e w4 ⟨rfl, b4⟩
      have B4 := Below.next B3 b4
      have hs4 := b4.size
      have X4 := hid (Blk.new w4 77 217 (brdV 0 fun _ => false))
      have X5 := hid (setRow_blk X4.out (brdV t (F)))
      obtain ⟨w5, hw5⟩ : ∃ w5, w5 = (w4.alloc (.cells (ca 217 (brdV 0 fun _ => false)) 77)).setRow w4.heap.size (ca 217 (brdV t (F))) := ⟨_, rfl⟩
      have B5 : Below w.heap.size w w5 := by rw [hw5]; exact setRow_below (B4.alloc (by omega) _) (by omega) _
      have b45 : Below w4.heap.size w4 w5 := by rw [hw5]; exact setRow_below ((Below.refl _ _).alloc (Nat.le_refl _) _) (Nat.le_refl _) _
      have HX5 : Hid (Blk w5 w4.heap.size 77 217 (brdV t (F))) := by rw [hw5]; exact X5
      have HX6 := hid ((HX3.out.next b4).next b45)
      have z5 := (HZ3.out.next b4).next b45
      have HZ5 := hid z5
      rw [hw5] at HX6
      have HW5 := hid hw5
      have heq := fun W => run_eq_bd (t : Int) (by unfold I64; omega) (F) F W true (by simp)
      unfold bdV at heq ⊢
      clear h4 hw5 z5
      have z5 := HZ5.out
      rw [HW5.out] at z5
      have f1 := z5.cell0
      have f2 := z5.froz 0
      have z6 := z5.set0 (.int .i64 0)
      have f3 := z6.cell1
      have f4 := z6.froz 1
      have Z7 := hid (z6.set1 (.slice none 0 0))
      clear z5 z6
      go_wp2_with (first | (refine wpList_store_row rfl 77 _ _ rfl w4.heap.size _ rfl rfl 77 _ X4.out (by rw [ca_size]; exact Try.bdSize) (by rw [ca_size, ca_size]) (brd_one _ _) ?_) | (refine wpList_load_row rfl 77 _ rfl w4.heap.size rfl 77 _ (0, 0) _ X5.out Try.underlying77 rfl (by rw [ca_size]; exact Try.bdSize) ?_) | (refine wpList_load_row rfl 77 _ rfl w2.heap.size rfl 77 _ (0, 0) _ HX6.out Try.underlying77 rfl (by rw [ca_size]; exact Try.bdSize) ?_))
      rw [← HW5.out] at Z7
      rw [← HW5.out]
      refine bodyPost_ret (results_cell3 rfl _ _ _ (w.heap.size + 1) 26 #[.int .i64 0, .slice none 0 0] (0, 0) _ rfl Z7.out Try.underlying26 rfl (by kernel_rfl)) rfl ⟨none, 0, rfl, own_nil _ _, (B5.setCell (by simp) _).setCell (by simp) _⟩
    · have hput := fun W => HPA.out F (a - t) W (fun _ _ => by omega)
      have HPU := hid hput
      obtain ⟨⟨kk, hk1, hk2⟩, hk3⟩ := HPG.out.2 hcg
      have hab3 := fun W => brdAb_any t (putB t F a (a - t)) W ht2
      have hdg := down_good ht2 GB.out hcg (by omega)
      have e3 : mbB t xs a = true := by rw [HLF.out, hcg]
      obtain ⟨e1, e2, e4⟩ := mb_yes e3
      have hml := mb_len GB.out hcg
      have hqT : abT t (putB t F a (a - t)) = t := by unfold abT; rw [hk3, hdg]; rfl
      have hqX : abX t (putB t F a (a - t)) = insF (mvL a (a - t) xs) := by unfold abX; rw [hk3, hdg]; rfl
      rw [← hk3] at hdg
      rw [hqT, hqX, hdg] at hab3
      rw [e1, e2, e4, e3]
      obtain ⟨F', hF'⟩ : ∃ F', F' = putB t F a (a - t) := ⟨_, rfl⟩
      rw [← hF'] at hab3 hk2 HPU
      have HAB := hid hab3
      have HNE := hid (show ∃ k, k < 216 ∧ F' k ≠ F k from ⟨kk, hk1, fun e => hk2 e.symm⟩)
      obtain ⟨rX, hrX⟩ : ∃ rX, rX = insF (mvL a (a - t) xs) := ⟨_, rfl⟩
      obtain ⟨rN, hrN⟩ : ∃ rN, rN = btN xs (a - t) a xs.length := ⟨_, rfl⟩
      rw [← hrX] at HAB hml ⊢
      rw [hml] at HAB ⊢
      have hbt := fun W (h : Cells W A xs) => beadsBetween_any A xs c (a - t) a W (by omega) h
      rw [← hrN] at hbt ⊢
      have HBT := hid hbt
      have HML := hid hml
      clear e1 e2 e3 e4 hcg hput hk1 hk2 hk3 hF' hab3 hrX hrN hbt hml hqT hqX hdg
      go_enter Try.func27, Try.ntmps27
      go_wp2_with fail
      rw [← HW.out]
      refine (IsAbacus_b t A c xs w0 hl (hc.below b0) _ HA.out).mono ?_
      rintro e w1 ⟨rfl, b1⟩
      have B1 := Below.next b0 b1
      have HY1 := hid (HY.out.next b1); have HZ1 := hid (HZ.out.next b1)
      have h2 := HY1.out.cell0
      have h3 := HY1.out.cell1
      have hs1 := b1.size
      clear h0 h1
      go_wp2_with fail
      refine (HBO.out _ (hc.later B1)).mono ?_
      rintro e w2 ⟨rfl, b2⟩
      have B2 := Below.next B1 b2
      have hs2 := b2.size
      have X0 := hid (Blk.new w2 77 217 (brdV 0 fun _ => false))
      have X3 := hid (setRow_blk X0.out (brdV t F))
      obtain ⟨w3, hw3⟩ : ∃ w3, w3 = (w2.alloc (.cells (ca 217 (brdV 0 fun _ => false)) 77)).setRow w2.heap.size (ca 217 (brdV t F)) := ⟨_, rfl⟩
      have B3 : Below w.heap.size w w3 := by rw [hw3]; exact setRow_below (B2.alloc (by omega) _) (by omega) _
      have b23 : Below w2.heap.size w2 w3 := by rw [hw3]; exact setRow_below ((Below.refl _ _).alloc (Nat.le_refl _) _) (Nat.le_refl _) _
      have HX3 : Hid (Blk w3 w2.heap.size 77 217 (brdV t F)) := by rw [hw3]; exact X3
      have hs3 : w3.heap.size = w2.heap.size + 1 := by rw [hw3]; simp
      have HY3 := hid ((HY1.out.next b2).next b23); have HZ3 := hid ((HZ1.out.next b2).next b23)
      have h4 := HY3.out.cell0
      rw [hw3] at h4
      have HW3 := hid hw3
      clear h2 h3 hw3
      unfold bdV
      go_wp2_with (first | (refine wpList_store_row rfl 77 _ _ rfl w2.heap.size _ rfl rfl 77 _ X0.out (by rw [ca_size]; exact Try.bdSize) (by rw [ca_size, ca_size]) (brd_one _ _) ?_) | (refine wpList_load_row rfl 77 _ rfl w2.heap.size rfl 77 _ (0, 0) _ X3.out Try.underlying77 rfl (by rw [ca_size]; exact Try.bdSize) ?_))
      rw [← HW3.out]
      refine (HPU.out _).mono ?_
      rintro e w4 ⟨rfl, b4⟩
      have B4 := Below.next B3 b4
      have hs4 := b4.size
      have X4 := hid (Blk.new w4 77 217 (brdV 0 fun _ => false))
      have X5 := hid (setRow_blk X4.out (brdV t (F')))
      obtain ⟨w5, hw5⟩ : ∃ w5, w5 = (w4.alloc (.cells (ca 217 (brdV 0 fun _ => false)) 77)).setRow w4.heap.size (ca 217 (brdV t (F'))) := ⟨_, rfl⟩
      have B5 : Below w.heap.size w w5 := by rw [hw5]; exact setRow_below (B4.alloc (by omega) _) (by omega) _
      have b45 : Below w4.heap.size w4 w5 := by rw [hw5]; exact setRow_below ((Below.refl _ _).alloc (Nat.le_refl _) _) (Nat.le_refl _) _
      have HX5 : Hid (Blk w5 w4.heap.size 77 217 (brdV t (F'))) := by rw [hw5]; exact X5
      have HX6 := hid ((HX3.out.next b4).next b45)
      have z5 := (HZ3.out.next b4).next b45
      have HZ5 := hid z5
      rw [hw5] at HX6
      have HW5 := hid hw5
      have heq := fun W => run_eq_bd (t : Int) (by unfold I64; omega) (F') F W false (by obtain ⟨k, h1, h2⟩ := HNE.out; exact ⟨fun h => (by cases h), fun h => absurd (h k h1) h2⟩)
      unfold bdV at heq ⊢
      clear h4 hw5 z5
      go_wp2_with (first | (refine wpList_store_row rfl 77 _ _ rfl w4.heap.size _ rfl rfl 77 _ X4.out (by rw [ca_size]; exact Try.bdSize) (by rw [ca_size, ca_size]) (brd_one _ _) ?_) | (refine wpList_load_row rfl 77 _ rfl w4.heap.size rfl 77 _ (0, 0) _ X5.out Try.underlying77 rfl (by rw [ca_size]; exact Try.bdSize) ?_) | (refine wpList_load_row rfl 77 _ rfl w2.heap.size rfl 77 _ (0, 0) _ HX6.out Try.underlying77 rfl (by rw [ca_size]; exact Try.bdSize) ?_))
      rw [← HW5.out]
      refine (HAB.out _).mono ?_
      rintro e w6 ⟨A6, c6, rfl, o6, b6⟩
      have hs5 := B5.size
      obtain ⟨w7, hw7⟩ : ∃ w7, w7 = w6.alloc (.cells #[.int .i64 t, .slice A6 xs.length c6] 26) := ⟨_, rfl⟩
      have n7 : Box2 w7 w6.heap.size 26 (.int .i64 t) (.slice A6 xs.length c6) := by rw [hw7]; exact Box2.new _ _ _ _
      have b67 : Below w6.heap.size w6 w7 := by rw [hw7]; exact (Below.refl _ _).alloc (Nat.le_refl _) _
      have B6 := Below.next B5 b6
      have B7 := Below.next B6 b67
      have hsw5 : w.heap.size + 1 + 1 ≤ w5.heap.size := by have := b45.size; omega
      have hs6 := b6.size
      have hs7 := b67.size
      have HZ7 := hid ((HZ5.out.next b6).next b67)
      have HY7 := hid ((((HY3.out.next b4).next b45).next b6).next b67)
      have HN7 := hid n7
      have HO7 := hid (o6.below b67)
      have HW7 := hid hw7
      clear n7 hw7
      go_wp2_with fail
      rw [← HW7.out]
      have k1 : w7.drew.cell? ⟨w6.heap.size, 0, none⟩ = some (.int .i64 t) := HN7.out.cell0
      have k2 : w7.drew.cell? ⟨w6.heap.size, 1, none⟩ = some (.slice A6 xs.length c6) := HN7.out.cell1
      have k3 : w7.drew.cell? ⟨w.heap.size, 0, none⟩ = some (.int .i64 t) := HY7.out.cell0
      have k4 : w7.drew.cell? ⟨w.heap.size, 1, none⟩ = some (.slice A xs.length c) := HY7.out.cell1
      have bd := below_drew' w7 1
      have hcd : Cells w7.drew A xs := (hc.later B7).below bd
      have hwa : IntKind.i64.wrap (a - t) = a - t := IntWalk.i64_in _ (by omega)
      go_region_with (go_at_call 90; refine (HBT.out _ hcd).mono ?_; rintro e w8 ⟨rfl, b8⟩; have n8 := (show Box2 w7.drew _ _ _ _ from HN7.out).next b8; have m1 := n8.cell0; have m2 := n8.cell1; have z8 := (show Box2 w7.drew _ _ _ _ from HZ7.out).next b8; have f1 := z8.cell0; have f2 := z8.froz 0; have z9 := z8.set0 (.int .i64 t); have f3 := z9.cell1; have f4 := z9.froz 1)
      all_goals go_wp2_with fail
      all_goals exact bodyPost_ret (results_cell3 rfl _ _ _ (w.heap.size + 1) 26 #[.int .i64 t, .slice A6 xs.length c6] (0, 0) _ rfl (z9.set1 (.slice A6 xs.length c6)) Try.underlying26 rfl (by kernel_rfl)) rfl ⟨A6, c6, rfl, Own.more (own_of_len' (own_set_other (g := w.heap.size + 1) (k := 1) (u := .slice A6 xs.length c6) (own_set_other (g := w.heap.size + 1) (k := 0) (u := .int .i64 t) (own_at_len' ((show Own w7.drew _ _ _ _ from HO7.out).below b8) HML.out) (by omega)) (by omega)) HML.out) (by omega), ((Below.next (below_drewN B7 1) b8).setCell (by simp) _).setCell (by simp) _⟩
  · have hcg : canGo xs a (a - t) = false := by
      cases h : canGo xs a (a - t)
      · rfl
      · exfalso
        simp only [canGo, Bool.and_eq_true, decide_eq_true_eq] at h
        obtain ⟨j, hj, e⟩ := mem_getD.1 h.1
        have := GB.out.top hj
        omega
    obtain ⟨e1, e2, e4⟩ := mb_no (r := t) (xs := xs) (a := a) (by rw [HLF.out, hcg])
    have e3 : mbB t xs a = false := by rw [HLF.out, hcg]
    rw [e1, e2, e4, e3]
    have hput := fun b W => HPA.out F b W (fun h1 h2 => absurd ⟨h1, h2⟩ hin)
    have hpf : ∀ b, putB t F a b = F := fun b => by
      have : canB t a b = false := by
        cases h : canB t a b
        · rfl
        · exfalso; simp only [canB, Bool.and_eq_true, decide_eq_true_eq] at h; exact hin ⟨h.1, h.2.1⟩
      simp [putB, this]
    have hput2 : ∀ b W, Calls Try.prog 88 #[bdV t F, .int .i64 a, .int .i64 b] W fun e w' => e = .returned (bdV t F) ∧ Below W.heap.size W w' := fun b W => by
      have h := hput b W; rw [hpf b] at h; exact h
    have HPU := hid hput2
    clear e1 e2 e3 e4 hcg hput hput2 hpf hin
    go_enter Try.func27, Try.ntmps27
    go_wp2_with fail
    rw [← HW.out]
    refine (IsAbacus_b t A c xs w0 hl (hc.below b0) _ HA.out).mono ?_
    rintro e w1 ⟨rfl, b1⟩
    have B1 := Below.next b0 b1
    have HY1 := hid (HY.out.next b1); have HZ1 := hid (HZ.out.next b1)
    have h2 := HY1.out.cell0
    have h3 := HY1.out.cell1
    have hs1 := b1.size
    clear h0 h1
    go_wp2_with fail
    refine (HBO.out _ (hc.later B1)).mono ?_
    rintro e w2 ⟨rfl, b2⟩
    have B2 := Below.next B1 b2
    have hs2 := b2.size
    have X0 := hid (Blk.new w2 77 217 (brdV 0 fun _ => false))
    have X3 := hid (setRow_blk X0.out (brdV t F))
    obtain ⟨w3, hw3⟩ : ∃ w3, w3 = (w2.alloc (.cells (ca 217 (brdV 0 fun _ => false)) 77)).setRow w2.heap.size (ca 217 (brdV t F)) := ⟨_, rfl⟩
    have B3 : Below w.heap.size w w3 := by rw [hw3]; exact setRow_below (B2.alloc (by omega) _) (by omega) _
    have b23 : Below w2.heap.size w2 w3 := by rw [hw3]; exact setRow_below ((Below.refl _ _).alloc (Nat.le_refl _) _) (Nat.le_refl _) _
    have HX3 : Hid (Blk w3 w2.heap.size 77 217 (brdV t F)) := by rw [hw3]; exact X3
    have hs3 : w3.heap.size = w2.heap.size + 1 := by rw [hw3]; simp
    have HY3 := hid ((HY1.out.next b2).next b23); have HZ3 := hid ((HZ1.out.next b2).next b23)
    have h4 := HY3.out.cell0
    rw [hw3] at h4
    have HW3 := hid hw3
    clear h2 h3 hw3
    unfold bdV
    go_wp2_with (first | (refine wpList_store_row rfl 77 _ _ rfl w2.heap.size _ rfl rfl 77 _ X0.out (by rw [ca_size]; exact Try.bdSize) (by rw [ca_size, ca_size]) (brd_one _ _) ?_) | (refine wpList_load_row rfl 77 _ rfl w2.heap.size rfl 77 _ (0, 0) _ X3.out Try.underlying77 rfl (by rw [ca_size]; exact Try.bdSize) ?_))
    rw [← HW3.out]
    refine (HPU.out _ _).mono ?_
    rintro e w4 ⟨rfl, b4⟩
    have B4 := Below.next B3 b4
    have hs4 := b4.size
    have X4 := hid (Blk.new w4 77 217 (brdV 0 fun _ => false))
    have X5 := hid (setRow_blk X4.out (brdV t (F)))
    obtain ⟨w5, hw5⟩ : ∃ w5, w5 = (w4.alloc (.cells (ca 217 (brdV 0 fun _ => false)) 77)).setRow w4.heap.size (ca 217 (brdV t (F))) := ⟨_, rfl⟩
    have B5 : Below w.heap.size w w5 := by rw [hw5]; exact setRow_below (B4.alloc (by omega) _) (by omega) _
    have b45 : Below w4.heap.size w4 w5 := by rw [hw5]; exact setRow_below ((Below.refl _ _).alloc (Nat.le_refl _) _) (Nat.le_refl _) _
    have HX5 : Hid (Blk w5 w4.heap.size 77 217 (brdV t (F))) := by rw [hw5]; exact X5
    have HX6 := hid ((HX3.out.next b4).next b45)
    have z5 := (HZ3.out.next b4).next b45
    have HZ5 := hid z5
    rw [hw5] at HX6
    have HW5 := hid hw5
    have heq := fun W => run_eq_bd (t : Int) (by unfold I64; omega) (F) F W true (by simp)
    unfold bdV at heq ⊢
    clear h4 hw5 z5
    have z5 := HZ5.out
    rw [HW5.out] at z5
    have f1 := z5.cell0
    have f2 := z5.froz 0
    have z6 := z5.set0 (.int .i64 0)
    have f3 := z6.cell1
    have f4 := z6.froz 1
    have Z7 := hid (z6.set1 (.slice none 0 0))
    clear z5 z6
    go_wp2_with (first | (refine wpList_store_row rfl 77 _ _ rfl w4.heap.size _ rfl rfl 77 _ X4.out (by rw [ca_size]; exact Try.bdSize) (by rw [ca_size, ca_size]) (brd_one _ _) ?_) | (refine wpList_load_row rfl 77 _ rfl w4.heap.size rfl 77 _ (0, 0) _ X5.out Try.underlying77 rfl (by rw [ca_size]; exact Try.bdSize) ?_) | (refine wpList_load_row rfl 77 _ rfl w2.heap.size rfl 77 _ (0, 0) _ HX6.out Try.underlying77 rfl (by rw [ca_size]; exact Try.bdSize) ?_))
    rw [← HW5.out] at Z7
    rw [← HW5.out]
    refine bodyPost_ret (results_cell3 rfl _ _ _ (w.heap.size + 1) 26 #[.int .i64 0, .slice none 0 0] (0, 0) _ rfl Z7.out Try.underlying26 rfl (by kernel_rfl)) rfl ⟨none, 0, rfl, own_nil _ _, (B5.setCell (by simp) _).setCell (by simp) _⟩
end Go.Proofs.Ytnhjofcmaodamaa
