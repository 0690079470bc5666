/-
  Contracts: RunnersOf of the program and of the model.
-/
import Derived.Test.YtnhjofcmaodamaaCF
namespace Go.Proofs.Ytnhjofcmaodamaa
open Go.RowKit

theorem roF_f {r : Int} {xs : List Int} (h : isAba r xs = false) : roF r xs = [] := by simp [roF, h]
theorem roF_t {t : Nat} {xs : List Int} (h : isAba t xs = true) : roF t xs = rnS t xs := by simp [roF, h]

set_option maxRecDepth 100000 in
set_option maxHeartbeats 4000000 in
theorem spec_RunnersOf (r : Int) (A : Option Addr) (c : Nat) (xs : List Int) (w : World) (hl : xs.length ≤ 1048576) (hc : Cells w A xs) :
    Calls Try.prog 48 #[.agg #[.int .i64 r, .slice A xs.length c]] w fun e w' => ∃ A' c', e = .returned (.tuple #[.slice A' (roF r xs).length c', .bool (isAba r xs)]) ∧ Own2 w' w.heap.size w'.heap.size A' c' (roF r xs) ∧ Below w.heap.size w w' := by
  obtain ⟨w0, hw0⟩ : ∃ w0, w0 = w.alloc (.cells #[.int .i64 r, .slice A xs.length c] 26) := ⟨_, rfl⟩
  have y0 : Box2 w0 w.heap.size 26 (.int .i64 r) (.slice A xs.length c) := by rw [hw0]; exact Box2.new _ _ _ _
  have b0 : Below w.heap.size w w0 := by rw [hw0]; exact (Below.refl _ _).alloc (Nat.le_refl _) _
  have HY := hid y0
  have HW := hid hw0
  clear hw0 y0
  cases hab : isAba r xs
  · rw [roF_f hab]
    have HA := hid hab
    clear hab
    go_enter Try.func48, Try.ntmps48
    go_wp2_with fail
    rw [← HW.out]
    refine (abIs_b _ A c xs w0 hl (hc.below b0) _ HA.out).mono ?_
    rintro e w1 ⟨rfl, b1⟩
    go_wp2_with fail
    go_ret2
    exact ⟨none, 0, rfl, own2_nil _ _ _, Below.next b0 b1⟩
  have HA := hid hab
  have hab2 := hab
  simp only [isAba, Bool.and_eq_true] at hab2
  have ht := inB_iff.1 hab2.1
  obtain ⟨t, rfl⟩ : ∃ t : Nat, r = t := ⟨r.toNat, by omega⟩
  have GB := goodB_iff.1 hab2.2
  have HAR := hid fun W (h : Cells W A xs) => abRows_any t A c xs W (by omega) GB.len GB.rise.bd h
  rw [roF_t hab, rnS_len]
  clear hab hab2 GB
  go_enter Try.func48, Try.ntmps48
  go_wp2_with fail
  rw [← HW.out]
  refine (abIs_b _ A c xs w0 hl (hc.below b0) _ HA.out).mono ?_
  rintro e w1 ⟨rfl, b1⟩
  have B1 := Below.next b0 b1
  have f0 := (HY.out.next b1).cell0
  have f1 := (HY.out.next b1).cell1
  go_wp2_with fail
  refine (HAR.out _ (hc.below B1)).mono ?_
  rintro e w2 ⟨A2, c2, rfl, o2, b2⟩
  go_wp2_with fail
  go_ret2
  exact ⟨A2, c2, rfl, o2.more B1.size, Below.next B1 b2⟩

theorem Gr.base {w : World} {B B' g t : Nat} {rows : List (List Int)} {P : Nat → Option Addr} {C : Nat → Nat} (h : Gr w B g t rows P C) (hB : B' ≤ B) : Gr w B' g t rows P C := by
  refine ⟨h.len, ?_, fun j hj => (h.row j hj).more hB, h.apart⟩
  refine ⟨h.out.1, ?_⟩
  rcases h.out.2 with hn | ⟨g', cap, cur, hv, hb, rest⟩
  · exact .inl hn
  · exact .inr ⟨g', cap, cur, hv, Nat.le_trans hB hb, rest⟩

set_option maxRecDepth 100000 in
set_option maxHeartbeats 8000000 in
theorem RunnersOf_gr (t : Nat) (A : Option Addr) (c : Nat) (xs : List Int) (w : World) (hl : xs.length ≤ 1048576) (hc : Cells w A xs) (hab : isAba t xs = true) :
    Calls Try.prog 49 #[.agg #[.int .i64 t, .slice A xs.length c]] w fun e w' => ∃ g P C, e = .returned (.tuple #[.slice (some ⟨g, 0, none⟩) t t, .bool true]) ∧ Gr w' w.heap.size g t (rnS t xs) P C ∧ Below w.heap.size w w' := by
  have hz := Try.bdZero
  unfold bdV at hz
  obtain ⟨w0, hw0⟩ : ∃ w0, w0 = w.alloc (.cells #[.int .i64 t, .slice A xs.length c] 26) := ⟨_, rfl⟩
  have y0 : Box2 w0 w.heap.size 26 (.int .i64 t) (.slice A xs.length c) := by rw [hw0]; exact Box2.new _ _ _ _
  have b0 : Below w.heap.size w w0 := by rw [hw0]; exact (Below.refl _ _).alloc (Nat.le_refl _) _
  have HY := hid y0
  have HW := hid hw0
  clear hw0 y0
  have HA := hid hab
  have hab2 := hab
  simp only [isAba, Bool.and_eq_true] at hab2
  have ht := inB_iff.1 hab2.1
  have ht2 : 2 ≤ t ∧ t ≤ 6 := by omega
  have GB := hid (goodB_iff.1 hab2.2)
  have hlen := GB.out.len
  have HBO := hid fun W (h : Cells W A xs) => boardOf_any t A c xs W ht2 hlen (fun j hj => by have := GB.out.top hj; omega) h
  have HRS := hid fun i (hi : i < t) => rn_same ht2 GB.out hi
  obtain ⟨F, hF⟩ : ∃ F, F = bitsK t xs xs.length := ⟨_, rfl⟩
  rw [← hF] at HBO HRS
  have hmk := run_make_row' (P := Try.prog) 35 22 (.slice none 0 0) 24 Try.underlying35 Try.infoInts2 rfl .i64 .i64 t (by omega) (by omega)
  clear hab hab2 hF
  go_enter Try.func49, Try.ntmps49
  go_wp2_with fail
  rw [← HW.out]
  refine (IsAbacus_b _ A c xs w0 hl (hc.below b0) _ HA.out).mono ?_
  rintro e w1 ⟨rfl, b1⟩
  have B1 := Below.next b0 b1
  have f0 := (HY.out.next b1).cell0
  have f1 := (HY.out.next b1).cell1
  go_wp2_with fail
  refine (HBO.out _ (hc.below B1)).mono ?_
  rintro e w2 ⟨rfl, b2⟩
  have B2 := Below.next B1 b2
  have hs2 := B2.size
  have X0 := hid (Blk.new w2 77 217 (brdV 0 fun _ => false))
  have X3 := hid (setRow_blk X0.out (brdV t F))
  obtain ⟨w3, hw3⟩ : ∃ w3, w3 = (w2.alloc (.cells (ca 217 (brdV 0 fun _ => false)) 77)).setRow w2.heap.size (ca 217 (brdV t F)) := ⟨_, rfl⟩
  have B3 : Below w.heap.size w w3 := by rw [hw3]; exact setRow_below (B2.alloc (by omega) _) (by omega) _
  have HX3 : Hid (Blk w3 w2.heap.size 77 217 (brdV t F)) := by rw [hw3]; exact X3
  have hs3 : w3.heap.size = w2.heap.size + 1 := by rw [hw3]; simp
  have f2 := HX3.out.cell (k := 0) (by omega)
  have f2' : w3.cell? ⟨w2.heap.size, 0, none⟩ = some (.int .i64 t) := f2
  obtain ⟨w4, hw4⟩ : ∃ w4, w4 = w3.alloc (.cells (madeCells #[.slice none 0 0] t) 22) := ⟨_, rfl⟩
  have HG4 : Hid (Gr w4 w3.heap.size w3.heap.size t (midR (rnL t xs) t 0) (fun _ => none) (fun _ => 0)) := hid (by rw [hw4, midR_zero]; exact gr_start w3 t (by omega))
  have HX4 : Hid (Blk w4 w2.heap.size 77 217 (brdV t F)) := hid (by rw [hw4]; exact HX3.out.alloc _)
  have b34 : Below w3.heap.size w3 w4 := by rw [hw4]; exact (Below.refl _ _).alloc (Nat.le_refl _) _
  have B4 := Below.next B3 b34
  have hs4 : w4.heap.size = w3.heap.size + 1 := by rw [hw4]; simp
  rw [hw3] at f2' hw4
  have HW3 := hid hw3
  have HW4 := hid hw4
  clear f0 f1 f2 hw3 hw4
  unfold bdV
  go_wp2_with (refine wpList_store_row rfl 77 _ _ rfl w2.heap.size _ rfl rfl 77 _ X0.out (by rw [ca_size]; exact Try.bdSize) (by rw [ca_size, ca_size]) (brd_one _ _) ?_)
  rw [← HW4.out]
  rw [hs3] at HG4
  clear f2' HW3 HW4 hmk
  go_loopw [17] (fun i wr => ∃ k : Nat, k ≤ t ∧ i = .int .i64 k ∧ (∃ P C, Hid (Gr wr (w2.heap.size + 1) (w2.heap.size + 1) t (midR (rnL t xs) t k) P C)) ∧ Hid (Blk wr w2.heap.size 77 217 (brdV t F)) ∧ Below w.heap.size w wr ∧ w2.heap.size + 1 ≤ wr.heap.size) (fun i _ => t - (intOf i).toNat)
  case atStart => exact ⟨0, Nat.zero_le _, rfl, ⟨_, _, HG4⟩, HX4, B4, by omega⟩
  case round =>
    obtain ⟨k, hk, rfl, ⟨P, C, HG⟩, HX, hbel, hsz⟩ := hrel
    clear HG4 HX4 X0 X3 HX3
    by_cases hlt : k < t
    · have hk6 : k < 6 := by omega
      have hrg : wr.rangeAt w2.heap.size (1 + k * 36) (caL 36 (bitV (lnB F k))) := HX.out.range (1 + k * 36) 36 (by omega) (bitV (lnB F k)) (fun q hq => by unfold brdV bitV lnB; rw [if_neg (by omega)]; congr 2; omega)
      have HRG := hid hrg
      have hcall := rows_any (lnB F k) wr
      rw [HRS.out k hlt] at hcall
      have hnx := midR_set (rnL t xs) t k
      have hml := midR_len (rnL t xs) t k
      obtain ⟨L, hL⟩ : ∃ L, L = rnL t xs k := ⟨_, rfl⟩
      rw [← hL] at hcall hnx
      have HCA := hid hcall
      have HNX := hid hnx
      have HML := hid hml
      clear hrg hcall hnx hml hL
      go_wp2_with (refine wpList_load_mid rfl 74 _ rfl w2.heap.size (1 + k * 36) rfl (caL 36 (bitV (lnB F k))) _ HRG.out Try.underlying74 rfl (by rw [caL_len]; exact Try.rnSize) ?_)
      refine HCA.out.mono ?_
      rintro e w6 ⟨A6, c6, rfl, o6, b6⟩
      have h6 := HG.out.below b6
      have hcell := World.ownsRow.cellAt h6.out k (by omega)
      rw [RL_get P C _ k (by rw [HML.out]; exact hlt)] at hcell
      have hfz := World.ownsRow.frozenAt h6.out k
      have hg7 := HG.out.place hlt b6 o6 hsz
      rw [HNX.out] at hg7
      have HG7 := hid hg7
      have HX7 := hid ((HX.out.next b6).other (g' := w2.heap.size + 1) (k := k) (by omega) (.slice A6 L.length c6))
      have B6 := Below.next hbel b6
      have hs6 := b6.size
      clear h6 hg7
      go_wp2_with fail
      go_roundw
      case rel => exact ⟨k + 1, by omega, by go_num, ⟨_, _, HG7⟩, HX7, B6.setCell (by simp; omega) _, by simp; omega⟩
      case measure => simp [intOf]; omega
    · have hkl : k = t := by omega
      subst hkl
      rw [midR_all] at HG
      go_wp2_with fail
      go_ret2
      exact ⟨_, _, _, rfl, HG.out.base (by omega), hbel⟩

set_option maxRecDepth 100000 in
set_option maxHeartbeats 8000000 in
theorem impl_RunnersOf (r : Int) (A : Option Addr) (c : Nat) (xs : List Int) (w : World) (hl : xs.length ≤ 1048576) (hc : Cells w A xs) :
    Calls Try.prog 49 #[.agg #[.int .i64 r, .slice A xs.length c]] w fun e w' => ∃ A' c', e = .returned (.tuple #[.slice A' (roF r xs).length c', .bool (isAba r xs)]) ∧ Own2 w' w.heap.size w'.heap.size A' c' (roF r xs) ∧ Below w.heap.size w w' := by
  obtain ⟨w0, hw0⟩ : ∃ w0, w0 = w.alloc (.cells #[.int .i64 r, .slice A xs.length c] 26) := ⟨_, rfl⟩
  have y0 : Box2 w0 w.heap.size 26 (.int .i64 r) (.slice A xs.length c) := by rw [hw0]; exact Box2.new _ _ _ _
  have b0 : Below w.heap.size w w0 := by rw [hw0]; exact (Below.refl _ _).alloc (Nat.le_refl _) _
  have HY := hid y0
  have HW := hid hw0
  clear hw0 y0
  cases hab : isAba r xs
  · rw [roF_f hab]
    have HA := hid hab
    clear hab
    go_enter Try.func49, Try.ntmps49
    go_wp2_with fail
    rw [← HW.out]
    refine (IsAbacus_b _ A c xs w0 hl (hc.below b0) _ HA.out).mono ?_
    rintro e w1 ⟨rfl, b1⟩
    go_wp2_with fail
    go_ret2
    exact ⟨none, 0, rfl, own2_nil _ _ _, Below.next b0 b1⟩
  obtain ⟨t, rfl⟩ : ∃ t : Nat, r = t := ⟨r.toNat, by simp only [isAba, Bool.and_eq_true] at hab; have := inB_iff.1 hab.1; omega⟩
  rw [roF_t hab, rnS_len]
  refine (RunnersOf_gr t A c xs w hl hc hab).mono ?_
  rintro e w' ⟨g, P, C, rfl, hg, hb⟩
  exact ⟨_, _, rfl, hg.own2, hb⟩
end Go.Proofs.Ytnhjofcmaodamaa
