/-
  Contracts: the board of an abacus.
-/
import Derived.Test.YtnhjofcmaodamaaBrdPut
import Derived.Test.YtnhjofcmaodamaaBox2
namespace Go.Proofs.Ytnhjofcmaodamaa
open Go.RowKit

def atQ (t x : Nat) : Nat := 36 * (x % t) + x / t
def bitsK (t : Nat) (xs : List Int) : Nat → Nat → Bool
  | 0 => fun _ => false
  | k + 1 => updB (bitsK t xs k) (atQ t (xs.getD k 0).toNat) true
theorem brd_upd (t : Int) (F : Nat → Bool) (q : Nat) (b : Bool) (j : Nat) : updV (brdV t F) (1 + q) (.bool b) j = brdV t (updB F q b) j := by
  unfold updV brdV updB
  by_cases h : j = 1 + q
  · rw [if_pos h, if_neg (by omega), if_pos (by omega)]
  · rw [if_neg h]
    by_cases h0 : j = 0
    · rw [if_pos h0, if_pos h0]
    · rw [if_neg h0, if_neg h0, if_neg (by omega)]
theorem brd_first (t s : Int) (F : Nat → Bool) : (ca 217 (brdV s F)).setIfInBounds 0 (.int .i64 t) = ca 217 (brdV t F) := by
  rw [ca_set]
  refine ca_ext fun k _ => ?_
  unfold updV brdV
  split <;> rfl
theorem brd_one (t : Int) (F : Nat → Bool) : (ca 217 (brdV t F)).all (·.oneCell') = true := ca_one fun k _ => by unfold brdV; split <;> rfl

def zBrd : Array Value := ca 217 (brdV 0 fun _ => false)
set_option maxRecDepth 100000 in
set_option maxHeartbeats 4000000 in
theorem boardOf_any (t : Nat) (A : Option Addr) (c : Nat) (xs : List Int) (w : World) (ht : 2 ≤ t ∧ t ≤ 6) (hl : xs.length ≤ 40) (hb : ∀ j, j < xs.length → 0 ≤ xs.getD j 0 ∧ xs.getD j 0 < t * 36) (hc : Cells w A xs) :
    Calls Try.prog 87 #[.agg #[.int .i64 t, .slice A xs.length c]] w fun e w' => e = .returned (bdV t (bitsK t xs xs.length)) ∧ Below w.heap.size w w' := by
  have hz := Try.bdZero
  unfold bdV at hz ⊢
  have HB := hid hb
  have hne : ¬ (t : Int) = 0 := by omega
  have hZ : zBrd = ca 217 (brdV 0 fun _ => false) := rfl
  have hZs : zBrd.size = 217 := by rw [hZ, ca_size]
  have hZ1 : zBrd.setIfInBounds 0 (.int .i64 t) = ca 217 (brdV t fun _ => false) := by rw [hZ]; exact brd_first _ _ _
  have HZS := hid hZs; have HZ1 := hid hZ1
  rw [← hZ] at hz
  have y1 : Box2 ((((w.alloc (.cells #[.int .i64 t, .slice A xs.length c] 26)).alloc (.cells zBrd 77)).alloc (.cells zBrd 77)).setRow (w.heap.size + 1 + 1) (zBrd.setIfInBounds 0 (.int .i64 t))) w.heap.size 26 (.int .i64 t) (.slice A xs.length c) :=
    (((Box2.new w 26 _ _).alloc _).alloc _).keep (setRow_other _ _ _ _ (by omega))
  have x3 : (((w.alloc (.cells #[.int .i64 t, .slice A xs.length c] 26)).alloc (.cells zBrd 77)).alloc (.cells zBrd 77)).heap[w.heap.size + 1 + 1]? = some (.cells zBrd 77 (0, 0)) := by
    have h := heap_alloc_new ((w.alloc (.cells #[.int .i64 t, .slice A xs.length c] 26)).alloc (.cells zBrd 77)) (.cells zBrd 77)
    rw [World.size_alloc, World.size_alloc] at h; exact h
  have x2 : Blk ((((w.alloc (.cells #[.int .i64 t, .slice A xs.length c] 26)).alloc (.cells zBrd 77)).alloc (.cells zBrd 77)).setRow (w.heap.size + 1 + 1) (zBrd.setIfInBounds 0 (.int .i64 t))) (w.heap.size + 1) 77 217 (brdV 0 fun _ => false) := by
    have h := (Blk.new (w.alloc (.cells #[.int .i64 t, .slice A xs.length c] 26)) 77 217 (brdV 0 fun _ => false)).alloc (.cells zBrd 77)
    rw [World.size_alloc, ← hZ] at h
    exact h.otherR (by omega) _
  have x4 : Blk ((((w.alloc (.cells #[.int .i64 t, .slice A xs.length c] 26)).alloc (.cells zBrd 77)).alloc (.cells zBrd 77)).setRow (w.heap.size + 1 + 1) (zBrd.setIfInBounds 0 (.int .i64 t))) (w.heap.size + 1 + 1) 77 217 (brdV t fun _ => false) := by
    have h3 : Blk (((w.alloc (.cells #[.int .i64 t, .slice A xs.length c] 26)).alloc (.cells zBrd 77)).alloc (.cells zBrd 77)) (w.heap.size + 1 + 1) 77 217 (brdV 0 fun _ => false) := by unfold Blk; rw [← hZ]; exact x3
    rw [hZ1]; exact setRow_blk h3 _
  have hbel : Below w.heap.size w ((((w.alloc (.cells #[.int .i64 t, .slice A xs.length c] 26)).alloc (.cells zBrd 77)).alloc (.cells zBrd 77)).setRow (w.heap.size + 1 + 1) (zBrd.setIfInBounds 0 (.int .i64 t))) :=
    setRow_below ((((Below.refl _ _).alloc (Nat.le_refl _) _).alloc (by simp) _).alloc (by simp; omega) _) (by omega) _
  have hss : (zBrd.setIfInBounds 0 (.int .i64 t)).size = 217 := by rw [hZ1, ca_size]
  have hone : (zBrd.setIfInBounds 0 (.int .i64 t)).all (·.oneCell') = true := by rw [hZ1]; exact brd_one _ _
  have HSS := hid hss; have HONE := hid hone
  have hq1 := y1.cell1
  have Y1 := hid y1; have X2 := hid x2; have X4 := hid x4; have X3 := hid x3
  clear hZ hZ1 hss hone hb y1 x2 x4 x3
  go_enter Try.func87, Try.ntmps87
  go_wp2_with (first | (refine wpList_store_row rfl 77 _ _ rfl (w.heap.size + 1 + 1) _ rfl rfl 77 zBrd X3.out (by rw [HSS.out]; exact Try.bdSize) (by rw [HZS.out, HSS.out]) HONE.out ?_))
  go_loopw [12] (fun i wr => ∃ k : Nat, k ≤ xs.length ∧ i = .int .i64 k ∧ Hid (Blk wr (w.heap.size + 1 + 1) 77 217 (brdV t (bitsK t xs k))) ∧ Hid (Blk wr (w.heap.size + 1) 77 217 (brdV 0 fun _ => false)) ∧ Hid (Box2 wr w.heap.size 26 (.int .i64 t) (.slice A xs.length c)) ∧ Below w.heap.size w wr) (fun i _ => xs.length - (intOf i).toNat)
  case atStart => exact ⟨0, Nat.zero_le _, rfl, X4, X2, Y1, hbel⟩
  case round =>
    obtain ⟨k, hk, rfl, HX, HY, HZZ, hbw⟩ := hrel
    by_cases hlt : k < xs.length
    · obtain ⟨b, o, rfl, hcc⟩ := (hc.later hbw) (by omega)
      have hck := hcc k hlt
      have hxb := HB.out k hlt
      obtain ⟨x, hx⟩ : ∃ x : Nat, xs.getD k 0 = (x : Int) := ⟨(xs.getD k 0).toNat, by omega⟩
      rw [hx] at hck hxb
      have hml : x % t < t := Nat.mod_lt _ (by omega)
      have hdl : x / t < 36 := by rw [Nat.div_lt_iff_lt_mul (by omega)]; omega
      have htm : Int.tmod (x : Int) (t : Int) = ((x % t : Nat) : Int) := by rfl
      have htd : Int.tdiv (x : Int) (t : Int) = ((x / t : Nat) : Int) := by rfl
      have hq : bitsK t xs (k + 1) = updB (bitsK t xs k) (36 * (x % t) + x / t) true := by simp only [bitsK, atQ, hx, Int.toNat_natCast]
      have HQ := hid hq
      obtain ⟨i, hi⟩ : ∃ i, i = x % t := ⟨_, rfl⟩
      obtain ⟨r, hr⟩ : ∃ r, r = x / t := ⟨_, rfl⟩
      rw [← hi] at hml htm HQ
      rw [← hr] at hdl htd HQ
      have hi6 : i < 6 := by omega
      have f0 : wr.drew.cell? ⟨w.heap.size, 0, none⟩ = some (.int .i64 t) := HZZ.out.cell0
      have f1 : wr.drew.cell? ⟨w.heap.size + 1 + 1, 1 + i * 36 + r, none⟩ = some (brdV t (bitsK t xs k) (1 + i * 36 + r)) := HX.out.cell (by omega)
      have f2 : wr.drew.frozen? ⟨w.heap.size + 1 + 1, 1 + i * 36 + r, none⟩ = false := HX.out.froz _
      have hx4 := (show Blk wr.drew _ _ _ _ from HX.out).set (1 + i * 36 + r) (.bool true)
      have hx5 : Blk (wr.drew.setCell ⟨w.heap.size + 1 + 1, 1 + i * 36 + r, none⟩ (.bool true)) (w.heap.size + 1 + 1) 77 217 (brdV t (bitsK t xs (k + 1))) := hx4.to fun j _ => by rw [HQ.out, ← brd_upd]; congr 1; omega
      have hy5 := (show Blk wr.drew _ _ _ _ from HY.out).other (g' := w.heap.size + 1 + 1) (k := 1 + i * 36 + r) (by omega) (.bool true)
      have hz5 := (show Box2 wr.drew _ _ _ _ from HZZ.out).other (g' := w.heap.size + 1 + 1) (k := 1 + i * 36 + r) (by omega) (.bool true)
      have H5 := hid hx5; have H6 := hid hy5; have H7 := hid hz5
      have hb5 : Below w.heap.size w (wr.drew.setCell ⟨w.heap.size + 1 + 1, 1 + i * 36 + r, none⟩ (.bool true)) := (below_drewN hbw 1).setCell (by simp; omega) _
      clear hcc hi hr hq hx4 hx5 hy5 hz5 hx
      go_wp2_with fail
      go_region
      go_wp2_with fail
      go_roundw
      case rel => exact ⟨k + 1, by omega, by go_num, H5, H6, H7, hb5⟩
      case measure => simp [intOf]; omega
    · have hkl : k = xs.length := by omega
      subst hkl
      have z3 := setRow_blk HY.out (brdV t (bitsK t xs xs.length))
      go_wp2_with (first | (refine wpList_load_row rfl 77 _ rfl (w.heap.size + 1 + 1) rfl 77 _ (0, 0) _ HX.out Try.underlying77 rfl (by rw [ca_size]; exact Try.bdSize) ?_) | (refine wpList_store_row rfl 77 _ _ rfl (w.heap.size + 1) _ rfl rfl 77 _ HY.out (by rw [ca_size]; exact Try.bdSize) (by rw [ca_size, ca_size]) (brd_one _ _) ?_))
      refine bodyPost_ret (v := bdV t (bitsK t xs xs.length)) ?_ rfl ⟨rfl, setRow_below hbw (by omega) _⟩
      exact results_cell_row rfl _ _ (w.heap.size + 1) 77 _ (0, 0) _ rfl z3 Try.underlying77 rfl (by rw [ca_size]; exact Try.bdSize)
end Go.Proofs.Ytnhjofcmaodamaa
