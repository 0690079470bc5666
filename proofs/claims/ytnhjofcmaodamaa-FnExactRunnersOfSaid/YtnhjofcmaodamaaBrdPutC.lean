/-
  Contracts: a bead put to another place of a board, whatever is asked.
-/
import Derived.Test.YtnhjofcmaodamaaBrdPutB
namespace Go.Proofs.Ytnhjofcmaodamaa
open Go.RowKit

def canB (t : Nat) (a b : Int) : Bool := decide (0 ≤ a) && (decide (a < (t : Int) * 36) && decide (0 ≤ b))
def putB (t : Nat) (F : Nat → Bool) (a b : Int) : Nat → Bool := if canB t a b then setLn F (a.toNat % t) (putR (lnB F (a.toNat % t)) (a.toNat / t : Nat) (b.toNat / t : Nat)) else F

set_option maxRecDepth 100000 in
set_option maxHeartbeats 4000000 in
theorem brdPut_all (t : Nat) (F : Nat → Bool) (a b : Int) (w : World) (ht : 2 ≤ t ∧ t ≤ 6) (hb : 0 ≤ a → a < (t : Int) * 36 → b < 1000000) :
    Calls Try.prog 88 #[bdV t F, .int .i64 a, .int .i64 b] w fun e w' => e = .returned (bdV t (putB t F a b)) ∧ Below w.heap.size w w' := by
  cases hc : canB t a b
  · have hq : putB t F a b = F := by simp [putB, hc]
    rw [hq]
    have hor : a < 0 ∨ (t : Int) * 36 ≤ a ∨ b < 0 := by simp only [canB, Bool.and_eq_false_iff, decide_eq_false_iff_not] at hc; omega
    have hz := Try.bdZero
    unfold bdV at hz ⊢
    have x1 := (Blk.new w 77 217 (brdV t F)).alloc (.cells (ca 217 (brdV 0 fun _ => false)) 77)
    have x2 := Blk.new (w.alloc (.cells (ca 217 (brdV t F)) 77)) 77 217 (brdV 0 fun _ => false)
    rw [World.size_alloc] at x2
    have hbl : Below w.heap.size w ((w.alloc (.cells (ca 217 (brdV t F)) 77)).alloc (.cells (ca 217 (brdV 0 fun _ => false)) 77)) := ((Below.refl _ _).alloc (Nat.le_refl _) _).alloc (by simp) _
    have hc0 : ((w.alloc (.cells (ca 217 (brdV t F)) 77)).alloc (.cells (ca 217 (brdV 0 fun _ => false)) 77)).cell? ⟨w.heap.size, 0, none⟩ = some (.int .i64 t) := x1.cell (k := 0) (by omega)
    have X1 := hid x1; have X2 := hid x2
    clear hc hq x1 x2
    by_cases h1 : a < 0
    · go_enter Try.func88, Try.ntmps88
      go_wp2_with (first | (refine wpList_load_row rfl 77 _ rfl w.heap.size rfl 77 _ (0, 0) _ X1.out Try.underlying77 rfl (by rw [ca_size]; exact Try.bdSize) ?_) | (refine wpList_store_row rfl 77 _ _ rfl (w.heap.size + 1) _ rfl rfl 77 _ X2.out (by rw [ca_size]; exact Try.bdSize) (by rw [ca_size, ca_size]) (brd_one _ _) ?_))
      have z3 := setRow_blk X2.out (brdV t F)
      refine bodyPost_ret (v := bdV t F) ?_ rfl ⟨rfl, setRow_below hbl (by omega) _⟩
      exact results_cell_row rfl _ _ (w.heap.size + 1) 77 _ (0, 0) _ rfl z3 Try.underlying77 rfl (by rw [ca_size]; exact Try.bdSize)
    by_cases h2 : (t : Int) * 36 ≤ a
    · go_enter Try.func88, Try.ntmps88
      go_wp2_with (first | (refine wpList_load_row rfl 77 _ rfl w.heap.size rfl 77 _ (0, 0) _ X1.out Try.underlying77 rfl (by rw [ca_size]; exact Try.bdSize) ?_) | (refine wpList_store_row rfl 77 _ _ rfl (w.heap.size + 1) _ rfl rfl 77 _ X2.out (by rw [ca_size]; exact Try.bdSize) (by rw [ca_size, ca_size]) (brd_one _ _) ?_))
      have z3 := setRow_blk X2.out (brdV t F)
      refine bodyPost_ret (v := bdV t F) ?_ rfl ⟨rfl, setRow_below hbl (by omega) _⟩
      exact results_cell_row rfl _ _ (w.heap.size + 1) 77 _ (0, 0) _ rfl z3 Try.underlying77 rfl (by rw [ca_size]; exact Try.bdSize)
    · have h3 : b < 0 := by omega
      have h1' : 0 ≤ a := by omega
      have h2' : a < (t : Int) * 36 := by omega
      go_enter Try.func88, Try.ntmps88
      go_wp2_with (first | (refine wpList_load_row rfl 77 _ rfl w.heap.size rfl 77 _ (0, 0) _ X1.out Try.underlying77 rfl (by rw [ca_size]; exact Try.bdSize) ?_) | (refine wpList_store_row rfl 77 _ _ rfl (w.heap.size + 1) _ rfl rfl 77 _ X2.out (by rw [ca_size]; exact Try.bdSize) (by rw [ca_size, ca_size]) (brd_one _ _) ?_))
      have z3 := setRow_blk X2.out (brdV t F)
      refine bodyPost_ret (v := bdV t F) ?_ rfl ⟨rfl, setRow_below hbl (by omega) _⟩
      exact results_cell_row rfl _ _ (w.heap.size + 1) 77 _ (0, 0) _ rfl z3 Try.underlying77 rfl (by rw [ca_size]; exact Try.bdSize)
  · have h : 0 ≤ a ∧ a < (t : Int) * 36 ∧ 0 ≤ b := by simpa [canB] using hc
    obtain ⟨a', rfl⟩ : ∃ a' : Nat, a = a' := ⟨a.toNat, by omega⟩
    obtain ⟨b', rfl⟩ : ∃ b' : Nat, b = b' := ⟨b.toNat, by omega⟩
    have hq : putB t F a' b' = setLn F (a' % t) (putR (lnB F (a' % t)) (a' / t : Nat) (b' / t : Nat)) := by simp [putB, hc]
    rw [hq]
    have := hb h.1 h.2.1
    exact brdPut_in t F a' b' w ht (by omega) (by omega)
theorem brdPut_any (t : Nat) (F : Nat → Bool) (a b : Int) (w : World) (ht : 2 ≤ t ∧ t ≤ 6) (hb : b < 1000000) :
    Calls Try.prog 88 #[bdV t F, .int .i64 a, .int .i64 b] w fun e w' => e = .returned (bdV t (putB t F a b)) ∧ Below w.heap.size w w' :=
  brdPut_all t F a b w ht fun _ _ => hb
end Go.Proofs.Ytnhjofcmaodamaa
