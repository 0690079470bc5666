/-
  Contracts: FromMaya of the model at no numbers, and both sides in the form that the walk asks.
-/
import Derived.Test.YtpokehnjpakgcaaUnS
namespace Go.Proofs.Ytpokehnjpakgcaa
open Go.RowKit

set_option maxRecDepth 100000 in
set_option maxHeartbeats 4000000 in
theorem spec_FromMaya_nil {B : Nat} (A : Option Addr) (c : Nat) (w : World) (hA : (A = none ∧ c = 0) ∨ ∃ g, A = some ⟨g, 0, none⟩) (ho : Own w B A c []) :
    Calls Try.prog 17 #[.slice A 0 c] w fun e w' => ∃ A' c', e = .returned (.tuple #[.slice A' 0 c', .bool true]) ∧ Own w' w.heap.size A' c' [] ∧ Below w.heap.size w w' := by
  have HLO := hid (l1Own_any A c [] w (by simp) ho)
  have HAL := hid (l1All_b A [] c (-1000) 1000 w (by simp) ho.cells true rfl)
  have HGD := hid fun W => ptGood_b none [] 0 W (by simp) (Cells.nil _ _) true (by rfl)
  have HMA := hid fun W => abMaya_any none 0 [] W ((good_iff []).1 rfl) (Cells.nil _ _)
  have HSM := hid fun A1 c1 W => l1Same_any A1 A c1 c [] [] W (by simp) (by simp) (Cells.nil _ _) (Cells.nil _ _)
  rw [show mayaL [] = [] from rfl] at HMA
  rw [show decide (([] : List Int) = []) = true by simp] at HSM
  rw [show ([] : List Int).length = 0 from rfl] at HLO HAL HGD HMA HSM
  have h20 : Int.tmod 0 2 = 0 := rfl
  have h21 : Int.tdiv 0 2 = 0 := rfl
  rcases hA with ⟨rfl, rfl⟩ | ⟨g, rfl⟩
  · go_enter Try.func17, Try.ntmps17
    go_wp2_with (go_at_call 32; refine HAL.out.mono ?_; rintro e w' ⟨rfl, rfl⟩)
    go_loop [32] (fun i => i = .int .i64 0) (fun _ => 0)
    case atStart => rfl
    case round =>
      subst hrel
      go_wp2_with (go_at_call 33; refine HLO.out.mono ?_; rintro e w1 ⟨A1, c1, rfl, o1, b1⟩)
      go_loopw [7, 9] (fun v xv wr => v = .slice A1 0 c1 ∧ xv = .int .i64 (-1) ∧ wr = w1) (fun _ _ _ => 0)
      case atStart => exact ⟨rfl, rfl, rfl⟩
      case round =>
        obtain ⟨rfl, rfl, hw⟩ := hrel
        rw [hw]
        clear hw
        go_wp2_with fail
        go_loopw [10, 84] (fun v xv wr => v = .slice none 0 0 ∧ xv = .int .i64 0 ∧ wr = w1) (fun _ _ _ => 0)
        case atStart => exact ⟨rfl, rfl, rfl⟩
        case round =>
          obtain ⟨rfl, rfl, hw⟩ := hrel
          rw [hw]
          clear hw
          go_wp2_with (go_at_call 21; refine (HGD.out _).mono ?_; rintro e w' ⟨rfl, n, rfl⟩)
          refine (HMA.out _).mono ?_
          rintro e w5 ⟨A5, c5, rfl, o5, b5⟩
          have B5 := Below.next (Below.next b1 (below_drew' _ n)) b5
          have h5 : A5 = none ∧ c5 = 0 ∨ True := .inr trivial
          have HS := hid (HSM.out A5 c5 w5)
          go_wp2_with (go_at_call 35; refine HS.out.mono ?_; rintro e w' ⟨rfl, n', rfl⟩)
          go_ret2
          exact ⟨none, 0, rfl, own_nil _ _, Below.next B5 (below_drew' _ n')⟩
  · go_enter Try.func17, Try.ntmps17
    go_wp2_with (go_at_call 32; refine HAL.out.mono ?_; rintro e w' ⟨rfl, rfl⟩)
    go_loop [32] (fun i => i = .int .i64 0) (fun _ => 0)
    case atStart => rfl
    case round =>
      subst hrel
      go_wp2_with (go_at_call 33; refine HLO.out.mono ?_; rintro e w1 ⟨A1, c1, rfl, o1, b1⟩)
      go_loopw [7, 9] (fun v xv wr => v = .slice A1 0 c1 ∧ xv = .int .i64 (-1) ∧ wr = w1) (fun _ _ _ => 0)
      case atStart => exact ⟨rfl, rfl, rfl⟩
      case round =>
        obtain ⟨rfl, rfl, hw⟩ := hrel
        rw [hw]
        clear hw
        go_wp2_with fail
        go_loopw [10, 84] (fun v xv wr => v = .slice none 0 0 ∧ xv = .int .i64 0 ∧ wr = w1) (fun _ _ _ => 0)
        case atStart => exact ⟨rfl, rfl, rfl⟩
        case round =>
          obtain ⟨rfl, rfl, hw⟩ := hrel
          rw [hw]
          clear hw
          go_wp2_with (go_at_call 21; refine (HGD.out _).mono ?_; rintro e w' ⟨rfl, n, rfl⟩)
          refine (HMA.out _).mono ?_
          rintro e w5 ⟨A5, c5, rfl, o5, b5⟩
          have B5 := Below.next (Below.next b1 (below_drew' _ n)) b5
          have h5 : A5 = none ∧ c5 = 0 ∨ True := .inr trivial
          have HS := hid (HSM.out A5 c5 w5)
          go_wp2_with (go_at_call 35; refine HS.out.mono ?_; rintro e w' ⟨rfl, n', rfl⟩)
          go_ret2
          exact ⟨none, 0, rfl, own_nil _ _, Below.next B5 (below_drew' _ n')⟩

theorem spec_FromMaya {B : Nat} (A : Option Addr) (c : Nat) (m : List Int) (w : World) (hl : m.length ≤ 1048576) (ho : Own w B A c m) :
    Calls Try.prog 17 #[.slice A m.length c] w fun e w' => ∃ A' c', e = .returned (.tuple #[.slice A' (unF m).length c', .bool (unOk m)]) ∧ Own w' w.heap.size A' c' (unF m) ∧ Below w.heap.size w w' := by
  rcases Nat.eq_zero_or_pos m.length with h0 | h0
  · have hm : m = [] := List.eq_nil_of_length_eq_zero h0
    subst hm
    rw [un_nil.1, un_nil.2]
    refine spec_FromMaya_nil A c w ?_ ho
    rcases ho.2 with ⟨hv, _⟩ | ⟨g', cap, cur, hv, _⟩
    · injection hv with h1 _ h3
      exact .inl ⟨h1, h3⟩
    · injection hv with h1 _ h3
      exact .inr ⟨g', h1⟩
  · exact spec_FromMaya_pos A c m w hl h0 ho
end Go.Proofs.Ytpokehnjpakgcaa
