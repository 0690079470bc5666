/-
  Contracts: strconv.Itoa of the program, below 100.
-/
import Derived.Test.YtjhcbbafldflaaaDoorNumS
namespace Go.Proofs.YtjhcbbafldflaaaDoor
open Go.RowKit

def smA : ByteArray := ⟨#[48, 49, 50, 51, 52, 53, 54, 55, 56, 57, 97, 98, 99, 100, 101, 102, 103, 104, 105, 106, 107, 108, 109, 110, 111, 112, 113, 114, 115, 116, 117, 118, 119, 120, 121, 122]⟩
theorem numT_one : ∀ n, n < 10 → (smA.extract n (n + 1)).data = (numT n).data := by decide +kernel
def smB : ByteArray := ⟨#[48, 48, 48, 49, 48, 50, 48, 51, 48, 52, 48, 53, 48, 54, 48, 55, 48, 56, 48, 57, 49, 48, 49, 49, 49, 50, 49, 51, 49, 52, 49, 53, 49, 54, 49, 55, 49, 56, 49, 57, 50, 48, 50, 49, 50, 50, 50, 51, 50, 52, 50, 53, 50, 54, 50, 55, 50, 56, 50, 57, 51, 48, 51, 49, 51, 50, 51, 51, 51, 52, 51, 53, 51, 54, 51, 55, 51, 56, 51, 57, 52, 48, 52, 49, 52, 50, 52, 51, 52, 52, 52, 53, 52, 54, 52, 55, 52, 56, 52, 57, 53, 48, 53, 49, 53, 50, 53, 51, 53, 52, 53, 53, 53, 54, 53, 55, 53, 56, 53, 57, 54, 48, 54, 49, 54, 50, 54, 51, 54, 52, 54, 53, 54, 54, 54, 55, 54, 56, 54, 57, 55, 48, 55, 49, 55, 50, 55, 51, 55, 52, 55, 53, 55, 54, 55, 55, 55, 56, 55, 57, 56, 48, 56, 49, 56, 50, 56, 51, 56, 52, 56, 53, 56, 54, 56, 55, 56, 56, 56, 57, 57, 48, 57, 49, 57, 50, 57, 51, 57, 52, 57, 53, 57, 54, 57, 55, 57, 56, 57, 57]⟩
set_option maxRecDepth 100000 in
theorem numT_two : ∀ n, n < 100 → 10 ≤ n → (smB.extract (n * 2) (n * 2 + 2)).data = (numT n).data := by decide +kernel
set_option maxRecDepth 100000 in
set_option maxHeartbeats 4000000 in
theorem small_any (n : Nat) (w : World) (h : n < 100) : Calls Tryd.prog 76 #[.int .i64 n] w fun e w' => e = .returned (.string (numT n)) ∧ w = w' := by
  by_cases h1 : n < 10
  · have hlt : (n : Int) < 10 := by omega
    have he : smA.extract n (n + 1) = numT n := by
      have := numT_one n h1
      exact ByteArray.ext this
    go_enter Tryd.func76, Tryd.ntmps76
    go_wp2_with fail
    go_ret
    exact ⟨congrArg (fun s => Ending.returned (Value.string s)) he, rfl⟩
  · have hlt : ¬ (n : Int) < 10 := by omega
    go_enter Tryd.func76, Tryd.ntmps76
    have he : smB.extract (n * 2) (n * 2 + 2) = numT n := by
      have := numT_two n h (by omega)
      exact ByteArray.ext this
    go_wp2_with fail
    go_ret
    exact ⟨congrArg (fun s => Ending.returned (Value.string s)) he, rfl⟩

set_option maxHeartbeats 2000000 in
theorem formatInt_any (n : Nat) (w : World) (h : n < 100) : Calls Tryd.prog 63 #[.int .i64 n, .int .i64 10] w fun e w' => e = .returned (.string (numT n)) ∧ w = w' := by
  have hlt : (n : Int) < 100 := by omega
  have hge : (0 : Int) ≤ (n : Int) := by omega
  have HS := hid fun W => small_any n W h
  go_enter Tryd.func63, Tryd.ntmps63
  go_wp2_with fail
  refine (HS.out _).mono ?_
  rintro e w' ⟨rfl, rfl⟩
  go_wp2_with fail
  go_ret
  exact ⟨rfl, rfl⟩
theorem itoaIn_any (n : Nat) (w : World) (h : n < 100) : Calls Tryd.prog 49 #[.int .i64 n] w fun e w' => e = .returned (.string (numT n)) ∧ w = w' := by
  have HS := hid fun W => formatInt_any n W h
  go_enter Tryd.func49, Tryd.ntmps49
  go_wp2_with fail
  refine (HS.out _).mono ?_
  rintro e w' ⟨rfl, rfl⟩
  go_wp2_with fail
  go_ret
  exact ⟨rfl, rfl⟩
theorem itoa_any (n : Nat) (w : World) (h : n < 100) : Calls Tryd.prog 34 #[.int .i64 n] w fun e w' => e = .returned (.string (numT n)) ∧ w = w' := by
  have HS := hid fun W => itoaIn_any n W h
  go_enter Tryd.func34, Tryd.ntmps34
  go_wp2_with fail
  refine (HS.out _).mono ?_
  rintro e w' ⟨rfl, rfl⟩
  go_wp2_with fail
  go_ret
  exact ⟨rfl, rfl⟩
end Go.Proofs.YtjhcbbafldflaaaDoor
