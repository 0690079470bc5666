/-
  Contracts: the border word, the model's side; and plain facts on the word.
-/
import Derived.Test.YtaonkebjakanjaaCB
import Derived.Lib.FrozenHead
namespace Go.Proofs.Ytaonkebjakanjaa
open Go.RowKit

def pn (p : List Int) (j : Nat) : Nat := (p.getD j 0).toNat
/-- The columns that the border has passed before row number d from below. -/
def prevN (p : List Int) (d : Nat) : Nat := if d = 0 then 0 else pn p (p.length - d)
def wordUp (p : List Int) : Nat → List UInt8
  | 0 => []
  | d + 1 => wordUp p d ++ (List.replicate (pn p (p.length - 1 - d) - prevN p d) 82 ++ [85])
def wordS (p : List Int) (d a : Nat) : List UInt8 := wordUp p d ++ List.replicate (a - prevN p d) 82
theorem prev_le {p : List Int} (G : Good p) {d : Nat} (h : d < p.length) : prevN p d ≤ pn p (p.length - 1 - d) := by
  unfold prevN pn
  split
  · omega
  · have := G.down (p.length - 1 - d) (by omega)
    rw [show p.length - 1 - d + 1 = p.length - d by omega] at this
    omega
theorem prev_succ (p : List Int) (d : Nat) : prevN p (d + 1) = pn p (p.length - 1 - d) := by
  unfold prevN; rw [if_neg (by omega), show p.length - (d + 1) = p.length - 1 - d by omega]
theorem wordS_zero (p : List Int) (d : Nat) : wordS p d (prevN p d) = wordUp p d := by simp [wordS]
theorem wordS_R (p : List Int) (d a : Nat) (h : prevN p d ≤ a) : wordS p d (a + 1) = wordS p d a ++ [82] := by
  unfold wordS
  rw [show a + 1 - prevN p d = (a - prevN p d) + 1 by omega, List.replicate_succ', List.append_assoc]
theorem wordS_U (p : List Int) (d : Nat) : wordS p d (pn p (p.length - 1 - d)) ++ [85] = wordUp p (d + 1) := by
  simp [wordS, wordUp]
theorem pn_le {p : List Int} (G : Good p) (j : Nat) : pn p j ≤ 30 := by
  unfold pn
  by_cases h : j < p.length
  · have := G.le j h; omega
  · rw [List.getD_eq_getElem?_getD, List.getElem?_eq_none (by omega)]; simp
theorem wordUp_len {p : List Int} (G : Good p) : ∀ d, (wordUp p d).length ≤ 31 * d
  | 0 => by simp [wordUp]
  | d + 1 => by
    have := wordUp_len G d
    have := pn_le G (p.length - 1 - d)
    simp only [wordUp, List.length_append, List.length_replicate, List.length_cons, List.length_nil]; omega
theorem wordS_len {p : List Int} (G : Good p) (d a : Nat) (ha : a ≤ 30) : (wordS p d a).length ≤ 31 * d + 30 := by
  have := wordUp_len G d
  simp only [wordS, List.length_append, List.length_replicate]; omega
def wordL (p : List Int) : List UInt8 := wordUp p p.length
def strOf (l : List UInt8) : ByteArray := ⟨l.toArray⟩
theorem strOf_app (l m : List UInt8) : strOf l ++ strOf m = strOf (l ++ m) := by
  apply ByteArray.ext
  simp [strOf]
theorem strOf_size (l : List UInt8) : (strOf l).size = l.length := by simp [strOf, ByteArray.size]
def wordF (p : List Int) : ByteArray := if good p then strOf (wordL p) else ByteArray.empty

set_option maxRecDepth 100000 in
set_option maxHeartbeats 2000000 in
theorem ptWord_any (A : Option Addr) (c : Nat) (xs : List Int) (w : World) (G : Good xs) (hc : Cells w A xs) :
    Calls Try.prog 30 #[.slice A xs.length c] w fun e w' => e = .returned (.string (strOf (wordL xs))) ∧ w = w' := by
  have hlen := G.len
  have HG := hid G; clear G
  go_enter Try.func30, Try.ntmps30
  go_wp2_with fail
  go_loop [3, 4, 5] (fun v a i => ∃ d : Nat, d ≤ xs.length ∧ i = .int .i64 ((xs.length : Int) - 1 - d) ∧ a = .int .i64 (prevN xs d) ∧ v = .string (strOf (wordUp xs d))) (fun _ _ i => (intOf i + 1).toNat)
  case atStart => exact ⟨0, Nat.zero_le _, by simp, by simp [prevN], rfl⟩
  case round =>
    obtain ⟨d, hd, rfl, rfl, rfl⟩ := hrel
    by_cases hlt : d < xs.length
    · obtain ⟨row, hrow⟩ : ∃ row : Nat, row = xs.length - 1 - d := ⟨_, rfl⟩
      have hri : (xs.length : Int) - 1 - d = (row : Int) := by omega
      rw [hri]
      obtain ⟨b, o, rfl, hcc⟩ := hc (by omega)
      have hck := hcc row (by omega)
      have hpos := HG.out.pos row (by omega)
      have h30 := HG.out.le row (by omega)
      have hprev := prev_le HG.out hlt
      have hpn : (pn xs (xs.length - 1 - d) : Int) = xs.getD row 0 := by unfold pn; rw [← hrow]; omega
      obtain ⟨x, hx⟩ : ∃ x, x = pn xs (xs.length - 1 - d) := ⟨_, rfl⟩
      rw [← hx] at hpn hprev
      rw [← hpn] at hck hpos h30
      have HX := hid hx
      have HROW := hid hrow
      clear hcc hx hrow hpn
      go_wp2_with fail
      go_loop [3, 4] (fun v a => ∃ k : Nat, prevN xs d ≤ k ∧ k ≤ x ∧ a = .int .i64 k ∧ v = .string (strOf (wordS xs d k))) (fun _ a => x - (intOf a).toNat)
      case atStart => exact ⟨prevN xs d, Nat.le_refl _, hprev, rfl, by rw [wordS_zero]⟩
      case round =>
        obtain ⟨k, hk1, hk2, rfl, rfl⟩ := hrel
        have hsz : (strOf (wordS xs d k)).size ≤ 1000 := by rw [strOf_size]; have := wordS_len HG.out d k (by omega); omega
        by_cases hkl : k < x
        · have HS := hid ((strOf_app (wordS xs d k) [82]).trans (by rw [← wordS_R xs d k hk1]))
          go_wp2_with fail
          go_round
          case rel => exact ⟨k + 1, by omega, by omega, by go_num, by rw [← HS.out]; first | done | rfl⟩
          case measure => simp [intOf]; omega
        · have hkx : k = x := by omega
          have HS := hid ((strOf_app (wordS xs d k) [85]).trans (by rw [hkx, HX.out, wordS_U]))
          have hpv : (k : Int) = (prevN xs (d + 1) : Nat) := by rw [prev_succ, ← HX.out, hkx]
          have HPV := hid hpv; clear hpv
          subst hkx
          go_wp2_with fail
          go_round
          case rel => exact ⟨d + 1, by omega, by congr 1 <;> (have := HROW.out; omega), by rw [HPV.out], by rw [← HS.out]; first | done | rfl⟩
          case measure => simp [intOf]
    · have hde : d = xs.length := by omega
      subst hde
      have hm1 : (xs.length : Int) - 1 - (xs.length : Nat) = -1 := by omega
      rw [hm1]
      go_wp2_with fail
      go_ret
      exact ⟨rfl, rfl⟩

set_option maxHeartbeats 400000 in
theorem spec_BorderWord (A : Option Addr) (c : Nat) (xs : List Int) (w : World) (hl : xs.length ≤ 1048576) (hc : Cells w A xs) :
    Calls Try.prog 7 #[.slice A xs.length c] w fun e w' => e = .returned (.tuple #[.string (wordF xs), .bool (good xs)]) ∧ Below w.heap.size w w' := by
  cases hg : good xs
  · rw [show wordF xs = ByteArray.empty by simp [wordF, hg]]
    have HG := hid hg; clear hg
    go_enter Try.func7, Try.ntmps7
    go_wp2_with (go_at_call 24; refine (ptGood_b _ _ _ _ hl hc _ HG.out).mono ?_; rintro e w' ⟨rfl, n, rfl⟩)
    go_ret2
    exact ⟨rfl, below_drew' _ _⟩
  · rw [show wordF xs = strOf (wordL xs) by simp [wordF, hg]]
    have G := (good_iff xs).1 hg
    have HG := hid hg; clear hg
    go_enter Try.func7, Try.ntmps7
    go_wp2_with (first | (go_at_call 24; refine (ptGood_b _ _ _ _ hl hc _ HG.out).mono ?_; rintro e w' ⟨rfl, n, rfl⟩) | (go_at_call 30; refine (ptWord_any _ _ _ _ G (by exact hc)).mono ?_; rintro e w2 ⟨rfl, rfl⟩))
    go_ret2
    exact ⟨rfl, below_drew' _ _⟩
end Go.Proofs.Ytaonkebjakanjaa
