/-
  Contracts: a row turned round; the greatest part first.
-/
import Derived.Test.YtcgoiddghenkmaaCP
import Derived.Test.YtcgoiddghenkmaaCB
import Derived.RegionTactic
import Derived.ChangeAlike
namespace Go.Proofs.Ytcgoiddghenkmaa
open Go.RowKit

/-- The row with its first k and last k numbers exchanged. -/
def revK (xs : List Int) : Nat → List Int
  | 0 => xs
  | k + 1 => ((revK xs k).set k ((revK xs k).getD (xs.length - 1 - k) 0)).set (xs.length - 1 - k) ((revK xs k).getD k 0)
theorem revK_len (xs : List Int) : ∀ k, (revK xs k).length = xs.length
  | 0 => rfl
  | k + 1 => by rw [revK, List.length_set, List.length_set, revK_len xs k]
theorem revK_get (xs : List Int) : ∀ k, 2 * k ≤ xs.length → ∀ j, j < xs.length → (revK xs k).getD j 0 = if j < k ∨ xs.length ≤ j + k then xs.getD (xs.length - 1 - j) 0 else xs.getD j 0
  | 0, _, j, hj => by rw [revK, if_neg (by omega)]
  | k + 1, h, j, hj => by
    have ih := revK_get xs k (by omega)
    have hl := revK_len xs k
    rw [revK]
    by_cases e1 : j = xs.length - 1 - k
    · subst e1
      rw [List.getD_eq_getElem?_getD, List.getElem?_set_self (by rw [List.length_set, hl]; omega), Option.getD_some, ih k (by omega), if_neg (by omega), if_pos (by omega), show xs.length - 1 - (xs.length - 1 - k) = k by omega]
    · rw [List.getD_eq_getElem?_getD, List.getElem?_set_ne (by omega)]
      by_cases e2 : j = k
      · subst e2
        rw [List.getElem?_set_self (by rw [hl]; omega), Option.getD_some, ih (xs.length - 1 - j) (by omega), if_neg (by omega), if_pos (by omega)]
      · rw [List.getElem?_set_ne (by omega), ← List.getD_eq_getElem?_getD, ih j hj]
        by_cases h3 : j < k ∨ xs.length ≤ j + k
        · rw [if_pos h3, if_pos (by omega)]
        · rw [if_neg h3, if_neg (by omega)]
theorem revK_all {xs : List Int} {k : Nat} (h1 : 2 * k ≤ xs.length) (h2 : xs.length ≤ 2 * k + 1) : revK xs k = xs.reverse := by
  apply List.ext_getElem (by rw [revK_len, List.length_reverse])
  intro j hj1 hj2
  rw [revK_len] at hj1
  have h := revK_get xs k h1 j hj1
  have e : (revK xs k).getD j 0 = xs.getD (xs.length - 1 - j) 0 := by
    rw [h]
    by_cases h3 : j < k ∨ xs.length ≤ j + k
    · rw [if_pos h3]
    · rw [if_neg h3]; congr 1; omega
  rw [List.getD_eq_getElem?_getD, List.getElem?_eq_getElem (by rw [revK_len]; exact hj1), List.getD_eq_getElem?_getD, List.getElem?_eq_getElem (by omega)] at e
  rw [List.getElem_reverse]
  simpa using e

set_option maxRecDepth 100000 in
set_option maxHeartbeats 1000000 in
theorem reverse_any {B : Nat} (A : Option Addr) (c : Nat) (xs : List Int) (w : World) (hl : xs.length ≤ 1000) (ho : Own w B A c xs) :
    Calls Try.prog 49 #[.slice A xs.length c] w fun e w' => e = .returned (.tuple #[]) ∧ Own w' B A c xs.reverse ∧ ∀ B0 w0, B0 ≤ B → Below B0 w0 w → Below B0 w0 w' := by
  have HO := hid ho; clear ho
  go_enter Try.func49, Try.ntmps49
  go_wp2_with fail
  go_loopw [2, 3] (fun i j wr => ∃ k : Nat, 2 * k ≤ xs.length ∧ i = .int .i64 k ∧ j = .int .i64 ((xs.length : Int) - 1 - k) ∧ Hid (Own wr B A c (revK xs k)) ∧ Hid (∀ B0 w0, B0 ≤ B → Below B0 w0 w → Below B0 w0 wr)) (fun i _ _ => xs.length - (intOf i).toNat)
  case atStart => exact ⟨0, by omega, rfl, by simp, hid HO.out, hid fun _ _ _ h => h⟩
  case round =>
    obtain ⟨k, hk, rfl, rfl, HR, HB⟩ := hrel
    have hL := revK_len xs k
    by_cases hlt : (k : Int) < (xs.length : Int) - 1 - k
    · obtain ⟨g, rfl, hg1, hg2⟩ := HR.out.at_ (by omega)
      obtain ⟨j, hj⟩ : ∃ j : Nat, j = xs.length - 1 - k := ⟨_, rfl⟩
      have hji : (xs.length : Int) - 1 - k = j := by omega
      have hc1 := own_get HR.out (k := k) (by omega)
      have hc2 := own_get HR.out (k := j) (by omega)
      have hf1 := own_froz HR.out k
      have hf2 := own_froz HR.out j
      have HE := hid (show revK xs (k + 1) = ((revK xs k).set k ((revK xs k).getD (xs.length - 1 - k) 0)).set (xs.length - 1 - k) ((revK xs k).getD k 0) from rfl)
      rw [← hj] at HE
      obtain ⟨L, hLL⟩ : ∃ L, L = revK xs k := ⟨_, rfl⟩
      rw [← hLL] at hc1 hc2 HE HR hL
      obtain ⟨x, hx⟩ : ∃ x, x = L.getD k 0 := ⟨_, rfl⟩
      obtain ⟨y, hy⟩ : ∃ y, y = L.getD j 0 := ⟨_, rfl⟩
      rw [← hx] at hc1 HE
      rw [← hy] at hc2 HE
      have hst := own_set (own_set HR.out k y) j x
      rw [← HE.out] at hst
      have HST := hid hst
      have hc2' : (wr.setCell ⟨g, k, none⟩ (.int .i64 y)).cell? ⟨g, j, none⟩ = some (.int .i64 y) := by
        rw [World.cell?_setCell_other wr _ _ _ (fun e => by injection e; omega)]; exact hc2
      have hf2' : (wr.setCell ⟨g, k, none⟩ (.int .i64 y)).frozen? ⟨g, j, none⟩ = false := by rw [World.frozen?_setCell]; exact hf2
      have hwk : IntKind.i64.wrap ((j : Int) - 1) = (xs.length : Int) - 1 - ((k + 1 : Nat) : Int) := by rw [IntWalk.i64_in _ (by omega)]; omega
      have hkj : (k : Int) < j := by omega
      have hjx : (j : Int) < xs.length := by omega
      have hkx : (k : Int) < xs.length := by omega
      have HJ := hid hj
      have HGB := hid hg1
      rw [hji]
      clear hst hx hy hLL hL hji hj hg1 hlt
      go_wp2_with fail
      go_region
      go_wp2_with fail
      go_roundw
      case rel => exact ⟨k + 1, by have := HJ.out; omega, by go_num, rfl, hid HST.out, hid fun B0 w0 h1 h2 => (((HB.out B0 w0 h1 h2).setCell (Nat.le_trans h1 HGB.out) _).setCell (Nat.le_trans h1 HGB.out) _).drew⟩
      case measure => simp [intOf]; omega
    · have he := revK_all (xs := xs) (k := k) hk (by omega)
      have HE := hid he
      clear he hL
      go_wp2_with fail
      go_end0
      exact ⟨rfl, by rw [← HE.out]; exact HR.out, HB.out⟩

set_option maxHeartbeats 400000 in
theorem gpf_any {B : Nat} (A : Option Addr) (c : Nat) (xs : List Int) (w : World) (hl : xs.length ≤ 1000) (ho : Own w B A c xs) :
    Calls Try.prog 42 #[.slice A xs.length c] w fun e w' => e = .returned (.slice A xs.length c) ∧ Own w' B A c (xs.mergeSort fun x y => decide (x ≤ y)).reverse ∧ ∀ B0 w0, B0 ≤ B → Below B0 w0 w → Below B0 w0 w' := by
  have hml : (xs.mergeSort fun x y => decide (x ≤ y)).length = xs.length := List.length_mergeSort _
  have HS := hid (sortI_any A c xs w B ho hl)
  obtain ⟨L, hL⟩ : ∃ L, L = xs.mergeSort fun x y => decide (x ≤ y) := ⟨_, rfl⟩
  rw [← hL] at HS hml ⊢
  have HR := hid fun W (h : Own W B A c L) => reverse_any A c L W (by omega) h
  rw [hml] at HR
  clear hL hml ho
  go_enter Try.func42, Try.ntmps42
  go_wp2_with (first | (go_at_call 48; refine HS.out.mono ?_; rintro e w1 ⟨rfl, o1, b1⟩) | (go_at_call 49; refine (HR.out _ o1).mono ?_; rintro e w2 ⟨rfl, o2, b2⟩))
  go_ret
  exact ⟨rfl, o2, fun B0 w0 h1 h2 => b2 B0 w0 h1 (b1 B0 w0 h1 h2)⟩
end Go.Proofs.Ytcgoiddghenkmaa
