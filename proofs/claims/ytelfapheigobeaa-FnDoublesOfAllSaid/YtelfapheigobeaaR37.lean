/-
  Several texts in one.
-/
import Derived.Test.YtelfapheigobeaaR36
import Derived.Test.YtelfapheigobeaaCP
import Derived.Test.YtelfapheigobeaaCB
import Derived.RegionTactic
import Derived.ChangeAlike
/-
  Contracts: BarsOf and IsBarCore on both sides.
-/
namespace Go.Proofs.Ytelfapheigobeaa
open Go.RowKit

theorem canHaveBars_b (A : Option Addr) (c : Nat) (xs : List Int) (t : Int) (w : World) (hl : xs.length ≤ 1048576) (hc : Cells w A xs) (b : Bool) (h : brtB xs t = b) :
    Calls Try.prog 39 #[.slice A xs.length c, .int .i64 t] w fun e w' => e = .returned (.bool b) ∧ w = w' := by
  subst h
  cases hs : strB xs
  · rw [show brtB xs t = false by simp [brtB, hs]]
    have HS := hid hs; clear hs
    go_enter Try.func39, Try.ntmps39
    go_wp2_with (go_at_call 27; refine (isStrict_b _ _ _ _ hl hc _ HS.out).mono ?_; rintro e w' ⟨rfl, rfl⟩)
    go_ret
    exact ⟨rfl, rfl⟩
  · have HE := hid (show brtB xs t = (decide (t = 3) || decide (t = 5)) by simp [brtB, hs])
    have HS := hid hs; clear hs
    by_cases h3 : t = 3
    · rw [HE.out, decide_eq_true h3]
      clear HE
      go_enter Try.func39, Try.ntmps39
      go_wp2_with (go_at_call 27; refine (isStrict_b _ _ _ _ hl hc _ HS.out).mono ?_; rintro e w' ⟨rfl, rfl⟩)
      go_ret
      exact ⟨rfl, rfl⟩
    · by_cases h5 : t = 5
      · rw [HE.out, decide_eq_false h3, decide_eq_true h5]
        clear HE
        go_enter Try.func39, Try.ntmps39
        go_wp2_with (go_at_call 27; refine (isStrict_b _ _ _ _ hl hc _ HS.out).mono ?_; rintro e w' ⟨rfl, rfl⟩)
        go_ret
        exact ⟨rfl, rfl⟩
      · rw [HE.out, decide_eq_false h3, decide_eq_false h5]
        clear HE
        go_enter Try.func39, Try.ntmps39
        go_wp2_with (go_at_call 27; refine (isStrict_b _ _ _ _ hl hc _ HS.out).mono ?_; rintro e w' ⟨rfl, rfl⟩)
        go_ret
        exact ⟨by first | rfl | exact ret_bool (by simpa using ⟨h3, h5⟩), rfl⟩

theorem t_small {t : Int} (h : t = 3 ∨ t = 5) : 0 ≤ t ∧ t ≤ 1000 := by omega

theorem brs_bd {xs : List Int} {t : Int} (G : Good xs) : (brs xs t xs.length).length ≤ 900 ∧ tot (brs xs t xs.length) ≤ 1800 := by
  have hlen := G.len
  have h1 := brs_len xs t hlen xs.length (Nat.le_refl _)
  have h3 : xs.length * 30 ≤ 30 * 30 := Nat.mul_le_mul_right _ hlen
  have h2 : ∀ r ∈ brs xs t xs.length, r.length ≤ 2 := fun r hr => by
    obtain ⟨i, hi, hm, _⟩ := brs_mem xs.length (Nat.le_refl _) hr
    have := (candA_mem hi hm).1; omega
  have tle : ∀ rows : List (List Int), (∀ r ∈ rows, r.length ≤ 2) → tot rows ≤ rows.length * 2 := by
    intro rows h
    induction rows with
    | nil => simp [tot]
    | cons r t ih =>
      have h1 := h r (List.mem_cons_self ..)
      have h2 := ih fun x hx => h x (List.mem_cons_of_mem _ hx)
      rw [tot, List.length_cons, Nat.add_mul]; omega
  have := tle _ h2
  omega
theorem bound_BarsOf (xs : List Int) (t : Int) : (barF xs t).length ≤ 1048576 ∧ tot (barF xs t) ≤ 1048576 := by
  cases hb : brtB xs t
  · rw [barF_f hb]; simp [tot]
  · rw [barF_t hb]
    have := brs_bd (t := t) (strB_good (brtB_t hb).2)
    omega

def ibF (xs : List Int) (t : Int) : Bool := brtB xs t && decide ((barF xs t).length = 0)
end Go.Proofs.Ytelfapheigobeaa
/-
  Contracts: a row turned round; the greatest part first.
-/
namespace Go.Proofs.Ytelfapheigobeaa
open Go.RowKit

/-- The row with its first k and last k numbers exchanged. -/
def revK (xs : List Int) : Nat → List Int
  | 0 => xs
  | k + 1 => ((revK xs k).set k ((revK xs k).getD (xs.length - 1 - k) 0)).set (xs.length - 1 - k) ((revK xs k).getD k 0)
theorem revK_len (xs : List Int) : ∀ k, (revK xs k).length = xs.length
  | 0 => rfl
  | k + 1 => by rw [revK, List.length_set, List.length_set, revK_len xs k]
theorem revK_get (xs : List Int) : ∀ k, 2 * k ≤ xs.length → ∀ j, j < xs.length → (revK xs k).getD j 0 = if j < k ∨ xs.length ≤ j + k then xs.getD (xs.length - 1 - j) 0 else xs.getD j 0
  | 0, _, j, hj => by rw [revK, if_neg (by omega)]
  | k + 1, h, j, hj => by
    have ih := revK_get xs k (by omega)
    have hl := revK_len xs k
    rw [revK]
    by_cases e1 : j = xs.length - 1 - k
    · subst e1
      rw [List.getD_eq_getElem?_getD, List.getElem?_set_self (by rw [List.length_set, hl]; omega), Option.getD_some, ih k (by omega), if_neg (by omega), if_pos (by omega), show xs.length - 1 - (xs.length - 1 - k) = k by omega]
    · rw [List.getD_eq_getElem?_getD, List.getElem?_set_ne (by omega)]
      by_cases e2 : j = k
      · subst e2
        rw [List.getElem?_set_self (by rw [hl]; omega), Option.getD_some, ih (xs.length - 1 - j) (by omega), if_neg (by omega), if_pos (by omega)]
      · rw [List.getElem?_set_ne (by omega), ← List.getD_eq_getElem?_getD, ih j hj]
        by_cases h3 : j < k ∨ xs.length ≤ j + k
        · rw [if_pos h3, if_pos (by omega)]
        · rw [if_neg h3, if_neg (by omega)]
theorem revK_all {xs : List Int} {k : Nat} (h1 : 2 * k ≤ xs.length) (h2 : xs.length ≤ 2 * k + 1) : revK xs k = xs.reverse := by
  apply List.ext_getElem (by rw [revK_len, List.length_reverse])
  intro j hj1 hj2
  rw [revK_len] at hj1
  have h := revK_get xs k h1 j hj1
  have e : (revK xs k).getD j 0 = xs.getD (xs.length - 1 - j) 0 := by
    rw [h]
    by_cases h3 : j < k ∨ xs.length ≤ j + k
    · rw [if_pos h3]
    · rw [if_neg h3]; congr 1; omega
  rw [List.getD_eq_getElem?_getD, List.getElem?_eq_getElem (by rw [revK_len]; exact hj1), List.getD_eq_getElem?_getD, List.getElem?_eq_getElem (by omega)] at e
  rw [List.getElem_reverse]
  simpa using e

set_option maxRecDepth 100000 in
set_option maxHeartbeats 1000000 in
theorem reverse_any {B : Nat} (A : Option Addr) (c : Nat) (xs : List Int) (w : World) (hl : xs.length ≤ 1000) (ho : Own w B A c xs) :
    Calls Try.prog 67 #[.slice A xs.length c] w fun e w' => e = .returned (.tuple #[]) ∧ Own w' B A c xs.reverse ∧ ∀ B0 w0, B0 ≤ B → Below B0 w0 w → Below B0 w0 w' := by
  have HO := hid ho; clear ho
  go_enter Try.func67, Try.ntmps67
  go_wp2_with fail
  go_loopw [2, 3] (fun i j wr => ∃ k : Nat, 2 * k ≤ xs.length ∧ i = .int .i64 k ∧ j = .int .i64 ((xs.length : Int) - 1 - k) ∧ Hid (Own wr B A c (revK xs k)) ∧ Hid (∀ B0 w0, B0 ≤ B → Below B0 w0 w → Below B0 w0 wr)) (fun i _ _ => xs.length - (intOf i).toNat)
  case atStart => exact ⟨0, by omega, rfl, by simp, hid HO.out, hid fun _ _ _ h => h⟩
  case round =>
    obtain ⟨k, hk, rfl, rfl, HR, HB⟩ := hrel
    have hL := revK_len xs k
    by_cases hlt : (k : Int) < (xs.length : Int) - 1 - k
    · obtain ⟨g, rfl, hg1, hg2⟩ := HR.out.at_ (by omega)
      obtain ⟨j, hj⟩ : ∃ j : Nat, j = xs.length - 1 - k := ⟨_, rfl⟩
      have hji : (xs.length : Int) - 1 - k = j := by omega
      have hc1 := own_get HR.out (k := k) (by omega)
      have hc2 := own_get HR.out (k := j) (by omega)
      have hf1 := own_froz HR.out k
      have hf2 := own_froz HR.out j
      have HE := hid (show revK xs (k + 1) = ((revK xs k).set k ((revK xs k).getD (xs.length - 1 - k) 0)).set (xs.length - 1 - k) ((revK xs k).getD k 0) from rfl)
      rw [← hj] at HE
      obtain ⟨L, hLL⟩ : ∃ L, L = revK xs k := ⟨_, rfl⟩
      rw [← hLL] at hc1 hc2 HE HR hL
      obtain ⟨x, hx⟩ : ∃ x, x = L.getD k 0 := ⟨_, rfl⟩
      obtain ⟨y, hy⟩ : ∃ y, y = L.getD j 0 := ⟨_, rfl⟩
      rw [← hx] at hc1 HE
      rw [← hy] at hc2 HE
      have hst := own_set (own_set HR.out k y) j x
      rw [← HE.out] at hst
      have HST := hid hst
      have hc2' : (wr.setCell ⟨g, k, none⟩ (.int .i64 y)).cell? ⟨g, j, none⟩ = some (.int .i64 y) := by
        rw [World.cell?_setCell_other wr _ _ _ (fun e => by injection e; omega)]; exact hc2
      have hf2' : (wr.setCell ⟨g, k, none⟩ (.int .i64 y)).frozen? ⟨g, j, none⟩ = false := by rw [World.frozen?_setCell]; exact hf2
      have hwk : IntKind.i64.wrap ((j : Int) - 1) = (xs.length : Int) - 1 - ((k + 1 : Nat) : Int) := by rw [IntWalk.i64_in _ (by omega)]; omega
      have hkj : (k : Int) < j := by omega
      have hjx : (j : Int) < xs.length := by omega
      have hkx : (k : Int) < xs.length := by omega
      have HJ := hid hj
      have HGB := hid hg1
      rw [hji]
      clear hst hx hy hLL hL hji hj hg1 hlt
      go_wp2_with fail
      go_region
      go_wp2_with fail
      go_roundw
      case rel => exact ⟨k + 1, by have := HJ.out; omega, by go_num, rfl, hid HST.out, hid fun B0 w0 h1 h2 => (((HB.out B0 w0 h1 h2).setCell (Nat.le_trans h1 HGB.out) _).setCell (Nat.le_trans h1 HGB.out) _).drew⟩
      case measure => simp [intOf]; omega
    · have he := revK_all (xs := xs) (k := k) hk (by omega)
      have HE := hid he
      clear he hL
      go_wp2_with fail
      go_end0
      exact ⟨rfl, by rw [← HE.out]; exact HR.out, HB.out⟩

set_option maxHeartbeats 400000 in
theorem gpf_any {B : Nat} (A : Option Addr) (c : Nat) (xs : List Int) (w : World) (hl : xs.length ≤ 1000) (ho : Own w B A c xs) :
    Calls Try.prog 64 #[.slice A xs.length c] w fun e w' => e = .returned (.slice A xs.length c) ∧ Own w' B A c (xs.mergeSort fun x y => decide (x ≤ y)).reverse ∧ ∀ B0 w0, B0 ≤ B → Below B0 w0 w → Below B0 w0 w' := by
  have hml : (xs.mergeSort fun x y => decide (x ≤ y)).length = xs.length := List.length_mergeSort _
  have HS := hid (sortI_any A c xs w B ho hl)
  obtain ⟨L, hL⟩ : ∃ L, L = xs.mergeSort fun x y => decide (x ≤ y) := ⟨_, rfl⟩
  rw [← hL] at HS hml ⊢
  have HR := hid fun W (h : Own W B A c L) => reverse_any A c L W (by omega) h
  rw [hml] at HR
  clear hL hml ho
  go_enter Try.func64, Try.ntmps64
  go_wp2_with (first | (go_at_call 66; refine HS.out.mono ?_; rintro e w1 ⟨rfl, o1, b1⟩) | (go_at_call 67; refine (HR.out _ o1).mono ?_; rintro e w2 ⟨rfl, o2, b2⟩))
  go_ret
  exact ⟨rfl, o2, fun B0 w0 h1 h2 => b2 B0 w0 h1 (b1 B0 w0 h1 h2)⟩
end Go.Proofs.Ytelfapheigobeaa
