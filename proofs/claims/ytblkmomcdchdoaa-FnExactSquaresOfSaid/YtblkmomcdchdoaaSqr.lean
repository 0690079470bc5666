/-
  Contracts: SquaresOf on both sides.
-/
import Derived.Test.YtblkmomcdchdoaaChs
import Derived.Test.YtblkmomcdchdoaaPaMath
import Derived.Test.YtblkmomcdchdoaaCH
import Derived.Test.YtblkmomcdchdoaaAllF
namespace Go.Proofs.Ytblkmomcdchdoaa
open Go.RowKit

def swK (f : List Int → Int) (R : List (List Int)) : Nat → Int
  | 0 => 0
  | k + 1 => wrap64 (swK f R k + f (R.getD k []))
def sqC (p : List Int) : Int := (chN p : Int) * (chN p : Int)
theorem facN_mono {a b : Nat} (h : a ≤ b) : facN a ≤ facN b := by
  induction b with
  | zero => rw [Nat.le_zero.1 h]; exact Nat.le_refl _
  | succ b ih =>
    rcases Nat.lt_or_ge a (b + 1) with h2 | h2
    · exact Nat.le_trans (ih (by omega)) (by rw [facN]; exact Nat.le_mul_of_pos_right _ (by omega))
    · rw [show a = b + 1 by omega]; exact Nat.le_refl _
theorem chN_le {p : List Int} (G : Good p) (h : p.sum ≤ 12) : chN p ≤ 479001600 := by
  have h1 := wy_le (hkL p) (hkL p).length
  have h2 := hkL_len G
  have h3 := facN_mono (show (hkL p).length ≤ 12 by omega)
  have h4 : facN 12 = 479001600 := by decide
  unfold chN; omega
theorem sqC_bd {p : List Int} (G : Good p) (h : p.sum ≤ 12) : 0 ≤ sqC p ∧ sqC p ≤ 229442532802560000 := by
  have := chN_le G h
  have h1 : ((chN p : Nat) : Int) ≤ 479001600 := by omega
  refine ⟨Int.mul_nonneg (by omega) (by omega), ?_⟩
  have := Int.mul_le_mul h1 h1 (by omega) (by omega)
  unfold sqC; omega
theorem all_row (n : Nat) (hn : n ≤ 30) (k : Nat) (hk : k < (lst n n (T n n)).length) : Good ((lst n n (T n n)).getD k []) ∧ ((lst n n (T n n)).getD k []).sum = n := by
  rw [lst_len] at hk
  rw [lst_get n n _ k hk]
  exact pa_good hn hk

theorem cells2_next {w w' : World} {A : Option Addr} {rows : List (List Int)} (h : Cells2 w A rows) (hb : Below w.heap.size w w') : Cells2 w' A rows := by
  obtain ⟨P, C, h1, h2⟩ := h
  refine ⟨P, C, fun hp => ?_, fun j hj => (h2 j hj).later hb⟩
  obtain ⟨b, o, rfl, hc⟩ := h1 hp
  exact ⟨b, o, rfl, fun j hj => (hb.cell (World.block_lt_of_cell? w _ (hc j hj))).trans (hc j hj)⟩
set_option maxRecDepth 100000 in
set_option maxHeartbeats 1000000 in
theorem sqClo_any (A : Option Addr) (c : Nat) (p : List Int) (w : World) (G : Good p) (hs : p.sum ≤ 12) (hc : Cells w A p) :
    Calls Try.prog 107 #[.slice A p.length c] w fun e w' => e = .returned (.int .i64 (sqC p)) ∧ Below w.heap.size w w' := by
  have hl := G.len
  have HC := hid (impl_CountChains A c p w (by omega) hc)
  have hb : ccB p = true := by simp [ccB, (good_iff p).2 G]; omega
  rw [hb, show ccF p = (chN p : Int) by simp [ccF, hb]] at HC
  have hsq := sqC_bd G hs
  have hcl := chN_le G hs
  unfold sqC at hsq ⊢
  obtain ⟨n, hn⟩ : ∃ n, n = chN p := ⟨_, rfl⟩
  rw [← hn] at HC hsq hcl ⊢
  have hw : IntKind.i64.wrap ((n : Int) * (n : Int)) = (n : Int) * (n : Int) := IntWalk.i64_in _ (by omega)
  clear hb hn
  go_enter Try.func107, Try.ntmps107
  go_wp2_with (go_at_call 59; refine HC.out.mono ?_; rintro e w2 ⟨rfl, b2⟩)
  go_ret
  exact ⟨rfl, b2⟩

set_option maxRecDepth 100000 in
set_option maxHeartbeats 2000000 in
theorem sumSq_any (A : Option Addr) (c : Nat) (R : List (List Int)) (w : World) (hl : R.length ≤ 10000) (hR : ∀ k, k < R.length → Good (R.getD k []) ∧ (R.getD k []).sum ≤ 12) (hc : Cells2 w A R) :
    Calls Try.prog 105 #[.slice A R.length c, .func (.func 107) #[] #[]] w fun e w' => e = .returned (.int .i64 (swK sqC R R.length)) ∧ Below w.heap.size w w' := by
  have HR := hid hR
  have HSW := hid fun k => (show swK sqC R (k + 1) = wrap64 (swK sqC R k + sqC (R.getD k [])) from rfl)
  clear hR
  go_enter Try.func105, Try.ntmps105
  go_wp2_with fail
  go_loopw [5, 10] (fun v i wr => ∃ k : Nat, k ≤ R.length ∧ i = .int .i64 k ∧ v = .int .i64 (swK sqC R k) ∧ Below w.heap.size w wr) (fun _ i _ => R.length - (intOf i).toNat)
  case atStart => exact ⟨0, Nat.zero_le _, rfl, rfl, Below.refl _ _⟩
  case round =>
    obtain ⟨k, hk, rfl, rfl, hbel⟩ := hrel
    by_cases hlt : k < R.length
    · have hc2 := cells2_next hc hbel
      obtain ⟨P, C, h1, h2⟩ := hc2
      obtain ⟨b, o, rfl, hcc⟩ := h1 (by omega)
      have hck := hcc k hlt
      obtain ⟨G, hs⟩ := HR.out k hlt
      have HCL := hid (sqClo_any (P k) (C k) _ wr G hs (h2 k hlt))
      have HS := hid (HSW.out k)
      obtain ⟨r, hr⟩ : ∃ r, r = R.getD k [] := ⟨_, rfl⟩
      rw [← hr] at hck HCL HS
      obtain ⟨q, hq⟩ : ∃ q, q = sqC r := ⟨_, rfl⟩
      rw [← hq] at HCL HS
      obtain ⟨s, hs0⟩ : ∃ s, s = swK sqC R k := ⟨_, rfl⟩
      rw [← hs0] at HS ⊢
      clear h1 h2 hcc G hs hr hq hs0
      go_wp2_with (go_at_call 107; refine HCL.out.mono ?_; rintro e w2 ⟨rfl, b2⟩)
      go_roundw
      case rel => exact ⟨k + 1, by omega, by go_num, by rw [HS.out], hbel.trans (b2.mono hbel.size)⟩
      case measure => simp [intOf]; omega
    · have hkl : k = R.length := by omega
      subst hkl
      go_wp2_with fail
      go_ret
      exact ⟨rfl, hbel⟩

def sqB (n : Int) : Bool := inB 0 12 n
def sqF (n : Int) : Int := if sqB n then swK sqC (lst n.toNat n.toNat (T n.toNat n.toNat)) (T n.toNat n.toNat) else 0
theorem sqB_nat {n : Int} (h : sqB n = true) : ∃ m : Nat, n = m ∧ m ≤ 12 := by
  have := inB_iff.1 h
  exact ⟨n.toNat, by omega, by omega⟩

set_option maxRecDepth 100000 in
set_option maxHeartbeats 2000000 in
theorem impl_SquaresOf (n : Int) (w : World) (_ : I64 n) :
    Calls Try.prog 61 #[.int .i64 n] w fun e w' => e = .returned (.tuple #[.int .i64 (sqF n), .bool (sqB n)]) ∧ Below w.heap.size w w' := by
  cases hb : sqB n
  · rw [show sqF n = 0 by simp [sqF, hb]]
    have hor : n < 0 ∨ 12 < n := by
      simp only [sqB, inB, Bool.and_eq_false_iff, decide_eq_false_iff_not] at hb; omega
    clear hb
    by_cases h0 : n < 0
    · go_enter Try.func61, Try.ntmps61
      go_wp2_with fail
      go_ret2
      exact ⟨rfl, Below.refl _ _⟩
    · have h1 : 12 < n := by omega
      go_enter Try.func61, Try.ntmps61
      go_wp2_with fail
      go_ret2
      exact ⟨rfl, Below.refl _ _⟩
  · obtain ⟨m, rfl, hm⟩ := sqB_nat hb
    have hv : sqF m = swK sqC (lst m m (T m m)) (lst m m (T m m)).length := by simp [sqF, hb, lst_len]
    rw [hv]
    have HL := hid fun W => listPartitions_any m W (by omega)
    change Hid (∀ W : World, Calls Try.prog 106 #[.int .i64 m] W fun e w' => ∃ A' c', e = .returned (.slice A' (lst m m (T m m)).length c') ∧ Own2 w' W.heap.size w'.heap.size A' c' (lst m m (T m m)) ∧ Below W.heap.size W w') at HL
    have hTb := T_bound m (by omega) m (by omega)
    have hll := lst_len m m (T m m)
    have HS := hid fun W A c (h : Cells2 W A (lst m m (T m m))) => sumSq_any A c (lst m m (T m m)) W (by omega) (fun k hk => by have := all_row m (by omega) k hk; exact ⟨this.1, by omega⟩) h
    obtain ⟨R, hR⟩ : ∃ R, R = lst m m (T m m) := ⟨_, rfl⟩
    rw [← hR] at HL HS ⊢
    have HSV := hid (show swK sqC R R.length = swK sqC R R.length from rfl)
    obtain ⟨s, hs⟩ : ∃ s, s = swK sqC R R.length := ⟨_, rfl⟩
    rw [← hs] at HS ⊢
    clear hb hv hR hs hTb hll HSV
    go_enter Try.func61, Try.ntmps61
    go_wp2_with (first | (go_at_call 106; refine (HL.out _).mono ?_; rintro e w2 ⟨A2, c2, rfl, o2, b2⟩) | (go_at_call 105; refine (HS.out _ _ _ o2.cells).mono ?_; rintro e w3 ⟨rfl, b3⟩))
    go_ret2
    exact ⟨rfl, Below.next b2 b3⟩

set_option maxRecDepth 100000 in
set_option maxHeartbeats 2000000 in
theorem spec_SquaresOf (n : Int) (w : World) (_ : I64 n) :
    Calls Try.prog 60 #[.int .i64 n] w fun e w' => e = .returned (.tuple #[.int .i64 (sqF n), .bool (sqB n)]) ∧ Below w.heap.size w w' := by
  cases hb : sqB n
  · rw [show sqF n = 0 by simp [sqF, hb]]
    have HB := hid (show inB 0 12 n = false from hb)
    clear hb
    go_enter Try.func60, Try.ntmps60
    go_wp2_with (go_at_call 83; refine (l1In_b _ _ _ _ _ HB.out).mono ?_; rintro e w' ⟨rfl, rfl⟩)
    go_ret2
    exact ⟨rfl, Below.refl _ _⟩
  · obtain ⟨m, rfl, hm⟩ := sqB_nat hb
    have hv : sqF m = swK sqC (lst m m (T m m)) (lst m m (T m m)).length := by simp [sqF, hb, lst_len]
    rw [hv]
    have HB := hid (show inB 0 12 (m : Int) = true from hb)
    have HL := hid fun W => ptAll_any m m m W (Nat.le_refl _) (by omega) (by omega)
    have hTb := T_bound m (by omega) m (by omega)
    have hll := lst_len m m (T m m)
    have HR := hid fun k hk => (show Good ((lst m m (T m m)).getD k []) ∧ ((lst m m (T m m)).getD k []).sum ≤ 12 by have := all_row m (by omega) k hk; exact ⟨this.1, by omega⟩)
    obtain ⟨R, hR⟩ : ∃ R, R = lst m m (T m m) := ⟨_, rfl⟩
    rw [← hR] at HL HR hll ⊢
    have hRl : R.length ≤ 10000 := by omega
    have HSW := hid fun k => (show swK sqC R (k + 1) = wrap64 (swK sqC R k + sqC (R.getD k [])) from rfl)
    clear hb hv hR hTb hll
    go_enter Try.func60, Try.ntmps60
    go_wp2_with (first | (go_at_call 83; refine (l1In_b _ _ _ _ _ HB.out).mono ?_; rintro e w' ⟨rfl, rfl⟩) | (go_at_call 104; refine (HL.out _).mono ?_; rintro e w2 ⟨A2, c2, rfl, o2, b2⟩))
    have hc2 := o2.cells
    clear o2
    go_loopw [4, 14] (fun v i wr => ∃ k : Nat, k ≤ R.length ∧ i = .int .i64 k ∧ v = .int .i64 (swK sqC R k) ∧ Below w2.heap.size w2 wr) (fun _ i _ => R.length - (intOf i).toNat)
    case atStart => exact ⟨0, Nat.zero_le _, rfl, rfl, Below.refl _ _⟩
    case round =>
      obtain ⟨k, hk, rfl, rfl, hbel⟩ := hrel
      by_cases hlt : k < R.length
      · have hc3 := cells2_next hc2 hbel
        obtain ⟨P, C, h1, h2⟩ := hc3
        obtain ⟨b, o, rfl, hcc⟩ := h1 (by omega)
        have hck := hcc k hlt
        obtain ⟨G, hs⟩ := HR.out k hlt
        have HCL := hid fun W (h : Cells W (P k) (R.getD k [])) => crChains_any (P k) (C k) _ W G (by omega) h
        have HP := hid (h2 k hlt)
        have HS := hid (HSW.out k)
        have hsq := sqC_bd G hs
        have hcl := chN_le G hs
        unfold sqC at hsq HS
        obtain ⟨r, hr⟩ : ∃ r, r = R.getD k [] := ⟨_, rfl⟩
        rw [← hr] at hck HCL HS HP hsq hcl
        obtain ⟨n, hn⟩ : ∃ n, n = chN r := ⟨_, rfl⟩
        rw [← hn] at HCL HS hsq hcl
        obtain ⟨s, hs0⟩ : ∃ s, s = swK sqC R k := ⟨_, rfl⟩
        change Hid (swK sqC R (k + 1) = wrap64 (swK sqC R k + (n : Int) * (n : Int))) at HS
        rw [← hs0] at HS ⊢
        have hw : IntKind.i64.wrap ((n : Int) * (n : Int)) = (n : Int) * (n : Int) := IntWalk.i64_in _ (by omega)
        clear h1 h2 hcc G hs hr hn hs0
        go_wp2_with fail
        refine (HCL.out _ HP.out).mono ?_
        rintro e w4 ⟨rfl, b4⟩
        have HP4 := hid (HP.out.later b4)
        go_wp2_with fail
        refine (HCL.out _ HP4.out).mono ?_
        rintro e w5 ⟨rfl, b5⟩
        go_wp2_with fail
        go_roundw
        case rel => exact ⟨k + 1, by omega, by go_num, by rw [HS.out], hbel.trans ((Below.next b4 b5).mono hbel.size)⟩
        case measure => simp [intOf]; omega
      · have hkl : k = R.length := by omega
        subst hkl
        go_wp2_with fail
        go_ret2
        exact ⟨rfl, Below.next b2 hbel⟩
end Go.Proofs.Ytblkmomcdchdoaa
