/-
  Several texts in one.
-/
import Derived.Test.YtkbdlhmkiolegaaCB
import Derived.Test.YtkbdlhmkiolegaaCC
import Derived.Test.YtkbdlhmkiolegaaR08
import Derived.Test.YtkbdlhmkiolegaaR10
import Derived.Test.YtkbdlhmkiolegaaR05
import Derived.Test.YtkbdlhmkiolegaaR01
import Derived.Test.YtkbdlhmkiolegaaCH
/-
  Contracts: the abacus by which quotients are told, of the program and of the model.
-/
namespace Go.Proofs.Ytkbdlhmkiolegaa
open Go.RowKit

def mulN (t n : Nat) : Nat := (n + t - 1) / t * t
theorem mulN_bd {t n : Nat} (ht : 2 ≤ t ∧ t ≤ 6) : n ≤ mulN t n ∧ mulN t n ≤ n + 5 := by
  unfold mulN
  have h1 := Nat.div_add_mod (n + t - 1) t
  have h2 := Nat.mod_lt (n + t - 1) (show 0 < t by omega)
  rw [Nat.mul_comm] at h1
  omega
theorem mulN_dvd (t n : Nat) : mulN t n % t = 0 := by unfold mulN; exact Nat.mul_mod_left _ _
def evN (xs : List Int) (t : Int) : Nat := mulN t.toNat xs.length
def evR (xs : List Int) (t : Int) : Int := if crB xs t then t else 0
def evF (xs : List Int) (t : Int) : List Int := if crB xs t then beadsL xs (evN xs t) else []
theorem ev_bd {xs : List Int} {t : Int} (ht : inB 2 6 t = true) : xs.length ≤ evN xs t ∧ evN xs t ≤ xs.length + 5 := by
  have := inB_iff.1 ht
  exact mulN_bd (t := t.toNat) (n := xs.length) (by omega)
theorem ev_ok {xs : List Int} {t : Int} (ht : inB 2 6 t = true) : abaOk xs t (evN xs t) = crB xs t := by
  have hb := ev_bd (xs := xs) ht
  unfold abaOk beadsOk crB
  cases hg : good xs
  · simp
  · have hl := ((good_iff xs).1 hg).len
    have : inB xs.length 40 (evN xs t) = true := inB_iff.2 (by omega)
    simp [this, ht]
theorem ev_R {xs : List Int} {t : Int} (ht : inB 2 6 t = true) : abaR xs t (evN xs t) = evR xs t := by unfold abaR evR; rw [ev_ok ht]
theorem ev_F {xs : List Int} {t : Int} (ht : inB 2 6 t = true) : abaF xs t (evN xs t) = evF xs t := by
  have hb := ev_bd (xs := xs) ht
  unfold abaF evF; rw [ev_ok ht]
  cases hc : crB xs t
  · rfl
  · have hg := (crB_good hc).1
    have hl := ((good_iff xs).1 hg).len
    rw [if_pos rfl, if_pos rfl]
    unfold beadsF
    rw [if_pos ⟨hg, by omega, by omega⟩]; simp

end Go.Proofs.Ytkbdlhmkiolegaa
/-
  Contracts: LevelsOf of the model.
-/
namespace Go.Proofs.Ytkbdlhmkiolegaa
open Go.RowKit

theorem Sg_bd {f : Int → Int} (h : ∀ x, -1 ≤ f x ∧ f x ≤ 1) : ∀ (m : Nat) (a : Int), -(m : Int) ≤ Sg f a m ∧ Sg f a m ≤ m
  | 0, _ => by simp [Sg]
  | m + 1, a => by have := h a; have := Sg_bd h m (a + 1); rw [Sg]; omega
theorem eV_bd (p : List Int) (t i : Nat) (x : Int) : -1 ≤ eV p t i x ∧ eV p t i x ≤ 1 := by
  unfold eV; split
  · split <;> split <;> omega
  · omega
def lvK (xs : List Int) (t k : Nat) : List Int := fnRow t fun i => Sg (eV xs t i) (-(xs.length : Int) - 1) k
def lvN (xs : List Int) : Nat := xs.length + 1 + (xs.getD 0 0).toNat
def lvL (xs : List Int) (t : Nat) : List Int := lvK xs t (lvN xs)
theorem lvK_len (xs : List Int) (t k : Nat) : (lvK xs t k).length = t := fnRow_len _ _
theorem lvK_zero (xs : List Int) (t : Nat) : lvK xs t 0 = fnRow t (fun _ => 0) := rowF_ext _ _ _ fun _ _ => rfl
theorem lvK_succ {xs : List Int} {t k m : Nat} {x : Int} (hx : x = -(xs.length : Int) - 1 + k) (hm : x % (t : Int) = m) (hmt : m < t) :
    (lvK xs t k).set m ((lvK xs t k).getD m 0 + ((if bdB xs x = true then 1 else 0) - (if x < 0 then 1 else 0))) = lvK xs t (k + 1) := by
  unfold lvK
  rw [fnRow_get _ _ _ hmt, fnRow_set]
  refine rowF_ext _ _ _ fun j _ => ?_
  rw [Sg_snoc, ← hx]
  by_cases e : j = m
  · subst e
    rw [if_pos rfl]
    congr 1
    unfold eV; rw [if_pos hm]
  · rw [if_neg e]
    unfold eV; rw [hm, if_neg (by omega)]; omega
theorem lvK_same {xs : List Int} {t k m : Nat} {x : Int} (hx : x = -(xs.length : Int) - 1 + k) (hm : x % (t : Int) = m) (hmt : m < t)
    (h : ((if bdB xs x = true then 1 else 0) - (if x < 0 then 1 else 0) : Int) = 0) : lvK xs t k = lvK xs t (k + 1) := by
  rw [← lvK_succ hx hm hmt, h, Int.add_zero]
  apply List.ext_getElem
  · simp
  · intro j h1 h2
    rw [List.getElem_set]
    split
    · rename_i e; subst e; simp [List.getD, h1]
    · rfl
theorem lvK_bd (xs : List Int) (t k m : Nat) (h : m < t) : -(k : Int) ≤ (lvK xs t k).getD m 0 ∧ (lvK xs t k).getD m 0 ≤ k := by
  unfold lvK; rw [fnRow_get _ _ _ h]; exact Sg_bd (eV_bd xs t m) k _
def lvOk (xs : List Int) (t : Int) : Bool := crB xs t && levB (lvL xs t.toNat)
def lvF (xs : List Int) (t : Int) : List Int := if lvOk xs t then lvL xs t.toNat else []
theorem lvF_f {xs : List Int} {t : Int} (h : lvOk xs t = false) : lvF xs t = [] := by simp [lvF, h]
theorem lvF_t {xs : List Int} {t : Nat} (h : lvOk xs t = true) : lvF xs t = lvL xs t := by simp [lvF, h]
theorem lvOk_cr {xs : List Int} {t : Int} (h : crB xs t = false) : lvOk xs t = false := by simp [lvOk, h]
theorem lvOk_lev {xs : List Int} {t : Nat} (h : crB xs t = true) : lvOk xs t = levB (lvL xs t) := by simp [lvOk, h]
theorem bound_LevelsOf (xs : List Int) (t : Int) : (lvF xs t).length ≤ 1048576 := by
  unfold lvF; split
  · rename_i h
    simp only [lvOk, Bool.and_eq_true] at h
    have := inB_iff.1 (crB_good h.1).2
    unfold lvL; rw [lvK_len]; omega
  · simp

set_option maxHeartbeats 1000000 in
theorem chPart_any (A : Option Addr) (c : Nat) (xs : List Int) (r : Nat) (w : World) (hl : xs.length ≤ 1048576) (hr : r ≤ 1048576) (hc : Cells w A xs) :
    Calls Try.prog 91 #[.slice A xs.length c, .int .i64 r] w fun e w' => e = .returned (.int .i64 (xs.getD r 0)) ∧ w = w' := by
  by_cases h : r < xs.length
  · obtain ⟨b, o, rfl, hcc⟩ := hc (by omega)
    have hck := hcc r h
    obtain ⟨x, hx⟩ : ∃ x, x = xs.getD r 0 := ⟨_, rfl⟩
    rw [← hx] at hck ⊢
    clear hcc hx
    go_enter Try.func91, Try.ntmps91
    go_wp2_with fail
    go_ret
    exact ⟨rfl, rfl⟩
  · rw [getD_out (by omega)]
    go_enter Try.func91, Try.ntmps91
    go_wp2_with fail
    go_ret
    exact ⟨rfl, rfl⟩

end Go.Proofs.Ytkbdlhmkiolegaa
/-
  Contracts: regular partitions, ladders of cells, partitions above others: IsRegular, LadderOf, IsAbove of the program and of the model.
-/
namespace Go.Proofs.Ytkbdlhmkiolegaa
open Go.RowKit

set_option maxHeartbeats 1000000 in
theorem isRegular_any (A : Option Addr) (c : Nat) (xs : List Int) (t : Nat) (w : World) (hl : xs.length ≤ 30) (ht : 2 ≤ t ∧ t ≤ 6) (hc : Cells w A xs) :
    Calls Try.prog 22 #[.slice A xs.length c, .int .i64 t] w fun e w' => e = .returned (.bool (regB xs t)) ∧ ∃ n, w' = w.drewN n := by
  obtain ⟨s, rfl⟩ : ∃ s, t = s + 1 := ⟨t - 1, by omega⟩
  have hs1 : IntKind.i64.wrap (((s + 1 : Nat) : Int) - 1) = (s : Int) := by rw [IntWalk.i64_in _ (by omega)]; omega
  go_enter Try.func22, Try.ntmps22
  go_wp2_with fail
  go_loopw [5] (fun rv wr => ∃ k : Nat, k ≤ xs.length ∧ rv = .int .i64 ((s + k : Nat) : Int) ∧ Hid (regTo xs s k = true) ∧ ∃ n, wr = w.drewN n) (fun rv _ => xs.length + 1 - (intOf rv).toNat)
  case atStart => exact ⟨0, by omega, rfl, hid rfl, 0, rfl⟩
  case round =>
    obtain ⟨k, hk, rfl, HR, n, rfl⟩ := hrel
    by_cases hlt : s + k < xs.length
    · obtain ⟨b, o, rfl, hcc⟩ := hc (by omega)
      have hck := hcc (s + k) hlt
      have hck1 := hcc k (by omega)
      have hw : IntKind.i64.wrap (((s + k : Nat) : Int) - (s : Int)) = (k : Int) := by rw [IntWalk.i64_in _ (by omega)]; omega
      have hkl : k < xs.length := by omega
      have hkl2 : ((s + k : Nat) : Int) < (xs.length : Int) := by omega
      clear hcc
      obtain ⟨x, hx⟩ : ∃ x, x = xs.getD (s + k) 0 := ⟨_, rfl⟩
      obtain ⟨y, hy⟩ : ∃ y, y = xs.getD k 0 := ⟨_, rfl⟩
      rw [← hx] at hck
      rw [← hy] at hck1
      have HX := hid hx
      have HY := hid hy
      obtain ⟨m, hm⟩ : ∃ m, m = s + k := ⟨_, rfl⟩
      rw [← hm] at hck hw hkl2 hlt ⊢
      have HM := hid hm
      clear hx hy hm
      by_cases hxy : x = y
      · have hE : regB xs (s + 1) = false := regTo_no (k := k) (by rw [Nat.add_sub_cancel, Nat.add_comm k s, ← HX.out, ← HY.out, hxy]) (by have := HM.out; omega)
        have HE := hid hE
        have hb : (x == y) = true := beq_iff_eq.2 hxy
        clear hE hxy
        go_wp2_with fail
        go_quiet (fail)
        go_wp2_with fail
        go_ret
        exact ⟨ret_bool HE.out.symm, drew2 _ _⟩
      · have HE := hid hxy
        have hb : (x == y) = false := beq_eq_false_iff_ne.2 hxy
        clear hxy
        go_wp2_with fail
        go_quiet (fail)
        go_wp2_with fail
        go_roundw
        case rel => exact ⟨k + 1, by omega, by rw [HM.out]; go_num, hid (by
          simp only [regTo, HR.out, Bool.true_and, decide_eq_true_eq]
          rw [Nat.add_comm k s, ← HX.out, ← HY.out]; exact fun e => HE.out e.symm), _, rfl⟩
        case measure => simp [intOf]; omega
    · have hE : regB xs (s + 1) = true := regTo_le HR.out (by omega)
      have HE := hid hE
      clear hE
      go_wp2_with fail
      go_ret
      exact ⟨ret_bool HE.out.symm, n, rfl⟩

set_option maxHeartbeats 1000000 in
theorem arRegular_any (A : Option Addr) (c : Nat) (xs : List Int) (t : Nat) (w : World) (hl : xs.length ≤ 30) (ht : 2 ≤ t ∧ t ≤ 6) (hc : Cells w A xs) :
    Calls Try.prog 25 #[.slice A xs.length c, .int .i64 t] w fun e w' => e = .returned (.bool (regB xs t)) ∧ ∃ n, w' = w.drewN n := by
  go_enter Try.func25, Try.ntmps25
  go_wp2_with fail
  go_loopw [5] (fun rv wr => ∃ k : Nat, k ≤ xs.length ∧ rv = .int .i64 k ∧ Hid (regTo xs (t - 1) k = true) ∧ ∃ n, wr = w.drewN n) (fun rv _ => xs.length + 1 - (intOf rv).toNat)
  case atStart => exact ⟨0, by omega, rfl, hid rfl, 0, rfl⟩
  case round =>
    obtain ⟨k, hk, rfl, HR, n, rfl⟩ := hrel
    by_cases hlt : k + t ≤ xs.length
    · obtain ⟨b, o, rfl, hcc⟩ := hc (by omega)
      obtain ⟨m, hm⟩ : ∃ m, m = k + (t - 1) := ⟨_, rfl⟩
      have hck := hcc m (by omega)
      have hck1 := hcc k (by omega)
      have hw0 : (k : Int) + (t : Int) ≤ (xs.length : Int) := by omega
      have hw1 : IntKind.i64.wrap ((k : Int) + (t : Int)) = (k : Int) + t := IntWalk.i64_in _ (by omega)
      have hw2 : IntKind.i64.wrap ((k : Int) + (t : Int) - 1) = (m : Int) := by rw [IntWalk.i64_in _ (by omega)]; omega
      have hml : m < xs.length := by omega
      have hkl : k < xs.length := by omega
      clear hcc
      obtain ⟨x, hx⟩ : ∃ x, x = xs.getD m 0 := ⟨_, rfl⟩
      obtain ⟨y, hy⟩ : ∃ y, y = xs.getD k 0 := ⟨_, rfl⟩
      rw [← hx] at hck
      rw [← hy] at hck1
      have HX := hid hx
      have HY := hid hy
      have HM := hid hm
      clear hx hy hm
      by_cases hxy : y = x
      · have hE : regB xs t = false := regTo_no (k := k) (by rw [← HM.out, ← HX.out, ← HY.out, hxy]) (by omega)
        have HE := hid hE
        have hb : (y == x) = true := beq_iff_eq.2 hxy
        clear hE hxy
        go_wp2_with fail
        go_quiet (fail)
        go_wp2_with fail
        go_ret
        exact ⟨ret_bool HE.out.symm, drew2 _ _⟩
      · have HE := hid hxy
        have hb : (y == x) = false := beq_eq_false_iff_ne.2 hxy
        clear hxy
        go_wp2_with fail
        go_quiet (fail)
        go_wp2_with fail
        go_roundw
        case rel => exact ⟨k + 1, by omega, by go_num, hid (by
          simp only [regTo, HR.out, Bool.true_and, decide_eq_true_eq]
          rw [← HM.out, ← HX.out, ← HY.out]; exact HE.out), _, rfl⟩
        case measure => simp [intOf]; omega
    · have hE : regB xs t = true := regTo_le HR.out (by omega)
      have HE := hid hE
      have hw0 : ¬ (k : Int) + (t : Int) ≤ (xs.length : Int) := by omega
      have hw1 : IntKind.i64.wrap ((k : Int) + (t : Int)) = (k : Int) + t := IntWalk.i64_in _ (by omega)
      clear hE
      go_wp2_with fail
      go_ret
      exact ⟨ret_bool HE.out.symm, n, rfl⟩

set_option maxHeartbeats 1000000 in
theorem impl_IsRegular (A : Option Addr) (c : Nat) (xs : List Int) (t : Int) (w : World) (hl : xs.length ≤ 1048576) (hc : Cells w A xs) (_ : I64 t) :
    Calls Try.prog 17 #[.slice A xs.length c, .int .i64 t] w fun e w' => e = .returned (.tuple #[.bool (rgB xs t), .bool (giB xs t)]) ∧ Below w.heap.size w w' := by
  cases hg : good xs
  · rw [show rgB xs t = false by simp [rgB, giB, hg], show giB xs t = false by simp [giB, hg]]
    have H := hid hg; clear hg
    go_enter Try.func17, Try.ntmps17
    go_wp2_with (go_at_call 36; refine (IsPartition_b _ _ _ _ hl hc _ H.out).mono ?_; rintro e w' ⟨rfl, rfl⟩)
    go_ret2
    exact ⟨rfl, Below.refl _ _⟩
  cases ht : inB 2 6 t
  · rw [show rgB xs t = false by simp [rgB, giB, ht], show giB xs t = false by simp [giB, ht]]
    have H := hid hg
    have HT := hid ht
    clear hg ht
    go_enter Try.func17, Try.ntmps17
    go_wp2_with (first | (go_at_call 36; refine (IsPartition_b _ _ _ _ hl hc _ H.out).mono ?_; rintro e w' ⟨rfl, rfl⟩) | (go_at_call 19; refine (hasRunners_b _ _ _ HT.out).mono ?_; rintro e w' ⟨rfl, rfl⟩))
    go_ret2
    exact ⟨rfl, Below.refl _ _⟩
  · have htb := inB_iff.1 ht
    obtain ⟨n, rfl⟩ : ∃ n : Nat, t = n := ⟨t.toNat, by omega⟩
    rw [show rgB xs n = regB xs n by simp [rgB, giB, hg, ht], show giB xs n = true by simp [giB, hg, ht]]
    have H := hid hg
    have HT := hid ht
    have HR := hid fun W (h : Cells W A xs) => isRegular_any A c xs n W (good_len hg) (by omega) h
    obtain ⟨R, hR⟩ : ∃ R, R = regB xs n := ⟨_, rfl⟩
    rw [← hR] at HR ⊢
    clear hg ht hR
    go_enter Try.func17, Try.ntmps17
    go_wp2_with (first | (go_at_call 36; refine (IsPartition_b _ _ _ _ hl hc _ H.out).mono ?_; rintro e w' ⟨rfl, rfl⟩) | (go_at_call 19; refine (hasRunners_b _ _ _ HT.out).mono ?_; rintro e w' ⟨rfl, rfl⟩) | (go_at_call 22; refine (HR.out _ (by exact hc)).mono ?_; rintro e w' ⟨rfl, m, rfl⟩))
    go_ret2
    exact ⟨rfl, below_drew' _ _⟩

set_option maxHeartbeats 1000000 in
theorem spec_IsRegular (A : Option Addr) (c : Nat) (xs : List Int) (t : Int) (w : World) (hl : xs.length ≤ 1048576) (hc : Cells w A xs) (_ : I64 t) :
    Calls Try.prog 18 #[.slice A xs.length c, .int .i64 t] w fun e w' => e = .returned (.tuple #[.bool (rgB xs t), .bool (giB xs t)]) ∧ Below w.heap.size w w' := by
  cases hg : good xs
  · rw [show rgB xs t = false by simp [rgB, giB, hg], show giB xs t = false by simp [giB, hg]]
    have H := hid hg; clear hg
    go_enter Try.func18, Try.ntmps18
    go_wp2_with (go_at_call 37; refine (ptGood_b _ _ _ _ hl hc _ H.out).mono ?_; rintro e w' ⟨rfl, n0, rfl⟩)
    go_ret2
    exact ⟨rfl, below_drew' _ _⟩
  cases ht : inB 2 6 t
  · rw [show rgB xs t = false by simp [rgB, giB, ht], show giB xs t = false by simp [giB, ht]]
    have H := hid hg
    have HT := hid ht
    clear hg ht
    go_enter Try.func18, Try.ntmps18
    go_wp2_with (first | (go_at_call 37; refine (ptGood_b _ _ _ _ hl hc _ H.out).mono ?_; rintro e w' ⟨rfl, n0, rfl⟩) | (go_at_call 33; refine (chRunners_b _ _ _ HT.out).mono ?_; rintro e w' ⟨rfl, rfl⟩))
    go_ret2
    exact ⟨rfl, below_drew' _ _⟩
  · have htb := inB_iff.1 ht
    obtain ⟨n, rfl⟩ : ∃ n : Nat, t = n := ⟨t.toNat, by omega⟩
    rw [show rgB xs n = regB xs n by simp [rgB, giB, hg, ht], show giB xs n = true by simp [giB, hg, ht]]
    have H := hid hg
    have HT := hid ht
    have HR := hid fun W (h : Cells W A xs) => arRegular_any A c xs n W (good_len hg) (by omega) h
    obtain ⟨R, hR⟩ : ∃ R, R = regB xs n := ⟨_, rfl⟩
    rw [← hR] at HR ⊢
    clear hg ht hR
    go_enter Try.func18, Try.ntmps18
    go_wp2_with (first | (go_at_call 37; refine (ptGood_b _ _ _ _ hl hc _ H.out).mono ?_; rintro e w' ⟨rfl, n0, rfl⟩) | (go_at_call 33; refine (chRunners_b _ _ _ HT.out).mono ?_; rintro e w' ⟨rfl, rfl⟩) | (go_at_call 25; refine (HR.out _ (by exact hc)).mono ?_; rintro e w' ⟨rfl, m, rfl⟩))
    go_ret2
    exact ⟨rfl, below_drew' _ _⟩

/-! Ladders. -/
def ldB (r c t : Int) : Bool := inB 0 30 r && (inB 0 30 c && inB 2 6 t)
def ldF (r c t : Int) : Int := if ldB r c t then r + (t - 1) * c else 0
theorem mul_bd {t c : Int} (ht : 2 ≤ t ∧ t ≤ 6) (hc : 0 ≤ c ∧ c ≤ 30) : 0 ≤ (t - 1) * c ∧ (t - 1) * c ≤ 150 := by
  refine ⟨Int.mul_nonneg (by omega) (by omega), ?_⟩
  have h1 : (t - 1) * c ≤ 5 * c := Int.mul_le_mul_of_nonneg_right (by omega) (by omega)
  omega
theorem okN_in (n : Int) : okN n = inB 0 30 n := rfl
end Go.Proofs.Ytkbdlhmkiolegaa
