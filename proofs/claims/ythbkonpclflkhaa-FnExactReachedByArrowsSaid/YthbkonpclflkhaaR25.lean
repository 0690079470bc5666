/-
  Several texts in one.
-/
import Derived.Test.YthbkonpclflkhaaR02
import Derived.Test.YthbkonpclflkhaaR24
import Derived.Test.YthbkonpclflkhaaCB
import Derived.Test.YthbkonpclflkhaaCH
import Derived.Test.YthbkonpclflkhaaR19
import Derived.Test.YthbkonpclflkhaaR01
/-
  Contracts: regular partitions, ladders of cells, partitions above others: IsRegular, LadderOf, IsAbove of the program and of the model.
-/
namespace Go.Proofs.Ythbkonpclflkhaa
open Go.RowKit

set_option maxHeartbeats 1000000 in
theorem isRegular_any (A : Option Addr) (c : Nat) (xs : List Int) (t : Nat) (w : World) (hl : xs.length ≤ 30) (ht : 2 ≤ t ∧ t ≤ 6) (hc : Cells w A xs) :
    Calls Try.prog 86 #[.slice A xs.length c, .int .i64 t] w fun e w' => e = .returned (.bool (regB xs t)) ∧ ∃ n, w' = w.drewN n := by
  obtain ⟨s, rfl⟩ : ∃ s, t = s + 1 := ⟨t - 1, by omega⟩
  have hs1 : IntKind.i64.wrap (((s + 1 : Nat) : Int) - 1) = (s : Int) := by rw [IntWalk.i64_in _ (by omega)]; omega
  go_enter Try.func86, Try.ntmps86
  go_wp2_with fail
  go_loopw [5] (fun rv wr => ∃ k : Nat, k ≤ xs.length ∧ rv = .int .i64 ((s + k : Nat) : Int) ∧ Hid (regTo xs s k = true) ∧ ∃ n, wr = w.drewN n) (fun rv _ => xs.length + 1 - (intOf rv).toNat)
  case atStart => exact ⟨0, by omega, rfl, hid rfl, 0, rfl⟩
  case round =>
    obtain ⟨k, hk, rfl, HR, n, rfl⟩ := hrel
    by_cases hlt : s + k < xs.length
    · obtain ⟨b, o, rfl, hcc⟩ := hc (by omega)
      have hck := hcc (s + k) hlt
      have hck1 := hcc k (by omega)
      have hw : IntKind.i64.wrap (((s + k : Nat) : Int) - (s : Int)) = (k : Int) := by rw [IntWalk.i64_in _ (by omega)]; omega
      have hkl : k < xs.length := by omega
      have hkl2 : ((s + k : Nat) : Int) < (xs.length : Int) := by omega
      clear hcc
      obtain ⟨x, hx⟩ : ∃ x, x = xs.getD (s + k) 0 := ⟨_, rfl⟩
      obtain ⟨y, hy⟩ : ∃ y, y = xs.getD k 0 := ⟨_, rfl⟩
      rw [← hx] at hck
      rw [← hy] at hck1
      have HX := hid hx
      have HY := hid hy
      obtain ⟨m, hm⟩ : ∃ m, m = s + k := ⟨_, rfl⟩
      rw [← hm] at hck hw hkl2 hlt ⊢
      have HM := hid hm
      clear hx hy hm
      by_cases hxy : x = y
      · have hE : regB xs (s + 1) = false := regTo_no (k := k) (by rw [Nat.add_sub_cancel, Nat.add_comm k s, ← HX.out, ← HY.out, hxy]) (by have := HM.out; omega)
        have HE := hid hE
        have hb : (x == y) = true := beq_iff_eq.2 hxy
        clear hE hxy
        go_wp2_with fail
        go_quiet (fail)
        go_wp2_with fail
        go_ret
        exact ⟨ret_bool HE.out.symm, drew2 _ _⟩
      · have HE := hid hxy
        have hb : (x == y) = false := beq_eq_false_iff_ne.2 hxy
        clear hxy
        go_wp2_with fail
        go_quiet (fail)
        go_wp2_with fail
        go_roundw
        case rel => exact ⟨k + 1, by omega, by rw [HM.out]; go_num, hid (by
          simp only [regTo, HR.out, Bool.true_and, decide_eq_true_eq]
          rw [Nat.add_comm k s, ← HX.out, ← HY.out]; exact fun e => HE.out e.symm), _, rfl⟩
        case measure => simp [intOf]; omega
    · have hE : regB xs (s + 1) = true := regTo_le HR.out (by omega)
      have HE := hid hE
      clear hE
      go_wp2_with fail
      go_ret
      exact ⟨ret_bool HE.out.symm, n, rfl⟩

set_option maxHeartbeats 1000000 in
theorem arRegular_any (A : Option Addr) (c : Nat) (xs : List Int) (t : Nat) (w : World) (hl : xs.length ≤ 30) (ht : 2 ≤ t ∧ t ≤ 6) (hc : Cells w A xs) :
    Calls Try.prog 83 #[.slice A xs.length c, .int .i64 t] w fun e w' => e = .returned (.bool (regB xs t)) ∧ ∃ n, w' = w.drewN n := by
  go_enter Try.func83, Try.ntmps83
  go_wp2_with fail
  go_loopw [5] (fun rv wr => ∃ k : Nat, k ≤ xs.length ∧ rv = .int .i64 k ∧ Hid (regTo xs (t - 1) k = true) ∧ ∃ n, wr = w.drewN n) (fun rv _ => xs.length + 1 - (intOf rv).toNat)
  case atStart => exact ⟨0, by omega, rfl, hid rfl, 0, rfl⟩
  case round =>
    obtain ⟨k, hk, rfl, HR, n, rfl⟩ := hrel
    by_cases hlt : k + t ≤ xs.length
    · obtain ⟨b, o, rfl, hcc⟩ := hc (by omega)
      obtain ⟨m, hm⟩ : ∃ m, m = k + (t - 1) := ⟨_, rfl⟩
      have hck := hcc m (by omega)
      have hck1 := hcc k (by omega)
      have hw0 : (k : Int) + (t : Int) ≤ (xs.length : Int) := by omega
      have hw1 : IntKind.i64.wrap ((k : Int) + (t : Int)) = (k : Int) + t := IntWalk.i64_in _ (by omega)
      have hw2 : IntKind.i64.wrap ((k : Int) + (t : Int) - 1) = (m : Int) := by rw [IntWalk.i64_in _ (by omega)]; omega
      have hml : m < xs.length := by omega
      have hkl : k < xs.length := by omega
      clear hcc
      obtain ⟨x, hx⟩ : ∃ x, x = xs.getD m 0 := ⟨_, rfl⟩
      obtain ⟨y, hy⟩ : ∃ y, y = xs.getD k 0 := ⟨_, rfl⟩
      rw [← hx] at hck
      rw [← hy] at hck1
      have HX := hid hx
      have HY := hid hy
      have HM := hid hm
      clear hx hy hm
      by_cases hxy : y = x
      · have hE : regB xs t = false := regTo_no (k := k) (by rw [← HM.out, ← HX.out, ← HY.out, hxy]) (by omega)
        have HE := hid hE
        have hb : (y == x) = true := beq_iff_eq.2 hxy
        clear hE hxy
        go_wp2_with fail
        go_quiet (fail)
        go_wp2_with fail
        go_ret
        exact ⟨ret_bool HE.out.symm, drew2 _ _⟩
      · have HE := hid hxy
        have hb : (y == x) = false := beq_eq_false_iff_ne.2 hxy
        clear hxy
        go_wp2_with fail
        go_quiet (fail)
        go_wp2_with fail
        go_roundw
        case rel => exact ⟨k + 1, by omega, by go_num, hid (by
          simp only [regTo, HR.out, Bool.true_and, decide_eq_true_eq]
          rw [← HM.out, ← HX.out, ← HY.out]; exact HE.out), _, rfl⟩
        case measure => simp [intOf]; omega
    · have hE : regB xs t = true := regTo_le HR.out (by omega)
      have HE := hid hE
      have hw0 : ¬ (k : Int) + (t : Int) ≤ (xs.length : Int) := by omega
      have hw1 : IntKind.i64.wrap ((k : Int) + (t : Int)) = (k : Int) + t := IntWalk.i64_in _ (by omega)
      clear hE
      go_wp2_with fail
      go_ret
      exact ⟨ret_bool HE.out.symm, n, rfl⟩

set_option maxHeartbeats 1000000 in
theorem impl_IsRegular (A : Option Addr) (c : Nat) (xs : List Int) (t : Int) (w : World) (hl : xs.length ≤ 1048576) (hc : Cells w A xs) (_ : I64 t) :
    Calls Try.prog 37 #[.slice A xs.length c, .int .i64 t] w fun e w' => e = .returned (.tuple #[.bool (rgB xs t), .bool (giB xs t)]) ∧ Below w.heap.size w w' := by
  cases hg : good xs
  · rw [show rgB xs t = false by simp [rgB, giB, hg], show giB xs t = false by simp [giB, hg]]
    have H := hid hg; clear hg
    go_enter Try.func37, Try.ntmps37
    go_wp2_with (go_at_call 84; refine (IsPartition_b _ _ _ _ hl hc _ H.out).mono ?_; rintro e w' ⟨rfl, rfl⟩)
    go_ret2
    exact ⟨rfl, Below.refl _ _⟩
  cases ht : inB 2 6 t
  · rw [show rgB xs t = false by simp [rgB, giB, ht], show giB xs t = false by simp [giB, ht]]
    have H := hid hg
    have HT := hid ht
    clear hg ht
    go_enter Try.func37, Try.ntmps37
    go_wp2_with (first | (go_at_call 84; refine (IsPartition_b _ _ _ _ hl hc _ H.out).mono ?_; rintro e w' ⟨rfl, rfl⟩) | (go_at_call 85; refine (hasRunners_b _ _ _ HT.out).mono ?_; rintro e w' ⟨rfl, rfl⟩))
    go_ret2
    exact ⟨rfl, Below.refl _ _⟩
  · have htb := inB_iff.1 ht
    obtain ⟨n, rfl⟩ : ∃ n : Nat, t = n := ⟨t.toNat, by omega⟩
    rw [show rgB xs n = regB xs n by simp [rgB, giB, hg, ht], show giB xs n = true by simp [giB, hg, ht]]
    have H := hid hg
    have HT := hid ht
    have HR := hid fun W (h : Cells W A xs) => isRegular_any A c xs n W (good_len hg) (by omega) h
    obtain ⟨R, hR⟩ : ∃ R, R = regB xs n := ⟨_, rfl⟩
    rw [← hR] at HR ⊢
    clear hg ht hR
    go_enter Try.func37, Try.ntmps37
    go_wp2_with (first | (go_at_call 84; refine (IsPartition_b _ _ _ _ hl hc _ H.out).mono ?_; rintro e w' ⟨rfl, rfl⟩) | (go_at_call 85; refine (hasRunners_b _ _ _ HT.out).mono ?_; rintro e w' ⟨rfl, rfl⟩) | (go_at_call 86; refine (HR.out _ (by exact hc)).mono ?_; rintro e w' ⟨rfl, m, rfl⟩))
    go_ret2
    exact ⟨rfl, below_drew' _ _⟩

set_option maxHeartbeats 1000000 in
theorem spec_IsRegular (A : Option Addr) (c : Nat) (xs : List Int) (t : Int) (w : World) (hl : xs.length ≤ 1048576) (hc : Cells w A xs) (_ : I64 t) :
    Calls Try.prog 36 #[.slice A xs.length c, .int .i64 t] w fun e w' => e = .returned (.tuple #[.bool (rgB xs t), .bool (giB xs t)]) ∧ Below w.heap.size w w' := by
  cases hg : good xs
  · rw [show rgB xs t = false by simp [rgB, giB, hg], show giB xs t = false by simp [giB, hg]]
    have H := hid hg; clear hg
    go_enter Try.func36, Try.ntmps36
    go_wp2_with (go_at_call 77; refine (ptGood_b _ _ _ _ hl hc _ H.out).mono ?_; rintro e w' ⟨rfl, n0, rfl⟩)
    go_ret2
    exact ⟨rfl, below_drew' _ _⟩
  cases ht : inB 2 6 t
  · rw [show rgB xs t = false by simp [rgB, giB, ht], show giB xs t = false by simp [giB, ht]]
    have H := hid hg
    have HT := hid ht
    clear hg ht
    go_enter Try.func36, Try.ntmps36
    go_wp2_with (first | (go_at_call 77; refine (ptGood_b _ _ _ _ hl hc _ H.out).mono ?_; rintro e w' ⟨rfl, n0, rfl⟩) | (go_at_call 82; refine (chRunners_b _ _ _ HT.out).mono ?_; rintro e w' ⟨rfl, rfl⟩))
    go_ret2
    exact ⟨rfl, below_drew' _ _⟩
  · have htb := inB_iff.1 ht
    obtain ⟨n, rfl⟩ : ∃ n : Nat, t = n := ⟨t.toNat, by omega⟩
    rw [show rgB xs n = regB xs n by simp [rgB, giB, hg, ht], show giB xs n = true by simp [giB, hg, ht]]
    have H := hid hg
    have HT := hid ht
    have HR := hid fun W (h : Cells W A xs) => arRegular_any A c xs n W (good_len hg) (by omega) h
    obtain ⟨R, hR⟩ : ∃ R, R = regB xs n := ⟨_, rfl⟩
    rw [← hR] at HR ⊢
    clear hg ht hR
    go_enter Try.func36, Try.ntmps36
    go_wp2_with (first | (go_at_call 77; refine (ptGood_b _ _ _ _ hl hc _ H.out).mono ?_; rintro e w' ⟨rfl, n0, rfl⟩) | (go_at_call 82; refine (chRunners_b _ _ _ HT.out).mono ?_; rintro e w' ⟨rfl, rfl⟩) | (go_at_call 83; refine (HR.out _ (by exact hc)).mono ?_; rintro e w' ⟨rfl, m, rfl⟩))
    go_ret2
    exact ⟨rfl, below_drew' _ _⟩

/-! Ladders. -/
def ldB (r c t : Int) : Bool := inB 0 30 r && (inB 0 30 c && inB 2 6 t)
def ldF (r c t : Int) : Int := if ldB r c t then r + (t - 1) * c else 0
theorem mul_bd {t c : Int} (ht : 2 ≤ t ∧ t ≤ 6) (hc : 0 ≤ c ∧ c ≤ 30) : 0 ≤ (t - 1) * c ∧ (t - 1) * c ≤ 150 := by
  refine ⟨Int.mul_nonneg (by omega) (by omega), ?_⟩
  have h1 : (t - 1) * c ≤ 5 * c := Int.mul_le_mul_of_nonneg_right (by omega) (by omega)
  omega
theorem okN_in (n : Int) : okN n = inB 0 30 n := rfl
set_option maxHeartbeats 400000 in
theorem ladder_any (r c t : Int) (w : World) (hr : 0 ≤ r ∧ r ≤ 30) (hc : 0 ≤ c ∧ c ≤ 30) (ht : 2 ≤ t ∧ t ≤ 6) :
    Calls Try.prog 103 #[.agg #[.int .i64 r, .int .i64 c], .int .i64 t] w fun e w' => e = .returned (.int .i64 (r + (t - 1) * c)) ∧ Below w.heap.size w w' := by
  obtain ⟨h1, h2⟩ := mul_bd ht hc
  have hw0 : IntKind.i64.wrap (t - 1) = t - 1 := IntWalk.i64_in _ (by omega)
  have hw1 : IntKind.i64.wrap ((t - 1) * c) = (t - 1) * c := IntWalk.i64_in _ (by omega)
  have hw2 : IntKind.i64.wrap (r + (t - 1) * c) = r + (t - 1) * c := IntWalk.i64_in _ (by omega)
  go_enter Try.func103, Try.ntmps103
  go_wp2
  go_ret
  exact ⟨rfl, (Below.refl _ _).alloc (Nat.le_refl _) _⟩
set_option maxHeartbeats 1000000 in
theorem impl_LadderOf (r c t : Int) (w : World) (_ : I64 r) (_ : I64 c) (_ : I64 t) :
    Calls Try.prog 52 #[.int .i64 r, .int .i64 c, .int .i64 t] w fun e w' => e = .returned (.tuple #[.int .i64 (ldF r c t), .bool (ldB r c t)]) ∧ Below w.heap.size w w' := by
  cases h1 : inB 0 30 r <;> cases h2 : inB 0 30 c <;> cases h3 : inB 2 6 t
  case true.true.true =>
    have hB : ldB r c t = true := by simp [ldB, h1, h2, h3]
    rw [show ldF r c t = r + (t - 1) * c by simp [ldF, hB], hB]
    have H1 := hid ((okN_in r).trans h1)
    have H2 := hid ((okN_in c).trans h2)
    have H3 := hid h3
    have HL := hid fun W => ladder_any r c t W (inB_iff.1 h1) (inB_iff.1 h2) (inB_iff.1 h3)
    obtain ⟨y, hy⟩ : ∃ y, y = r + (t - 1) * c := ⟨_, rfl⟩
    rw [← hy] at HL ⊢
    clear h1 h2 h3 hB hy
    go_enter Try.func52, Try.ntmps52
    go_wp2_with fail
    refine (isCellNumber_b _ _ _ H1.out).mono ?_
    rintro e w' ⟨rfl, rfl⟩
    go_wp2_with fail
    refine (isCellNumber_b _ _ _ H2.out).mono ?_
    rintro e w' ⟨rfl, rfl⟩
    go_wp2_with (first | (go_at_call 85; refine (hasRunners_b _ _ _ H3.out).mono ?_; rintro e w' ⟨rfl, rfl⟩) | (go_at_call 103; refine (HL.out _).mono ?_; rintro e w2 ⟨rfl, b2⟩))
    go_ret2
    exact ⟨rfl, b2⟩
  all_goals
    have hB : ldB r c t = false := by simp [ldB, h1, h2, h3]
    rw [show ldF r c t = 0 by simp [ldF, hB], hB]
    have H1 := hid ((okN_in r).trans h1)
    have H2 := hid ((okN_in c).trans h2)
    have H3 := hid h3
    clear h1 h2 h3 hB
    go_enter Try.func52, Try.ntmps52
    go_wp2_with fail
    refine (isCellNumber_b _ _ _ H1.out).mono ?_
    rintro e w' ⟨rfl, rfl⟩
    go_wp2_with fail
    try (refine (isCellNumber_b _ _ _ H2.out).mono ?_; rintro e w' ⟨rfl, rfl⟩)
    try go_wp2_with (go_at_call 85; refine (hasRunners_b _ _ _ H3.out).mono ?_; rintro e w' ⟨rfl, rfl⟩)
    go_ret2
    exact ⟨rfl, Below.refl _ _⟩
set_option maxHeartbeats 1000000 in
theorem spec_LadderOf (r c t : Int) (w : World) (_ : I64 r) (_ : I64 c) (_ : I64 t) :
    Calls Try.prog 51 #[.int .i64 r, .int .i64 c, .int .i64 t] w fun e w' => e = .returned (.tuple #[.int .i64 (ldF r c t), .bool (ldB r c t)]) ∧ Below w.heap.size w w' := by
  cases h1 : inB 0 30 r <;> cases h2 : inB 0 30 c <;> cases h3 : inB 2 6 t
  case true.true.true =>
    have hB : ldB r c t = true := by simp [ldB, h1, h2, h3]
    rw [show ldF r c t = r + (t - 1) * c by simp [ldF, hB], hB]
    have H1 := hid h1
    have H2 := hid h2
    have H3 := hid h3
    have hr := inB_iff.1 h1
    have ht := inB_iff.1 h3
    obtain ⟨k1, k2⟩ := mul_bd ht (inB_iff.1 h2)
    have hw0 : IntKind.i64.wrap (t - 1) = t - 1 := IntWalk.i64_in _ (by omega)
    have hw1 : IntKind.i64.wrap ((t - 1) * c) = (t - 1) * c := IntWalk.i64_in _ (by omega)
    have hw2 : IntKind.i64.wrap (r + (t - 1) * c) = r + (t - 1) * c := IntWalk.i64_in _ (by omega)
    clear h1 h2 h3 hB
    go_enter Try.func51, Try.ntmps51
    go_wp2_with fail
    refine (l1In_b _ _ _ _ _ H1.out).mono ?_
    rintro e w' ⟨rfl, rfl⟩
    go_wp2_with fail
    refine (l1In_b _ _ _ _ _ H2.out).mono ?_
    rintro e w' ⟨rfl, rfl⟩
    go_wp2_with (go_at_call 82; refine (chRunners_b _ _ _ H3.out).mono ?_; rintro e w' ⟨rfl, rfl⟩)
    go_ret2
    exact ⟨rfl, Below.refl _ _⟩
  all_goals
    have hB : ldB r c t = false := by simp [ldB, h1, h2, h3]
    rw [show ldF r c t = 0 by simp [ldF, hB], hB]
    have H1 := hid h1
    have H2 := hid h2
    have H3 := hid h3
    clear h1 h2 h3 hB
    go_enter Try.func51, Try.ntmps51
    go_wp2_with fail
    refine (l1In_b _ _ _ _ _ H1.out).mono ?_
    rintro e w' ⟨rfl, rfl⟩
    go_wp2_with fail
    try (refine (l1In_b _ _ _ _ _ H2.out).mono ?_; rintro e w' ⟨rfl, rfl⟩)
    try go_wp2_with (go_at_call 82; refine (chRunners_b _ _ _ H3.out).mono ?_; rintro e w' ⟨rfl, rfl⟩)
    go_ret2
    exact ⟨rfl, Below.refl _ _⟩
end Go.Proofs.Ythbkonpclflkhaa
/-
  Plain facts: what is listed by rank are the partitions, and all of them. No program in this text.
-/
namespace Go.Proofs.Ythbkonpclflkhaa

theorem pa_chk : ∀ (f n m r : Nat), n ≤ f → n < 31 → m ≤ 30 → r < T n m → chk m (pa f n m r) = true ∧ (pa f n m r).sum = n
  | f, 0, m, r, _, _, _, _ => by rw [pa_zero]; simp [chk]
  | 0, n + 1, m, r, h, _, _, _ => absurd h (by omega)
  | f + 1, n + 1, m, r, hf, hn, hm, hr => by
    obtain ⟨p, q, h1, h2, h3, h4, h5⟩ := pk_ok hn (by omega) m hm r hr
    obtain ⟨f', hf', e⟩ := pa_next hf (by omega) h1
    have hff : f' = f := by omega
    subst hff
    obtain ⟨i1, i2⟩ := pa_chk f' (n + 1 - p) p q (by omega) (by omega) (by omega) h5
    rw [e]
    constructor
    · rw [chk, i1]
      simp only [Bool.and_true, Bool.and_eq_true, decide_eq_true_eq]
      omega
    · rw [List.sum_cons, i2]; omega
theorem pa_good {n r : Nat} (hn : n ≤ 30) (hr : r < T n n) : Good (pa n n n r) ∧ (pa n n n r).sum = n := by
  obtain ⟨h1, h2⟩ := pa_chk n n n r (Nat.le_refl _) (by omega) hn hr
  obtain ⟨c1, c2, c3⟩ := (chk_iff _ _).1 h1
  have hl := len_sum _ c1
  have hle : ∀ j, j < (pa n n n r).length → (pa n n n r).getD j 0 ≤ 30 := fun j hj => by
    have := part_sum _ (fun i hi => by have := c1 i hi; omega) j hj
    omega
  exact ⟨⟨by omega, c1, hle, c3, by omega, by omega⟩, h2⟩
theorem pa_all : ∀ (n m : Nat) (p : List Int), n < 31 → m ≤ 30 → chk m p = true → p.sum = n → ∃ r, r < T n m ∧ p = pa n n m r := by
  intro n
  induction n using Nat.strongRecOn with
  | _ n ih =>
    intro m p hn hm hc hs
    cases p with
    | nil =>
      simp at hs
      have h0 : n = 0 := by omega
      subst h0
      exact ⟨0, by rw [T_top m (by omega)]; omega, by rw [pa_zero]⟩
    | cons x t =>
      rw [chk] at hc
      simp only [Bool.and_eq_true, decide_eq_true_eq] at hc
      obtain ⟨h1, h2, h3⟩ := hc
      have ht := (chk_iff _ _).1 h3
      have hl := len_sum t ht.1
      rw [List.sum_cons] at hs
      obtain ⟨y, rfl⟩ : ∃ y : Nat, x = y := ⟨x.toNat, by omega⟩
      obtain ⟨j, hj, e⟩ := ih (n - y) (by omega) y t (by omega) (by omega) h3 (by omega)
      have hT := T_le hn m hm (show y ≤ m by omega)
      have hst : T n y = T n (y - 1) + T (n - y) y := by
        have := T_step (n := n) (k := y - 1) hn (by omega) (by omega)
        rw [show y - 1 + 1 = y by omega] at this; exact this
      refine ⟨T n m - T n y + j, by omega, ?_⟩
      rw [pa_at hn (by omega) (by omega) hm (by omega) hj, ← e]
theorem good_pa {p : List Int} (G : Good p) : ∃ r, r < T p.sum.toNat p.sum.toNat ∧ p = pa p.sum.toNat p.sum.toNat p.sum.toNat r := by
  have hs := G.sum0
  have hs2 := G.sum
  refine pa_all p.sum.toNat p.sum.toNat p (by omega) (by omega) ?_ (by omega)
  refine (chk_iff _ _).2 ⟨G.pos, fun h0 => ?_, G.down⟩
  have := part_sum p (fun i hi => by have := G.pos i hi; omega) 0 h0
  omega
end Go.Proofs.Ythbkonpclflkhaa
