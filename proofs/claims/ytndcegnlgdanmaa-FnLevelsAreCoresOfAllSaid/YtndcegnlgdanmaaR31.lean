/-
  Several texts in one.
-/
import Derived.Test.YtndcegnlgdanmaaR02
import Derived.Test.YtndcegnlgdanmaaR18
import Derived.Test.YtndcegnlgdanmaaR08
import Derived.Test.YtndcegnlgdanmaaCB
import Derived.Test.YtndcegnlgdanmaaR10
import Derived.BigQuiet
/-
  Contracts: the size of the core with levels, and levels turned (both sides).
-/
namespace Go.Proofs.Ytndcegnlgdanmaa
open Go.RowKit

set_option maxHeartbeats 400000 in
theorem sqLev_any (x : Int) (w : World) (h : -10 ≤ x ∧ x ≤ 10) : Calls Try.prog 27 #[.int .i64 x] w fun e w' => e = .returned (.int .i64 (x * x)) ∧ w = w' := by
  have hb := sq_bd h
  go_enter Try.func27, Try.ntmps27
  go_wp2
  go_ret
  exact ⟨rfl, rfl⟩

set_option maxHeartbeats 400000 in
theorem sumSq_any (A : Option Addr) (xs : List Int) (c : Nat) (w : World) (L : Lev xs) (hc : Cells w A xs) :
    Calls Try.prog 26 #[.slice A xs.length c, .func (.func 27) #[] #[]] w fun e w' => e = .returned (.int .i64 (sqSum xs xs.length)) ∧ w = w' := by
  have hl := L.hi
  have HB := hid L; clear L
  go_enter Try.func26, Try.ntmps26
  go_wp2_with fail
  go_loop [5, 10] (fun s i => ∃ k : Nat, k ≤ xs.length ∧ i = .int .i64 k ∧ s = .int .i64 (sqSum xs k)) (fun _ i => xs.length - (intOf i).toNat)
  case atStart => exact ⟨0, Nat.zero_le _, rfl, rfl⟩
  case round =>
    obtain ⟨k, hk, rfl, rfl⟩ := hrel
    have hsb := sqSum_bd HB.out k hk
    by_cases hlt : k < xs.length
    · obtain ⟨b, o, rfl, hcc⟩ := hc (by omega)
      have hck := hcc k hlt
      have hxb := HB.out.bd k hlt
      have HE := hid (show sqSum xs (k + 1) = sqSum xs k + xs.getD k 0 * xs.getD k 0 from rfl)
      clear hcc hc
      obtain ⟨x, hx⟩ : ∃ x, x = xs.getD k 0 := ⟨_, rfl⟩
      obtain ⟨s, hs⟩ : ∃ s, s = sqSum xs k := ⟨_, rfl⟩
      rw [← hx] at hck hxb HE
      rw [← hs] at HE hsb ⊢
      have hsq := sq_bd hxb
      clear hx hs
      go_wp2_with (go_at_call 27; refine (sqLev_any _ _ hxb).mono ?_; rintro e w' ⟨rfl, rfl⟩)
      go_round
      case rel => exact ⟨k + 1, by omega, by go_num, by rw [HE.out]⟩
      case measure => simp [intOf]; omega
    · have hkl : k = xs.length := by omega
      subst hkl
      clear hsb
      go_wp2_with fail
      go_ret
      exact ⟨rfl, rfl⟩

theorem sizeF_f {xs : List Int} (h : levB xs = false) : sizeF xs = 0 := by simp [sizeF, h]
theorem sizeF_t {xs : List Int} (h : levB xs = true) : sizeF xs = sizeL xs := by simp [sizeF, h]

set_option maxRecDepth 100000 in
set_option maxHeartbeats 1000000 in
theorem SizeOfLevels_any (A : Option Addr) (c : Nat) (xs : List Int) (w : World) (hl : xs.length ≤ 1048576) (hc : Cells w A xs) :
    Calls Try.prog 6 #[.slice A xs.length c] w fun e w' => e = .returned (.tuple #[.int .i64 (sizeF xs), .bool (levB xs)]) ∧ w = w' := by
  cases hg : levB xs
  · rw [sizeF_f hg]
    have HG := hid hg; clear hg
    go_enter Try.func6, Try.ntmps6
    go_wp2_with (go_at_call 9; refine (IsLevels_b _ _ _ _ hl hc _ HG.out).mono ?_; rintro e w' ⟨rfl, rfl⟩)
    go_ret2
    exact ⟨rfl, rfl⟩
  rw [sizeF_t hg]
  have L := levB_iff.1 hg
  have h6 := L.hi
  have hsb := sqSum_bd L xs.length (Nat.le_refl _)
  have HL := hid L
  have HG := hid hg; clear hg L
  have HZ := hid (show sizeL xs = sqSum xs xs.length / 2 * xs.length + ixSum xs xs.length from rfl)
  obtain ⟨s, hs⟩ : ∃ s, s = sqSum xs xs.length := ⟨_, rfl⟩
  have HS := hid hs
  rw [← hs] at HZ hsb
  clear hs
  have htd : Int.tdiv s 2 = s / 2 := Int.tdiv_eq_ediv_of_nonneg hsb.1
  have hmb := mul6_bd xs.length h6 (s / 2) (by omega)
  rw [Int.mul_comm] at hmb
  obtain ⟨z, hz⟩ : ∃ z, z = s / 2 * (xs.length : Int) := ⟨_, rfl⟩
  rw [← hz] at HZ hmb
  have hq : s / 2 * (xs.length : Int) = z := hz.symm
  clear hz
  go_enter Try.func6, Try.ntmps6
  go_wp2_with (first | (go_at_call 9; refine (IsLevels_b _ _ _ _ hl hc _ HG.out).mono ?_; rintro e w' ⟨rfl, rfl⟩) | (go_at_call 26; refine (sumSq_any _ _ _ _ HL.out hc).mono ?_; rw [← HS.out]; rintro e w' ⟨rfl, rfl⟩))
  go_loop [5, 20] (fun s i => ∃ k : Nat, k ≤ xs.length ∧ i = .int .i64 k ∧ s = .int .i64 (z + ixSum xs k)) (fun _ i => xs.length - (intOf i).toNat)
  case atStart => exact ⟨0, Nat.zero_le _, rfl, by simp [ixSum]⟩
  case round =>
    obtain ⟨k, hk, rfl, rfl⟩ := hrel
    have hib := ixSum_bd HL.out k hk
    by_cases hlt : k < xs.length
    · obtain ⟨b, o, rfl, hcc⟩ := hc (by omega)
      have hck := hcc k hlt
      have hxb := ix_bd (HL.out.bd k hlt) k (by omega)
      have hx1 := HL.out.bd k hlt
      have HE := hid (show ixSum xs (k + 1) = ixSum xs k + (k : Int) * xs.getD k 0 from rfl)
      clear hcc hc
      obtain ⟨x, hx⟩ : ∃ x, x = xs.getD k 0 := ⟨_, rfl⟩
      obtain ⟨s2, hs2⟩ : ∃ s, s = ixSum xs k := ⟨_, rfl⟩
      rw [← hx] at hck hxb hx1 HE
      rw [← hs2] at HE hib ⊢
      rw [Int.mul_comm] at hxb
      clear hx hs2 hq htd
      go_wp2_with fail
      go_round
      case rel => exact ⟨k + 1, by omega, by go_num, by rw [HE.out, Int.mul_comm (k : Int)]; go_num⟩
      case measure => simp [intOf]; omega
    · have hkl : k = xs.length := by omega
      subst hkl
      clear hq htd hib
      rw [← HZ.out]
      go_wp2_with fail
      go_ret2
      exact ⟨rfl, rfl⟩

set_option maxRecDepth 100000 in
set_option maxHeartbeats 1000000 in
theorem chSize_any (A : Option Addr) (c : Nat) (xs : List Int) (w : World) (L : Lev xs) (hc : Cells w A xs) :
    Calls Try.prog 24 #[.slice A xs.length c] w fun e w' => e = .returned (.int .i64 (sizeL xs)) ∧ w = w' := by
  have h6 := L.hi
  have hm := half_mul L
  have HL := hid L; clear L
  go_enter Try.func24, Try.ntmps24
  go_wp2_with fail
  go_loop [3, 4, 9] (fun q s i => ∃ k : Nat, k ≤ xs.length ∧ i = .int .i64 k ∧ q = .int .i64 (sqSum xs k) ∧ s = .int .i64 (ixSum xs k)) (fun _ _ i => xs.length - (intOf i).toNat)
  case atStart => exact ⟨0, Nat.zero_le _, rfl, rfl, rfl⟩
  case round =>
    obtain ⟨k, hk, rfl, rfl, rfl⟩ := hrel
    have hib := ixSum_bd HL.out k hk
    have hsb := sqSum_bd HL.out k hk
    by_cases hlt : k < xs.length
    · obtain ⟨b, o, rfl, hcc⟩ := hc (by omega)
      have hck := hcc k hlt
      have hxb := ix_bd (HL.out.bd k hlt) k (by omega)
      have hx1 := HL.out.bd k hlt
      have HE := hid (show ixSum xs (k + 1) = ixSum xs k + (k : Int) * xs.getD k 0 from rfl)
      have HF := hid (show sqSum xs (k + 1) = sqSum xs k + xs.getD k 0 * xs.getD k 0 from rfl)
      clear hcc hc
      obtain ⟨x, hx⟩ : ∃ x, x = xs.getD k 0 := ⟨_, rfl⟩
      obtain ⟨s2, hs2⟩ : ∃ s, s = ixSum xs k := ⟨_, rfl⟩
      obtain ⟨s3, hs3⟩ : ∃ s, s = sqSum xs k := ⟨_, rfl⟩
      rw [← hx] at hck hxb hx1 HE HF
      rw [← hs2] at HE hib ⊢
      rw [← hs3] at HF hsb ⊢
      have hsq := sq_bd hx1
      clear hx hs2 hs3 hm
      go_wp2_with fail
      go_round
      case rel => exact ⟨k + 1, by omega, by go_num, by rw [HF.out], by rw [HE.out]⟩
      case measure => simp [intOf]; omega
    · have hkl : k = xs.length := by omega
      subst hkl
      have HZ := hid (show sizeL xs = sqSum xs xs.length / 2 * xs.length + ixSum xs xs.length from rfl)
      have hmb := mul6_bd xs.length h6 (sqSum xs xs.length) (by omega)
      have HM := hid hm; clear hm
      obtain ⟨s2, hs2⟩ : ∃ s, s = ixSum xs xs.length := ⟨_, rfl⟩
      obtain ⟨s3, hs3⟩ : ∃ s, s = sqSum xs xs.length := ⟨_, rfl⟩
      rw [← hs2] at hib HZ ⊢
      rw [← hs3] at hsb HZ HM hmb ⊢
      obtain ⟨p, hp⟩ : ∃ p, p = (xs.length : Int) * s3 := ⟨_, rfl⟩
      rw [← hp] at hmb HM
      have hpe : (xs.length : Int) * s3 = p := hp.symm
      have htd : Int.tdiv p 2 = p / 2 := Int.tdiv_eq_ediv_of_nonneg hmb.1
      clear hs2 hs3 hp
      go_wp2_with fail
      go_ret
      exact ⟨ret_int (by rw [HZ.out, ← HM.out]), rfl⟩

theorem impl_SizeOfLevels (A : Option Addr) (c : Nat) (xs : List Int) (w : World) (hl : xs.length ≤ 1048576) (hc : Cells w A xs) :
    Calls Try.prog 6 #[.slice A xs.length c] w fun e w' => e = .returned (.tuple #[.int .i64 (sizeF xs), .bool (levB xs)]) ∧ Below w.heap.size w w' :=
  (SizeOfLevels_any A c xs w hl hc).mono fun _ _ ⟨he, hw⟩ => ⟨he, by rw [hw]; exact Below.refl _ _⟩

set_option maxHeartbeats 1000000 in
theorem spec_SizeOfLevels (A : Option Addr) (c : Nat) (xs : List Int) (w : World) (hl : xs.length ≤ 1048576) (hc : Cells w A xs) :
    Calls Try.prog 7 #[.slice A xs.length c] w fun e w' => e = .returned (.tuple #[.int .i64 (sizeF xs), .bool (levB xs)]) ∧ Below w.heap.size w w' := by
  cases hg : levB xs
  · rw [sizeF_f hg]
    have HG := hid hg; clear hg
    go_enter Try.func7, Try.ntmps7
    go_wp2_with (go_at_call 23; refine (chGood_b _ _ _ _ hl hc _ HG.out).mono ?_; rintro e w' ⟨rfl, rfl⟩)
    go_ret2
    exact ⟨rfl, Below.refl _ _⟩
  rw [sizeF_t hg]
  have HL := hid (levB_iff.1 hg)
  have HG := hid hg; clear hg
  go_enter Try.func7, Try.ntmps7
  go_wp2_with (first | (go_at_call 23; refine (chGood_b _ _ _ _ hl hc _ HG.out).mono ?_; rintro e w' ⟨rfl, rfl⟩) | (go_at_call 24; refine (chSize_any _ _ _ _ HL.out hc).mono ?_; rintro e w' ⟨rfl, rfl⟩))
  go_ret2
  exact ⟨rfl, Below.refl _ _⟩
end Go.Proofs.Ytndcegnlgdanmaa
/-
  Contracts: CoreOfLevels of the model.
-/
namespace Go.Proofs.Ytndcegnlgdanmaa
open Go.RowKit

theorem bpk_snoc (L : List Int) (y : Int) : ∀ k, k ≤ L.length → bpk (L ++ [y]) (k + 1) = (if (L.length : Int) < y then [y - L.length] else []) ++ bpk L k
  | 0, _ => by
    have hi : L.length = (L ++ [y]).length - 1 - 0 := by simp
    have hx : y = (L ++ [y]).getD L.length 0 := by simp [List.getD]
    by_cases c : (L.length : Int) < y
    · rw [bpk_yes hi hx c, if_pos c]; simp [bpk]
    · rw [bpk_no hi hx c, if_neg c]; simp [bpk]
  | k + 1, h => by
    have ih := bpk_snoc L y k (by omega)
    have hi : L.length - 1 - k = (L ++ [y]).length - 1 - (k + 1) := by simp; omega
    have hx : L.getD (L.length - 1 - k) 0 = (L ++ [y]).getD (L.length - 1 - k) 0 := by
      rw [List.getD_eq_getElem?_getD, List.getD_eq_getElem?_getD, List.getElem?_append_left (by omega)]
    by_cases c : ((L.length - 1 - k : Nat) : Int) < L.getD (L.length - 1 - k) 0
    · rw [bpk_yes hi hx c, ih, bpk_yes rfl rfl c, List.append_assoc]
    · rw [bpk_no hi hx c, ih, bpk_no rfl rfl c]
theorem parts_snoc (L : List Int) (y : Int) : partsL (L ++ [y]) = (if (L.length : Int) < y then [y - L.length] else []) ++ partsL L := by
  unfold partsL
  rw [List.length_append, List.length_singleton, bpk_snoc L y _ (Nat.le_refl _)]
/-- Whether the number m, counted from the least one, is a bead. -/
def hB (xs : List Int) (m : Nat) : Bool := decide (((m / xs.length : Nat) : Int) < 11 + xs.getD (m % xs.length) 0)
def kP (xs : List Int) : Nat → List Int
  | 0 => []
  | m + 1 => kP xs m ++ if hB xs m then [(m : Int)] else []
theorem own_drewN' {w : World} {B c : Nat} {A : Option Addr} {xs : List Int} (h : Own w B A c xs) (n : Nat) : Own (w.drewN n) B A c xs := h
def oL (xs : List Int) (m : Nat) : List Int := partsL (kP xs m)
def frN (xs : List Int) (m : Nat) : Nat := m - (kP xs m).length
theorem kP_len (xs : List Int) : ∀ m, (kP xs m).length ≤ m
  | 0 => Nat.le_refl 0
  | m + 1 => by have := kP_len xs m; rw [kP]; split <;> simp <;> omega
theorem mem_kP {xs : List Int} {x : Int} : ∀ m : Nat, x ∈ kP xs m ↔ 0 ≤ x ∧ x < m ∧ hB xs x.toNat = true
  | 0 => by simp [kP]; omega
  | m + 1 => by
    rw [kP, List.mem_append, mem_kP m]
    by_cases h : hB xs m = true
    · rw [if_pos h, List.mem_singleton]
      constructor
      · rintro (⟨a, b, c⟩ | rfl)
        · exact ⟨a, by omega, c⟩
        · exact ⟨by omega, by omega, by rw [Int.toNat_natCast]; exact h⟩
      · rintro ⟨a, b, c⟩
        by_cases e : x = m
        · exact .inr e
        · exact .inl ⟨a, by omega, c⟩
    · rw [if_neg h]
      constructor
      · rintro (⟨a, b, c⟩ | hh)
        · exact ⟨a, by omega, c⟩
        · cases hh
      · rintro ⟨a, b, c⟩
        by_cases e : x = m
        · subst e; rw [Int.toNat_natCast] at c; exact absurd c h
        · exact .inl ⟨a, by omega, c⟩
theorem kP_pw (xs : List Int) : ∀ m, (kP xs m).Pairwise (· < ·)
  | 0 => List.Pairwise.nil
  | m + 1 => by
    rw [kP, List.pairwise_append]
    refine ⟨kP_pw xs m, by split <;> simp, fun a ha b hb => ?_⟩
    have := ((mem_kP m).1 ha).2.1
    split at hb
    · rw [List.mem_singleton] at hb; omega
    · cases hb
theorem kP_all {xs : List Int} (L : Lev xs) : kP xs (22 * xs.length) = kL 11 xs := by
  have h2 := L.lo
  refine pw_ext (kP_pw _ _) (kL_pw _ _) fun x => ?_
  rw [mem_kP, mem_kL (by omega)]
  constructor
  · rintro ⟨h1, _, h3⟩
    obtain ⟨m, rfl⟩ : ∃ m : Nat, x = m := ⟨x.toNat, by omega⟩
    rw [Int.toNat_natCast] at h3
    refine ⟨h1, ?_⟩
    have := of_decide_eq_true h3
    rw [← Int.natCast_ediv, ← Int.natCast_emod, Int.toNat_natCast]
    exact this
  · rintro ⟨h1, h3⟩
    obtain ⟨m, rfl⟩ : ∃ m : Nat, x = m := ⟨x.toNat, by omega⟩
    rw [← Int.natCast_ediv, ← Int.natCast_emod, Int.toNat_natCast] at h3
    refine ⟨h1, ?_, ?_⟩
    · have hb := L.bd (m % xs.length) (Nat.mod_lt _ (by omega))
      have hd : m / xs.length < 22 := by omega
      rw [Nat.div_lt_iff_lt_mul (by omega)] at hd
      omega
    · rw [Int.toNat_natCast]; exact decide_eq_true h3
theorem o_yes {xs : List Int} {m : Nat} (h : hB xs m = true) (hf : 0 < frN xs m) : oL xs (m + 1) = (frN xs m : Int) :: oL xs m := by
  have := kP_len xs m
  unfold frN at hf
  unfold oL frN
  rw [kP, if_pos h, parts_snoc, if_pos (by omega), show (m : Int) - ((kP xs m).length : Int) = ((m - (kP xs m).length : Nat) : Int) by omega]; rfl
theorem o_zero {xs : List Int} {m : Nat} (h : hB xs m = true) (hf : frN xs m = 0) : oL xs (m + 1) = oL xs m := by
  unfold frN at hf
  unfold oL
  rw [kP, if_pos h, parts_snoc, if_neg (by omega)]; rfl
theorem o_no {xs : List Int} {m : Nat} (h : hB xs m = false) : oL xs (m + 1) = oL xs m := by
  unfold oL
  rw [kP, h]; simp
theorem f_yes {xs : List Int} {m : Nat} (h : hB xs m = true) : frN xs (m + 1) = frN xs m := by
  unfold frN
  rw [kP, if_pos h]; simp
theorem f_no {xs : List Int} {m : Nat} (h : hB xs m = false) : frN xs (m + 1) = frN xs m + 1 := by
  have := kP_len xs m
  unfold frN
  rw [kP, h]; simp; omega
theorem o_len (xs : List Int) (m : Nat) : (oL xs m).length ≤ m := Nat.le_trans (pk_len _ _) (kP_len xs m)

/-- The numbers of a round: the runner and the row. -/
theorem round_nums {t m : Nat} (ht : 2 ≤ t ∧ t ≤ 6) {x : Int} (hx : x = (m : Int) - 11 * t) :
    x % (t : Int) = (m % t : Nat) ∧ Int.tdiv (x - (m % t : Nat)) (t : Int) = (m / t : Nat) - 11 := by
  have h1 := Nat.div_add_mod m t
  have h2 : (m : Int) = (t : Int) * ((m / t : Nat) : Int) + ((m % t : Nat) : Int) := by rw [← Int.natCast_mul, ← Int.natCast_add]; omega
  constructor
  · have := Int.add_mul_emod_self_right (a := (m : Int)) (b := -11) (c := (t : Int))
    rw [hx, show (m : Int) - 11 * t = m + -11 * t by omega, this]; rfl
  · have e : x - (m % t : Nat) = (t : Int) * (((m / t : Nat) : Int) - 11) := by
      rw [hx, Int.mul_sub]; omega
    rw [e, Int.mul_tdiv_cancel_left _ (by omega)]

set_option maxRecDepth 100000 in
set_option maxHeartbeats 4000000 in
theorem chCore_any (A : Option Addr) (c : Nat) (xs : List Int) (w : World) (L : Lev xs) (hc : Cells w A xs) :
    Calls Try.prog 25 #[.slice A xs.length c] w fun e w' => ∃ A' c', e = .returned (.slice A' (partsL (kL 11 xs)).length c') ∧ Own w' w.heap.size A' c' (partsL (kL 11 xs)) ∧ Below w.heap.size w w' := by
  obtain ⟨i0, hi, hz0, hz1, hz2⟩ := info_parts Try.infoInt
  have hfin : oL xs (22 * xs.length) = partsL (kL 11 xs) := by unfold oL; rw [kP_all L]
  rw [← hfin]
  obtain ⟨t, ht⟩ : ∃ t, t = xs.length := ⟨_, rfl⟩
  have h26 : 2 ≤ t ∧ t ≤ 6 := by rw [ht]; exact ⟨L.lo, L.hi⟩
  have hc' : ∀ W, Below w.heap.size w W → ∀ k, k < t → ∃ b o, A = some ⟨b, o, none⟩ ∧ W.cell? ⟨b, o + k, none⟩ = some (.int .i64 (xs.getD k 0)) := fun W h k hk => by
    obtain ⟨b, o, e, hcc⟩ := (hc.later h) (by omega)
    exact ⟨b, o, e, hcc k (by omega)⟩
  have HC := hid hc'
  have hlvb : ∀ j, j < t → -10 ≤ xs.getD j 0 ∧ xs.getD j 0 ≤ 10 := fun j hj => L.bd j (by rw [← ht]; exact hj)
  have HLV := hid hlvb
  have HBY := hid fun m => (show hB xs m = decide (((m / t : Nat) : Int) < 11 + xs.getD (m % t) 0) by unfold hB; rw [← ht])
  have HOY := hid fun m => o_yes (xs := xs) (m := m)
  have HOZ := hid fun m => o_zero (xs := xs) (m := m)
  have HON := hid fun m => o_no (xs := xs) (m := m)
  have HFY := hid fun m => f_yes (xs := xs) (m := m)
  have HFN := hid fun m => f_no (xs := xs) (m := m)
  have HOL := hid (o_len xs)
  have HFL := hid fun m => (show frN xs m ≤ m from Nat.sub_le _ _)
  have hO0 : oL xs 0 = [] := rfl
  have hF0 : frN xs 0 = 0 := rfl
  rw [← ht]
  obtain ⟨O, hO⟩ : ∃ O, O = oL xs := ⟨_, rfl⟩
  obtain ⟨F, hF⟩ : ∃ F, F = frN xs := ⟨_, rfl⟩
  obtain ⟨H, hH⟩ : ∃ H, H = hB xs := ⟨_, rfl⟩
  rw [← hO, ← hF, ← hH] at HOY
  rw [← hO, ← hF, ← hH] at HOZ
  rw [← hO, ← hH] at HON
  rw [← hF, ← hH] at HFY HFN
  rw [← hH] at HBY
  rw [← hO] at HOL hO0 ⊢
  rw [← hF] at HFL hF0
  have HO0 := hid hO0
  have HF0 := hid hF0
  have hne : ¬ ((t : Int) = 0) := by omega
  clear hO hF hH hO0 hF0 hfin hlvb hc' hc ht L
  go_enter Try.func25, Try.ntmps25
  go_wp2_with fail
  go_loopw [4, 5, 6] (fun v f i wr => ∃ (m : Nat) (x : Int) (A' : Option Addr) (c' : Nat), m ≤ 22 * t ∧ x = (m : Int) - 11 * t ∧ i = .int .i64 x ∧ f = .int .i64 (F m : Nat) ∧ v = .slice A' (O m).length c' ∧ Own wr w.heap.size A' c' (O m) ∧ Below w.heap.size w wr) (fun _ _ i _ => (11 * (t : Int) - intOf i).toNat)
  case atStart =>
    refine ⟨0, _, none, 0, Nat.zero_le _, rfl, ?_, by rw [HF0.out]; rfl, by rw [HO0.out]; rfl, by rw [HO0.out]; exact own_nil _ _, Below.refl _ _⟩
    congr 1; omega
  case round =>
    obtain ⟨m, x, A', c', hm, hx, rfl, rfl, rfl, hown, hbel⟩ := hrel
    obtain ⟨wo, rfl⟩ : ∃ wo : World, wo = wr := ⟨_, rfl⟩
    have HX := hid hx
    have HO := hid hown
    have HB := hid hbel
    by_cases hlt : x < 11 * t
    · have hm2 : m < 22 * t := by omega
      have hm132 : m < 132 := by omega
      obtain ⟨r1, r2⟩ := round_nums h26 hx
      obtain ⟨h1, h2, h3⟩ := tmod_resid (x := x) (t := (t : Int)) (by omega)
      rw [r1] at h3
      obtain ⟨b, o, rfl, hck⟩ := HC.out _ hbel (m % t) (Nat.mod_lt _ (by omega))
      have hlk := HLV.out (m % t) (Nat.mod_lt _ (by omega))
      have hby := HBY.out m
      have hit : m % t < t := Nat.mod_lt _ (by omega)
      have hdm : m / t ≤ m := Nat.div_le_self _ _
      obtain ⟨l, hle⟩ : ∃ l, l = xs.getD (m % t) 0 := ⟨_, rfl⟩
      rw [← hle] at hck hlk hby
      obtain ⟨i, hie⟩ : ∃ i, i = m % t := ⟨_, rfl⟩
      obtain ⟨d, hde⟩ : ∃ d, d = m / t := ⟨_, rfl⟩
      rw [← hie] at h3 r2 hck hit
      rw [← hde] at r2 hby hdm
      obtain ⟨y, hy⟩ : ∃ y, y = Int.tmod x (t : Int) := ⟨_, rfl⟩
      rw [← hy] at h1 h2 h3
      have hyy : Int.tmod x (t : Int) = y := hy.symm
      have hxb : -66 ≤ x ∧ x < 66 := by omega
      have hdb : d ≤ 132 := by omega
      have hfl := HFL.out m
      have hol := HOL.out m
      obtain ⟨e, he⟩ : ∃ e, e = (d : Int) - 11 := ⟨_, rfl⟩
      rw [← he] at r2
      have heb : -11 ≤ e ∧ e ≤ 132 := by omega
      clear hy hle hie hde r1 hown hbel hx
      have HBY2 := hid hby
      have HEE := hid he
      clear hby he
      go_wp2_with fail
      go_quiet (fail)
      obtain ⟨wd, hwd⟩ : ∃ wd, wd = wo.drewN nq := ⟨_, rfl⟩
      rw [← hwd]
      have hO2 : Own wd w.heap.size A' c' (O m) := by rw [hwd]; exact own_drewN' HO.out _
      have hB2 : Below w.heap.size w wd := by rw [hwd]; exact below_drewN HB.out _
      clear hwd HO HB hck
      have HO := hid hO2
      have HB := hid hB2
      clear hO2 hB2
      have hby := HBY2.out
      have he := HEE.out
      by_cases hcmp : e < l
      · have hh : H m = true := by rw [hby]; exact decide_eq_true (by omega)
        have HFE := hid (HFY.out m hh)
        by_cases hf : 0 < F m
        · have HOE := hid (HOY.out m hh hf)
          obtain ⟨f, hfe⟩ : ∃ f, f = F m := ⟨_, rfl⟩
          rw [← hfe] at HOE HFE hf hfl ⊢
          obtain ⟨rr, hrr⟩ : ∃ rr, rr = O m := ⟨_, rfl⟩
          rw [← hrr] at HOE HO hol ⊢
          have hnone : A' = none → rr.length = 0 ∧ c' = 0 := fun e => own_none (by rw [← e]; exact HO.out)
          have hnews : ∀ ad, A' = some ad → ∀ k u, (IL rr)[k]? = some u → (wd.alloc (.cells #[.int .i64 f] 3)).cell? (ad.add k) = some u := fun ad e => own_news (by rw [← e]; exact HO.out) _
          have HNN := hid hnone
          have HNW := hid hnews
          clear hh hby he hfe hrr hnone hnews
          go_wp2_with (at_builtin; refine wpList_append_opt _ rfl _ _ 22 rfl wd.heap.size 3 i0 (.int .i64 0) 1 8 Try.underlying22 hi hz0 hz1 hz2 rfl (by decide) _ 1 [.int .i64 (f : Int)] rfl (World.ownsRow_lit (base := wd.heap.size) (e := 3) (size := 1) wd #[.int .i64 (f : Int)] 1 (Nat.le_refl _) (by unfold maxLen; omega) rfl) A' rr.length c' (IL rr) rfl (by simp [IL]) HNN.out HNW.out (IL_oneX rr) (by unfold maxLen; omega) (by omega) (by simp) ?_)
          intro v1 w1 hown1 hgrow1
          obtain ⟨r1, hr1⟩ : ∃ r1, r1 = (f : Int) :: rr := ⟨_, rfl⟩
          have hown2 : w1.ownsRow wd.heap.size 3 1 v1 (1 + rr.length) (IL r1) := by rw [hr1]; exact hown1
          obtain ⟨Ar, cr, rfl, ho1⟩ := own_form hown2 (by rw [hr1]; simp; omega)
          have hb1 : Below wd.heap.size wd w1 := ((Below.refl _ _).alloc (Nat.le_refl _) _).grown hgrow1 (by simp) (fun q hq => Nat.le_of_eq (by simpa [Value.ownBlock] using hq))
          rw [← hr1] at HOE
          have HO1 := hid (ho1.more HB.out.size)
          have HB1 := hid (Below.next HB.out hb1)
          clear hown1 hown2 hgrow1 ho1 hb1 hr1
          go_wp2_with fail
          go_roundw
          case rel => exact ⟨m + 1, x + 1, Ar, cr, by omega, by have := HX.out; omega, by go_num, by rw [HFE.out], by rw [HOE.out], by rw [HOE.out]; exact HO1.out, HB1.out⟩
          case measure => simp [intOf]; omega
        · have HOE := hid (HOZ.out m hh (by omega))
          have hf0 : F m = 0 := by omega
          clear hh hby he hf
          rw [hf0]
          have HF0 := hid hf0; clear hf0
          go_wp2_with fail
          go_roundw
          case rel => exact ⟨m + 1, x + 1, A', c', by omega, by have := HX.out; omega, by go_num, by rw [HFE.out, HF0.out], by rw [HOE.out], by rw [HOE.out]; exact HO.out, HB.out⟩
          case measure => simp [intOf]; omega
      · have hh : H m = false := by rw [hby]; exact decide_eq_false (by omega)
        have HFE := hid (HFN.out m hh)
        have HOE := hid (HON.out m hh)
        clear hh hby he
        go_wp2_with fail
        go_roundw
        case rel => exact ⟨m + 1, x + 1, A', c', by omega, by have := HX.out; omega, by go_num, by rw [HFE.out]; go_num, by rw [HOE.out], by rw [HOE.out]; exact HO.out, HB.out⟩
        case measure => simp [intOf]; omega
    · have hme : m = 22 * t := by omega
      subst hme
      clear hown hbel
      go_wp2_with fail
      go_ret
      exact ⟨A', c', rfl, HO.out, HB.out⟩

set_option maxHeartbeats 1000000 in
theorem spec_CoreOfLevels (A : Option Addr) (c : Nat) (xs : List Int) (w : World) (hl : xs.length ≤ 1048576) (hc : Cells w A xs) :
    Calls Try.prog 5 #[.slice A xs.length c] w fun e w' => ∃ A' c', e = .returned (.tuple #[.slice A' (clF xs).length c', .bool (clOk xs)]) ∧ Own w' w.heap.size A' c' (clF xs) ∧ Below w.heap.size w w' := by
  cases hg : levB xs
  · have hk : clOk xs = false := by simp [clOk, hg]
    rw [cl_no hk, hk]
    have HG := hid (chGood_b A c xs w hl hc _ hg)
    clear hg hk
    go_enter Try.func5, Try.ntmps5
    go_wp2_with (go_at_call 23; refine HG.out.mono ?_; rintro e w' ⟨rfl, rfl⟩)
    go_ret2
    exact ⟨none, 0, rfl, own_nil _ _, Below.refl _ _⟩
  have L := levB_iff.1 hg
  have HG := hid (chGood_b A c xs w hl hc _ hg)
  have HS := hid (chSize_any A c xs w L hc)
  have HCC := hid (chCore_any A c xs w L hc)
  by_cases hs : 30 < sizeL xs
  · have hk : clOk xs = false := by simp [clOk, hg]; omega
    rw [cl_no hk, hk]
    obtain ⟨z, hz⟩ : ∃ z, z = sizeL xs := ⟨_, rfl⟩
    rw [← hz] at HS hs
    clear hz hg hk L
    go_enter Try.func5, Try.ntmps5
    go_wp2_with (first | (go_at_call 23; refine HG.out.mono ?_; rintro e w' ⟨rfl, rfl⟩) | (go_at_call 24; refine HS.out.mono ?_; rintro e w' ⟨rfl, rfl⟩))
    go_ret2
    exact ⟨none, 0, rfl, own_nil _ _, Below.refl _ _⟩
  have hk : clOk xs = true := by simp [clOk, hg]; omega
  rw [cl_yes hk, hk]
  obtain ⟨R, hR⟩ : ∃ R, R = partsL (kL 11 xs) := ⟨_, rfl⟩
  rw [← hR] at HCC ⊢
  obtain ⟨z, hz⟩ : ∃ z, z = sizeL xs := ⟨_, rfl⟩
  rw [← hz] at HS hs
  clear hz hg hk L hR
  go_enter Try.func5, Try.ntmps5
  go_wp2_with (first | (go_at_call 23; refine HG.out.mono ?_; rintro e w' ⟨rfl, rfl⟩) | (go_at_call 24; refine HS.out.mono ?_; rintro e w' ⟨rfl, rfl⟩) | (go_at_call 25; refine HCC.out.mono ?_; rintro e w' ⟨A', c', rfl, o1, b1⟩))
  go_ret2
  exact ⟨A', c', rfl, o1, b1⟩
theorem bound_CoreOfLevels (xs : List Int) : (clF xs).length ≤ 1048576 := by
  unfold clF; split
  · rename_i h
    simp only [clOk, Bool.and_eq_true, decide_eq_true_eq] at h
    have L := levB_iff.1 h.1
    have h2 := L.lo
    have h6 := L.hi
    have := kL_len (q := 11) L fun i hi => by have := L.bd i hi; omega
    have := pk_len (kL 11 xs) (kL 11 xs).length
    unfold partsL
    omega
  · simp
end Go.Proofs.Ytndcegnlgdanmaa
