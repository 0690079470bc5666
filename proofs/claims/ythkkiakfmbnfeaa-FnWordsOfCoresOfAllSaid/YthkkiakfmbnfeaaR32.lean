/-
  Several texts in one.
-/
import Derived.Test.YthkkiakfmbnfeaaR02
import Derived.Test.YthkkiakfmbnfeaaR19
import Derived.Test.YthkkiakfmbnfeaaR09
import Derived.Test.YthkkiakfmbnfeaaCB
import Derived.Test.YthkkiakfmbnfeaaR11
import Derived.BigQuiet
/-
  Contracts: the size of the core with levels, and levels turned (both sides).
-/
namespace Go.Proofs.Ythkkiakfmbnfeaa
open Go.RowKit

set_option maxHeartbeats 400000 in
theorem sqLev_any (x : Int) (w : World) (h : -10 ≤ x ∧ x ≤ 10) : Calls Try.prog 65 #[.int .i64 x] w fun e w' => e = .returned (.int .i64 (x * x)) ∧ w = w' := by
  have hb := sq_bd h
  go_enter Try.func65, Try.ntmps65
  go_wp2
  go_ret
  exact ⟨rfl, rfl⟩

set_option maxHeartbeats 400000 in
theorem sumSq_any (A : Option Addr) (xs : List Int) (c : Nat) (w : World) (L : Lev xs) (hc : Cells w A xs) :
    Calls Try.prog 64 #[.slice A xs.length c, .func (.func 65) #[] #[]] w fun e w' => e = .returned (.int .i64 (sqSum xs xs.length)) ∧ w = w' := by
  have hl := L.hi
  have HB := hid L; clear L
  go_enter Try.func64, Try.ntmps64
  go_wp2_with fail
  go_loop [5, 10] (fun s i => ∃ k : Nat, k ≤ xs.length ∧ i = .int .i64 k ∧ s = .int .i64 (sqSum xs k)) (fun _ i => xs.length - (intOf i).toNat)
  case atStart => exact ⟨0, Nat.zero_le _, rfl, rfl⟩
  case round =>
    obtain ⟨k, hk, rfl, rfl⟩ := hrel
    have hsb := sqSum_bd HB.out k hk
    by_cases hlt : k < xs.length
    · obtain ⟨b, o, rfl, hcc⟩ := hc (by omega)
      have hck := hcc k hlt
      have hxb := HB.out.bd k hlt
      have HE := hid (show sqSum xs (k + 1) = sqSum xs k + xs.getD k 0 * xs.getD k 0 from rfl)
      clear hcc hc
      obtain ⟨x, hx⟩ : ∃ x, x = xs.getD k 0 := ⟨_, rfl⟩
      obtain ⟨s, hs⟩ : ∃ s, s = sqSum xs k := ⟨_, rfl⟩
      rw [← hx] at hck hxb HE
      rw [← hs] at HE hsb ⊢
      have hsq := sq_bd hxb
      clear hx hs
      go_wp2_with (go_at_call 65; refine (sqLev_any _ _ hxb).mono ?_; rintro e w' ⟨rfl, rfl⟩)
      go_round
      case rel => exact ⟨k + 1, by omega, by go_num, by rw [HE.out]⟩
      case measure => simp [intOf]; omega
    · have hkl : k = xs.length := by omega
      subst hkl
      clear hsb
      go_wp2_with fail
      go_ret
      exact ⟨rfl, rfl⟩

theorem sizeF_f {xs : List Int} (h : levB xs = false) : sizeF xs = 0 := by simp [sizeF, h]
theorem sizeF_t {xs : List Int} (h : levB xs = true) : sizeF xs = sizeL xs := by simp [sizeF, h]

set_option maxRecDepth 100000 in
set_option maxHeartbeats 1000000 in
theorem SizeOfLevels_any (A : Option Addr) (c : Nat) (xs : List Int) (w : World) (hl : xs.length ≤ 1048576) (hc : Cells w A xs) :
    Calls Try.prog 37 #[.slice A xs.length c] w fun e w' => e = .returned (.tuple #[.int .i64 (sizeF xs), .bool (levB xs)]) ∧ w = w' := by
  cases hg : levB xs
  · rw [sizeF_f hg]
    have HG := hid hg; clear hg
    go_enter Try.func37, Try.ntmps37
    go_wp2_with (go_at_call 8; refine (IsLevels_b _ _ _ _ hl hc _ HG.out).mono ?_; rintro e w' ⟨rfl, rfl⟩)
    go_ret2
    exact ⟨rfl, rfl⟩
  rw [sizeF_t hg]
  have L := levB_iff.1 hg
  have h6 := L.hi
  have hsb := sqSum_bd L xs.length (Nat.le_refl _)
  have HL := hid L
  have HG := hid hg; clear hg L
  have HZ := hid (show sizeL xs = sqSum xs xs.length / 2 * xs.length + ixSum xs xs.length from rfl)
  obtain ⟨s, hs⟩ : ∃ s, s = sqSum xs xs.length := ⟨_, rfl⟩
  have HS := hid hs
  rw [← hs] at HZ hsb
  clear hs
  have htd : Int.tdiv s 2 = s / 2 := Int.tdiv_eq_ediv_of_nonneg hsb.1
  have hmb := mul6_bd xs.length h6 (s / 2) (by omega)
  rw [Int.mul_comm] at hmb
  obtain ⟨z, hz⟩ : ∃ z, z = s / 2 * (xs.length : Int) := ⟨_, rfl⟩
  rw [← hz] at HZ hmb
  have hq : s / 2 * (xs.length : Int) = z := hz.symm
  clear hz
  go_enter Try.func37, Try.ntmps37
  go_wp2_with (first | (go_at_call 8; refine (IsLevels_b _ _ _ _ hl hc _ HG.out).mono ?_; rintro e w' ⟨rfl, rfl⟩) | (go_at_call 64; refine (sumSq_any _ _ _ _ HL.out hc).mono ?_; rw [← HS.out]; rintro e w' ⟨rfl, rfl⟩))
  go_loop [5, 20] (fun s i => ∃ k : Nat, k ≤ xs.length ∧ i = .int .i64 k ∧ s = .int .i64 (z + ixSum xs k)) (fun _ i => xs.length - (intOf i).toNat)
  case atStart => exact ⟨0, Nat.zero_le _, rfl, by simp [ixSum]⟩
  case round =>
    obtain ⟨k, hk, rfl, rfl⟩ := hrel
    have hib := ixSum_bd HL.out k hk
    by_cases hlt : k < xs.length
    · obtain ⟨b, o, rfl, hcc⟩ := hc (by omega)
      have hck := hcc k hlt
      have hxb := ix_bd (HL.out.bd k hlt) k (by omega)
      have hx1 := HL.out.bd k hlt
      have HE := hid (show ixSum xs (k + 1) = ixSum xs k + (k : Int) * xs.getD k 0 from rfl)
      clear hcc hc
      obtain ⟨x, hx⟩ : ∃ x, x = xs.getD k 0 := ⟨_, rfl⟩
      obtain ⟨s2, hs2⟩ : ∃ s, s = ixSum xs k := ⟨_, rfl⟩
      rw [← hx] at hck hxb hx1 HE
      rw [← hs2] at HE hib ⊢
      rw [Int.mul_comm] at hxb
      clear hx hs2 hq htd
      go_wp2_with fail
      go_round
      case rel => exact ⟨k + 1, by omega, by go_num, by rw [HE.out, Int.mul_comm (k : Int)]; go_num⟩
      case measure => simp [intOf]; omega
    · have hkl : k = xs.length := by omega
      subst hkl
      clear hq htd hib
      rw [← HZ.out]
      go_wp2_with fail
      go_ret2
      exact ⟨rfl, rfl⟩

theorem impl_SizeOfLevels (A : Option Addr) (c : Nat) (xs : List Int) (w : World) (hl : xs.length ≤ 1048576) (hc : Cells w A xs) :
    Calls Try.prog 37 #[.slice A xs.length c] w fun e w' => e = .returned (.tuple #[.int .i64 (sizeF xs), .bool (levB xs)]) ∧ Below w.heap.size w w' :=
  (SizeOfLevels_any A c xs w hl hc).mono fun _ _ ⟨he, hw⟩ => ⟨he, by rw [hw]; exact Below.refl _ _⟩

end Go.Proofs.Ythkkiakfmbnfeaa
/-
  Contracts: CoreOfLevels of the model.
-/
namespace Go.Proofs.Ythkkiakfmbnfeaa
open Go.RowKit

theorem bpk_snoc (L : List Int) (y : Int) : ∀ k, k ≤ L.length → bpk (L ++ [y]) (k + 1) = (if (L.length : Int) < y then [y - L.length] else []) ++ bpk L k
  | 0, _ => by
    have hi : L.length = (L ++ [y]).length - 1 - 0 := by simp
    have hx : y = (L ++ [y]).getD L.length 0 := by simp [List.getD]
    by_cases c : (L.length : Int) < y
    · rw [bpk_yes hi hx c, if_pos c]; simp [bpk]
    · rw [bpk_no hi hx c, if_neg c]; simp [bpk]
  | k + 1, h => by
    have ih := bpk_snoc L y k (by omega)
    have hi : L.length - 1 - k = (L ++ [y]).length - 1 - (k + 1) := by simp; omega
    have hx : L.getD (L.length - 1 - k) 0 = (L ++ [y]).getD (L.length - 1 - k) 0 := by
      rw [List.getD_eq_getElem?_getD, List.getD_eq_getElem?_getD, List.getElem?_append_left (by omega)]
    by_cases c : ((L.length - 1 - k : Nat) : Int) < L.getD (L.length - 1 - k) 0
    · rw [bpk_yes hi hx c, ih, bpk_yes rfl rfl c, List.append_assoc]
    · rw [bpk_no hi hx c, ih, bpk_no rfl rfl c]
theorem parts_snoc (L : List Int) (y : Int) : partsL (L ++ [y]) = (if (L.length : Int) < y then [y - L.length] else []) ++ partsL L := by
  unfold partsL
  rw [List.length_append, List.length_singleton, bpk_snoc L y _ (Nat.le_refl _)]
/-- Whether the number m, counted from the least one, is a bead. -/
def hB (xs : List Int) (m : Nat) : Bool := decide (((m / xs.length : Nat) : Int) < 11 + xs.getD (m % xs.length) 0)
def kP (xs : List Int) : Nat → List Int
  | 0 => []
  | m + 1 => kP xs m ++ if hB xs m then [(m : Int)] else []
theorem own_drewN' {w : World} {B c : Nat} {A : Option Addr} {xs : List Int} (h : Own w B A c xs) (n : Nat) : Own (w.drewN n) B A c xs := h
def oL (xs : List Int) (m : Nat) : List Int := partsL (kP xs m)
def frN (xs : List Int) (m : Nat) : Nat := m - (kP xs m).length
theorem kP_len (xs : List Int) : ∀ m, (kP xs m).length ≤ m
  | 0 => Nat.le_refl 0
  | m + 1 => by have := kP_len xs m; rw [kP]; split <;> simp <;> omega
theorem mem_kP {xs : List Int} {x : Int} : ∀ m : Nat, x ∈ kP xs m ↔ 0 ≤ x ∧ x < m ∧ hB xs x.toNat = true
  | 0 => by simp [kP]; omega
  | m + 1 => by
    rw [kP, List.mem_append, mem_kP m]
    by_cases h : hB xs m = true
    · rw [if_pos h, List.mem_singleton]
      constructor
      · rintro (⟨a, b, c⟩ | rfl)
        · exact ⟨a, by omega, c⟩
        · exact ⟨by omega, by omega, by rw [Int.toNat_natCast]; exact h⟩
      · rintro ⟨a, b, c⟩
        by_cases e : x = m
        · exact .inr e
        · exact .inl ⟨a, by omega, c⟩
    · rw [if_neg h]
      constructor
      · rintro (⟨a, b, c⟩ | hh)
        · exact ⟨a, by omega, c⟩
        · cases hh
      · rintro ⟨a, b, c⟩
        by_cases e : x = m
        · subst e; rw [Int.toNat_natCast] at c; exact absurd c h
        · exact .inl ⟨a, by omega, c⟩
theorem kP_pw (xs : List Int) : ∀ m, (kP xs m).Pairwise (· < ·)
  | 0 => List.Pairwise.nil
  | m + 1 => by
    rw [kP, List.pairwise_append]
    refine ⟨kP_pw xs m, by split <;> simp, fun a ha b hb => ?_⟩
    have := ((mem_kP m).1 ha).2.1
    split at hb
    · rw [List.mem_singleton] at hb; omega
    · cases hb
theorem kP_all {xs : List Int} (L : Lev xs) : kP xs (22 * xs.length) = kL 11 xs := by
  have h2 := L.lo
  refine pw_ext (kP_pw _ _) (kL_pw _ _) fun x => ?_
  rw [mem_kP, mem_kL (by omega)]
  constructor
  · rintro ⟨h1, _, h3⟩
    obtain ⟨m, rfl⟩ : ∃ m : Nat, x = m := ⟨x.toNat, by omega⟩
    rw [Int.toNat_natCast] at h3
    refine ⟨h1, ?_⟩
    have := of_decide_eq_true h3
    rw [← Int.natCast_ediv, ← Int.natCast_emod, Int.toNat_natCast]
    exact this
  · rintro ⟨h1, h3⟩
    obtain ⟨m, rfl⟩ : ∃ m : Nat, x = m := ⟨x.toNat, by omega⟩
    rw [← Int.natCast_ediv, ← Int.natCast_emod, Int.toNat_natCast] at h3
    refine ⟨h1, ?_, ?_⟩
    · have hb := L.bd (m % xs.length) (Nat.mod_lt _ (by omega))
      have hd : m / xs.length < 22 := by omega
      rw [Nat.div_lt_iff_lt_mul (by omega)] at hd
      omega
    · rw [Int.toNat_natCast]; exact decide_eq_true h3
theorem o_yes {xs : List Int} {m : Nat} (h : hB xs m = true) (hf : 0 < frN xs m) : oL xs (m + 1) = (frN xs m : Int) :: oL xs m := by
  have := kP_len xs m
  unfold frN at hf
  unfold oL frN
  rw [kP, if_pos h, parts_snoc, if_pos (by omega), show (m : Int) - ((kP xs m).length : Int) = ((m - (kP xs m).length : Nat) : Int) by omega]; rfl
theorem o_zero {xs : List Int} {m : Nat} (h : hB xs m = true) (hf : frN xs m = 0) : oL xs (m + 1) = oL xs m := by
  unfold frN at hf
  unfold oL
  rw [kP, if_pos h, parts_snoc, if_neg (by omega)]; rfl
theorem o_no {xs : List Int} {m : Nat} (h : hB xs m = false) : oL xs (m + 1) = oL xs m := by
  unfold oL
  rw [kP, h]; simp
theorem f_yes {xs : List Int} {m : Nat} (h : hB xs m = true) : frN xs (m + 1) = frN xs m := by
  unfold frN
  rw [kP, if_pos h]; simp
theorem f_no {xs : List Int} {m : Nat} (h : hB xs m = false) : frN xs (m + 1) = frN xs m + 1 := by
  have := kP_len xs m
  unfold frN
  rw [kP, h]; simp; omega
theorem o_len (xs : List Int) (m : Nat) : (oL xs m).length ≤ m := Nat.le_trans (pk_len _ _) (kP_len xs m)

/-- The numbers of a round: the runner and the row. -/
theorem round_nums {t m : Nat} (ht : 2 ≤ t ∧ t ≤ 6) {x : Int} (hx : x = (m : Int) - 11 * t) :
    x % (t : Int) = (m % t : Nat) ∧ Int.tdiv (x - (m % t : Nat)) (t : Int) = (m / t : Nat) - 11 := by
  have h1 := Nat.div_add_mod m t
  have h2 : (m : Int) = (t : Int) * ((m / t : Nat) : Int) + ((m % t : Nat) : Int) := by rw [← Int.natCast_mul, ← Int.natCast_add]; omega
  constructor
  · have := Int.add_mul_emod_self_right (a := (m : Int)) (b := -11) (c := (t : Int))
    rw [hx, show (m : Int) - 11 * t = m + -11 * t by omega, this]; rfl
  · have e : x - (m % t : Nat) = (t : Int) * (((m / t : Nat) : Int) - 11) := by
      rw [hx, Int.mul_sub]; omega
    rw [e, Int.mul_tdiv_cancel_left _ (by omega)]

theorem bound_CoreOfLevels (xs : List Int) : (clF xs).length ≤ 1048576 := by
  unfold clF; split
  · rename_i h
    simp only [clOk, Bool.and_eq_true, decide_eq_true_eq] at h
    have L := levB_iff.1 h.1
    have h2 := L.lo
    have h6 := L.hi
    have := kL_len (q := 11) L fun i hi => by have := L.bd i hi; omega
    have := pk_len (kL 11 xs) (kL 11 xs).length
    unfold partsL
    omega
  · simp
end Go.Proofs.Ythkkiakfmbnfeaa
