/-
  Contracts: the size of the core with levels, and levels turned (both sides).
-/
import Derived.Test.YtnpkfndopicdiaaLev
namespace Go.Proofs.Ytnpkfndopicdiaa
open Go.RowKit

set_option maxHeartbeats 400000 in
theorem sqLev_any (x : Int) (w : World) (h : -10 ≤ x ∧ x ≤ 10) : Calls Try.prog 229 #[.int .i64 x] w fun e w' => e = .returned (.int .i64 (x * x)) ∧ w = w' := by
  have hb := sq_bd h
  go_enter Try.func229, Try.ntmps229
  go_wp2
  go_ret
  exact ⟨rfl, rfl⟩

set_option maxHeartbeats 400000 in
theorem sumSq_any (A : Option Addr) (xs : List Int) (c : Nat) (w : World) (L : Lev xs) (hc : Cells w A xs) :
    Calls Try.prog 192 #[.slice A xs.length c, .func (.func 229) #[] #[]] w fun e w' => e = .returned (.int .i64 (sqSum xs xs.length)) ∧ w = w' := by
  have hl := L.hi
  have HB := hid L; clear L
  go_enter Try.func192, Try.ntmps192
  go_wp2_with fail
  go_loop [5, 10] (fun s i => ∃ k : Nat, k ≤ xs.length ∧ i = .int .i64 k ∧ s = .int .i64 (sqSum xs k)) (fun _ i => xs.length - (intOf i).toNat)
  case atStart => exact ⟨0, Nat.zero_le _, rfl, rfl⟩
  case round =>
    obtain ⟨k, hk, rfl, rfl⟩ := hrel
    have hsb := sqSum_bd HB.out k hk
    by_cases hlt : k < xs.length
    · obtain ⟨b, o, rfl, hcc⟩ := hc (by omega)
      have hck := hcc k hlt
      have hxb := HB.out.bd k hlt
      have HE := hid (show sqSum xs (k + 1) = sqSum xs k + xs.getD k 0 * xs.getD k 0 from rfl)
      clear hcc hc
      obtain ⟨x, hx⟩ : ∃ x, x = xs.getD k 0 := ⟨_, rfl⟩
      obtain ⟨s, hs⟩ : ∃ s, s = sqSum xs k := ⟨_, rfl⟩
      rw [← hx] at hck hxb HE
      rw [← hs] at HE hsb ⊢
      have hsq := sq_bd hxb
      clear hx hs
      go_wp2_with (go_at_call 229; refine (sqLev_any _ _ hxb).mono ?_; rintro e w' ⟨rfl, rfl⟩)
      go_round
      case rel => exact ⟨k + 1, by omega, by go_num, by rw [HE.out]⟩
      case measure => simp [intOf]; omega
    · have hkl : k = xs.length := by omega
      subst hkl
      clear hsb
      go_wp2_with fail
      go_ret
      exact ⟨rfl, rfl⟩

theorem sizeF_f {xs : List Int} (h : levB xs = false) : sizeF xs = 0 := by simp [sizeF, h]
theorem sizeF_t {xs : List Int} (h : levB xs = true) : sizeF xs = sizeL xs := by simp [sizeF, h]

set_option maxRecDepth 100000 in
set_option maxHeartbeats 1000000 in
theorem SizeOfLevels_any (A : Option Addr) (c : Nat) (xs : List Int) (w : World) (hl : xs.length ≤ 1048576) (hc : Cells w A xs) :
    Calls Try.prog 181 #[.slice A xs.length c] w fun e w' => e = .returned (.tuple #[.int .i64 (sizeF xs), .bool (levB xs)]) ∧ w = w' := by
  cases hg : levB xs
  · rw [sizeF_f hg]
    have HG := hid hg; clear hg
    go_enter Try.func181, Try.ntmps181
    go_wp2_with (go_at_call 228; refine (IsLevels_b _ _ _ _ hl hc _ HG.out).mono ?_; rintro e w' ⟨rfl, rfl⟩)
    go_ret2
    exact ⟨rfl, rfl⟩
  rw [sizeF_t hg]
  have L := levB_iff.1 hg
  have h6 := L.hi
  have hsb := sqSum_bd L xs.length (Nat.le_refl _)
  have HL := hid L
  have HG := hid hg; clear hg L
  have HZ := hid (show sizeL xs = sqSum xs xs.length / 2 * xs.length + ixSum xs xs.length from rfl)
  obtain ⟨s, hs⟩ : ∃ s, s = sqSum xs xs.length := ⟨_, rfl⟩
  have HS := hid hs
  rw [← hs] at HZ hsb
  clear hs
  have htd : Int.tdiv s 2 = s / 2 := Int.tdiv_eq_ediv_of_nonneg hsb.1
  have hmb := mul6_bd xs.length h6 (s / 2) (by omega)
  rw [Int.mul_comm] at hmb
  obtain ⟨z, hz⟩ : ∃ z, z = s / 2 * (xs.length : Int) := ⟨_, rfl⟩
  rw [← hz] at HZ hmb
  have hq : s / 2 * (xs.length : Int) = z := hz.symm
  clear hz
  go_enter Try.func181, Try.ntmps181
  go_wp2_with (first | (go_at_call 228; refine (IsLevels_b _ _ _ _ hl hc _ HG.out).mono ?_; rintro e w' ⟨rfl, rfl⟩) | (go_at_call 192; refine (sumSq_any _ _ _ _ HL.out hc).mono ?_; rw [← HS.out]; rintro e w' ⟨rfl, rfl⟩))
  go_loop [5, 20] (fun s i => ∃ k : Nat, k ≤ xs.length ∧ i = .int .i64 k ∧ s = .int .i64 (z + ixSum xs k)) (fun _ i => xs.length - (intOf i).toNat)
  case atStart => exact ⟨0, Nat.zero_le _, rfl, by simp [ixSum]⟩
  case round =>
    obtain ⟨k, hk, rfl, rfl⟩ := hrel
    have hib := ixSum_bd HL.out k hk
    by_cases hlt : k < xs.length
    · obtain ⟨b, o, rfl, hcc⟩ := hc (by omega)
      have hck := hcc k hlt
      have hxb := ix_bd (HL.out.bd k hlt) k (by omega)
      have hx1 := HL.out.bd k hlt
      have HE := hid (show ixSum xs (k + 1) = ixSum xs k + (k : Int) * xs.getD k 0 from rfl)
      clear hcc hc
      obtain ⟨x, hx⟩ : ∃ x, x = xs.getD k 0 := ⟨_, rfl⟩
      obtain ⟨s2, hs2⟩ : ∃ s, s = ixSum xs k := ⟨_, rfl⟩
      rw [← hx] at hck hxb hx1 HE
      rw [← hs2] at HE hib ⊢
      rw [Int.mul_comm] at hxb
      clear hx hs2 hq htd
      go_wp2_with fail
      go_round
      case rel => exact ⟨k + 1, by omega, by go_num, by rw [HE.out, Int.mul_comm (k : Int)]; go_num⟩
      case measure => simp [intOf]; omega
    · have hkl : k = xs.length := by omega
      subst hkl
      clear hq htd hib
      rw [← HZ.out]
      go_wp2_with fail
      go_ret2
      exact ⟨rfl, rfl⟩

set_option maxRecDepth 100000 in
set_option maxHeartbeats 1000000 in
theorem chSize_any (A : Option Addr) (c : Nat) (xs : List Int) (w : World) (L : Lev xs) (hc : Cells w A xs) :
    Calls Try.prog 178 #[.slice A xs.length c] w fun e w' => e = .returned (.int .i64 (sizeL xs)) ∧ w = w' := by
  have h6 := L.hi
  have hm := half_mul L
  have HL := hid L; clear L
  go_enter Try.func178, Try.ntmps178
  go_wp2_with fail
  go_loop [3, 4, 9] (fun q s i => ∃ k : Nat, k ≤ xs.length ∧ i = .int .i64 k ∧ q = .int .i64 (sqSum xs k) ∧ s = .int .i64 (ixSum xs k)) (fun _ _ i => xs.length - (intOf i).toNat)
  case atStart => exact ⟨0, Nat.zero_le _, rfl, rfl, rfl⟩
  case round =>
    obtain ⟨k, hk, rfl, rfl, rfl⟩ := hrel
    have hib := ixSum_bd HL.out k hk
    have hsb := sqSum_bd HL.out k hk
    by_cases hlt : k < xs.length
    · obtain ⟨b, o, rfl, hcc⟩ := hc (by omega)
      have hck := hcc k hlt
      have hxb := ix_bd (HL.out.bd k hlt) k (by omega)
      have hx1 := HL.out.bd k hlt
      have HE := hid (show ixSum xs (k + 1) = ixSum xs k + (k : Int) * xs.getD k 0 from rfl)
      have HF := hid (show sqSum xs (k + 1) = sqSum xs k + xs.getD k 0 * xs.getD k 0 from rfl)
      clear hcc hc
      obtain ⟨x, hx⟩ : ∃ x, x = xs.getD k 0 := ⟨_, rfl⟩
      obtain ⟨s2, hs2⟩ : ∃ s, s = ixSum xs k := ⟨_, rfl⟩
      obtain ⟨s3, hs3⟩ : ∃ s, s = sqSum xs k := ⟨_, rfl⟩
      rw [← hx] at hck hxb hx1 HE HF
      rw [← hs2] at HE hib ⊢
      rw [← hs3] at HF hsb ⊢
      have hsq := sq_bd hx1
      clear hx hs2 hs3 hm
      go_wp2_with fail
      go_round
      case rel => exact ⟨k + 1, by omega, by go_num, by rw [HF.out], by rw [HE.out]⟩
      case measure => simp [intOf]; omega
    · have hkl : k = xs.length := by omega
      subst hkl
      have HZ := hid (show sizeL xs = sqSum xs xs.length / 2 * xs.length + ixSum xs xs.length from rfl)
      have hmb := mul6_bd xs.length h6 (sqSum xs xs.length) (by omega)
      have HM := hid hm; clear hm
      obtain ⟨s2, hs2⟩ : ∃ s, s = ixSum xs xs.length := ⟨_, rfl⟩
      obtain ⟨s3, hs3⟩ : ∃ s, s = sqSum xs xs.length := ⟨_, rfl⟩
      rw [← hs2] at hib HZ ⊢
      rw [← hs3] at hsb HZ HM hmb ⊢
      obtain ⟨p, hp⟩ : ∃ p, p = (xs.length : Int) * s3 := ⟨_, rfl⟩
      rw [← hp] at hmb HM
      have hpe : (xs.length : Int) * s3 = p := hp.symm
      have htd : Int.tdiv p 2 = p / 2 := Int.tdiv_eq_ediv_of_nonneg hmb.1
      clear hs2 hs3 hp
      go_wp2_with fail
      go_ret
      exact ⟨ret_int (by rw [HZ.out, ← HM.out]), rfl⟩

theorem impl_SizeOfLevels (A : Option Addr) (c : Nat) (xs : List Int) (w : World) (hl : xs.length ≤ 1048576) (hc : Cells w A xs) :
    Calls Try.prog 181 #[.slice A xs.length c] w fun e w' => e = .returned (.tuple #[.int .i64 (sizeF xs), .bool (levB xs)]) ∧ Below w.heap.size w w' :=
  (SizeOfLevels_any A c xs w hl hc).mono fun _ _ ⟨he, hw⟩ => ⟨he, by rw [hw]; exact Below.refl _ _⟩

end Go.Proofs.Ytnpkfndopicdiaa
