/-
  Several texts in one.
-/
import Derived.Test.YtiebnnchaopbkaaR19
import Derived.Test.YtiebnnchaopbkaaR20
import Derived.Test.YtiebnnchaopbkaaR06
import Derived.Test.YtiebnnchaopbkaaR10
import Derived.Test.YtiebnnchaopbkaaCA
import Derived.Test.YtiebnnchaopbkaaR07
/-
  Contracts: an abacus with all beads down, of the model; PushDown of the model.
-/
namespace Go.Proofs.Ytiebnnchaopbkaa
open Go.RowKit

/-- A row whose first numbers are counted up. -/
def prt (r : List Int) (m : Nat) : List Int := fnRow r.length fun j => if j < m then (j : Int) else r.getD j 0
theorem prt_len (r : List Int) (m : Nat) : (prt r m).length = r.length := fnRow_len _ _
theorem prt_zero (r : List Int) : prt r 0 = r := by
  have := rowF_of r
  unfold prt; rw [rowF_ext _ _ (fun j => r.getD j 0) fun j _ => by simp]; exact this
theorem prt_all (r : List Int) : prt r r.length = upTo r.length := by unfold prt upTo; exact rowF_ext _ _ _ fun j hj => by rw [if_pos hj]
theorem prt_get (r : List Int) (m : Nat) (h : m < r.length) : (prt r m).getD m 0 = r.getD m 0 := by unfold prt; rw [fnRow_get _ _ _ h, if_neg (Nat.lt_irrefl _)]
theorem prt_set (r : List Int) (m : Nat) : (prt r m).set m (m : Int) = prt r (m + 1) := by
  unfold prt
  rw [fnRow_set]
  refine rowF_ext _ _ _ fun j _ => ?_
  by_cases e : j = m
  · subst e; simp
  · rw [if_neg e]
    by_cases h : j < m
    · rw [if_pos h, if_pos (by omega)]
    · rw [if_neg h, if_neg (by omega)]
/-- The rows while they are counted up: k of them done, and m numbers of the next one. -/
def dnM (R : Nat → List Int) (k m j : Nat) : List Int := if j < k then upTo (R j).length else if j = k then prt (R j) m else R j
theorem dnM_len (R : Nat → List Int) (k m j : Nat) : (dnM R k m j).length = (R j).length := by
  unfold dnM; split
  · exact upTo_len _
  · split
    · exact prt_len _ _
    · rfl
theorem dnM_start (R : Nat → List Int) (j : Nat) : dnM R 0 0 j = R j := by
  unfold dnM; rw [if_neg (by omega)]; split
  · exact prt_zero _
  · rfl
theorem dnM_next (R : Nat → List Int) (k j : Nat) : dnM R k (R k).length j = dnM R (k + 1) 0 j := by
  unfold dnM
  by_cases h : j < k
  · rw [if_pos h, if_pos (by omega)]
  · rw [if_neg h]
    by_cases e : j = k
    · subst e; rw [if_pos rfl, if_pos (by omega), prt_all]
    · rw [if_neg e, if_neg (by omega)]
      split
      · exact (prt_zero _).symm
      · rfl
theorem dnM_done (R : Nat → List Int) (t j : Nat) (h : j < t) : dnM R t 0 j = upTo (R j).length := by unfold dnM; rw [if_pos h]
theorem dnM_same (R : Nat → List Int) (k m j : Nat) (h : j ≠ k) : dnM R k m j = dnM R k (m + 1) j := by
  unfold dnM; rw [if_neg h, if_neg h]
theorem dnM_own (R : Nat → List Int) (k m : Nat) : dnM R k m k = prt (R k) m := by unfold dnM; rw [if_neg (Nat.lt_irrefl _), if_pos rfl]
theorem sum_take_bd {L : List Int} (h : ∀ j, j < L.length → 0 ≤ L.getD j 0 ∧ L.getD j 0 ≤ 1000) : ∀ m, m ≤ L.length → 0 ≤ (L.take m).sum ∧ (L.take m).sum ≤ 1000 * m
  | 0, _ => by simp
  | m + 1, hm => by
    have ih := sum_take_bd h m (by omega)
    have := h m (by omega)
    rw [take_snoc L m (by omega) _ rfl, List.sum_append]
    simp only [List.sum_cons, List.sum_nil]; omega
theorem tri_bd : ∀ m, m ≤ 1000 → 0 ≤ tri m ∧ tri m ≤ 1000 * m
  | 0, _ => by simp [tri]
  | m + 1, h => by have := tri_bd m (by omega); rw [tri]; omega
def mvS (R : Nat → List Int) : Nat → Int := sumN fun i => (R i).sum - tri (R i).length
theorem mvS_bd {R : Nat → List Int} {t : Nat} (h : ∀ i, i < t → (R i).length ≤ 1000 ∧ ∀ j, j < (R i).length → 0 ≤ (R i).getD j 0 ∧ (R i).getD j 0 ≤ 1000) : ∀ k, k ≤ t → -1000000 * (k : Int) ≤ mvS R k ∧ mvS R k ≤ 1000000 * (k : Int)
  | 0, _ => by simp [mvS, sumN]
  | k + 1, hk => by
    have ih := mvS_bd h k (by omega)
    obtain ⟨h1, h2⟩ := h k (by omega)
    have s := sum_take_bd h2 _ (Nat.le_refl _)
    rw [List.take_of_length_le (Nat.le_refl _)] at s
    have := tri_bd (R k).length h1
    show _ ≤ mvS R k + ((R k).sum - tri (R k).length) ∧ mvS R k + ((R k).sum - tri (R k).length) ≤ _
    omega

end Go.Proofs.Ytiebnnchaopbkaa
/-
  Contracts: CoreOf and WeightOf of the program and of the model.
-/
namespace Go.Proofs.Ytiebnnchaopbkaa
open Go.RowKit

def coF (xs : List Int) (t : Int) : List Int := if crB xs t then coreL t.toNat xs else []
def coN (xs : List Int) (t : Int) : Int := if crB xs t then wgtN t.toNat xs else 0
theorem co_no {xs : List Int} {t : Int} (h : crB xs t = false) : coF xs t = [] ∧ coN xs t = 0 := by simp [coF, coN, h]
theorem co_yes {xs : List Int} {t : Nat} (h : crB xs t = true) : coF xs t = coreL t xs ∧ coN xs t = wgtN t xs := by simp [coF, coN, h]
theorem coreL_len {t : Nat} (ht : 0 < t) (p : List Int) : (coreL t p).length ≤ p.length := by
  unfold coreL
  have := partsL_len (dwL t (beadsL p p.length))
  rw [dwL_len ht, beadsL_len] at this; exact this
theorem bound_CoreOf (xs : List Int) (t : Int) : (coF xs t).length ≤ 1048576 := by
  unfold coF; split
  · rename_i h
    obtain ⟨hg, ht⟩ := crB_good h
    have := inB_iff.1 ht
    have := coreL_len (t := t.toNat) (by omega) xs
    have := ((good_iff xs).1 hg).len
    omega
  · simp
theorem aba_own {xs : List Int} {t : Int} : abaOk xs t xs.length = crB xs t := by
  unfold abaOk beadsOk crB
  cases hg : good xs
  · simp
  · have hl := ((good_iff xs).1 hg).len
    have : inB xs.length 40 xs.length = true := inB_iff.2 (by omega)
    rw [this]; cases inB 2 6 t <;> rfl

end Go.Proofs.Ytiebnnchaopbkaa
/-
  Contracts: the size of the core with levels, and levels turned (both sides).
-/
namespace Go.Proofs.Ytiebnnchaopbkaa
open Go.RowKit

set_option maxHeartbeats 400000 in
theorem sqLev_any (x : Int) (w : World) (h : -10 ≤ x ∧ x ≤ 10) : Calls Try.prog 36 #[.int .i64 x] w fun e w' => e = .returned (.int .i64 (x * x)) ∧ w = w' := by
  have hb := sq_bd h
  go_enter Try.func36, Try.ntmps36
  go_wp2
  go_ret
  exact ⟨rfl, rfl⟩

set_option maxHeartbeats 400000 in
theorem sumSq_any (A : Option Addr) (xs : List Int) (c : Nat) (w : World) (L : Lev xs) (hc : Cells w A xs) :
    Calls Try.prog 35 #[.slice A xs.length c, .func (.func 36) #[] #[]] w fun e w' => e = .returned (.int .i64 (sqSum xs xs.length)) ∧ w = w' := by
  have hl := L.hi
  have HB := hid L; clear L
  go_enter Try.func35, Try.ntmps35
  go_wp2_with fail
  go_loop [5, 10] (fun s i => ∃ k : Nat, k ≤ xs.length ∧ i = .int .i64 k ∧ s = .int .i64 (sqSum xs k)) (fun _ i => xs.length - (intOf i).toNat)
  case atStart => exact ⟨0, Nat.zero_le _, rfl, rfl⟩
  case round =>
    obtain ⟨k, hk, rfl, rfl⟩ := hrel
    have hsb := sqSum_bd HB.out k hk
    by_cases hlt : k < xs.length
    · obtain ⟨b, o, rfl, hcc⟩ := hc (by omega)
      have hck := hcc k hlt
      have hxb := HB.out.bd k hlt
      have HE := hid (show sqSum xs (k + 1) = sqSum xs k + xs.getD k 0 * xs.getD k 0 from rfl)
      clear hcc hc
      obtain ⟨x, hx⟩ : ∃ x, x = xs.getD k 0 := ⟨_, rfl⟩
      obtain ⟨s, hs⟩ : ∃ s, s = sqSum xs k := ⟨_, rfl⟩
      rw [← hx] at hck hxb HE
      rw [← hs] at HE hsb ⊢
      have hsq := sq_bd hxb
      clear hx hs
      go_wp2_with (go_at_call 36; refine (sqLev_any _ _ hxb).mono ?_; rintro e w' ⟨rfl, rfl⟩)
      go_round
      case rel => exact ⟨k + 1, by omega, by go_num, by rw [HE.out]⟩
      case measure => simp [intOf]; omega
    · have hkl : k = xs.length := by omega
      subst hkl
      clear hsb
      go_wp2_with fail
      go_ret
      exact ⟨rfl, rfl⟩

theorem sizeF_f {xs : List Int} (h : levB xs = false) : sizeF xs = 0 := by simp [sizeF, h]
theorem sizeF_t {xs : List Int} (h : levB xs = true) : sizeF xs = sizeL xs := by simp [sizeF, h]

set_option maxRecDepth 100000 in
set_option maxHeartbeats 1000000 in
theorem SizeOfLevels_any (A : Option Addr) (c : Nat) (xs : List Int) (w : World) (hl : xs.length ≤ 1048576) (hc : Cells w A xs) :
    Calls Try.prog 18 #[.slice A xs.length c] w fun e w' => e = .returned (.tuple #[.int .i64 (sizeF xs), .bool (levB xs)]) ∧ w = w' := by
  cases hg : levB xs
  · rw [sizeF_f hg]
    have HG := hid hg; clear hg
    go_enter Try.func18, Try.ntmps18
    go_wp2_with (go_at_call 34; refine (IsLevels_b _ _ _ _ hl hc _ HG.out).mono ?_; rintro e w' ⟨rfl, rfl⟩)
    go_ret2
    exact ⟨rfl, rfl⟩
  rw [sizeF_t hg]
  have L := levB_iff.1 hg
  have h6 := L.hi
  have hsb := sqSum_bd L xs.length (Nat.le_refl _)
  have HL := hid L
  have HG := hid hg; clear hg L
  have HZ := hid (show sizeL xs = sqSum xs xs.length / 2 * xs.length + ixSum xs xs.length from rfl)
  obtain ⟨s, hs⟩ : ∃ s, s = sqSum xs xs.length := ⟨_, rfl⟩
  have HS := hid hs
  rw [← hs] at HZ hsb
  clear hs
  have htd : Int.tdiv s 2 = s / 2 := Int.tdiv_eq_ediv_of_nonneg hsb.1
  have hmb := mul6_bd xs.length h6 (s / 2) (by omega)
  rw [Int.mul_comm] at hmb
  obtain ⟨z, hz⟩ : ∃ z, z = s / 2 * (xs.length : Int) := ⟨_, rfl⟩
  rw [← hz] at HZ hmb
  have hq : s / 2 * (xs.length : Int) = z := hz.symm
  clear hz
  go_enter Try.func18, Try.ntmps18
  go_wp2_with (first | (go_at_call 34; refine (IsLevels_b _ _ _ _ hl hc _ HG.out).mono ?_; rintro e w' ⟨rfl, rfl⟩) | (go_at_call 35; refine (sumSq_any _ _ _ _ HL.out hc).mono ?_; rw [← HS.out]; rintro e w' ⟨rfl, rfl⟩))
  go_loop [5, 20] (fun s i => ∃ k : Nat, k ≤ xs.length ∧ i = .int .i64 k ∧ s = .int .i64 (z + ixSum xs k)) (fun _ i => xs.length - (intOf i).toNat)
  case atStart => exact ⟨0, Nat.zero_le _, rfl, by simp [ixSum]⟩
  case round =>
    obtain ⟨k, hk, rfl, rfl⟩ := hrel
    have hib := ixSum_bd HL.out k hk
    by_cases hlt : k < xs.length
    · obtain ⟨b, o, rfl, hcc⟩ := hc (by omega)
      have hck := hcc k hlt
      have hxb := ix_bd (HL.out.bd k hlt) k (by omega)
      have hx1 := HL.out.bd k hlt
      have HE := hid (show ixSum xs (k + 1) = ixSum xs k + (k : Int) * xs.getD k 0 from rfl)
      clear hcc hc
      obtain ⟨x, hx⟩ : ∃ x, x = xs.getD k 0 := ⟨_, rfl⟩
      obtain ⟨s2, hs2⟩ : ∃ s, s = ixSum xs k := ⟨_, rfl⟩
      rw [← hx] at hck hxb hx1 HE
      rw [← hs2] at HE hib ⊢
      rw [Int.mul_comm] at hxb
      clear hx hs2 hq htd
      go_wp2_with fail
      go_round
      case rel => exact ⟨k + 1, by omega, by go_num, by rw [HE.out, Int.mul_comm (k : Int)]; go_num⟩
      case measure => simp [intOf]; omega
    · have hkl : k = xs.length := by omega
      subst hkl
      clear hq htd hib
      rw [← HZ.out]
      go_wp2_with fail
      go_ret2
      exact ⟨rfl, rfl⟩

set_option maxRecDepth 100000 in
set_option maxHeartbeats 1000000 in
theorem chSize_any (A : Option Addr) (c : Nat) (xs : List Int) (w : World) (L : Lev xs) (hc : Cells w A xs) :
    Calls Try.prog 49 #[.slice A xs.length c] w fun e w' => e = .returned (.int .i64 (sizeL xs)) ∧ w = w' := by
  have h6 := L.hi
  have hm := half_mul L
  have HL := hid L; clear L
  go_enter Try.func49, Try.ntmps49
  go_wp2_with fail
  go_loop [3, 4, 9] (fun q s i => ∃ k : Nat, k ≤ xs.length ∧ i = .int .i64 k ∧ q = .int .i64 (sqSum xs k) ∧ s = .int .i64 (ixSum xs k)) (fun _ _ i => xs.length - (intOf i).toNat)
  case atStart => exact ⟨0, Nat.zero_le _, rfl, rfl, rfl⟩
  case round =>
    obtain ⟨k, hk, rfl, rfl, rfl⟩ := hrel
    have hib := ixSum_bd HL.out k hk
    have hsb := sqSum_bd HL.out k hk
    by_cases hlt : k < xs.length
    · obtain ⟨b, o, rfl, hcc⟩ := hc (by omega)
      have hck := hcc k hlt
      have hxb := ix_bd (HL.out.bd k hlt) k (by omega)
      have hx1 := HL.out.bd k hlt
      have HE := hid (show ixSum xs (k + 1) = ixSum xs k + (k : Int) * xs.getD k 0 from rfl)
      have HF := hid (show sqSum xs (k + 1) = sqSum xs k + xs.getD k 0 * xs.getD k 0 from rfl)
      clear hcc hc
      obtain ⟨x, hx⟩ : ∃ x, x = xs.getD k 0 := ⟨_, rfl⟩
      obtain ⟨s2, hs2⟩ : ∃ s, s = ixSum xs k := ⟨_, rfl⟩
      obtain ⟨s3, hs3⟩ : ∃ s, s = sqSum xs k := ⟨_, rfl⟩
      rw [← hx] at hck hxb hx1 HE HF
      rw [← hs2] at HE hib ⊢
      rw [← hs3] at HF hsb ⊢
      have hsq := sq_bd hx1
      clear hx hs2 hs3 hm
      go_wp2_with fail
      go_round
      case rel => exact ⟨k + 1, by omega, by go_num, by rw [HF.out], by rw [HE.out]⟩
      case measure => simp [intOf]; omega
    · have hkl : k = xs.length := by omega
      subst hkl
      have HZ := hid (show sizeL xs = sqSum xs xs.length / 2 * xs.length + ixSum xs xs.length from rfl)
      have hmb := mul6_bd xs.length h6 (sqSum xs xs.length) (by omega)
      have HM := hid hm; clear hm
      obtain ⟨s2, hs2⟩ : ∃ s, s = ixSum xs xs.length := ⟨_, rfl⟩
      obtain ⟨s3, hs3⟩ : ∃ s, s = sqSum xs xs.length := ⟨_, rfl⟩
      rw [← hs2] at hib HZ ⊢
      rw [← hs3] at hsb HZ HM hmb ⊢
      obtain ⟨p, hp⟩ : ∃ p, p = (xs.length : Int) * s3 := ⟨_, rfl⟩
      rw [← hp] at hmb HM
      have hpe : (xs.length : Int) * s3 = p := hp.symm
      have htd : Int.tdiv p 2 = p / 2 := Int.tdiv_eq_ediv_of_nonneg hmb.1
      clear hs2 hs3 hp
      go_wp2_with fail
      go_ret
      exact ⟨ret_int (by rw [HZ.out, ← HM.out]), rfl⟩

theorem impl_SizeOfLevels (A : Option Addr) (c : Nat) (xs : List Int) (w : World) (hl : xs.length ≤ 1048576) (hc : Cells w A xs) :
    Calls Try.prog 18 #[.slice A xs.length c] w fun e w' => e = .returned (.tuple #[.int .i64 (sizeF xs), .bool (levB xs)]) ∧ Below w.heap.size w w' :=
  (SizeOfLevels_any A c xs w hl hc).mono fun _ _ ⟨he, hw⟩ => ⟨he, by rw [hw]; exact Below.refl _ _⟩

end Go.Proofs.Ytiebnnchaopbkaa
