/-
  Several texts in one.
-/
import Derived.Test.YtndcegnlgdanmaaR01
import Derived.Test.YtndcegnlgdanmaaCC
import Derived.Test.YtndcegnlgdanmaaCA
import Derived.Test.YtndcegnlgdanmaaR02
import Derived.Test.YtndcegnlgdanmaaCH
/-
  The squares of the hooks less the squares of the contents make the square of the number of cells; hooks of the conjugate. No walk in this text.
-/
namespace Go.Proofs.Ytndcegnlgdanmaa
open Go.RowKit

def smr (n : Nat) (g : Nat → Int) : Int := ((List.range n).map g).sum
theorem smr_zero (g : Nat → Int) : smr 0 g = 0 := rfl
theorem smr_succ (n : Nat) (g : Nat → Int) : smr (n + 1) g = smr n g + g n := by simp [smr, List.range_succ]
theorem smr_first (n : Nat) (g : Nat → Int) : smr (n + 1) g = g 0 + smr n (fun k => g (k + 1)) := by
  simp only [smr, List.range_succ_eq_map, List.map_cons, List.sum_cons, List.map_map]; rfl
theorem smr_congr {f g : Nat → Int} : ∀ n : Nat, (∀ k, k < n → f k = g k) → smr n f = smr n g
  | 0, _ => rfl
  | n + 1, h => by rw [smr_succ, smr_succ, smr_congr n fun k hk => h k (by omega), h n (by omega)]
theorem smr_add (f g : Nat → Int) : ∀ n : Nat, smr n (fun k => f k + g k) = smr n f + smr n g
  | 0 => rfl
  | n + 1 => by rw [smr_succ, smr_succ, smr_succ, smr_add f g n]; omega
theorem smr_mul (a : Int) (f : Nat → Int) : ∀ n : Nat, smr n (fun k => a * f k) = a * smr n f
  | 0 => by rw [smr_zero, smr_zero, Int.mul_zero]
  | n + 1 => by rw [smr_succ, smr_succ, smr_mul a f n, Int.mul_add]
theorem smr_ite (g : Nat → Int) (x : Int) (hx : 0 ≤ x) : ∀ M : Nat, smr M (fun c => if (c : Int) < x then g c else 0) = smr (min M x.toNat) g
  | 0 => by rw [Nat.zero_min]; rfl
  | M + 1 => by
    rw [smr_succ, smr_ite g x hx M]
    split
    · rw [show min M x.toNat = M by omega, show min (M + 1) x.toNat = M + 1 by omega, smr_succ]
    · rw [show min M x.toNat = x.toNat by omega, show min (M + 1) x.toNat = x.toNat by omega, Int.add_zero]
theorem smr_gauss (m : Int) : ∀ n : Nat, smr n (fun c => m * m - 2 * m * (c : Int)) = m * m * n - m * ((n : Int) * n - n)
  | 0 => by rw [smr_zero]; simp
  | n + 1 => by rw [smr_succ, smr_gauss m n]; grind
/-- The sum over the cells of the rows. -/
def dbl (xs : List Int) (f : Nat → Nat → Int) : Int := smr xs.length fun r => smr (xs.getD r 0).toNat (f r)
theorem dbl_cons (x : Int) (t : List Int) (f : Nat → Nat → Int) : dbl (x :: t) f = smr x.toNat (f 0) + dbl t fun r => f (r + 1) := by
  unfold dbl
  rw [List.length_cons, smr_first]
  rfl
theorem dbl_add (xs : List Int) (f g : Nat → Nat → Int) : dbl xs (fun r c => f r c + g r c) = dbl xs f + dbl xs g := by
  unfold dbl
  rw [← smr_add]
  exact smr_congr _ fun k _ => smr_add _ _ _
theorem dbl_mul (a : Int) (xs : List Int) (f : Nat → Nat → Int) : dbl xs (fun r c => a * f r c) = a * dbl xs f := by
  unfold dbl
  rw [← smr_mul]
  exact smr_congr _ fun k _ => smr_mul _ _ _
theorem dbl_congr {xs : List Int} {f g : Nat → Nat → Int} (h : ∀ r c : Nat, r < xs.length → (c : Int) < xs.getD r 0 → f r c = g r c) : dbl xs f = dbl xs g :=
  smr_congr _ fun r hr => smr_congr _ fun c hc => h r c hr (by omega)
theorem colH_cons (x : Int) (t : List Int) (c : Int) : colH (x :: t) c = (if c < x then 1 else 0) + colH t c := by simp [colH]
theorem dbl_col (g : Nat → Int) (M : Nat) : ∀ xs : List Int, (∀ x ∈ xs, 0 ≤ x ∧ x ≤ M) → dbl xs (fun _ c => g c) = smr M fun c => g c * colH xs (c : Int)
  | [], _ => by
    show (0 : Int) = _
    rw [smr_congr M (g := fun _ => 0 * 0) (fun k _ => by simp [colH]), smr_mul, Int.zero_mul]
  | x :: t, h => by
    have hx := h x (List.mem_cons_self ..)
    rw [dbl_cons, dbl_col g M t fun y hy => h y (List.mem_cons_of_mem _ hy)]
    have e := smr_ite g x hx.1 M
    rw [show min M x.toNat = x.toNat by omega] at e
    rw [← e, ← smr_add]
    refine smr_congr _ fun k _ => ?_
    rw [colH_cons]
    split <;> grind
theorem colH_zero {t : List Int} {x c : Int} (h : ∀ y ∈ t, y ≤ x) (hc : x ≤ c) : colH t c = 0 := by
  induction t with
  | nil => rfl
  | cons a t ih =>
    rw [colH_cons, ih fun y hy => h y (List.mem_cons_of_mem _ hy), if_neg (by have := h a (List.mem_cons_self ..); omega)]
    rfl
theorem dbl_one (M : Nat) (xs : List Int) (h : ∀ x ∈ xs, 0 ≤ x ∧ x ≤ M) : dbl xs (fun _ _ => 1) = smr M fun c => colH xs (c : Int) := by
  rw [dbl_col (fun _ => 1) M xs h]
  exact smr_congr _ fun k _ => by rw [Int.one_mul]
theorem dbl_odd (M : Nat) : ∀ xs : List Int, (∀ x ∈ xs, 0 ≤ x ∧ x ≤ M) → xs.Pairwise (fun a b => b ≤ a) → dbl xs (fun r _ => 2 * (r : Int) + 1) = smr M fun c => colH xs (c : Int) * colH xs (c : Int)
  | [], _, _ => by
    show (0 : Int) = _
    rw [smr_congr M (g := fun _ => 0 * 0) (fun k _ => by simp [colH]), smr_mul, Int.zero_mul]
  | x :: t, h, hp => by
    have hx := h x (List.mem_cons_self ..)
    have ht : ∀ y ∈ t, 0 ≤ y ∧ y ≤ M := fun y hy => h y (List.mem_cons_of_mem _ hy)
    have hp' := List.pairwise_cons.1 hp
    rw [dbl_cons, show (dbl t fun r _ => 2 * ((r + 1 : Nat) : Int) + 1) = dbl t fun r c => (2 * (r : Int) + 1) + 2 * (fun _ _ => 1 : Nat → Nat → Int) r c from dbl_congr fun r c _ _ => by show 2 * ((r + 1 : Nat) : Int) + 1 = (2 * (r : Int) + 1) + 2 * 1; omega,
      dbl_add, dbl_mul, dbl_one M t ht, dbl_odd M t ht hp'.2]
    have e := smr_ite (fun _ => 1) x hx.1 M
    rw [show min M x.toNat = x.toNat by omega] at e
    rw [show smr x.toNat (fun _ => 2 * ((0 : Nat) : Int) + 1) = smr x.toNat fun _ => 1 from smr_congr _ fun _ _ => rfl, ← e, ← smr_mul, ← smr_add, ← smr_add]
    refine smr_congr _ fun k _ => ?_
    rw [colH_cons]
    split
    · grind
    · rw [colH_zero hp'.1 (by omega)]; rfl
def hk2 (xs : List Int) (r c : Nat) : Int := xs.getD r 0 - c + colH xs (c : Int) - r - 1
def sqH (xs : List Int) : Int := dbl xs fun r c => hk2 xs r c * hk2 xs r c
def sqC (xs : List Int) : Int := dbl xs fun r c => contN r c * contN r c
theorem hooks_square : ∀ xs : List Int, (∀ x ∈ xs, 0 ≤ x) → xs.Pairwise (fun a b => b ≤ a) → sqH xs = sqC xs + xs.sum * xs.sum
  | [], _, _ => rfl
  | x :: t, h, hp => by
    obtain ⟨m, rfl⟩ : ∃ m : Nat, x = m := ⟨x.toNat, by have := h x (List.mem_cons_self ..); omega⟩
    have hp' := List.pairwise_cons.1 hp
    have ht : ∀ y ∈ t, 0 ≤ y ∧ y ≤ (m : Int) := fun y hy => ⟨h y (List.mem_cons_of_mem _ hy), hp'.1 y hy⟩
    have ih := hooks_square t (fun y hy => (ht y hy).1) hp'.2
    have e1 : sqH ((m : Int) :: t) = smr m (fun c => ((m : Int) - c + colH t (c : Int)) * ((m : Int) - c + colH t (c : Int))) + sqH t := by
      unfold sqH
      rw [dbl_cons]
      congr 1
      · rw [Int.toNat_natCast]
        refine smr_congr _ fun c hc => ?_
        have : hk2 ((m : Int) :: t) 0 c = (m : Int) - c + colH t (c : Int) := by
          unfold hk2; rw [colH_cons, if_pos (by omega)]
          show (m : Int) - c + (1 + colH t c) - ((0 : Nat) : Int) - 1 = _
          omega
        rw [this]
      · refine dbl_congr fun r c hr hc => ?_
        have hm : t.getD r 0 ≤ m := by
          rw [List.getD_eq_getElem?_getD, List.getElem?_eq_getElem hr]
          exact hp'.1 _ (List.getElem_mem hr)
        have : hk2 ((m : Int) :: t) (r + 1) c = hk2 t r c := by
          unfold hk2; rw [colH_cons, if_pos (by omega)]
          show t.getD r 0 - c + (1 + colH t c) - ((r + 1 : Nat) : Int) - 1 = _
          omega
        rw [this]
    have e2 : sqC ((m : Int) :: t) = smr m (fun c => (c : Int) * c) + (sqC t + (-2) * dbl t (fun _ c => (c : Int)) + dbl t (fun r _ => 2 * (r : Int) + 1)) := by
      unfold sqC
      rw [dbl_cons, ← dbl_mul, ← dbl_add, ← dbl_add]
      have a1 : smr (m : Int).toNat (fun c => contN 0 c * contN 0 c) = smr m fun c => (c : Int) * c := by
        rw [Int.toNat_natCast]
        exact smr_congr _ fun c _ => by unfold contN; grind
      rw [a1]
      congr 1
      · exact dbl_congr fun r c _ _ => by unfold contN; grind
    have e3 : smr m (fun c => ((m : Int) - c + colH t (c : Int)) * ((m : Int) - c + colH t (c : Int)))
        = smr m (fun c => (c : Int) * c) + (smr m (fun c => (m : Int) * m - 2 * m * (c : Int)) + (2 * (m : Int) * smr m (fun c => colH t (c : Int)) + ((-2) * smr m (fun c => (c : Int) * colH t (c : Int)) + smr m (fun c => colH t (c : Int) * colH t (c : Int))))) := by
      rw [← smr_mul, ← smr_mul, ← smr_add, ← smr_add, ← smr_add, ← smr_add]
      exact smr_congr _ fun c _ => by grind
    have e4 : smr m (fun c => colH t (c : Int)) = t.sum := cols_sumM m t ht
    rw [e1, e2, e3, smr_gauss, e4, ← dbl_col (fun c => (c : Int)) m t ht, ← dbl_odd m t ht hp'.2, ih, List.sum_cons]
    grind
end Go.Proofs.Ytndcegnlgdanmaa
/-
  Contracts: levels told by counts (both sides).
-/
namespace Go.Proofs.Ytndcegnlgdanmaa
open Go.RowKit

theorem ifLevels_t (A : Option Addr) (c : Nat) (xs : List Int) (w : World) (hl : xs.length ≤ 1048576) (hc : Cells w A xs) (h : levB xs = true) :
    Calls Try.prog 31 #[.slice A xs.length c] w fun e w' => e = .returned (.tuple #[.slice A xs.length c, .bool true]) ∧ w = w' := by
  have H := hid h; clear h
  go_enter Try.func31, Try.ntmps31
  go_wp2_with (go_at_call 9; refine (IsLevels_b _ _ _ _ hl hc _ H.out).mono ?_; rintro e w' ⟨rfl, rfl⟩)
  go_ret2
  exact ⟨rfl, rfl⟩
theorem ifLevels_f (A : Option Addr) (c : Nat) (xs : List Int) (w : World) (hl : xs.length ≤ 1048576) (hc : Cells w A xs) (h : levB xs = false) :
    Calls Try.prog 31 #[.slice A xs.length c] w fun e w' => e = .returned (.tuple #[.slice none 0 0, .bool false]) ∧ w = w' := by
  have H := hid h; clear h
  go_enter Try.func31, Try.ntmps31
  go_wp2_with (go_at_call 9; refine (IsLevels_b _ _ _ _ hl hc _ H.out).mono ?_; rintro e w' ⟨rfl, rfl⟩)
  go_ret2
  exact ⟨rfl, rfl⟩
/-- ifLevels of a row of the call's own. -/
theorem ifLevels_own {B : Nat} (A : Option Addr) (c : Nat) (xs : List Int) (w : World) (hl : xs.length ≤ 1048576) (ho : Own w B A c xs) :
    Calls Try.prog 31 #[.slice A xs.length c] w fun e w' => (∃ A' c', e = .returned (.tuple #[.slice A' (if levB xs then xs else []).length c', .bool (levB xs)]) ∧ Own w B A' c' (if levB xs then xs else [])) ∧ w = w' := by
  cases h : levB xs
  · exact (ifLevels_f A c xs w hl ho.cells h).mono fun e w' ⟨he, hw⟩ => ⟨⟨none, 0, by simpa using he, by simpa using own_nil w B⟩, hw⟩
  · exact (ifLevels_t A c xs w hl ho.cells h).mono fun e w' ⟨he, hw⟩ => ⟨⟨A, c, by simpa using he, by simpa using ho⟩, hw⟩

set_option maxRecDepth 100000 in
set_option maxHeartbeats 1000000 in
theorem impl_LevelsFromCounts (A : Option Addr) (c : Nat) (xs : List Int) (w : World) (hl : xs.length ≤ 1048576) (hc : Cells w A xs) :
    Calls Try.prog 16 #[.slice A xs.length c] w fun e w' => ∃ A' c', e = .returned (.tuple #[.slice A' (fromCF xs).length c', .bool (fromB xs)]) ∧ Own w' w.heap.size A' c' (fromCF xs) ∧ Below w.heap.size w w' := by
  cases hr : inB 2 6 (xs.length : Int)
  · have hb := fromB_c (cntOk_len hr)
    rw [fromCF_f hb, hb]
    have HR := hid hr; clear hr hb
    go_enter Try.func16, Try.ntmps16
    go_wp2_with (go_at_call 28; refine (hasRunners_b _ _ _ HR.out).mono ?_; rintro e w' ⟨rfl, rfl⟩)
    go_ret2
    exact ⟨none, 0, rfl, own_nil _ _, Below.refl _ _⟩
  have h6 := (inB_iff.1 hr).2
  have h2 := (inB_iff.1 hr).1
  have HR := hid hr; clear hr
  have hmk := run_make_row' (P := Try.prog) 22 3 (.int .i64 0) 8 Try.underlying22 Try.infoInt rfl .i64 .i64 xs.length (by omega) (by omega)
  obtain ⟨w2, hw2⟩ : ∃ w2, w2 = w.alloc (.cells (madeCells #[.int .i64 0] xs.length) 3) := ⟨_, rfl⟩
  have o2 : Own w2 w.heap.size (some ⟨w.heap.size, 0, none⟩) xs.length (rowK xs.length (diffF xs) 0) := by rw [hw2, rowK_zero]; exact own_made w xs.length (by omega)
  have b2 : Below w.heap.size w w2 := by rw [hw2]; exact (Below.refl _ _).alloc (Nat.le_refl _) _
  have HW := hid hw2; clear hw2
  go_enter Try.func16, Try.ntmps16
  go_wp2_with (go_at_call 28; refine (hasRunners_b _ _ _ HR.out).mono ?_; rintro e w' ⟨rfl, rfl⟩)
  go_loop [17] (fun i => ∃ k : Nat, k ≤ xs.length ∧ i = .int .i64 k ∧ (xs.take k).all (inB 0 30) = true) (fun i => xs.length - (intOf i).toNat)
  case atStart => exact ⟨0, Nat.zero_le _, rfl, by simp⟩
  case round =>
    obtain ⟨k, hk, rfl, hall⟩ := hrel
    have HA := hid hall; clear hall
    by_cases hlt : k < xs.length
    · obtain ⟨b, o, rfl, hcc⟩ := hc (by omega)
      have hck := hcc k hlt
      clear hcc hc
      obtain ⟨x, hx⟩ : ∃ x, x = xs.getD k 0 := ⟨_, rfl⟩
      rw [← hx] at hck
      have HX := hid hx; clear hx
      cases hin : okN x
      · have HI := hid hin; clear hin
        have hb := fromB_c (cntOk_all (all_take_false (inB 0 30) xs k hlt (by rw [← HX.out]; exact HI.out)))
        have HB := hid hb
        clear hb
        go_wp2_with (go_at_call 41; refine (isCellNumber_b _ _ _ HI.out).mono ?_; rintro e w' ⟨rfl, rfl⟩)
        go_ret2
        exact ⟨none, 0, by rw [fromCF_f HB.out, HB.out]; rfl, by rw [fromCF_f HB.out]; exact own_nil _ _, Below.refl _ _⟩
      · have HI := hid hin; clear hin
        go_wp2_with (go_at_call 41; refine (isCellNumber_b _ _ _ HI.out).mono ?_; rintro e w' ⟨rfl, rfl⟩)
        go_round
        case rel => exact ⟨k + 1, by omega, by go_num, by rw [all_take_succ _ _ _ hlt, HA.out, ← HX.out]; exact HI.out⟩
        case measure => simp [intOf]; omega
    · have hkl : k = xs.length := by omega
      subst hkl
      rw [List.take_of_length_le (Nat.le_refl _)] at HA
      have hb := fromB_l HR.out HA.out
      have HB := hid hb; clear hb
      go_wp2_with fail
      rw [← HW.out]
      go_loopw [29] (fun i wr => ∃ k : Nat, k ≤ xs.length ∧ i = .int .i64 k ∧ Own wr w.heap.size (some ⟨w.heap.size, 0, none⟩) xs.length (rowK xs.length (diffF xs) k) ∧ Below w.heap.size w wr) (fun i _ => xs.length - (intOf i).toNat)
      case atStart => exact ⟨0, Nat.zero_le _, rfl, o2, b2⟩
      case round =>
        obtain ⟨k, hk, rfl, hown, hbel⟩ := hrel
        by_cases hlt : k < xs.length
        · obtain ⟨b, o, rfl, hcc⟩ := (hc.later hbel) (by omega)
          have hck := hcc k hlt
          have hmlt : (k + 1) % xs.length < xs.length := Nat.mod_lt _ (by omega)
          have hck1 := hcc ((k + 1) % xs.length) hmlt
          have hxb := all_bd HA.out k hlt
          have hyb := all_bd HA.out ((k + 1) % xs.length) hmlt
          have htm : Int.tmod ((k : Int) + 1) (xs.length : Int) = (((k + 1) % xs.length : Nat) : Int) := by rfl
          have hcur := own_get hown (k := k) (by rw [rowK_len]; exact hlt)
          have hfz := own_froz hown k
          have hst := own_len (own_set hown k (diffF xs k)) (rowK_succ xs.length (diffF xs) k)
          rw [show diffF xs k = xs.getD k 0 - xs.getD ((k + 1) % xs.length) 0 from rfl] at hst
          obtain ⟨u, hu⟩ : ∃ u, u = (rowK xs.length (diffF xs) k).getD k 0 := ⟨_, rfl⟩
          obtain ⟨x, hx⟩ : ∃ x, x = xs.getD k 0 := ⟨_, rfl⟩
          obtain ⟨m, hm⟩ : ∃ m, m = (k + 1) % xs.length := ⟨_, rfl⟩
          rw [← hm] at hck1 hyb htm hst hmlt
          obtain ⟨y, hy⟩ : ∃ y, y = xs.getD m 0 := ⟨_, rfl⟩
          rw [← hu] at hcur
          rw [← hx] at hck hxb hst
          rw [← hy] at hck1 hyb hst
          have HS := hid hst
          clear hcc hst hu hown hx hc o2 hm hy
          go_wp2_with fail
          go_roundw
          case rel => exact ⟨k + 1, by omega, by go_num, HS.out, hbel.setCell (Nat.le_refl _) _⟩
          case measure => simp [intOf]; omega
        · have hkl : k = xs.length := by omega
          subst hkl
          have ho := own_len hown (rowK_all xs.length (diffF xs))
          have hfc : fromCF xs = if levB (diffL xs) then diffL xs else [] := by unfold fromCF; rw [HB.out]
          have hfb := HB.out
          have hif := ifLevels_own (some ⟨w.heap.size, 0, none⟩) xs.length (diffL xs) wr (by rw [diffL_len]; omega) ho
          rw [diffL_len] at hif
          obtain ⟨r, hre⟩ : ∃ r, r = if levB (diffL xs) then diffL xs else [] := ⟨_, rfl⟩
          obtain ⟨q, hqe⟩ : ∃ q, q = levB (diffL xs) := ⟨_, rfl⟩
          rw [← hre] at hif hfc
          rw [← hqe] at hif hfb
          have HFC := hid hfc
          have HFB := hid hfb
          have HIF := hid hif
          clear hown ho hif hfc hre hqe hfb
          go_wp2_with (go_at_call 31; refine HIF.out.mono ?_; rintro e w' ⟨⟨A', c', rfl, ho⟩, rfl⟩)
          go_ret2
          exact ⟨A', c', by rw [HFC.out, HFB.out]; first | done | rfl, by rw [HFC.out]; exact ho, hbel⟩

set_option maxRecDepth 100000 in
set_option maxHeartbeats 1000000 in
theorem spec_LevelsFromCounts (A : Option Addr) (c : Nat) (xs : List Int) (w : World) (hl : xs.length ≤ 1048576) (hc : Cells w A xs) :
    Calls Try.prog 17 #[.slice A xs.length c] w fun e w' => ∃ A' c', e = .returned (.tuple #[.slice A' (fromCF xs).length c', .bool (fromB xs)]) ∧ Own w' w.heap.size A' c' (fromCF xs) ∧ Below w.heap.size w w' := by
  obtain ⟨i0, hi, hz0, hz1, hz2⟩ := info_parts Try.infoInt
  cases hr : inB 2 6 (xs.length : Int)
  · have hb := fromB_c (cntOk_len hr)
    rw [fromCF_f hb, hb]
    have HR := hid hr; clear hr hb
    go_enter Try.func17, Try.ntmps17
    go_wp2_with (go_at_call 34; refine (chRunners_b _ _ _ HR.out).mono ?_; rintro e w' ⟨rfl, rfl⟩)
    go_ret2
    exact ⟨none, 0, rfl, own_nil _ _, Below.refl _ _⟩
  have h6 := (inB_iff.1 hr).2
  have h2 := (inB_iff.1 hr).1
  cases ha : xs.all (inB 0 30)
  · have hb := fromB_c (cntOk_all ha)
    rw [fromCF_f hb, hb]
    have HR := hid hr; clear hr hb
    have HA := hid ha; clear ha
    go_enter Try.func17, Try.ntmps17
    go_wp2_with (first | (go_at_call 34; refine (chRunners_b _ _ _ HR.out).mono ?_; rintro e w' ⟨rfl, rfl⟩) | (go_at_call 42; refine (l1All_b _ _ _ _ _ _ hl hc _ HA.out).mono ?_; rintro e w' ⟨rfl, rfl⟩))
    go_ret2
    exact ⟨none, 0, rfl, own_nil _ _, Below.refl _ _⟩
  have HR := hid hr; clear hr
  have HA := hid ha; clear ha
  go_enter Try.func17, Try.ntmps17
  go_wp2_with (first | (go_at_call 34; refine (chRunners_b _ _ _ HR.out).mono ?_; rintro e w' ⟨rfl, rfl⟩) | (go_at_call 42; refine (l1All_b _ _ _ _ _ _ hl hc _ HA.out).mono ?_; rintro e w' ⟨rfl, rfl⟩))
  go_loopw [4, 18] (fun v i wr => ∃ k : Nat, k ≤ xs.length ∧ i = .int .i64 k ∧ (∃ ys, ys = (diffL xs).take k ∧ ys.length = k ∧ wr.ownsRow w.heap.size 3 1 v ys.length (IL ys)) ∧ Below w.heap.size w wr) (fun _ i _ => xs.length - (intOf i).toNat)
  case atStart => exact ⟨0, Nat.zero_le _, rfl, ⟨[], rfl, rfl, World.ownsRow_nil _ _ _ _⟩, Below.refl _ _⟩
  case round =>
    obtain ⟨k, hk, rfl, ⟨ys, hys, hyl, hown⟩, hbel⟩ := hrel
    have HY := hid hys; clear hys
    have HYL := hid hyl
    by_cases hlt : k < xs.length
    · obtain ⟨b, o, rfl, hcc⟩ := (hc.later hbel) (by omega)
      have hck := hcc k hlt
      have hmlt : (k + 1) % xs.length < xs.length := Nat.mod_lt _ (by omega)
      have hck1 := hcc ((k + 1) % xs.length) hmlt
      have hxb := all_bd HA.out k hlt
      have hyb := all_bd HA.out ((k + 1) % xs.length) hmlt
      have htm : Int.tmod ((k : Int) + 1) (xs.length : Int) = (((k + 1) % xs.length : Nat) : Int) := by rfl
      have HT := hid (take_snoc (diffL xs) k (by rw [diffL_len]; exact hlt) _ (fnRow_get _ _ k hlt))
      rw [show diffF xs k = xs.getD k 0 - xs.getD ((k + 1) % xs.length) 0 from rfl] at HT
      have hyk : ys.length ≤ 6 := by omega
      obtain ⟨x, hx⟩ : ∃ x, x = xs.getD k 0 := ⟨_, rfl⟩
      obtain ⟨m, hm⟩ : ∃ m, m = (k + 1) % xs.length := ⟨_, rfl⟩
      rw [← hm] at hck1 hyb htm HT hmlt
      obtain ⟨y, hy⟩ : ∃ y, y = xs.getD m 0 := ⟨_, rfl⟩
      rw [← hx, ← hy, ← HY.out] at HT
      rw [← hx] at hck hxb
      rw [← hy] at hck1 hyb
      clear hcc hx hc hyl hm hy
      go_wp2_with (at_builtin; refine wpList_append_own _ rfl _ _ 22 rfl w.heap.size 3 i0 (.int .i64 0) 1 8 Try.underlying22 hi hz0 hz1 hz2 rfl (by decide) _ _ _ rfl (hown.alloc _) ⟨wr.heap.size, 0, none⟩ 1 1 [.int .i64 (x - y)] rfl rfl one_at (one_cell _) (by unfold maxLen; omega) (by omega) (by have := hbel.size; simp; omega) ?_)
      intro v' w1 hown' hgrow _
      have hb1 : Below w.heap.size w w1 := (hbel.alloc hbel.size _).grown hgrow (by have := hbel.size; simp; omega) (fun q hq => (hown.lt q hq).1)
      have hown2 := own_snoc HT.out hown'
      clear hgrow hown hown'
      go_wp2_with fail
      go_roundw
      case rel => exact ⟨k + 1, by omega, by go_num, ⟨_, rfl, by rw [List.length_take, diffL_len]; omega, hown2⟩, hb1⟩
      case measure => simp [intOf]; omega
    · have hkl : k = xs.length := by omega
      subst hkl
      have hyy : ys = diffL xs := by rw [HY.out, List.take_of_length_le (by rw [diffL_len]; exact Nat.le_refl _)]
      subst hyy
      obtain ⟨A', c', rfl, ho⟩ := own_form hown rfl
      have hfb := fromB_l HR.out HA.out
      cases hg : levB (diffL xs)
      · have HG := hid hg
        have HF := hid (hfb.trans hg)
        clear hown hyl hg hfb
        go_wp2_with (go_at_call 23; refine (chGood_b _ _ _ _ (by rw [HYL.out]; omega) ho.cells _ HG.out).mono ?_; rintro e w' ⟨rfl, rfl⟩)
        go_ret2
        exact ⟨none, 0, by rw [fromCF_f HF.out, HF.out]; rfl, by rw [fromCF_f HF.out]; exact own_nil _ _, hbel⟩
      · have HG := hid hg
        have HF := hid (hfb.trans hg)
        clear hown hyl hg hfb
        go_wp2_with (go_at_call 23; refine (chGood_b _ _ _ _ (by rw [HYL.out]; omega) ho.cells _ HG.out).mono ?_; rintro e w' ⟨rfl, rfl⟩)
        go_ret2
        exact ⟨A', c', by rw [fromCF_t HF.out, HF.out]; first | done | rfl, by rw [fromCF_t HF.out]; exact ho, hbel⟩
end Go.Proofs.Ytndcegnlgdanmaa
