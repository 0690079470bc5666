/-
  Contracts: levelsFrom and its users of the program; slices.Concat at rows that may be empty.
-/
import Derived.Test.YtnhjofcmaodamaaLwMath
import Derived.Test.YtnhjofcmaodamaaConcat
import Derived.Test.YtnhjofcmaodamaaCB
import Derived.Test.YtnhjofcmaodamaaCF
import Derived.Test.YtnhjofcmaodamaaAllF
namespace Go.Proofs.Ytnhjofcmaodamaa
open Go.RowKit

set_option maxRecDepth 100000 in
set_option maxHeartbeats 2000000 in
theorem concat_opt (A : Option Addr) (c : Nat) (rows : List (List Int)) (w : World) (hr : rows.length ≤ 1000) (ht : tot rows ≤ 1000) (P : Nat → Option Addr) (C : Nat → Nat)
    (hA1 : 0 < rows.length → ∃ b o, A = some ⟨b, o, none⟩ ∧ ∀ j, j < rows.length → w.cell? ⟨b, o + j, none⟩ = some (.slice (P j) (rows.getD j []).length (C j))) (hA2 : ∀ j, j < rows.length → Cells w (P j) (rows.getD j [])) (hp : ∀ j, j < rows.length → P j = none → C j = 0) :
    Calls Try.prog 178 #[.slice A rows.length c] w fun e w' => ∃ A' c', e = .returned (.slice A' rows.flatten.length c') ∧ Own w' w.heap.size A' c' rows.flatten ∧ Below w.heap.size w w' := by
  obtain ⟨i0, hi, hz0, hz1, hz2⟩ := info_parts Try.infoInt
  have HP := hid hp; have HA1 := hid hA1; have HA2 := hid hA2
  clear hp hA1 hA2
  go_enter Try.func178, Try.ntmps178
  go_wp2_with fail
  go_loop [3, 11] (fun s i => ∃ k : Nat, k ≤ rows.length ∧ i = .int .i64 k ∧ s = .int .i64 (tot (rows.take k) : Int)) (fun _ i => rows.length - (intOf i).toNat)
  case atStart => exact ⟨0, Nat.zero_le _, rfl, by simp [tot]⟩
  case round =>
    obtain ⟨k, hk, rfl, rfl⟩ := hrel
    by_cases hlt : k < rows.length
    · obtain ⟨b, o, rfl, hcc⟩ := HA1.out (by omega)
      have hck := hcc k hlt
      have hts := tot_take_succ rows k hlt
      have htl := tot_take_le rows (k + 1)
      obtain ⟨m, hm⟩ : ∃ m, m = (rows.getD k []).length := ⟨_, rfl⟩
      obtain ⟨s, hs⟩ : ∃ s, s = tot (rows.take k) := ⟨_, rfl⟩
      rw [← hm] at hck hts
      rw [← hs] at hts ⊢
      have HTS := hid hts
      have hmb : s + m ≤ 1000 := by omega
      clear hcc hm hs htl hts
      go_wp2_with fail
      go_round
      case rel => exact ⟨k + 1, by omega, by go_num, by rw [HTS.out]; go_num⟩
      case measure => simp [intOf]; omega
    · have hkn : k = rows.length := by omega
      subst hkn
      have e : rows.take rows.length = rows := List.take_of_length_le (Nat.le_refl _)
      rw [e]
      clear e
      obtain ⟨T, hT⟩ : ∃ T, T = tot rows := ⟨_, rfl⟩
      rw [← hT] at ht ⊢
      have HT := hid hT
      clear hT
      go_wp2_with (go_at_call 198; refine (grow0_any T _ (by omega)).mono ?_; rintro e w1 ⟨v1, rfl, o1, b1⟩)
      go_loopw [6, 27] (fun v i wr => ∃ k : Nat, k ≤ rows.length ∧ i = .int .i64 k ∧ wr.ownsRow w.heap.size 3 1 v (rows.take k).flatten.length (IL (rows.take k).flatten) ∧ Below w.heap.size w wr) (fun _ i _ => rows.length - (intOf i).toNat)
      case atStart => exact ⟨0, Nat.zero_le _, rfl, by simpa [IL] using o1, b1⟩
      case round =>
        obtain ⟨k, hk, rfl, hown, hbel⟩ := hrel
        by_cases hlt : k < rows.length
        · obtain ⟨b, o, rfl, hcc⟩ := HA1.out (by omega)
          have hck0 := hcc k hlt
          have hck := (hbel.cell (World.block_lt_of_cell? w _ hck0)).trans hck0
          have hpk := HP.out k hlt
          have hr3 := HA2.out k hlt
          have hfs := flat_succ rows k hlt
          have hfl := flat_len (rows.take k)
          have hts := tot_take_succ rows k hlt
          have htl := tot_take_le rows (k + 1)
          obtain ⟨r, hre⟩ : ∃ r, r = rows.getD k [] := ⟨_, rfl⟩
          rw [← hre] at hck hfs hr3 hts
          have hrl : (rows.take k).flatten.length + r.length ≤ 1000 := by have := HT.out; omega
          have HFS := hid hfs
          have hnone : P k = none → r.length = 0 ∧ C k = 0 := fun e => by
            refine ⟨?_, hpk e⟩
            rcases Nat.eq_zero_or_pos r.length with h | h
            · exact h
            · rw [e] at hr3; obtain ⟨b, o, h1, _⟩ := hr3 h; cases h1
          have hnews : ∀ W, Below w.heap.size w W → ∀ ad, P k = some ad → ∀ j u, (IL r)[j]? = some u → W.cell? (ad.add j) = some u := by
            intro W hW ad had j u hu
            have hj : j < r.length := by
              have := (List.getElem?_eq_some_iff.1 hu).1
              simpa [IL] using this
            rw [had] at hr3
            obtain ⟨b3, o3, h1, h2⟩ := hr3 (by omega)
            cases h1
            have h := h2 j hj
            rw [IL_get r j hj] at hu
            have e : (⟨b3, o3, none⟩ : Addr).add j = ⟨b3, o3 + j, none⟩ := by unfold Addr.add; split <;> simp_all
            rw [e, hW.cell (World.block_lt_of_cell? w _ h), h, ← hu]
          obtain ⟨PA, hPA⟩ : ∃ PA, PA = P k := ⟨_, rfl⟩
          obtain ⟨CA, hCA⟩ : ∃ CA, CA = C k := ⟨_, rfl⟩
          rw [← hPA] at hnone hnews hck
          rw [← hCA] at hnone hck
          have HNN := hid hnone
          have HN := hid hnews
          have HOW := hid hown
          have hrn : (IL r).length = r.length * 1 := by simp [IL]
          have HRN := hid hrn
          clear hcc hck0 hr3 hre hfs hfl hts htl hnews hown hrn hnone hPA hCA hpk
          obtain ⟨f, hf⟩ : ∃ f, f = (rows.take k).flatten := ⟨_, rfl⟩
          rw [← hf] at HOW HFS hrl
          have HF := hid hf
          clear hf
          go_wp2_with (at_builtin; refine wpList_append_opt _ rfl _ _ 22 rfl w.heap.size 3 i0 (.int .i64 0) 1 8 Try.underlying22 hi hz0 hz1 hz2 rfl (by decide) _ _ _ rfl HOW.out PA r.length CA (IL r) rfl HRN.out HNN.out (HN.out _ hbel) (IL_oneX r) (by unfold maxLen; omega) (by omega) hbel.size ?_)
          intro v' w2 hown' hgrow
          have hb1 : Below w.heap.size w w2 := hbel.grown hgrow hbel.size (fun q hq => (HOW.out.lt q hq).1)
          have hown2 : w2.ownsRow w.heap.size 3 1 v' (f ++ r).length (IL (f ++ r)) := by rw [IL_app, List.length_append]; exact hown'
          rw [← HFS.out] at hown2
          have HO2 := hid hown2
          clear hown' hgrow hown2
          go_wp2_with fail
          go_roundw
          case rel => exact ⟨k + 1, by omega, by go_num, HO2.out, hb1⟩
          case measure => simp [intOf]; omega
        · have hkn : k = rows.length := by omega
          subst hkn
          rw [List.take_of_length_le (Nat.le_refl _)] at hown
          obtain ⟨A', c', rfl, ho'⟩ := own_form hown rfl
          clear hown
          go_wp2_with fail
          go_ret
          exact ⟨A', c', rfl, ho', hbel⟩

theorem mul3_bd {t : Nat} {x : Int} (ht : 2 ≤ t ∧ t ≤ 6) (hx : -10 ≤ x ∧ x ≤ 10) : -60 ≤ (t : Int) * x ∧ (t : Int) * x ≤ 60 ∧ 0 ≤ (t : Int) * x * x ∧ (t : Int) * x * x ≤ 600 := by
  have h := sq_bd hx
  rw [Int.mul_assoc]
  generalize x * x = y at *
  have : t = 2 ∨ t = 3 ∨ t = 4 ∨ t = 5 ∨ t = 6 := by omega
  rcases this with rfl | rfl | rfl | rfl | rfl <;> simp <;> omega
theorem mul4_bd {a x : Int} (ha : -10 ≤ a ∧ a ≤ 10) (hx : -10 ≤ x ∧ x ≤ 10) : -100 ≤ a * x ∧ a * x ≤ 100 := by
  have : a = -10 ∨ a = -9 ∨ a = -8 ∨ a = -7 ∨ a = -6 ∨ a = -5 ∨ a = -4 ∨ a = -3 ∨ a = -2 ∨ a = -1 ∨ a = 0 ∨ a = 1 ∨ a = 2 ∨ a = 3 ∨ a = 4 ∨ a = 5 ∨ a = 6 ∨ a = 7 ∨ a = 8 ∨ a = 9 ∨ a = 10 := by omega
  rcases this with rfl | rfl | rfl | rfl | rfl | rfl | rfl | rfl | rfl | rfl | rfl | rfl | rfl | rfl | rfl | rfl | rfl | rfl | rfl | rfl | rfl <;> omega
theorem shr_alt (t i : Nat) (x : Int) : shr t i x = (t : Int) * x * x + (2 * (i : Int) - ((t : Int) - 1)) * x := by unfold shr; grind
theorem shareOf_any (t i : Nat) (x : Int) (w : World) (ht : 2 ≤ t ∧ t ≤ 6) (hi : i < t) (hx : -10 ≤ x ∧ x ≤ 10) :
    Calls Try.prog 177 #[.int .i64 x, .int .i64 i, .int .i64 t] w fun e w' => e = .returned (.int .i64 (shr t i x)) ∧ w = w' := by
  obtain ⟨b1, b2, b3, b4⟩ := mul3_bd ht hx
  have b5 := mul4_bd (a := 2 * (i : Int) - ((t : Int) - 1)) (by omega) hx
  have HE := hid (shr_alt t i x)
  go_enter Try.func177, Try.ntmps177
  go_wp2_with fail
  go_ret
  exact ⟨ret_int HE.out.symm, rfl⟩

theorem concat_pair (w : World) (x : Int) (rr : List Int) (PA : Option Addr) (CA : Nat) (hrr : Cells w PA rr) (hn : PA = none → CA = 0) (hl : rr.length ≤ 900) :
    Calls Try.prog 178 #[.slice (some ⟨w.heap.size + 1, 0, none⟩) 2 2] ((w.alloc (.cells #[.int .i64 x] 3)).alloc (.cells #[.slice (some ⟨w.heap.size, 0, none⟩) 1 1, .slice PA rr.length CA] 22)) fun e w' => ∃ A' c', e = .returned (.slice A' (x :: rr).length c') ∧ Own w' w.heap.size A' c' (x :: rr) ∧ Below w.heap.size w w' := by
  have b1 : Below w.heap.size w ((w.alloc (.cells #[.int .i64 x] 3)).alloc (.cells #[.slice (some ⟨w.heap.size, 0, none⟩) 1 1, .slice PA rr.length CA] 22)) := ((Below.refl _ _).alloc (Nat.le_refl _) _).alloc (by simp) _
  have k1 := World.ownsRow.alloc (World.ownsRow_lit (base := w.heap.size) (e := 3) (size := 1) w #[.int .i64 x] 1 (Nat.le_refl _) (by unfold maxLen; omega) rfl) (.cells #[.slice (some ⟨w.heap.size, 0, none⟩) 1 1, .slice PA rr.length CA] 22)
  have k2 := World.ownsRow_lit (base := w.heap.size) (e := 22) (size := 1) (w.alloc (.cells #[.int .i64 x] 3)) #[.slice (some ⟨w.heap.size, 0, none⟩) 1 1, .slice PA rr.length CA] 2 (by simp) (by unfold maxLen; omega) rfl
  have hsz : (w.alloc (.cells #[.int .i64 x] 3)).heap.size = w.heap.size + 1 := by simp
  rw [hsz] at k2
  have h := concat_opt (some ⟨w.heap.size + 1, 0, none⟩) 2 [[x], rr] ((w.alloc (.cells #[.int .i64 x] 3)).alloc (.cells #[.slice (some ⟨w.heap.size, 0, none⟩) 1 1, .slice PA rr.length CA] 22)) (by simp) (by simp [tot]; omega)
    (fun j => if j = 0 then some ⟨w.heap.size, 0, none⟩ else PA) (fun j => if j = 0 then 1 else CA)
    (fun _ => ⟨w.heap.size + 1, 0, rfl, fun j hj => by
      rw [Nat.zero_add, World.ownsRow.cellAt k2 j (by simpa using hj)]
      rcases (show j = 0 ∨ j = 1 by simp at hj; omega) with rfl | rfl <;> rfl⟩)
    (fun j hj => by
      rcases (show j = 0 ∨ j = 1 by simp at hj; omega) with rfl | rfl
      · intro _
        refine ⟨w.heap.size, 0, rfl, fun k hk => ?_⟩
        have : k = 0 := by simpa using hk
        subst this
        rw [Nat.zero_add, World.ownsRow.cellAt k1 0 (by omega)]; rfl
      · exact hrr.later b1)
    (fun j hj e => by
      rcases (show j = 0 ∨ j = 1 by simp at hj; omega) with rfl | rfl
      · cases e
      · exact hn e)
  refine h.mono ?_
  rintro e w' ⟨A', c', rfl, o1, b2⟩
  have e1 : [[x], rr].flatten = x :: rr := by simp
  rw [e1] at o1 ⊢
  exact ⟨A', c', rfl, o1.more b1.size, Below.next b1 b2⟩

def lfr (t r : Nat) (s h l : Int) : List (List Int) := if h - shr t (t - (r + 1)) l < 0 then [] else (lf t r (s - l) (h - shr t (t - (r + 1)) l)).map (l :: ·)
def lfK (t r : Nat) (s h : Int) (K : Nat) : List (List Int) := (lvl 10 K).flatMap (lfr t r s h)
theorem lfK_succ (t r : Nat) (s h : Int) (K : Nat) : lfK t r s h (K + 1) = lfK t r s h K ++ lfr t r s h ((K : Int) - 10) := by
  unfold lfK; rw [lvl_succ, List.flatMap_append]; simp
theorem lfK_all (t r : Nat) (s h : Int) : lfK t r s h 21 = lf t (r + 1) s h := rfl
def lfJ (M : List (List Int)) (l : Int) (j : Nat) : List (List Int) := (M.take j).map (l :: ·)
theorem lfJ_succ {M : List (List Int)} {l : Int} {j : Nat} (hj : j < M.length) : lfJ M l (j + 1) = lfJ M l j ++ [l :: M.getD j []] := by
  unfold lfJ
  rw [List.take_succ_eq_append_getElem hj, List.map_append]; simp [List.getD, hj]
theorem lfJ_len {M : List (List Int)} {l : Int} {j : Nat} (hj : j ≤ M.length) : (lfJ M l j).length = j := by simp [lfJ]; omega
theorem lf_len {t : Nat} : ∀ (r : Nat) (s h : Int), (lf t r s h).length ≤ 21 ^ r
  | 0, s, h => by rw [lf_zero]; split <;> simp
  | r + 1, s, h => by
    rw [lf, List.length_flatMap]
    have : ∀ L : List Int, (L.map fun l => (if h - shr t (t - (r + 1)) l < 0 then [] else (lf t r (s - l) (h - shr t (t - (r + 1)) l)).map (l :: ·)).length).sum ≤ L.length * 21 ^ r := fun L => by
      induction L with
      | nil => simp
      | cons a l ih =>
        rw [List.map_cons, List.sum_cons, List.length_cons, Nat.add_mul]
        have h1 : (if h - shr t (t - (r + 1)) a < 0 then [] else (lf t r (s - a) (h - shr t (t - (r + 1)) a)).map (a :: ·)).length ≤ 21 ^ r := by
          split
          · simp
          · rw [List.length_map]; exact lf_len r _ _
        omega
    have h2 := this (lvl 10 21)
    rw [show (lvl 10 21).length = 21 from rfl] at h2
    rw [Nat.pow_succ]; omega
theorem lfK_len {t : Nat} (r : Nat) (s h : Int) (K : Nat) (hK : K ≤ 21) : (lfK t r s h K).length ≤ 21 ^ (r + 1) := by
  have h1 := lf_len (t := t) (r + 1) s h
  rw [← lfK_all] at h1
  have key : ∀ d, K + d ≤ 21 → (lfK t r s h K).length ≤ (lfK t r s h (K + d)).length := fun d => by
    induction d with
    | zero => intro _; exact Nat.le_refl _
    | succ d ih => intro hd; have := ih (by omega); rw [show K + (d + 1) = K + d + 1 by omega, lfK_succ, List.length_append]; omega
  have := key (21 - K) (by omega)
  rw [show K + (21 - K) = 21 by omega] at this
  omega
theorem pow21 {r : Nat} (h : r ≤ 6) : 21 ^ r ≤ 100000000 := by
  have : r = 0 ∨ r = 1 ∨ r = 2 ∨ r = 3 ∨ r = 4 ∨ r = 5 ∨ r = 6 := by omega
  rcases this with rfl | rfl | rfl | rfl | rfl | rfl | rfl <;> decide
end Go.Proofs.Ytnhjofcmaodamaa
