/-
  Several texts in one.
-/
import Derived.Test.YtmjncedijddmmaaCB
import Derived.Test.YtmjncedijddmmaaCA
import Derived.Deep.MidRow
import Derived.DeepKeys
/-
  Contracts: the model's insertion into a row that rises.
-/
namespace Go.Proofs.Ytmjncedijddmmaa
open Go.RowKit

theorem IL_oneX (xs : List Int) : ∀ u ∈ IL xs, u.oneCell' = true := by
  intro u hu
  obtain ⟨x, _, rfl⟩ := List.mem_map.1 hu
  rfl
theorem Cells.at' {w : World} {A : Option Addr} {xs : List Int} (h : Cells w A xs) {j : Nat} (hj : j < xs.length) : ∃ b o, A = some ⟨b, o, none⟩ ∧ w.cell? ⟨b, o + j, none⟩ = some (.int .i64 (xs.getD j 0)) := by
  obtain ⟨b, o, e, hh⟩ := h (by omega)
  exact ⟨b, o, e, hh j hj⟩
/-- The row with one number more, ahead of the first one that is not less. -/
def insL : List Int → Int → List Int
  | [], x => [x]
  | y :: r, x => if y < x then y :: insL r x else x :: y :: r
theorem insL_len (xs : List Int) (x : Int) : (insL xs x).length = xs.length + 1 := by
  induction xs with
  | nil => rfl
  | cons y r ih => unfold insL; split <;> simp [ih]
theorem insL_at (xs : List Int) (x : Int) (k : Nat) (hk : k ≤ xs.length) (h1 : ∀ j, j < k → xs.getD j 0 < x) (h2 : k < xs.length → ¬ xs.getD k 0 < x) : xs.take k ++ x :: xs.drop k = insL xs x := by
  induction xs generalizing k with
  | nil => simp at hk; subst hk; rfl
  | cons y r ih =>
    cases k with
    | zero =>
      have := h2 (by simp)
      rw [List.getD_cons_zero] at this
      unfold insL
      rw [if_neg this]; rfl
    | succ k =>
      have h0 := h1 0 (by omega)
      rw [List.getD_cons_zero] at h0
      unfold insL
      rw [if_pos h0, ← ih k (by simpa using hk) (fun j hj => by simpa using h1 (j + 1) (by omega)) (fun hj => by simpa using h2 (by simp; omega))]
      rfl

theorem news_at {w W : World} {A : Option Addr} {xs : List Int} {b o : Nat} (hc : Cells w A xs) (hA : A = some ⟨b, o, none⟩) (hW : Below w.heap.size w W) (j : Nat) (hj : j < xs.length) : W.cell? ⟨b, o + j, none⟩ = some (.int .i64 (xs.getD j 0)) := by
  obtain ⟨b', o', he, hcc'⟩ := hc (by omega)
  rw [hA] at he
  injection he with he; injection he with h1 h2
  subst h1; subst h2
  have h := hcc' j hj
  rw [hW.cell (World.block_lt_of_cell? w _ h), h]
theorem addr_add (b o j : Nat) : (⟨b, o, none⟩ : Addr).add j = ⟨b, o + j, none⟩ := by unfold Addr.add; split <;> simp_all
theorem news_take {w W : World} {xs : List Int} {b o : Nat} (hc : Cells w (some ⟨b, o, none⟩) xs) (hW : Below w.heap.size w W) (k : Nat) : ∀ j u, (IL (xs.take k))[j]? = some u → W.cell? ((⟨b, o, none⟩ : Addr).add j) = some u := by
  intro j u hu
  have hj : j < (xs.take k).length := by have := (List.getElem?_eq_some_iff.1 hu).1; simpa [IL] using this
  rw [List.length_take] at hj
  rw [addr_add, news_at hc rfl hW j (by omega), ← hu, IL_get _ j (by rw [List.length_take]; exact hj)]
  congr 2
  rw [List.getD_eq_getElem?_getD, List.getD_eq_getElem?_getD, List.getElem?_take, if_pos (by omega)]
theorem news_drop {w W : World} {xs : List Int} {b o : Nat} (hc : Cells w (some ⟨b, o, none⟩) xs) (hW : Below w.heap.size w W) (k : Nat) (ad : Addr) (had : k < xs.length → ad = ⟨b, o + k, none⟩) : ∀ j u, (IL (xs.drop k))[j]? = some u → W.cell? (ad.add j) = some u := by
  intro j u hu
  have hj : j < (xs.drop k).length := by have := (List.getElem?_eq_some_iff.1 hu).1; simpa [IL] using this
  rw [List.length_drop] at hj
  rw [had (by omega), addr_add, Nat.add_assoc, news_at hc rfl hW (k + j) (by omega), ← hu, IL_get _ j (by rw [List.length_drop]; exact hj)]
  congr 2
  rw [List.getD_eq_getElem?_getD, List.getD_eq_getElem?_getD, List.getElem?_drop]

set_option maxRecDepth 100000 in
set_option maxHeartbeats 4000000 in
theorem l1Put_some (g c : Nat) (xs : List Int) (x : Int) (w : World) (hl : xs.length ≤ 1000) (hlc : xs.length ≤ c) (hc : Cells w (some ⟨g, 0, none⟩) xs) (hx : ∀ j, j < xs.length → xs.getD j 0 ≠ x) :
    Calls Try.prog 69 #[.slice (some ⟨g, 0, none⟩) xs.length c, .int .i64 x] w fun e w' => ∃ A' c', e = .returned (.slice A' (xs.length + 1) c') ∧ Own w' w.heap.size A' c' (insL xs x) ∧ Below w.heap.size w w' := by
  obtain ⟨i0, hi, hz0, hz1, hz2⟩ := info_parts Try.infoInt
  have hm0 := World.ownsRow_made (base := w.heap.size) (e := 3) (size := 1) w #[] 0 (Nat.le_refl _) (by unfold maxLen; omega) rfl
  have hb0 : Below w.heap.size w (w.alloc (.cells #[] 3)) := (Below.refl _ _).alloc (Nat.le_refl _) _
  have HX := hid hx; clear hx
  have HC := hid hc; clear hc
  go_enter Try.func69, Try.ntmps69
  go_wp2_with fail
  go_loop [5] (fun i => ∃ k : Nat, k ≤ xs.length ∧ i = .int .i64 k ∧ Hid (∀ j, j < k → xs.getD j 0 < x)) (fun i => xs.length - (intOf i).toNat)
  case atStart => exact ⟨0, Nat.zero_le _, rfl, hid fun j hj => absurd hj (by omega)⟩
  case round =>
    obtain ⟨k, hk, rfl, HK⟩ := hrel
    by_cases hlt : k < xs.length
    · have hck := news_at HC.out rfl (Below.refl _ _) k hlt
      rw [Nat.zero_add] at hck
      have hne := HX.out k hlt
      obtain ⟨y, hy⟩ : ∃ y, y = xs.getD k 0 := ⟨_, rfl⟩
      rw [← hy] at hck hne
      have HY := hid hy
      clear hy
      by_cases hyx : y < x
      · go_wp2_with fail
        go_round
        case rel => exact ⟨k + 1, by omega, by go_num, hid fun j hj => by
          by_cases e : j = k
          · subst e; rw [← HY.out]; exact hyx
          · exact HK.out j (by omega)⟩
        case measure => simp [intOf]; omega
      · have hkc : k < c := by omega
        have hkc2 : ¬ k = c := by omega
        have hIL1 : (IL (xs.take k)).length = k := by simp [IL]; omega
        have hIL2 : (IL (xs.drop k)).length = xs.length - k := by simp [IL]
        have HN1 := hid (fun W hW => news_take HC.out (W := W) hW k)
        have HN2 := hid (fun W hW => news_drop HC.out (W := W) hW k ⟨g, k, none⟩ (by intro _; rw [Nat.zero_add]))
        have HI1 := hid hIL1; have HI2 := hid hIL2
        clear hIL1 hIL2
        go_wp2_with (at_builtin; refine wpList_append_own _ rfl _ _ 22 rfl w.heap.size 3 i0 (.int .i64 0) 1 8 Try.underlying22 hi hz0 hz1 hz2 rfl (by decide) _ _ _ rfl hm0 ⟨g, 0, none⟩ k c (IL (xs.take k)) rfl (by simp only [HI1.out, Nat.mul_one]) (HN1.out _ hb0) (IL_oneX _) (by unfold maxLen; omega) (by omega) (by simp) ?_)
        intro v1 w1 ho1 hg1 _
        have hb1 : Below w.heap.size w w1 := hb0.grown hg1 (by simp) (fun q hq => (hm0.lt q hq).1)
        have hsz1 := hb1.size
        clear hg1
        go_wp2_with (at_builtin; refine wpList_append_own _ rfl _ _ 22 rfl w.heap.size 3 i0 (.int .i64 0) 1 8 Try.underlying22 hi hz0 hz1 hz2 rfl (by decide) _ _ _ rfl (ho1.alloc _) ⟨w1.heap.size, 0, none⟩ 1 1 [.int .i64 x] rfl rfl one_at (one_cell _) (by unfold maxLen; omega) (by omega) (by simp; omega) ?_)
        intro v2 w2 ho2 hg2 _
        have hb2 : Below w.heap.size w w2 := (hb1.alloc hb1.size _).grown hg2 (by simp; omega) (fun q hq => (ho1.lt q hq).1)
        have hsz2 := hb2.size
        clear hg2 ho1
        go_wp2_with (at_builtin; refine wpList_append_own _ rfl _ _ 22 rfl w.heap.size 3 i0 (.int .i64 0) 1 8 Try.underlying22 hi hz0 hz1 hz2 rfl (by decide) _ _ _ rfl ho2 ⟨g, k, none⟩ (xs.length - k) (c - k) (IL (xs.drop k)) rfl (by rw [HI2.out]; omega) (HN2.out _ hb2) (IL_oneX _) (by unfold maxLen; omega) (by omega) (by omega) ?_)
        intro v3 w3 ho3 hg3 _
        have hb3 : Below w.heap.size w w3 := hb2.grown hg3 hb2.size (fun q hq => (ho2.lt q hq).1)
        have e3 : IL (xs.take k) ++ Value.int .i64 x :: IL (xs.drop k) = IL (insL xs x) := by
          rw [← insL_at xs x k (by omega) HK.out (fun _ => by rw [← HY.out]; omega)]
          simp [IL]
        rw [e3] at ho3
        obtain ⟨A', c', rfl, ho4⟩ := own_form ho3 (by rw [insL_len]; omega)
        have el : (insL xs x).length = xs.length + 1 := insL_len xs x
        rw [el]
        clear hg3 ho2 ho3 e3 el
        go_wp2_with fail
        go_ret
        exact ⟨A', c', rfl, ho4, hb3⟩
    · have hke : k = xs.length := by omega
      subst hke
      by_cases hcc : xs.length = c
      · subst hcc
        by_cases h0 : xs.length = 0
        · have he := List.eq_nil_of_length_eq_zero h0
          subst he
          clear h0 hlt hlc hk hl
          go_wp2_with (at_builtin; refine wpList_append_own _ rfl _ _ 22 rfl w.heap.size 3 i0 (.int .i64 0) 1 8 Try.underlying22 hi hz0 hz1 hz2 rfl (by decide) _ _ _ rfl hm0 ⟨g, 0, none⟩ 0 0 [] rfl rfl (fun j u h => by simp at h) (fun u h => absurd h (by simp)) (by unfold maxLen; omega) (by omega) (by simp) ?_)
          intro v1 w1 ho1 hg1 _
          have hb1 : Below w.heap.size w w1 := hb0.grown hg1 (by simp) (fun q hq => (hm0.lt q hq).1)
          have hsz1 := hb1.size
          clear hg1
          go_wp2_with (at_builtin; refine wpList_append_own _ rfl _ _ 22 rfl w.heap.size 3 i0 (.int .i64 0) 1 8 Try.underlying22 hi hz0 hz1 hz2 rfl (by decide) _ _ _ rfl (ho1.alloc _) ⟨w1.heap.size, 0, none⟩ 1 1 [.int .i64 x] rfl rfl one_at (one_cell _) (by unfold maxLen; omega) (by omega) (by simp; omega) ?_)
          intro v2 w2 ho2 hg2 _
          have hb2 : Below w.heap.size w w2 := (hb1.alloc hb1.size _).grown hg2 (by simp; omega) (fun q hq => (ho1.lt q hq).1)
          have hsz2 := hb2.size
          clear hg2 ho1
          go_wp2_with (at_builtin; refine wpList_append_own _ rfl _ _ 22 rfl w.heap.size 3 i0 (.int .i64 0) 1 8 Try.underlying22 hi hz0 hz1 hz2 rfl (by decide) _ _ _ rfl ho2 ⟨g, 0, none⟩ 0 0 [] rfl rfl (fun j u h => by simp at h) (fun u h => absurd h (by simp)) (by unfold maxLen; omega) (by omega) (by omega) ?_)
          intro v3 w3 ho3 hg3 _
          have hb3 : Below w.heap.size w w3 := hb2.grown hg3 hb2.size (fun q hq => (ho2.lt q hq).1)
          obtain ⟨A', c', rfl, ho4⟩ := own_form (xs := [x]) ho3 rfl
          clear hg3 ho2 ho3
          go_wp2_with fail
          go_ret
          exact ⟨A', c', rfl, ho4, hb3⟩
        have h0' : ¬ 0 = xs.length := by omega
        have hIL1 : (IL (xs.take xs.length)).length = xs.length := by simp [IL]
        have HN1 := hid (fun W hW => news_take HC.out (W := W) hW xs.length)
        have HI1 := hid hIL1
        clear hIL1
        go_wp2_with (at_builtin; refine wpList_append_own _ rfl _ _ 22 rfl w.heap.size 3 i0 (.int .i64 0) 1 8 Try.underlying22 hi hz0 hz1 hz2 rfl (by decide) _ _ _ rfl hm0 ⟨g, 0, none⟩ xs.length xs.length (IL (xs.take xs.length)) rfl (by simp only [HI1.out, Nat.mul_one]) (HN1.out _ hb0) (IL_oneX _) (by unfold maxLen; omega) (by omega) (by simp) ?_)
        intro v1 w1 ho1 hg1 _
        have hb1 : Below w.heap.size w w1 := hb0.grown hg1 (by simp) (fun q hq => (hm0.lt q hq).1)
        have hsz1 := hb1.size
        clear hg1
        go_wp2_with (at_builtin; refine wpList_append_own _ rfl _ _ 22 rfl w.heap.size 3 i0 (.int .i64 0) 1 8 Try.underlying22 hi hz0 hz1 hz2 rfl (by decide) _ _ _ rfl (ho1.alloc _) ⟨w1.heap.size, 0, none⟩ 1 1 [.int .i64 x] rfl rfl one_at (one_cell _) (by unfold maxLen; omega) (by omega) (by simp; omega) ?_)
        intro v2 w2 ho2 hg2 _
        have hb2 : Below w.heap.size w w2 := (hb1.alloc hb1.size _).grown hg2 (by simp; omega) (fun q hq => (ho1.lt q hq).1)
        have hsz2 := hb2.size
        clear hg2 ho1
        go_wp2_with (at_builtin; refine wpList_append_own _ rfl _ _ 22 rfl w.heap.size 3 i0 (.int .i64 0) 1 8 Try.underlying22 hi hz0 hz1 hz2 rfl (by decide) _ _ _ rfl ho2 ⟨g, 0, none⟩ 0 0 [] rfl rfl (fun j u h => by simp at h) (fun u h => absurd h (by simp)) (by unfold maxLen; omega) (by omega) (by omega) ?_)
        intro v3 w3 ho3 hg3 _
        have hb3 : Below w.heap.size w w3 := hb2.grown hg3 hb2.size (fun q hq => (ho2.lt q hq).1)
        have e3 : IL xs ++ [Value.int .i64 x] = IL (insL xs x) := by
          rw [← insL_at xs x xs.length (by omega) HK.out (fun h => absurd h (by omega))]
          simp [IL]
        rw [e3] at ho3
        obtain ⟨A', c', rfl, ho4⟩ := own_form ho3 (insL_len xs x).symm
        have el : (insL xs x).length = xs.length + 1 := insL_len xs x
        rw [el]
        clear hg3 ho2 ho3 e3 el
        go_wp2_with fail
        go_ret
        exact ⟨A', c', rfl, ho4, hb3⟩
      · have hkc : xs.length < c := by omega
        have hIL1 : (IL (xs.take xs.length)).length = xs.length := by simp [IL]
        have HN1 := hid (fun W hW => news_take HC.out (W := W) hW xs.length)
        have HI1 := hid hIL1
        clear hIL1
        go_wp2_with (at_builtin; refine wpList_append_own _ rfl _ _ 22 rfl w.heap.size 3 i0 (.int .i64 0) 1 8 Try.underlying22 hi hz0 hz1 hz2 rfl (by decide) _ _ _ rfl hm0 ⟨g, 0, none⟩ xs.length c (IL (xs.take xs.length)) rfl (by simp only [HI1.out, Nat.mul_one]) (HN1.out _ hb0) (IL_oneX _) (by unfold maxLen; omega) (by omega) (by simp) ?_)
        intro v1 w1 ho1 hg1 _
        have hb1 : Below w.heap.size w w1 := hb0.grown hg1 (by simp) (fun q hq => (hm0.lt q hq).1)
        have hsz1 := hb1.size
        clear hg1
        go_wp2_with (at_builtin; refine wpList_append_own _ rfl _ _ 22 rfl w.heap.size 3 i0 (.int .i64 0) 1 8 Try.underlying22 hi hz0 hz1 hz2 rfl (by decide) _ _ _ rfl (ho1.alloc _) ⟨w1.heap.size, 0, none⟩ 1 1 [.int .i64 x] rfl rfl one_at (one_cell _) (by unfold maxLen; omega) (by omega) (by simp; omega) ?_)
        intro v2 w2 ho2 hg2 _
        have hb2 : Below w.heap.size w w2 := (hb1.alloc hb1.size _).grown hg2 (by simp; omega) (fun q hq => (ho1.lt q hq).1)
        have hsz2 := hb2.size
        clear hg2 ho1
        go_wp2_with (at_builtin; refine wpList_append_own _ rfl _ _ 22 rfl w.heap.size 3 i0 (.int .i64 0) 1 8 Try.underlying22 hi hz0 hz1 hz2 rfl (by decide) _ _ _ rfl ho2 ⟨g, xs.length, none⟩ 0 (c - xs.length) [] rfl rfl (fun j u h => by simp at h) (fun u h => absurd h (by simp)) (by unfold maxLen; omega) (by omega) (by omega) ?_)
        intro v3 w3 ho3 hg3 _
        have hb3 : Below w.heap.size w w3 := hb2.grown hg3 hb2.size (fun q hq => (ho2.lt q hq).1)
        have e3 : IL xs ++ [Value.int .i64 x] = IL (insL xs x) := by
          rw [← insL_at xs x xs.length (by omega) HK.out (fun h => absurd h (by omega))]
          simp [IL]
        rw [e3] at ho3
        obtain ⟨A', c', rfl, ho4⟩ := own_form ho3 (insL_len xs x).symm
        have el : (insL xs x).length = xs.length + 1 := insL_len xs x
        rw [el]
        clear hg3 ho2 ho3 e3 el
        go_wp2_with fail
        go_ret
        exact ⟨A', c', rfl, ho4, hb3⟩

set_option maxRecDepth 100000 in
set_option maxHeartbeats 4000000 in
theorem l1Put_nil (x : Int) (w : World) :
    Calls Try.prog 69 #[.slice none 0 0, .int .i64 x] w fun e w' => ∃ A' c', e = .returned (.slice A' 1 c') ∧ Own w' w.heap.size A' c' [x] ∧ Below w.heap.size w w' := by
  obtain ⟨i0, hi, hz0, hz1, hz2⟩ := info_parts Try.infoInt
  have hm0 := World.ownsRow_made (base := w.heap.size) (e := 3) (size := 1) w #[] 0 (Nat.le_refl _) (by unfold maxLen; omega) rfl
  have hb0 : Below w.heap.size w (w.alloc (.cells #[] 3)) := (Below.refl _ _).alloc (Nat.le_refl _) _
  go_enter Try.func69, Try.ntmps69
  go_wp2_with fail
  go_loop [5] (fun i => i = .int .i64 0) (fun _ => 0)
  case atStart => rfl
  case round =>
    subst hrel
    go_wp2_with (at_builtin; refine wpList_append_opt _ rfl _ _ 22 rfl w.heap.size 3 i0 (.int .i64 0) 1 8 Try.underlying22 hi hz0 hz1 hz2 rfl (by decide) _ _ _ rfl hm0 none 0 0 [] rfl rfl (fun _ => ⟨rfl, rfl⟩) (fun ad h => by cases h) (fun u h => absurd h (by simp)) (by unfold maxLen; omega) (by omega) (by simp) ?_)
    intro v1 w1 ho1 hg1
    have hb1 : Below w.heap.size w w1 := hb0.grown hg1 (by simp) (fun q hq => (hm0.lt q hq).1)
    have hsz1 := hb1.size
    clear hg1
    go_wp2_with (at_builtin; refine wpList_append_own _ rfl _ _ 22 rfl w.heap.size 3 i0 (.int .i64 0) 1 8 Try.underlying22 hi hz0 hz1 hz2 rfl (by decide) _ _ _ rfl (ho1.alloc _) ⟨w1.heap.size, 0, none⟩ 1 1 [.int .i64 x] rfl rfl one_at (one_cell _) (by unfold maxLen; omega) (by omega) (by simp; omega) ?_)
    intro v2 w2 ho2 hg2 _
    have hb2 : Below w.heap.size w w2 := (hb1.alloc hb1.size _).grown hg2 (by simp; omega) (fun q hq => (ho1.lt q hq).1)
    have hsz2 := hb2.size
    clear hg2 ho1
    go_wp2_with (at_builtin; refine wpList_append_opt _ rfl _ _ 22 rfl w.heap.size 3 i0 (.int .i64 0) 1 8 Try.underlying22 hi hz0 hz1 hz2 rfl (by decide) _ _ _ rfl ho2 none 0 0 [] rfl rfl (fun _ => ⟨rfl, rfl⟩) (fun ad h => by cases h) (fun u h => absurd h (by simp)) (by unfold maxLen; omega) (by omega) (by omega) ?_)
    intro v3 w3 ho3 hg3
    have hb3 : Below w.heap.size w w3 := hb2.grown hg3 hb2.size (fun q hq => (ho2.lt q hq).1)
    obtain ⟨A', c', rfl, ho4⟩ := own_form (xs := [x]) ho3 rfl
    clear hg3 ho2 ho3
    go_wp2_with fail
    go_ret
    exact ⟨A', c', rfl, ho4, hb3⟩

theorem l1Put_any {B : Nat} (A : Option Addr) (c : Nat) (xs : List Int) (x : Int) (w : World) (hl : xs.length ≤ 1000) (ho : Own w B A c xs) (hx : ∀ j, j < xs.length → xs.getD j 0 ≠ x) :
    Calls Try.prog 69 #[.slice A xs.length c, .int .i64 x] w fun e w' => ∃ A' c', e = .returned (.slice A' (xs.length + 1) c') ∧ Own w' w.heap.size A' c' (insL xs x) ∧ Below w.heap.size w w' := by
  rcases ho.2 with ⟨hv, h0⟩ | ⟨g, cap, cur, hv, _, _, hcap, _⟩
  · have e : xs = [] := List.eq_nil_of_length_eq_zero h0
    subst e
    injection hv with h1 _ h3
    subst h1; subst h3
    exact l1Put_nil x w
  · injection hv with h1 _ h3
    subst h1; subst h3
    exact l1Put_some g c xs x w hl hcap ho.cells hx
end Go.Proofs.Ytmjncedijddmmaa
/-
  A block that holds a variable of many cells (an array, a struct of arrays), its cells told by a function: what is read of it, and what a store leaves; whole variables loaded and stored; two of them compared.
-/
namespace Go.Proofs.Ytmjncedijddmmaa
open Go.RowKit

def caL (n : Nat) (c : Nat → Value) : List Value := (List.range n).map c
def ca (n : Nat) (c : Nat → Value) : Array Value := (caL n c).toArray
theorem caL_len (n : Nat) (c : Nat → Value) : (caL n c).length = n := by simp [caL]
theorem ca_size (n : Nat) (c : Nat → Value) : (ca n c).size = n := by simp [ca, caL]
theorem caL_get (n : Nat) (c : Nat → Value) (k : Nat) (h : k < n) : (caL n c)[k]? = some (c k) := by rw [caL, List.getElem?_map, List.getElem?_range h]; rfl
theorem ca_get (n : Nat) (c : Nat → Value) (k : Nat) (h : k < n) : (ca n c)[k]? = some (c k) := by unfold ca; rw [List.getElem?_toArray]; exact caL_get n c k h
theorem caL_ext {n : Nat} {c d : Nat → Value} (h : ∀ k, k < n → c k = d k) : caL n c = caL n d := List.map_congr_left fun k hk => h k (List.mem_range.1 hk)
theorem ca_ext {n : Nat} {c d : Nat → Value} (h : ∀ k, k < n → c k = d k) : ca n c = ca n d := by unfold ca; rw [caL_ext h]
def updV (c : Nat → Value) (k : Nat) (v : Value) : Nat → Value := fun j => if j = k then v else c j
theorem ca_set (n : Nat) (c : Nat → Value) (k : Nat) (v : Value) : (ca n c).setIfInBounds k v = ca n (updV c k v) := by
  apply Array.ext_getElem?
  intro j
  rw [Array.getElem?_setIfInBounds]
  by_cases hj : j < n
  · rw [ca_get n (updV c k v) j hj, ca_size]
    unfold updV
    by_cases e : k = j
    · subst e; simp [hj]
    · rw [if_neg e, if_neg (fun h => e h.symm), ca_get n c j hj]
  · have h1 : (ca n c)[j]? = none := Array.getElem?_eq_none (by rw [ca_size]; omega)
    have h2 : (ca n (updV c k v))[j]? = none := Array.getElem?_eq_none (by rw [ca_size]; omega)
    rw [h1, h2, ca_size]
    by_cases e : k = j
    · subst e; simp [hj]
    · rw [if_neg e]

def Blk (W : World) (g : Nat) (t : TypeId) (n : Nat) (c : Nat → Value) : Prop := W.heap[g]? = some (.cells (ca n c) t (0, 0))
theorem Blk.lt {W : World} {g : Nat} {t : TypeId} {n : Nat} {c : Nat → Value} (h : Blk W g t n c) : g < W.heap.size := (Array.getElem?_eq_some_iff.1 h).1
theorem Blk.cell {W : World} {g : Nat} {t : TypeId} {n : Nat} {c : Nat → Value} (h : Blk W g t n c) {k : Nat} (hk : k < n) : W.cell? ⟨g, k, none⟩ = some (c k) := by
  simp only [World.cell?, show W.heap[g]? = _ from h]; exact ca_get n c k hk
theorem Blk.froz {W : World} {g : Nat} {t : TypeId} {n : Nat} {c : Nat → Value} (h : Blk W g t n c) (k : Nat) : W.frozen? ⟨g, k, none⟩ = false := by simp [World.frozen?, show W.heap[g]? = _ from h]
theorem Blk.new (W : World) (t : TypeId) (n : Nat) (c : Nat → Value) : Blk (W.alloc (.cells (ca n c) t)) W.heap.size t n c := heap_alloc_new W _
theorem Blk.keep {W W' : World} {g : Nat} {t : TypeId} {n : Nat} {c : Nat → Value} (h : Blk W g t n c) (hk : W'.heap[g]? = W.heap[g]?) : Blk W' g t n c := hk.trans h
theorem Blk.below {W W' : World} {m g : Nat} {t : TypeId} {n : Nat} {c : Nat → Value} (h : Blk W g t n c) (hb : Below m W W') (hn : g < m) : Blk W' g t n c := h.keep (hb.block g hn)
theorem Blk.next {W W' : World} {g : Nat} {t : TypeId} {n : Nat} {c : Nat → Value} (h : Blk W g t n c) (hb : Below W.heap.size W W') : Blk W' g t n c := h.below hb h.lt
theorem Blk.alloc {W : World} {g : Nat} {t : TypeId} {n : Nat} {c : Nat → Value} (h : Blk W g t n c) (o : Obj) : Blk (W.alloc o) g t n c := h.keep ((World.grownBy_alloc W o none).block g h.lt (by simp))
theorem Blk.set {W : World} {g : Nat} {t : TypeId} {n : Nat} {c : Nat → Value} (h : Blk W g t n c) (k : Nat) (v : Value) : Blk (W.setCell ⟨g, k, none⟩ v) g t n (updV c k v) := by
  have := heap_setCell_same W g k (ca n c) t v h
  rw [ca_set] at this; exact this
theorem Blk.other {W : World} {g g' k : Nat} {t : TypeId} {n : Nat} {c : Nat → Value} (h : Blk W g t n c) (hne : g ≠ g') (v : Value) : Blk (W.setCell ⟨g', k, none⟩ v) g t n c := h.keep (Below.heap_setCell _ _ _ g (fun e => hne (by rw [e])))
theorem Blk.to {W : World} {g : Nat} {t : TypeId} {n : Nat} {c d : Nat → Value} (h : Blk W g t n c) (e : ∀ k, k < n → c k = d k) : Blk W g t n d := by unfold Blk at *; rw [← ca_ext e]; exact h
/-- A part stored at once. -/
def midV (c : Nat → Value) (o m : Nat) (d : Nat → Value) : Nat → Value := fun j => if o ≤ j ∧ j < o + m then d (j - o) else c j
theorem Blk.setL {g : Nat} {t : TypeId} {n : Nat} : ∀ (vs : List Value) (o : Nat) {W : World} {c : Nat → Value}, Blk W g t n c → Blk (W.setCells g o vs) g t n (midV c o vs.length (fun j => vs.getD j undef))
  | [], o, W, c, h => h.to fun k _ => by unfold midV; rw [if_neg (by rw [List.length_nil]; omega)]
  | v :: r, o, W, c, h => by
    have ih := Blk.setL r (o + 1) (h.set o v)
    refine Blk.to ih fun k _ => ?_
    unfold midV updV
    by_cases h1 : k = o
    · subst h1; rw [if_neg (by omega), if_pos rfl, if_pos (by rw [List.length_cons]; omega), Nat.sub_self]; rfl
    · by_cases h2 : o + 1 ≤ k ∧ k < o + 1 + r.length
      · rw [if_pos h2, if_pos (by simp; omega)]
        obtain ⟨d, hd⟩ : ∃ d, k - o = d + 1 := ⟨k - o - 1, by omega⟩
        rw [hd, show k - (o + 1) = d by omega]; rfl
      · rw [if_neg h2, if_neg h1, if_neg (by simp; omega)]
theorem Blk.setMid {W : World} {g : Nat} {t : TypeId} {n : Nat} {c : Nat → Value} (h : Blk W g t n c) (o m : Nat) (d : Nat → Value) : Blk (W.setCells g o (caL m d)) g t n (midV c o m d) := by
  have := Blk.setL (caL m d) o h
  rw [caL_len] at this
  refine this.to fun k _ => ?_
  unfold midV
  split
  · rename_i hk
    show (caL m d).getD (k - o) undef = d (k - o)
    rw [List.getD_eq_getElem?_getD, caL_get m d (k - o) (by omega)]; rfl
  · rfl
theorem setCells_below (g : Nat) : ∀ (vs : List Value) (o : Nat) (w W : World) (m : Nat), Below m w W → m ≤ g → Below m w (W.setCells g o vs)
  | [], _, _, _, _, h, _ => h
  | _ :: r, o, w, _, m, h, hg => setCells_below g r (o + 1) w _ m (h.setCell hg _) hg
theorem setCells_size (g : Nat) : ∀ (vs : List Value) (o : Nat) (W : World), (W.setCells g o vs).heap.size = W.heap.size
  | [], _, _ => rfl
  | v :: r, o, W => by rw [World.setCells, setCells_size g r]; simp
theorem setCells_other (g g' : Nat) (hne : g' ≠ g) : ∀ (vs : List Value) (o : Nat) (W : World), (W.setCells g o vs).heap[g']? = W.heap[g']?
  | [], _, _ => rfl
  | v :: r, o, W => by rw [World.setCells, setCells_other g g' hne r]; exact Below.heap_setCell _ _ _ g' (fun e => hne (by rw [e]))
theorem Blk.otherL {W : World} {g g' o : Nat} {t : TypeId} {n : Nat} {c : Nat → Value} (h : Blk W g t n c) (hne : g ≠ g') (vs : List Value) : Blk (W.setCells g' o vs) g t n c := h.keep (setCells_other g' g hne vs o W)
theorem Blk.range {W : World} {g : Nat} {t : TypeId} {n : Nat} {c : Nat → Value} (h : Blk W g t n c) (o m : Nat) (ho : o + m ≤ n) (d : Nat → Value) (hd : ∀ k, k < m → d k = c (o + k)) : W.rangeAt g o (caL m d) := fun j v hv => by
  have hj : j < m := by have := (List.getElem?_eq_some_iff.1 hv).1; rwa [caL_len] at this
  rw [caL_get m d j hj] at hv
  injection hv with hv
  rw [← hv, hd j hj]
  exact h.cell (by omega)
theorem Blk.there {W : World} {g : Nat} {t : TypeId} {n : Nat} {c : Nat → Value} (h : Blk W g t n c) (o m : Nat) (ho : o + m ≤ n) : W.there g o m := fun j hj => ⟨by rw [h.cell (show o + j < n by omega)]; rfl, h.froz _⟩
theorem setRow_blk {W : World} {g : Nat} {t : TypeId} {n : Nat} {c : Nat → Value} (h : Blk W g t n c) (d : Nat → Value) : Blk (W.setRow g (ca n d)) g t n d := setRow_heap W g (ca n c) (ca n d) t (0, 0) h
theorem setRow_below {w W : World} {m g : Nat} (h : Below m w W) (hg : m ≤ g) (cs : Array Value) : Below m w (W.setRow g cs) :=
  ⟨h.os, h.tape, h.output, by rw [size_setRow]; exact h.size, fun k hk => (setRow_other W g k cs (by omega)).trans (h.block k hk)⟩
theorem Blk.otherR {W : World} {g g' : Nat} {t : TypeId} {n : Nat} {c : Nat → Value} (h : Blk W g t n c) (hne : g ≠ g') (cs : Array Value) : Blk (W.setRow g' cs) g t n c := h.keep (setRow_other W g' g cs (by omega))

/-- A whole variable loaded: the walk stops here and asks what its block holds. -/
theorem wpList_load_ex {P : Program} {ops : Array Oper} {rest : List Oper} {o : Oper} {a : Act} {w : World} {Q : Exit → Act → World → Prop} (hgd : o.guard = none) (ty : TypeId) (x : Operand) (ho : o.op = .load ty x)
    (g : Nat) (hx : a.eval x = .pointer (some ⟨g, 0, none⟩)) (d : TypeDesc) (hu : P.underlying ty = some d) (hd : (match d with | .struct _ | .array _ _ => true | _ => false) = true)
    (h : ∃ cs t fr, w.heap[g]? = some (.cells cs t fr) ∧ (P.info? ty).map (·.size) = some cs.size ∧ wpList P ops Q rest (a.put o.dst (.agg cs)) w) : wpList P ops Q (o :: rest) a w := by
  obtain ⟨cs, t, fr, hg, hi, hk⟩ := h
  exact wpList_load_row hgd ty x ho g hx t cs fr d hg hu hd hi hk

/-! bits -/
def bitV (f : Nat → Bool) : Nat → Value := fun k => .bool (f k)
def updB (f : Nat → Bool) (k : Nat) (b : Bool) : Nat → Bool := fun j => if j = k then b else f j
theorem updV_bit (f : Nat → Bool) (k : Nat) (b : Bool) : updV (bitV f) k (.bool b) = bitV (updB f k b) := by
  funext j; unfold updV bitV updB; split <;> rfl
theorem bit_one (n : Nat) (f : Nat → Bool) : ∀ v ∈ caL n (bitV f), v.oneCell' = true := by
  intro v hv
  simp only [caL, List.mem_map] at hv
  obtain ⟨k, _, rfl⟩ := hv
  rfl
theorem ca_one {n : Nat} {c : Nat → Value} (h : ∀ k, k < n → (c k).oneCell' = true) : (ca n c).all (·.oneCell') = true := by
  unfold ca
  refine all_oneCell_toArray fun v hv => ?_
  simp only [caL, List.mem_map, List.mem_range] at hv
  obtain ⟨k, hk, rfl⟩ := hv
  exact h k hk
/-- A board: its count, then the bits of its lines. -/
def brdV (t : Int) (F : Nat → Bool) : Nat → Value := fun k => if k = 0 then .int .i64 t else .bool (F (k - 1))
def rnV (f : Nat → Bool) : Value := .agg (ca 36 (bitV f))
def bdV (t : Int) (F : Nat → Bool) : Value := .agg (ca 217 (brdV t F))
end Go.Proofs.Ytmjncedijddmmaa
