/-
  Several texts in one.
-/
import Derived.Test.YtijfefahogcfmaaGreatCB
import Derived.Test.YtijfefahogcfmaaGreatR06
import Derived.Test.YtijfefahogcfmaaGreatR12
/-
  Contracts: the model's insertion into a row that rises.
-/
namespace Go.Proofs.YtijfefahogcfmaaGreat
open Go.RowKit

theorem IL_oneX (xs : List Int) : ∀ u ∈ IL xs, u.oneCell' = true := by
  intro u hu
  obtain ⟨x, _, rfl⟩ := List.mem_map.1 hu
  rfl
theorem Cells.at' {w : World} {A : Option Addr} {xs : List Int} (h : Cells w A xs) {j : Nat} (hj : j < xs.length) : ∃ b o, A = some ⟨b, o, none⟩ ∧ w.cell? ⟨b, o + j, none⟩ = some (.int .i64 (xs.getD j 0)) := by
  obtain ⟨b, o, e, hh⟩ := h (by omega)
  exact ⟨b, o, e, hh j hj⟩
/-- The row with one number more, ahead of the first one that is not less. -/
def insL : List Int → Int → List Int
  | [], x => [x]
  | y :: r, x => if y < x then y :: insL r x else x :: y :: r
theorem insL_len (xs : List Int) (x : Int) : (insL xs x).length = xs.length + 1 := by
  induction xs with
  | nil => rfl
  | cons y r ih => unfold insL; split <;> simp [ih]
theorem insL_at (xs : List Int) (x : Int) (k : Nat) (hk : k ≤ xs.length) (h1 : ∀ j, j < k → xs.getD j 0 < x) (h2 : k < xs.length → ¬ xs.getD k 0 < x) : xs.take k ++ x :: xs.drop k = insL xs x := by
  induction xs generalizing k with
  | nil => simp at hk; subst hk; rfl
  | cons y r ih =>
    cases k with
    | zero =>
      have := h2 (by simp)
      rw [List.getD_cons_zero] at this
      unfold insL
      rw [if_neg this]; rfl
    | succ k =>
      have h0 := h1 0 (by omega)
      rw [List.getD_cons_zero] at h0
      unfold insL
      rw [if_pos h0, ← ih k (by simpa using hk) (fun j hj => by simpa using h1 (j + 1) (by omega)) (fun hj => by simpa using h2 (by simp; omega))]
      rfl

theorem news_at {w W : World} {A : Option Addr} {xs : List Int} {b o : Nat} (hc : Cells w A xs) (hA : A = some ⟨b, o, none⟩) (hW : Below w.heap.size w W) (j : Nat) (hj : j < xs.length) : W.cell? ⟨b, o + j, none⟩ = some (.int .i64 (xs.getD j 0)) := by
  obtain ⟨b', o', he, hcc'⟩ := hc (by omega)
  rw [hA] at he
  injection he with he; injection he with h1 h2
  subst h1; subst h2
  have h := hcc' j hj
  rw [hW.cell (World.block_lt_of_cell? w _ h), h]
theorem addr_add (b o j : Nat) : (⟨b, o, none⟩ : Addr).add j = ⟨b, o + j, none⟩ := by unfold Addr.add; split <;> simp_all
theorem news_take {w W : World} {xs : List Int} {b o : Nat} (hc : Cells w (some ⟨b, o, none⟩) xs) (hW : Below w.heap.size w W) (k : Nat) : ∀ j u, (IL (xs.take k))[j]? = some u → W.cell? ((⟨b, o, none⟩ : Addr).add j) = some u := by
  intro j u hu
  have hj : j < (xs.take k).length := by have := (List.getElem?_eq_some_iff.1 hu).1; simpa [IL] using this
  rw [List.length_take] at hj
  rw [addr_add, news_at hc rfl hW j (by omega), ← hu, IL_get _ j (by rw [List.length_take]; exact hj)]
  congr 2
  rw [List.getD_eq_getElem?_getD, List.getD_eq_getElem?_getD, List.getElem?_take, if_pos (by omega)]
theorem news_drop {w W : World} {xs : List Int} {b o : Nat} (hc : Cells w (some ⟨b, o, none⟩) xs) (hW : Below w.heap.size w W) (k : Nat) (ad : Addr) (had : k < xs.length → ad = ⟨b, o + k, none⟩) : ∀ j u, (IL (xs.drop k))[j]? = some u → W.cell? (ad.add j) = some u := by
  intro j u hu
  have hj : j < (xs.drop k).length := by have := (List.getElem?_eq_some_iff.1 hu).1; simpa [IL] using this
  rw [List.length_drop] at hj
  rw [had (by omega), addr_add, Nat.add_assoc, news_at hc rfl hW (k + j) (by omega), ← hu, IL_get _ j (by rw [List.length_drop]; exact hj)]
  congr 2
  rw [List.getD_eq_getElem?_getD, List.getD_eq_getElem?_getD, List.getElem?_drop]

set_option maxRecDepth 100000 in
set_option maxHeartbeats 4000000 in
theorem l1Put_some (g c : Nat) (xs : List Int) (x : Int) (w : World) (hl : xs.length ≤ 1000) (hlc : xs.length ≤ c) (hc : Cells w (some ⟨g, 0, none⟩) xs) (hx : ∀ j, j < xs.length → xs.getD j 0 ≠ x) :
    Calls Tryz.prog 31 #[.slice (some ⟨g, 0, none⟩) xs.length c, .int .i64 x] w fun e w' => ∃ A' c', e = .returned (.slice A' (xs.length + 1) c') ∧ Own w' w.heap.size A' c' (insL xs x) ∧ Below w.heap.size w w' := by
  obtain ⟨i0, hi, hz0, hz1, hz2⟩ := info_parts Tryz.infoInt
  have hm0 := World.ownsRow_made (base := w.heap.size) (e := 3) (size := 1) w #[] 0 (Nat.le_refl _) (by unfold maxLen; omega) rfl
  have hb0 : Below w.heap.size w (w.alloc (.cells #[] 3)) := (Below.refl _ _).alloc (Nat.le_refl _) _
  have HX := hid hx; clear hx
  have HC := hid hc; clear hc
  go_enter Tryz.func31, Tryz.ntmps31
  go_wp2_with fail
  go_loop [5] (fun i => ∃ k : Nat, k ≤ xs.length ∧ i = .int .i64 k ∧ Hid (∀ j, j < k → xs.getD j 0 < x)) (fun i => xs.length - (intOf i).toNat)
  case atStart => exact ⟨0, Nat.zero_le _, rfl, hid fun j hj => absurd hj (by omega)⟩
  case round =>
    obtain ⟨k, hk, rfl, HK⟩ := hrel
    by_cases hlt : k < xs.length
    · have hck := news_at HC.out rfl (Below.refl _ _) k hlt
      rw [Nat.zero_add] at hck
      have hne := HX.out k hlt
      obtain ⟨y, hy⟩ : ∃ y, y = xs.getD k 0 := ⟨_, rfl⟩
      rw [← hy] at hck hne
      have HY := hid hy
      clear hy
      by_cases hyx : y < x
      · go_wp2_with fail
        go_round
        case rel => exact ⟨k + 1, by omega, by go_num, hid fun j hj => by
          by_cases e : j = k
          · subst e; rw [← HY.out]; exact hyx
          · exact HK.out j (by omega)⟩
        case measure => simp [intOf]; omega
      · have hkc : k < c := by omega
        have hkc2 : ¬ k = c := by omega
        have hIL1 : (IL (xs.take k)).length = k := by simp [IL]; omega
        have hIL2 : (IL (xs.drop k)).length = xs.length - k := by simp [IL]
        have HN1 := hid (fun W hW => news_take HC.out (W := W) hW k)
        have HN2 := hid (fun W hW => news_drop HC.out (W := W) hW k ⟨g, k, none⟩ (by intro _; rw [Nat.zero_add]))
        have HI1 := hid hIL1; have HI2 := hid hIL2
        clear hIL1 hIL2
        go_wp2_with (at_builtin; refine wpList_append_own _ rfl _ _ 22 rfl w.heap.size 3 i0 (.int .i64 0) 1 8 Tryz.underlying22 hi hz0 hz1 hz2 rfl (by decide) _ _ _ rfl hm0 ⟨g, 0, none⟩ k c (IL (xs.take k)) rfl (by simp only [HI1.out, Nat.mul_one]) (HN1.out _ hb0) (IL_oneX _) (by unfold maxLen; omega) (by omega) (by simp) ?_)
        intro v1 w1 ho1 hg1 _
        have hb1 : Below w.heap.size w w1 := hb0.grown hg1 (by simp) (fun q hq => (hm0.lt q hq).1)
        have hsz1 := hb1.size
        clear hg1
        go_wp2_with (at_builtin; refine wpList_append_own _ rfl _ _ 22 rfl w.heap.size 3 i0 (.int .i64 0) 1 8 Tryz.underlying22 hi hz0 hz1 hz2 rfl (by decide) _ _ _ rfl (ho1.alloc _) ⟨w1.heap.size, 0, none⟩ 1 1 [.int .i64 x] rfl rfl one_at (one_cell _) (by unfold maxLen; omega) (by omega) (by simp; omega) ?_)
        intro v2 w2 ho2 hg2 _
        have hb2 : Below w.heap.size w w2 := (hb1.alloc hb1.size _).grown hg2 (by simp; omega) (fun q hq => (ho1.lt q hq).1)
        have hsz2 := hb2.size
        clear hg2 ho1
        go_wp2_with (at_builtin; refine wpList_append_own _ rfl _ _ 22 rfl w.heap.size 3 i0 (.int .i64 0) 1 8 Tryz.underlying22 hi hz0 hz1 hz2 rfl (by decide) _ _ _ rfl ho2 ⟨g, k, none⟩ (xs.length - k) (c - k) (IL (xs.drop k)) rfl (by rw [HI2.out]; omega) (HN2.out _ hb2) (IL_oneX _) (by unfold maxLen; omega) (by omega) (by omega) ?_)
        intro v3 w3 ho3 hg3 _
        have hb3 : Below w.heap.size w w3 := hb2.grown hg3 hb2.size (fun q hq => (ho2.lt q hq).1)
        have e3 : IL (xs.take k) ++ Value.int .i64 x :: IL (xs.drop k) = IL (insL xs x) := by
          rw [← insL_at xs x k (by omega) HK.out (fun _ => by rw [← HY.out]; omega)]
          simp [IL]
        rw [e3] at ho3
        obtain ⟨A', c', rfl, ho4⟩ := own_form ho3 (by rw [insL_len]; omega)
        have el : (insL xs x).length = xs.length + 1 := insL_len xs x
        rw [el]
        clear hg3 ho2 ho3 e3 el
        go_wp2_with fail
        go_ret
        exact ⟨A', c', rfl, ho4, hb3⟩
    · have hke : k = xs.length := by omega
      subst hke
      by_cases hcc : xs.length = c
      · subst hcc
        by_cases h0 : xs.length = 0
        · have he := List.eq_nil_of_length_eq_zero h0
          subst he
          clear h0 hlt hlc hk hl
          go_wp2_with (at_builtin; refine wpList_append_own _ rfl _ _ 22 rfl w.heap.size 3 i0 (.int .i64 0) 1 8 Tryz.underlying22 hi hz0 hz1 hz2 rfl (by decide) _ _ _ rfl hm0 ⟨g, 0, none⟩ 0 0 [] rfl rfl (fun j u h => by simp at h) (fun u h => absurd h (by simp)) (by unfold maxLen; omega) (by omega) (by simp) ?_)
          intro v1 w1 ho1 hg1 _
          have hb1 : Below w.heap.size w w1 := hb0.grown hg1 (by simp) (fun q hq => (hm0.lt q hq).1)
          have hsz1 := hb1.size
          clear hg1
          go_wp2_with (at_builtin; refine wpList_append_own _ rfl _ _ 22 rfl w.heap.size 3 i0 (.int .i64 0) 1 8 Tryz.underlying22 hi hz0 hz1 hz2 rfl (by decide) _ _ _ rfl (ho1.alloc _) ⟨w1.heap.size, 0, none⟩ 1 1 [.int .i64 x] rfl rfl one_at (one_cell _) (by unfold maxLen; omega) (by omega) (by simp; omega) ?_)
          intro v2 w2 ho2 hg2 _
          have hb2 : Below w.heap.size w w2 := (hb1.alloc hb1.size _).grown hg2 (by simp; omega) (fun q hq => (ho1.lt q hq).1)
          have hsz2 := hb2.size
          clear hg2 ho1
          go_wp2_with (at_builtin; refine wpList_append_own _ rfl _ _ 22 rfl w.heap.size 3 i0 (.int .i64 0) 1 8 Tryz.underlying22 hi hz0 hz1 hz2 rfl (by decide) _ _ _ rfl ho2 ⟨g, 0, none⟩ 0 0 [] rfl rfl (fun j u h => by simp at h) (fun u h => absurd h (by simp)) (by unfold maxLen; omega) (by omega) (by omega) ?_)
          intro v3 w3 ho3 hg3 _
          have hb3 : Below w.heap.size w w3 := hb2.grown hg3 hb2.size (fun q hq => (ho2.lt q hq).1)
          obtain ⟨A', c', rfl, ho4⟩ := own_form (xs := [x]) ho3 rfl
          clear hg3 ho2 ho3
          go_wp2_with fail
          go_ret
          exact ⟨A', c', rfl, ho4, hb3⟩
        have h0' : ¬ 0 = xs.length := by omega
        have hIL1 : (IL (xs.take xs.length)).length = xs.length := by simp [IL]
        have HN1 := hid (fun W hW => news_take HC.out (W := W) hW xs.length)
        have HI1 := hid hIL1
        clear hIL1
        go_wp2_with (at_builtin; refine wpList_append_own _ rfl _ _ 22 rfl w.heap.size 3 i0 (.int .i64 0) 1 8 Tryz.underlying22 hi hz0 hz1 hz2 rfl (by decide) _ _ _ rfl hm0 ⟨g, 0, none⟩ xs.length xs.length (IL (xs.take xs.length)) rfl (by simp only [HI1.out, Nat.mul_one]) (HN1.out _ hb0) (IL_oneX _) (by unfold maxLen; omega) (by omega) (by simp) ?_)
        intro v1 w1 ho1 hg1 _
        have hb1 : Below w.heap.size w w1 := hb0.grown hg1 (by simp) (fun q hq => (hm0.lt q hq).1)
        have hsz1 := hb1.size
        clear hg1
        go_wp2_with (at_builtin; refine wpList_append_own _ rfl _ _ 22 rfl w.heap.size 3 i0 (.int .i64 0) 1 8 Tryz.underlying22 hi hz0 hz1 hz2 rfl (by decide) _ _ _ rfl (ho1.alloc _) ⟨w1.heap.size, 0, none⟩ 1 1 [.int .i64 x] rfl rfl one_at (one_cell _) (by unfold maxLen; omega) (by omega) (by simp; omega) ?_)
        intro v2 w2 ho2 hg2 _
        have hb2 : Below w.heap.size w w2 := (hb1.alloc hb1.size _).grown hg2 (by simp; omega) (fun q hq => (ho1.lt q hq).1)
        have hsz2 := hb2.size
        clear hg2 ho1
        go_wp2_with (at_builtin; refine wpList_append_own _ rfl _ _ 22 rfl w.heap.size 3 i0 (.int .i64 0) 1 8 Tryz.underlying22 hi hz0 hz1 hz2 rfl (by decide) _ _ _ rfl ho2 ⟨g, 0, none⟩ 0 0 [] rfl rfl (fun j u h => by simp at h) (fun u h => absurd h (by simp)) (by unfold maxLen; omega) (by omega) (by omega) ?_)
        intro v3 w3 ho3 hg3 _
        have hb3 : Below w.heap.size w w3 := hb2.grown hg3 hb2.size (fun q hq => (ho2.lt q hq).1)
        have e3 : IL xs ++ [Value.int .i64 x] = IL (insL xs x) := by
          rw [← insL_at xs x xs.length (by omega) HK.out (fun h => absurd h (by omega))]
          simp [IL]
        rw [e3] at ho3
        obtain ⟨A', c', rfl, ho4⟩ := own_form ho3 (insL_len xs x).symm
        have el : (insL xs x).length = xs.length + 1 := insL_len xs x
        rw [el]
        clear hg3 ho2 ho3 e3 el
        go_wp2_with fail
        go_ret
        exact ⟨A', c', rfl, ho4, hb3⟩
      · have hkc : xs.length < c := by omega
        have hIL1 : (IL (xs.take xs.length)).length = xs.length := by simp [IL]
        have HN1 := hid (fun W hW => news_take HC.out (W := W) hW xs.length)
        have HI1 := hid hIL1
        clear hIL1
        go_wp2_with (at_builtin; refine wpList_append_own _ rfl _ _ 22 rfl w.heap.size 3 i0 (.int .i64 0) 1 8 Tryz.underlying22 hi hz0 hz1 hz2 rfl (by decide) _ _ _ rfl hm0 ⟨g, 0, none⟩ xs.length c (IL (xs.take xs.length)) rfl (by simp only [HI1.out, Nat.mul_one]) (HN1.out _ hb0) (IL_oneX _) (by unfold maxLen; omega) (by omega) (by simp) ?_)
        intro v1 w1 ho1 hg1 _
        have hb1 : Below w.heap.size w w1 := hb0.grown hg1 (by simp) (fun q hq => (hm0.lt q hq).1)
        have hsz1 := hb1.size
        clear hg1
        go_wp2_with (at_builtin; refine wpList_append_own _ rfl _ _ 22 rfl w.heap.size 3 i0 (.int .i64 0) 1 8 Tryz.underlying22 hi hz0 hz1 hz2 rfl (by decide) _ _ _ rfl (ho1.alloc _) ⟨w1.heap.size, 0, none⟩ 1 1 [.int .i64 x] rfl rfl one_at (one_cell _) (by unfold maxLen; omega) (by omega) (by simp; omega) ?_)
        intro v2 w2 ho2 hg2 _
        have hb2 : Below w.heap.size w w2 := (hb1.alloc hb1.size _).grown hg2 (by simp; omega) (fun q hq => (ho1.lt q hq).1)
        have hsz2 := hb2.size
        clear hg2 ho1
        go_wp2_with (at_builtin; refine wpList_append_own _ rfl _ _ 22 rfl w.heap.size 3 i0 (.int .i64 0) 1 8 Tryz.underlying22 hi hz0 hz1 hz2 rfl (by decide) _ _ _ rfl ho2 ⟨g, xs.length, none⟩ 0 (c - xs.length) [] rfl rfl (fun j u h => by simp at h) (fun u h => absurd h (by simp)) (by unfold maxLen; omega) (by omega) (by omega) ?_)
        intro v3 w3 ho3 hg3 _
        have hb3 : Below w.heap.size w w3 := hb2.grown hg3 hb2.size (fun q hq => (ho2.lt q hq).1)
        have e3 : IL xs ++ [Value.int .i64 x] = IL (insL xs x) := by
          rw [← insL_at xs x xs.length (by omega) HK.out (fun h => absurd h (by omega))]
          simp [IL]
        rw [e3] at ho3
        obtain ⟨A', c', rfl, ho4⟩ := own_form ho3 (insL_len xs x).symm
        have el : (insL xs x).length = xs.length + 1 := insL_len xs x
        rw [el]
        clear hg3 ho2 ho3 e3 el
        go_wp2_with fail
        go_ret
        exact ⟨A', c', rfl, ho4, hb3⟩

set_option maxRecDepth 100000 in
set_option maxHeartbeats 4000000 in
theorem l1Put_nil (x : Int) (w : World) :
    Calls Tryz.prog 31 #[.slice none 0 0, .int .i64 x] w fun e w' => ∃ A' c', e = .returned (.slice A' 1 c') ∧ Own w' w.heap.size A' c' [x] ∧ Below w.heap.size w w' := by
  obtain ⟨i0, hi, hz0, hz1, hz2⟩ := info_parts Tryz.infoInt
  have hm0 := World.ownsRow_made (base := w.heap.size) (e := 3) (size := 1) w #[] 0 (Nat.le_refl _) (by unfold maxLen; omega) rfl
  have hb0 : Below w.heap.size w (w.alloc (.cells #[] 3)) := (Below.refl _ _).alloc (Nat.le_refl _) _
  go_enter Tryz.func31, Tryz.ntmps31
  go_wp2_with fail
  go_loop [5] (fun i => i = .int .i64 0) (fun _ => 0)
  case atStart => rfl
  case round =>
    subst hrel
    go_wp2_with (at_builtin; refine wpList_append_opt _ rfl _ _ 22 rfl w.heap.size 3 i0 (.int .i64 0) 1 8 Tryz.underlying22 hi hz0 hz1 hz2 rfl (by decide) _ _ _ rfl hm0 none 0 0 [] rfl rfl (fun _ => ⟨rfl, rfl⟩) (fun ad h => by cases h) (fun u h => absurd h (by simp)) (by unfold maxLen; omega) (by omega) (by simp) ?_)
    intro v1 w1 ho1 hg1
    have hb1 : Below w.heap.size w w1 := hb0.grown hg1 (by simp) (fun q hq => (hm0.lt q hq).1)
    have hsz1 := hb1.size
    clear hg1
    go_wp2_with (at_builtin; refine wpList_append_own _ rfl _ _ 22 rfl w.heap.size 3 i0 (.int .i64 0) 1 8 Tryz.underlying22 hi hz0 hz1 hz2 rfl (by decide) _ _ _ rfl (ho1.alloc _) ⟨w1.heap.size, 0, none⟩ 1 1 [.int .i64 x] rfl rfl one_at (one_cell _) (by unfold maxLen; omega) (by omega) (by simp; omega) ?_)
    intro v2 w2 ho2 hg2 _
    have hb2 : Below w.heap.size w w2 := (hb1.alloc hb1.size _).grown hg2 (by simp; omega) (fun q hq => (ho1.lt q hq).1)
    have hsz2 := hb2.size
    clear hg2 ho1
    go_wp2_with (at_builtin; refine wpList_append_opt _ rfl _ _ 22 rfl w.heap.size 3 i0 (.int .i64 0) 1 8 Tryz.underlying22 hi hz0 hz1 hz2 rfl (by decide) _ _ _ rfl ho2 none 0 0 [] rfl rfl (fun _ => ⟨rfl, rfl⟩) (fun ad h => by cases h) (fun u h => absurd h (by simp)) (by unfold maxLen; omega) (by omega) (by omega) ?_)
    intro v3 w3 ho3 hg3
    have hb3 : Below w.heap.size w w3 := hb2.grown hg3 hb2.size (fun q hq => (ho2.lt q hq).1)
    obtain ⟨A', c', rfl, ho4⟩ := own_form (xs := [x]) ho3 rfl
    clear hg3 ho2 ho3
    go_wp2_with fail
    go_ret
    exact ⟨A', c', rfl, ho4, hb3⟩

theorem l1Put_any {B : Nat} (A : Option Addr) (c : Nat) (xs : List Int) (x : Int) (w : World) (hl : xs.length ≤ 1000) (ho : Own w B A c xs) (hx : ∀ j, j < xs.length → xs.getD j 0 ≠ x) :
    Calls Tryz.prog 31 #[.slice A xs.length c, .int .i64 x] w fun e w' => ∃ A' c', e = .returned (.slice A' (xs.length + 1) c') ∧ Own w' w.heap.size A' c' (insL xs x) ∧ Below w.heap.size w w' := by
  rcases ho.2 with ⟨hv, h0⟩ | ⟨g, cap, cur, hv, _, _, hcap, _⟩
  · have e : xs = [] := List.eq_nil_of_length_eq_zero h0
    subst e
    injection hv with h1 _ h3
    subst h1; subst h3
    exact l1Put_nil x w
  · injection hv with h1 _ h3
    subst h1; subst h3
    exact l1Put_some g c xs x w hl hcap ho.cells hx
end Go.Proofs.YtijfefahogcfmaaGreat
/-
  Walks: the lists that are walks, and the first hooks with a walk: plain facts, told by a finite table.
-/
namespace Go.Proofs.YtijfefahogcfmaaGreat

def okW (a b : Int) (W : List Int) (j : Nat) : Bool := inB 0 (mstI a b j) (W.getD j 0) && (decide (j = 0) || decide (W.getD j 0 ≤ W.getD (j - 1) 0))
def wkOk (a b : Int) (W : List Int) : Bool := decide (W.length = (a - 1).toNat) && (List.range W.length).all (okW a b W)
theorem wkOk_iff {a b : Int} {W : List Int} : wkOk a b W = true ↔ W.length = (a - 1).toNat ∧ ∀ j, j < W.length → okW a b W j = true := by
  simp only [wkOk, Bool.and_eq_true, decide_eq_true_eq, List.all_eq_true, List.mem_range]
/-- All walks behind i, of r numbers, from p down. -/
def wks (a b : Int) : Nat → Nat → Int → List (List Int)
  | 0, _, _ => [[]]
  | r + 1, i, p => (List.range (min p (mstI a b i) + 1).toNat).flatMap fun v : Nat => (wks a b r (i + 1) (v : Int)).map fun W => (v : Int) :: W
theorem mem_wks {a b : Int} : ∀ (W : List Int) (i : Nat) (p : Int), (∀ j, j < W.length → 0 ≤ W.getD j 0 ∧ W.getD j 0 ≤ mstI a b (i + j : Nat)) → (0 < W.length → W.getD 0 0 ≤ p) → (∀ j, j + 1 < W.length → W.getD (j + 1) 0 ≤ W.getD j 0) → W ∈ wks a b W.length i p
  | [], _, _, _, _, _ => by simp [wks]
  | x :: W, i, p, h1, h2, h3 => by
    have hx := h1 0 (by simp)
    have hp := h2 (by simp)
    simp only [List.getD_cons_zero, Nat.add_zero] at hx hp
    rw [List.length_cons, wks, List.mem_flatMap]
    refine ⟨x.toNat, List.mem_range.2 ?_, ?_⟩
    · have : x ≤ min p (mstI a b i) := Int.le_min.2 ⟨hp, hx.2⟩
      omega
    rw [List.mem_map]
    refine ⟨W, ?_, by rw [Int.toNat_of_nonneg (by omega)]⟩
    rw [Int.toNat_of_nonneg (by omega)]
    refine mem_wks W (i + 1) x (fun j hj => ?_) (fun hj => ?_) (fun j hj => ?_)
    · have := h1 (j + 1) (by simp; omega)
      rw [List.getD_cons_succ] at this
      rw [show i + 1 + j = i + (j + 1) by omega]; exact this
    · have := h3 0 (by simp; omega)
      simpa using this
    · have := h3 (j + 1) (by simp; omega)
      simpa using this
theorem wk_mem {a b : Int} {W : List Int} (hs : sz a b = true) (h : wkOk a b W = true) : W ∈ wks a b (a - 1).toNat 0 1000 := by
  obtain ⟨hl, hj⟩ := wkOk_iff.1 h
  rw [← hl]
  refine mem_wks W 0 1000 (fun j hj' => ?_) (fun h0 => ?_) (fun j hj' => ?_)
  · have := hj j hj'
    simp only [okW, Bool.and_eq_true] at this
    have h1 := inB_iff.1 this.1
    rw [Nat.zero_add]; exact h1
  · have := hj 0 h0
    simp only [okW, Bool.and_eq_true] at this
    have h1 := (inB_iff.1 this.1).2
    have h2 := (wk_bdN hs 0 (by omega) (by obtain ⟨h3, -⟩ := sz_iff.1 hs; show (0 : Int) < a - 1; omega)).1.1.2
    exact Int.le_trans h1 (Int.le_trans h2 (by omega))
  · have := hj (j + 1) hj'
    simp only [okW, Bool.and_eq_true, Bool.or_eq_true, decide_eq_true_eq] at this
    rcases this.2 with h1 | h1
    · omega
    · simpa using h1
/-- The numbers behind the first n of a row. -/
def hwR (a b : Int) (W : List Int) (i k : Nat) : List Int := (List.range k).map fun j : Nat => gpA a b (W.getD i 0 + 1 + j) i
def hwM (a b : Int) (W : List Int) (i : Nat) : Nat := (mstI a b i - W.getD i 0).toNat
def hwL (a b : Int) (W : List Int) (m : Nat) : List Int := (List.range m).flatMap fun i => hwR a b W i (hwM a b W i)
theorem hwR_succ (a b : Int) (W : List Int) (i k : Nat) : hwR a b W i (k + 1) = hwR a b W i k ++ [gpA a b (W.getD i 0 + 1 + k) i] := by
  unfold hwR; rw [List.range_succ, List.map_append]; rfl
theorem hwL_succ (a b : Int) (W : List Int) (m : Nat) : hwL a b W (m + 1) = hwL a b W m ++ hwR a b W m (hwM a b W m) := by
  unfold hwL; rw [List.range_succ, List.flatMap_append]; simp
def insAll (L : List Int) : List Int := L.foldl insL []
def upB : List Int → Bool
  | x :: y :: r => decide (x < y) && upB (y :: r)
  | _ => true
/-- All that is told of a walk's hooks. -/
def bwChk (a b : Int) (W : List Int) : Bool := clB a b (insAll (hwL a b W W.length)) && (ffOk (insAll (hwL a b W W.length)) && (upB (insAll (hwL a b W W.length)) && decide ((hwL a b W W.length).length ≤ 30)))
theorem bw_all {a b : Int} (hs : sz a b = true) : (wks a b (a - 1).toNat 0 1000).all (bwChk a b) = true := sz_nat (p := fun a b => (wks a b (a - 1).toNat 0 1000).all (bwChk a b) = true) (by decide +kernel) hs
theorem bw_chk {a b : Int} {W : List Int} (hs : sz a b = true) (h : wkOk a b W = true) : bwChk a b W = true := List.all_eq_true.1 (bw_all hs) W (wk_mem hs h)
theorem insL_perm (x : Int) : ∀ L : List Int, (insL L x).Perm (x :: L)
  | [] => List.Perm.refl _
  | y :: r => by
    unfold insL
    split
    · exact ((insL_perm x r).cons y).trans (List.Perm.swap x y r)
    · exact List.Perm.refl _
theorem insAll_perm (L : List Int) : (insAll L).Perm L := by
  have key : ∀ (L A : List Int), (L.foldl insL A).Perm (A ++ L) := by
    intro L
    induction L with
    | nil => intro A; simp
    | cons x L ih =>
      intro A
      rw [List.foldl_cons]
      refine (ih (insL A x)).trans ?_
      have h1 := (insL_perm x A).append_right L
      exact h1.trans (by simpa using (List.perm_middle (a := x) (l₁ := A) (l₂ := L)).symm)
  have := key L []
  rw [List.nil_append] at this
  exact this
theorem upB_pair : ∀ L : List Int, upB L = true → L.Pairwise (· < ·)
  | [], _ => List.Pairwise.nil
  | [x], _ => by simp
  | x :: y :: r, h => by
    rw [upB, Bool.and_eq_true, decide_eq_true_eq] at h
    have ih := upB_pair (y :: r) h.2
    refine List.Pairwise.cons (fun z hz => ?_) ih
    rcases List.mem_cons.1 hz with rfl | hz
    · exact h.1
    · have := List.rel_of_pairwise_cons ih hz
      omega
theorem sorted_eq : ∀ {L M : List Int}, L.Perm M → L.Pairwise (fun x y => x ≤ y) → M.Pairwise (fun x y => x ≤ y) → L = M
  | [], M, h, _, _ => by rw [List.nil_perm.1 h]
  | x :: L, [], h, _, _ => by have := h.length_eq; simp at this
  | x :: L, y :: M, h, h1, h2 => by
    have hxm : x ∈ y :: M := h.mem_iff.1 (List.mem_cons_self ..)
    have hym : y ∈ x :: L := h.mem_iff.2 (List.mem_cons_self ..)
    have e : x = y := by
      rcases List.mem_cons.1 hxm with e | hx
      · exact e
      · rcases List.mem_cons.1 hym with e | hy
        · exact e.symm
        · have a1 := List.rel_of_pairwise_cons h1 hy
          have a2 := List.rel_of_pairwise_cons h2 hx
          omega
    subst e
    rw [sorted_eq (List.Perm.cons_inv h) h1.of_cons h2.of_cons]
theorem sort_ins {a b : Int} {W : List Int} (hs : sz a b = true) (h : wkOk a b W = true) : (hwL a b W W.length).mergeSort (fun x y => decide (x ≤ y)) = insAll (hwL a b W W.length) := by
  have hc := bw_chk hs h
  simp only [bwChk, Bool.and_eq_true] at hc
  have hp := upB_pair _ hc.2.2.1
  refine sorted_eq ((List.mergeSort_perm _ _).trans (insAll_perm _).symm) ?_ (hp.imp fun h => by omega)
  have h2 := List.pairwise_mergeSort (le := fun x y : Int => decide (x ≤ y)) (fun x y z h1 h2 => by simp at *; omega) (fun x y => by simp; omega) (hwL a b W W.length)
  exact h2.imp fun h => by simpa using h
end Go.Proofs.YtijfefahogcfmaaGreat
