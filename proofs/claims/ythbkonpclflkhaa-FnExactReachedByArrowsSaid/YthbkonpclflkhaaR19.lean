/-
  Several texts in one.
-/
import Derived.Test.YthbkonpclflkhaaR09
import Derived.Lib.AppendZerosOnto
import Derived.Test.YthbkonpclflkhaaCH
/-
  Contracts: slices.Grow of nil and slices.Concat at rows of ints, none of them empty.
-/
namespace Go.Proofs.Ythbkonpclflkhaa
open Go.RowKit

set_option maxRecDepth 100000 in
set_option maxHeartbeats 1000000 in
theorem grow0_any (n : Nat) (w : World) (hn : n ≤ 1048576) :
    Calls Try.prog 195 #[.slice none 0 0, .int .i64 n] w fun e w' => ∃ v, e = .returned v ∧ w'.ownsRow w.heap.size 3 1 v 0 [] ∧ Below w.heap.size w w' := by
  obtain ⟨i0, hi, hz0, hz1, hz2⟩ := info_parts Try.infoInt
  by_cases h0 : n = 0
  · subst h0
    go_enter Try.func195, Try.ntmps195
    go_wp2_with fail
    go_ret
    exact ⟨_, rfl, World.ownsRow_nil _ _ _ _, Below.refl _ _⟩
  · have hold : (Builtin.firstCells i0.size 0 (.slice none 0 0)).run Try.prog w.drew = .ok ([] : List Value).toArray w.drew := run_firstCells_none w.drew i0.size 0 0 0
    have h := fun ty => Lib.run_append_grow_zeros w 22 3 ty 3 i0 (.int .i64 0) .i64 .i64 Try.underlying22 Try.underlying3 hi hz0 none 0 0 [] hold n (by omega) (by omega) (by omega) (by omega) (by rw [hz2]; omega) (growslice_fits (by omega) (by rw [hz2]; omega))
    have hge := grownCap_ge w (0 + n) 0 3
    have hle := grownCap_le_maxLen w (0 + n) 0 3 (by unfold maxLen; omega)
    obtain ⟨G, hG⟩ : ∃ G, G = grownCap w (0 + n) 0 3 := ⟨_, rfl⟩
    rw [← hG] at h hge hle
    have hm := World.ownsRow_made (base := w.heap.size) (e := 3) (size := 1) w.drew (([] : List Value).toArray ++ Builtin.zeroCells (Value.int .i64 0).cells n ++ Builtin.zeroCells (Value.int .i64 0).cells (G - (0 + n))) G (Nat.le_refl _) hle (by simp [Builtin.zeroCells, Value.cells]; omega)
    have hb : Below w.heap.size w (w.drew.alloc (.cells (([] : List Value).toArray ++ Builtin.zeroCells (Value.int .i64 0).cells n ++ Builtin.zeroCells (Value.int .i64 0).cells (G - (0 + n))) 3)) := (below_drewN (Below.refl _ _) 1).alloc (Nat.le_refl _) _
    obtain ⟨W2, hW2⟩ : ∃ W2, W2 = w.drew.alloc (.cells (([] : List Value).toArray ++ Builtin.zeroCells (Value.int .i64 0).cells n ++ Builtin.zeroCells (Value.int .i64 0).cells (G - (0 + n))) 3) := ⟨_, rfl⟩
    rw [← hW2] at h hm hb
    have hsz : (w.drew).heap.size = w.heap.size := rfl
    rw [hsz] at hm
    have HM := hid hm
    have hz : 0 + n = n := by omega
    rw [hz] at h hge
    have hn0 : (0 : Int) < (n : Int) := by omega
    have hG63 : G ≤ 9223372036854775807 := by unfold maxLen at hle; omega
    have HH := hid h
    clear hG hW2 hm hold h
    go_enter Try.func195, Try.ntmps195
    go_wp2_with (at_builtin; refine Lib.wpList_append_run _ rfl _ _ _ _ rfl _ _ rfl rfl _ _ (HH.out _) ?_)
    go_ret
    exact ⟨_, rfl, HM.out, hb⟩

theorem flat_succ (rows : List (List Int)) (k : Nat) (h : k < rows.length) : (rows.take (k + 1)).flatten = (rows.take k).flatten ++ rows.getD k [] := by
  rw [List.take_succ_eq_append_getElem h, List.flatten_append]; simp [List.getD, h]
theorem flat_len (rows : List (List Int)) : rows.flatten.length = tot rows := by
  induction rows with
  | nil => rfl
  | cons r t ih => simp only [List.flatten_cons, List.length_append, tot, ih]
theorem IL_app (xs ys : List Int) : IL (xs ++ ys) = IL xs ++ IL ys := by simp [IL]

set_option maxRecDepth 100000 in
set_option maxHeartbeats 2000000 in
theorem concat_any (A : Option Addr) (c : Nat) (rows : List (List Int)) (w : World) (hr : rows.length ≤ 1000) (ht : tot rows ≤ 1000) (hp : ∀ j, j < rows.length → 0 < (rows.getD j []).length) (hA : Cells2 w A rows) :
    Calls Try.prog 175 #[.slice A rows.length c] w fun e w' => ∃ A' c', e = .returned (.slice A' rows.flatten.length c') ∧ Own w' w.heap.size A' c' rows.flatten ∧ Below w.heap.size w w' := by
  obtain ⟨i0, hi, hz0, hz1, hz2⟩ := info_parts Try.infoInt
  obtain ⟨P, C, hA1, hA2⟩ := hA
  have HP := hid hp; have HA1 := hid hA1; have HA2 := hid hA2
  clear hp hA1 hA2
  go_enter Try.func175, Try.ntmps175
  go_wp2_with fail
  go_loop [3, 11] (fun s i => ∃ k : Nat, k ≤ rows.length ∧ i = .int .i64 k ∧ s = .int .i64 (tot (rows.take k) : Int)) (fun _ i => rows.length - (intOf i).toNat)
  case atStart => exact ⟨0, Nat.zero_le _, rfl, by simp [tot]⟩
  case round =>
    obtain ⟨k, hk, rfl, rfl⟩ := hrel
    by_cases hlt : k < rows.length
    · obtain ⟨b, o, rfl, hcc⟩ := HA1.out (by omega)
      have hck := hcc k hlt
      have hts := tot_take_succ rows k hlt
      have htl := tot_take_le rows (k + 1)
      obtain ⟨m, hm⟩ : ∃ m, m = (rows.getD k []).length := ⟨_, rfl⟩
      obtain ⟨s, hs⟩ : ∃ s, s = tot (rows.take k) := ⟨_, rfl⟩
      rw [← hm] at hck hts
      rw [← hs] at hts ⊢
      have HTS := hid hts
      have hmb : s + m ≤ 1000 := by omega
      clear hcc hm hs htl hts
      go_wp2_with fail
      go_round
      case rel => exact ⟨k + 1, by omega, by go_num, by rw [HTS.out]; go_num⟩
      case measure => simp [intOf]; omega
    · have hkn : k = rows.length := by omega
      subst hkn
      have e : rows.take rows.length = rows := List.take_of_length_le (Nat.le_refl _)
      rw [e]
      clear e
      obtain ⟨T, hT⟩ : ∃ T, T = tot rows := ⟨_, rfl⟩
      rw [← hT] at ht ⊢
      have HT := hid hT
      clear hT
      go_wp2_with (go_at_call 195; refine (grow0_any T _ (by omega)).mono ?_; rintro e w1 ⟨v1, rfl, o1, b1⟩)
      go_loopw [6, 27] (fun v i wr => ∃ k : Nat, k ≤ rows.length ∧ i = .int .i64 k ∧ wr.ownsRow w.heap.size 3 1 v (rows.take k).flatten.length (IL (rows.take k).flatten) ∧ Below w.heap.size w wr) (fun _ i _ => rows.length - (intOf i).toNat)
      case atStart => exact ⟨0, Nat.zero_le _, rfl, by simpa [IL] using o1, b1⟩
      case round =>
        obtain ⟨k, hk, rfl, hown, hbel⟩ := hrel
        by_cases hlt : k < rows.length
        · obtain ⟨b, o, rfl, hcc⟩ := HA1.out (by omega)
          have hck0 := hcc k hlt
          have hck := (hbel.cell (World.block_lt_of_cell? w _ hck0)).trans hck0
          have hpk := HP.out k hlt
          obtain ⟨b3, o3, hP3, hr3⟩ := HA2.out k hlt hpk
          rw [hP3] at hck
          have hfs := flat_succ rows k hlt
          have hfl := flat_len (rows.take k)
          have hts := tot_take_succ rows k hlt
          have htl := tot_take_le rows (k + 1)
          obtain ⟨r, hre⟩ : ∃ r, r = rows.getD k [] := ⟨_, rfl⟩
          rw [← hre] at hck hfs hr3 hpk hts
          have hrl : (rows.take k).flatten.length + r.length ≤ 1000 := by have := HT.out; omega
          have HFS := hid hfs
          have hnews : ∀ W, Below w.heap.size w W → ∀ j u, (IL r)[j]? = some u → W.cell? ((⟨b3, o3, none⟩ : Addr).add j) = some u := by
            intro W hW j u hu
            have hj : j < r.length := by
              have := (List.getElem?_eq_some_iff.1 hu).1
              simpa [IL] using this
            have h := hr3 j hj
            rw [IL_get r j hj] at hu
            have e : (⟨b3, o3, none⟩ : Addr).add j = ⟨b3, o3 + j, none⟩ := by unfold Addr.add; split <;> simp_all
            rw [e, hW.cell (World.block_lt_of_cell? w _ h), h, ← hu]
          have HN := hid hnews
          have HOW := hid hown
          have hrn : (IL r).length = r.length * 1 := by simp [IL]
          have HRN := hid hrn
          clear hcc hck0 hP3 hr3 hre hfs hfl hts htl hnews hown hrn
          obtain ⟨f, hf⟩ : ∃ f, f = (rows.take k).flatten := ⟨_, rfl⟩
          rw [← hf] at HOW HFS hrl
          have HF := hid hf
          clear hf
          go_wp2_with (at_builtin; refine wpList_append_own _ rfl _ _ 22 rfl w.heap.size 3 i0 (.int .i64 0) 1 8 Try.underlying22 hi hz0 hz1 hz2 rfl (by decide) _ _ _ rfl HOW.out ⟨b3, o3, none⟩ r.length (C k) (IL r) rfl HRN.out (HN.out _ hbel) (IL_oneC r) (by unfold maxLen; omega) (by omega) hbel.size ?_)
          intro v' w2 hown' hgrow _
          have hb1 : Below w.heap.size w w2 := hbel.grown hgrow hbel.size (fun q hq => (HOW.out.lt q hq).1)
          have hown2 : w2.ownsRow w.heap.size 3 1 v' (f ++ r).length (IL (f ++ r)) := by rw [IL_app, List.length_append]; exact hown'
          rw [← HFS.out] at hown2
          have HO2 := hid hown2
          clear hown' hgrow hown2
          go_wp2_with fail
          go_roundw
          case rel => exact ⟨k + 1, by omega, by go_num, HO2.out, hb1⟩
          case measure => simp [intOf]; omega
        · have hkn : k = rows.length := by omega
          subst hkn
          rw [List.take_of_length_le (Nat.le_refl _)] at hown
          obtain ⟨A', c', rfl, ho'⟩ := own_form hown rfl
          clear hown
          go_wp2_with fail
          go_ret
          exact ⟨A', c', rfl, ho', hbel⟩
end Go.Proofs.Ythbkonpclflkhaa
/-
  Plain facts: all partitions in their order, by ranks and by the greatest part. No program in this text.
-/
namespace Go.Proofs.Ythbkonpclflkhaa
theorem T_le {n : Nat} (hn : n < 31) {p : Nat} : ∀ m, m ≤ 30 → p ≤ m → T n p ≤ T n m := by
  intro m
  induction m with
  | zero => intro _ h; rw [Nat.le_zero.1 h]; exact Nat.le_refl _
  | succ m ih =>
    intro hm h
    rcases Nat.eq_or_lt_of_le h with h | h
    · rw [h]; exact Nat.le_refl _
    · exact Nat.le_trans (ih (by omega) (by omega)) (T_up n hn m (by omega))
/-- The rank of a partition with greatest part p. -/
theorem pk_at {n p j : Nat} (hn : n < 31) (h1 : 1 ≤ p) (hp : p ≤ n) (hj : j < T (n - p) p) : ∀ m, m ≤ 30 → p ≤ m → pk n m (T n m - T n p + j) = (p, j) := by
  intro m
  induction m with
  | zero => intro _ h; omega
  | succ m ih =>
    intro hm h
    rcases Nat.eq_or_lt_of_le h with h | h
    · subst h
      have := T_step (n := n) (k := m) hn (by omega) hp
      rw [Nat.sub_self, Nat.zero_add, pk_no (by omega)]
    · have hm' : p ≤ m := by omega
      have h2 := T_le hn m (by omega) hm'
      have h3 := T_up n hn m (by omega)
      rw [pk_yes (by omega), show T n (m + 1) - T n p + j - (T n (m + 1) - T n m) = T n m - T n p + j by omega]
      exact ih (by omega) hm'
/-- What a search finds is a part. -/
theorem pk_ok {n : Nat} (hn : n < 31) (h1 : 1 ≤ n) : ∀ m, m ≤ 30 → ∀ r, r < T n m → ∃ p q, pk n m r = (p, q) ∧ 1 ≤ p ∧ p ≤ m ∧ p ≤ n ∧ q < T (n - p) p := by
  intro m
  induction m with
  | zero => intro _ r h; rw [T_none n hn h1] at h; omega
  | succ m ih =>
    intro hm r h
    by_cases hc : T n (m + 1) - T n m ≤ r
    · obtain ⟨p, q, e, a, b, c, d⟩ := ih (by omega) (r - (T n (m + 1) - T n m)) (by have := T_up n hn m (by omega); omega)
      exact ⟨p, q, by rw [pk_yes hc]; exact e, a, by omega, c, d⟩
    · obtain ⟨c, d⟩ := pick_last (q := r) hn hm (by omega) (by rw [Nat.add_sub_cancel]; exact hc)
      exact ⟨m + 1, r, pk_no hc, by omega, Nat.le_refl _, c, d⟩
/-- How much fuel is there does not matter. -/
theorem pa_fuel2 : ∀ f g n m r, n ≤ f → n ≤ g → n < 31 → m ≤ 30 → r < T n m → pa f n m r = pa g n m r := by
  intro f
  induction f with
  | zero => intro g n m r h _ _ _ _; rw [Nat.le_zero.1 h, pa_zero, pa_zero]
  | succ f ih =>
    intro g n m r h hg hn hm hr
    rcases Nat.eq_zero_or_pos n with h0 | h0
    · subst h0; rw [pa_zero, pa_zero]
    · obtain ⟨p, q, e, a, b, c, d⟩ := pk_ok hn h0 m hm r hr
      obtain ⟨f1, hf1, e1⟩ := pa_next h h0 e
      obtain ⟨g1, hg1, e2⟩ := pa_next hg h0 e
      cases hf1
      rw [e1, e2, ih g1 (n - p) p q (by omega) (by omega) (by omega) (by omega) d]
/-- The first k partitions of n with parts up to m. -/
def lst (n m k : Nat) : List (List Int) := (List.range k).map fun r => pa n n m r
theorem lst_len (n m k : Nat) : (lst n m k).length = k := by simp [lst]
theorem lst_succ (n m k : Nat) : lst n m (k + 1) = lst n m k ++ [pa n n m k] := by simp [lst, List.range_succ]
theorem lst_get (n m k j : Nat) (h : j < k) : (lst n m k).getD j [] = pa n n m j := by
  rw [List.getD_eq_getElem?_getD, lst, List.getElem?_map, List.getElem?_range h]; rfl
theorem lst_zero (m : Nat) : lst 0 m 1 = [[]] := by simp [lst, List.range_succ, pa]
theorem pa_at {n m p j : Nat} (hn : n < 31) (h1 : 1 ≤ p) (hp : p ≤ n) (hm : m ≤ 30) (hpm : p ≤ m) (hj : j < T (n - p) p) : pa n n m (T n m - T n p + j) = (p : Int) :: pa (n - p) (n - p) p j := by
  obtain ⟨f, hf, e⟩ := pa_next (Nat.le_refl n) (by omega) (pk_at hn h1 hp hj m hm hpm)
  rw [e, pa_fuel2 f (n - p) (n - p) p j (by omega) (Nat.le_refl _) (by omega) (by omega) hj]
/-- One row more behind the rows whose greatest part is above p and j of those with p. -/
theorem lst_row {n m p j : Nat} (hn : n < 31) (h1 : 1 ≤ p) (hp : p ≤ n) (hm : m ≤ 30) (hpm : p ≤ m) (hj : j < T (n - p) p) :
    lst n m (T n m - T n p + (j + 1)) = lst n m (T n m - T n p + j) ++ [(p : Int) :: (lst (n - p) p (T (n - p) p)).getD j []] := by
  rw [← Nat.add_assoc, lst_succ, pa_at hn h1 hp hm hpm hj, lst_get _ _ _ _ hj]
/-- The rows of p are done. -/
theorem lst_next {n m p : Nat} (hn : n < 31) (h1 : 1 ≤ p) (hp : p ≤ n) (hm : m ≤ 30) (hpm : p ≤ m) : lst n m (T n m - T n p + T (n - p) p) = lst n m (T n m - T n (p - 1)) := by
  have h2 := T_le hn m hm hpm
  have h3 := T_step (n := n) (k := p - 1) hn (by omega) (by omega)
  rw [show p - 1 + 1 = p by omega] at h3
  congr 1; omega
end Go.Proofs.Ythbkonpclflkhaa
