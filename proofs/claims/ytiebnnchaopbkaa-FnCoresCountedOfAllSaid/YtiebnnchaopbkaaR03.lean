/-
  Several texts in one.
-/
import Derived.Test.YtiebnnchaopbkaaCC
import Derived.Test.YtiebnnchaopbkaaCB
import Derived.Test.YtiebnnchaopbkaaCA
import Derived.Test.YtiebnnchaopbkaaR02
import Derived.BigQuiet
import Derived.Lib.AppendZerosOnto
/-
  Contracts: what is left without a rim hook (the model's list; the program's rows without cells).
-/
namespace Go.Proofs.Ytiebnnchaopbkaa
open Go.RowKit

end Go.Proofs.Ytiebnnchaopbkaa
/-
  Contracts: WithoutRim of the program and of the model.
-/
namespace Go.Proofs.Ytiebnnchaopbkaa
open Go.RowKit

def lowN (xs : List Int) (k : Nat) : Nat := (colH xs k).toNat - 1
def outF (xs : List Int) (r k : Int) : List Int := if atB xs r k then outL xs r.toNat k.toNat (lowN xs k.toNat) else []
def legF (xs : List Int) (r k : Int) : Int := if atB xs r k then (lowN xs k.toNat : Int) - r else 0
theorem outL_len (xs : List Int) (r k low : Nat) : (outL xs r k low).length ≤ xs.length := by
  unfold outL
  refine Nat.le_trans (List.length_filter_le _ _) ?_
  rw [restL_len]; exact Nat.le_refl _
theorem bound_WithoutRim (xs : List Int) (r k : Int) : (outF xs r k).length ≤ 1048576 := by
  unfold outF
  split
  · rename_i h
    simp only [atB, Bool.and_eq_true] at h
    have := ((good_iff xs).1 h.1).len
    have := outL_len xs r.toNat k.toNat (lowN xs k.toNat)
    omega
  · simp

theorem own_prefix {w : World} {B g c : Nat} {ys : List Int} (h : Own w B (some ⟨g, 0, none⟩) c ys) (m : Nat) (hm : m ≤ ys.length) : Own w B (some ⟨g, 0, none⟩) c (ys.take m) := by
  unfold Own
  refine ⟨by simp [IL], ?_⟩
  rcases h.2 with ⟨hv, _⟩ | ⟨g', cap, cur, hv, hB, hh, hn, hmx, hcs, htk⟩
  · simp at hv
  · have e1 : c = cap := by injection hv
    have e2 : g = g' := by injection hv with h1; injection h1 with h1; injection h1
    subst e1 e2
    refine .inr ⟨g, c, cur, rfl, hB, hh, by rw [List.length_take]; omega, hmx, hcs, ?_⟩
    have e3 : IL (ys.take m) = (IL ys).take m := by simp [IL, List.map_take]
    rw [e3, ← htk, List.take_take, List.length_take]
    congr 1
    omega
theorem out_ex {xs : List Int} {r k low : Nat} (R : RimOK xs r k low) : ∀ m, m ≤ xs.length → (∀ j, m ≤ j → j < xs.length → rest xs r k low j = 0) → ∃ m', m' ≤ m ∧ (restL xs r k low).take m' = outL xs r k low
  | 0, hm, hz => ⟨0, Nat.le_refl _, R.out_take hm hz (fun h => absurd h (by omega))⟩
  | m + 1, hm, hz => by
    by_cases h : rest xs r k low m = 0
    · obtain ⟨m', h1, h2⟩ := out_ex R m (by omega) (fun j h1 h2 => by
        by_cases e : m + 1 ≤ j
        · exact hz j e h2
        · have : j = m := by omega
          subst this; exact h)
      exact ⟨m', by omega, h2⟩
    · exact ⟨m + 1, Nat.le_refl _, R.out_take hm hz (fun _ => h)⟩
theorem own_out {w : World} {B g c : Nat} {xs : List Int} {r k low : Nat} (R : RimOK xs r k low) (h : Own w B (some ⟨g, 0, none⟩) c (restL xs r k low)) : Own w B (some ⟨g, 0, none⟩) c (outL xs r k low) := by
  obtain ⟨m, h1, h2⟩ := out_ex R xs.length (Nat.le_refl _) (fun j h1 h2 => by omega)
  rw [← h2]
  exact own_prefix h m (by rw [restL_len]; exact h1)
theorem IL_oneC (xs : List Int) : ∀ u ∈ IL xs, u.oneCell' = true := by
  intro u hu
  simp only [IL, List.mem_map] at hu
  obtain ⟨x, _, rfl⟩ := hu
  rfl
end Go.Proofs.Ytiebnnchaopbkaa
/-
  Contracts: slices.Grow of nil and slices.Concat at rows of ints, none of them empty.
-/
namespace Go.Proofs.Ytiebnnchaopbkaa
open Go.RowKit

set_option maxRecDepth 100000 in
set_option maxHeartbeats 1000000 in
theorem grow0_any (n : Nat) (w : World) (hn : n ≤ 1048576) :
    Calls Try.prog 72 #[.slice none 0 0, .int .i64 n] w fun e w' => ∃ v, e = .returned v ∧ w'.ownsRow w.heap.size 3 1 v 0 [] ∧ Below w.heap.size w w' := by
  obtain ⟨i0, hi, hz0, hz1, hz2⟩ := info_parts Try.infoInt
  by_cases h0 : n = 0
  · subst h0
    go_enter Try.func72, Try.ntmps72
    go_wp2_with fail
    go_ret
    exact ⟨_, rfl, World.ownsRow_nil _ _ _ _, Below.refl _ _⟩
  · have hold : (Builtin.firstCells i0.size 0 (.slice none 0 0)).run Try.prog w.drew = .ok ([] : List Value).toArray w.drew := run_firstCells_none w.drew i0.size 0 0 0
    have h := fun ty => Lib.run_append_grow_zeros w 28 3 ty 3 i0 (.int .i64 0) .i64 .i64 Try.underlying28 Try.underlying3 hi hz0 none 0 0 [] hold n (by omega) (by omega) (by omega) (by omega) (by rw [hz2]; omega) (growslice_fits (by omega) (by rw [hz2]; omega))
    have hge := grownCap_ge w (0 + n) 0 3
    have hle := grownCap_le_maxLen w (0 + n) 0 3 (by unfold maxLen; omega)
    obtain ⟨G, hG⟩ : ∃ G, G = grownCap w (0 + n) 0 3 := ⟨_, rfl⟩
    rw [← hG] at h hge hle
    have hm := World.ownsRow_made (base := w.heap.size) (e := 3) (size := 1) w.drew (([] : List Value).toArray ++ Builtin.zeroCells (Value.int .i64 0).cells n ++ Builtin.zeroCells (Value.int .i64 0).cells (G - (0 + n))) G (Nat.le_refl _) hle (by simp [Builtin.zeroCells, Value.cells]; omega)
    have hb : Below w.heap.size w (w.drew.alloc (.cells (([] : List Value).toArray ++ Builtin.zeroCells (Value.int .i64 0).cells n ++ Builtin.zeroCells (Value.int .i64 0).cells (G - (0 + n))) 3)) := (below_drewN (Below.refl _ _) 1).alloc (Nat.le_refl _) _
    obtain ⟨W2, hW2⟩ : ∃ W2, W2 = w.drew.alloc (.cells (([] : List Value).toArray ++ Builtin.zeroCells (Value.int .i64 0).cells n ++ Builtin.zeroCells (Value.int .i64 0).cells (G - (0 + n))) 3) := ⟨_, rfl⟩
    rw [← hW2] at h hm hb
    have hsz : (w.drew).heap.size = w.heap.size := rfl
    rw [hsz] at hm
    have HM := hid hm
    have hz : 0 + n = n := by omega
    rw [hz] at h hge
    have hn0 : (0 : Int) < (n : Int) := by omega
    have hG63 : G ≤ 9223372036854775807 := by unfold maxLen at hle; omega
    have HH := hid h
    clear hG hW2 hm hold h
    go_enter Try.func72, Try.ntmps72
    go_wp2_with (at_builtin; refine Lib.wpList_append_run _ rfl _ _ _ _ rfl _ _ rfl rfl _ _ (HH.out _) ?_)
    go_ret
    exact ⟨_, rfl, HM.out, hb⟩

theorem flat_succ (rows : List (List Int)) (k : Nat) (h : k < rows.length) : (rows.take (k + 1)).flatten = (rows.take k).flatten ++ rows.getD k [] := by
  rw [List.take_succ_eq_append_getElem h, List.flatten_append]; simp [List.getD, h]
theorem flat_len (rows : List (List Int)) : rows.flatten.length = tot rows := by
  induction rows with
  | nil => rfl
  | cons r t ih => simp only [List.flatten_cons, List.length_append, tot, ih]
theorem IL_app (xs ys : List Int) : IL (xs ++ ys) = IL xs ++ IL ys := by simp [IL]

set_option maxRecDepth 100000 in
set_option maxHeartbeats 2000000 in
theorem concat_any (A : Option Addr) (c : Nat) (rows : List (List Int)) (w : World) (hr : rows.length ≤ 1000) (ht : tot rows ≤ 1000) (hp : ∀ j, j < rows.length → 0 < (rows.getD j []).length) (hA : Cells2 w A rows) :
    Calls Try.prog 52 #[.slice A rows.length c] w fun e w' => ∃ A' c', e = .returned (.slice A' rows.flatten.length c') ∧ Own w' w.heap.size A' c' rows.flatten ∧ Below w.heap.size w w' := by
  obtain ⟨i0, hi, hz0, hz1, hz2⟩ := info_parts Try.infoInt
  obtain ⟨P, C, hA1, hA2⟩ := hA
  have HP := hid hp; have HA1 := hid hA1; have HA2 := hid hA2
  clear hp hA1 hA2
  go_enter Try.func52, Try.ntmps52
  go_wp2_with fail
  go_loop [3, 11] (fun s i => ∃ k : Nat, k ≤ rows.length ∧ i = .int .i64 k ∧ s = .int .i64 (tot (rows.take k) : Int)) (fun _ i => rows.length - (intOf i).toNat)
  case atStart => exact ⟨0, Nat.zero_le _, rfl, by simp [tot]⟩
  case round =>
    obtain ⟨k, hk, rfl, rfl⟩ := hrel
    by_cases hlt : k < rows.length
    · obtain ⟨b, o, rfl, hcc⟩ := HA1.out (by omega)
      have hck := hcc k hlt
      have hts := tot_take_succ rows k hlt
      have htl := tot_take_le rows (k + 1)
      obtain ⟨m, hm⟩ : ∃ m, m = (rows.getD k []).length := ⟨_, rfl⟩
      obtain ⟨s, hs⟩ : ∃ s, s = tot (rows.take k) := ⟨_, rfl⟩
      rw [← hm] at hck hts
      rw [← hs] at hts ⊢
      have HTS := hid hts
      have hmb : s + m ≤ 1000 := by omega
      clear hcc hm hs htl hts
      go_wp2_with fail
      go_round
      case rel => exact ⟨k + 1, by omega, by go_num, by rw [HTS.out]; go_num⟩
      case measure => simp [intOf]; omega
    · have hkn : k = rows.length := by omega
      subst hkn
      have e : rows.take rows.length = rows := List.take_of_length_le (Nat.le_refl _)
      rw [e]
      clear e
      obtain ⟨T, hT⟩ : ∃ T, T = tot rows := ⟨_, rfl⟩
      rw [← hT] at ht ⊢
      have HT := hid hT
      clear hT
      go_wp2_with (go_at_call 72; refine (grow0_any T _ (by omega)).mono ?_; rintro e w1 ⟨v1, rfl, o1, b1⟩)
      go_loopw [6, 27] (fun v i wr => ∃ k : Nat, k ≤ rows.length ∧ i = .int .i64 k ∧ wr.ownsRow w.heap.size 3 1 v (rows.take k).flatten.length (IL (rows.take k).flatten) ∧ Below w.heap.size w wr) (fun _ i _ => rows.length - (intOf i).toNat)
      case atStart => exact ⟨0, Nat.zero_le _, rfl, by simpa [IL] using o1, b1⟩
      case round =>
        obtain ⟨k, hk, rfl, hown, hbel⟩ := hrel
        by_cases hlt : k < rows.length
        · obtain ⟨b, o, rfl, hcc⟩ := HA1.out (by omega)
          have hck0 := hcc k hlt
          have hck := (hbel.cell (World.block_lt_of_cell? w _ hck0)).trans hck0
          have hpk := HP.out k hlt
          obtain ⟨b3, o3, hP3, hr3⟩ := HA2.out k hlt hpk
          rw [hP3] at hck
          have hfs := flat_succ rows k hlt
          have hfl := flat_len (rows.take k)
          have hts := tot_take_succ rows k hlt
          have htl := tot_take_le rows (k + 1)
          obtain ⟨r, hre⟩ : ∃ r, r = rows.getD k [] := ⟨_, rfl⟩
          rw [← hre] at hck hfs hr3 hpk hts
          have hrl : (rows.take k).flatten.length + r.length ≤ 1000 := by have := HT.out; omega
          have HFS := hid hfs
          have hnews : ∀ W, Below w.heap.size w W → ∀ j u, (IL r)[j]? = some u → W.cell? ((⟨b3, o3, none⟩ : Addr).add j) = some u := by
            intro W hW j u hu
            have hj : j < r.length := by
              have := (List.getElem?_eq_some_iff.1 hu).1
              simpa [IL] using this
            have h := hr3 j hj
            rw [IL_get r j hj] at hu
            have e : (⟨b3, o3, none⟩ : Addr).add j = ⟨b3, o3 + j, none⟩ := by unfold Addr.add; split <;> simp_all
            rw [e, hW.cell (World.block_lt_of_cell? w _ h), h, ← hu]
          have HN := hid hnews
          have HOW := hid hown
          have hrn : (IL r).length = r.length * 1 := by simp [IL]
          have HRN := hid hrn
          clear hcc hck0 hP3 hr3 hre hfs hfl hts htl hnews hown hrn
          obtain ⟨f, hf⟩ : ∃ f, f = (rows.take k).flatten := ⟨_, rfl⟩
          rw [← hf] at HOW HFS hrl
          have HF := hid hf
          clear hf
          go_wp2_with (at_builtin; refine wpList_append_own _ rfl _ _ 28 rfl w.heap.size 3 i0 (.int .i64 0) 1 8 Try.underlying28 hi hz0 hz1 hz2 rfl (by decide) _ _ _ rfl HOW.out ⟨b3, o3, none⟩ r.length (C k) (IL r) rfl HRN.out (HN.out _ hbel) (IL_oneC r) (by unfold maxLen; omega) (by omega) hbel.size ?_)
          intro v' w2 hown' hgrow _
          have hb1 : Below w.heap.size w w2 := hbel.grown hgrow hbel.size (fun q hq => (HOW.out.lt q hq).1)
          have hown2 : w2.ownsRow w.heap.size 3 1 v' (f ++ r).length (IL (f ++ r)) := by rw [IL_app, List.length_append]; exact hown'
          rw [← HFS.out] at hown2
          have HO2 := hid hown2
          clear hown' hgrow hown2
          go_wp2_with fail
          go_roundw
          case rel => exact ⟨k + 1, by omega, by go_num, HO2.out, hb1⟩
          case measure => simp [intOf]; omega
        · have hkn : k = rows.length := by omega
          subst hkn
          rw [List.take_of_length_le (Nat.le_refl _)] at hown
          obtain ⟨A', c', rfl, ho'⟩ := own_form hown rfl
          clear hown
          go_wp2_with fail
          go_ret
          exact ⟨A', c', rfl, ho', hbel⟩
end Go.Proofs.Ytiebnnchaopbkaa
