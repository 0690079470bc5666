/-
  Several texts in one.
-/
import Derived.Test.YthkkiakfmbnfeaaR06
import Derived.Lib.AppendZerosOnto
import Derived.Test.YthkkiakfmbnfeaaCC
import Derived.Test.YthkkiakfmbnfeaaCA
import Derived.Test.YthkkiakfmbnfeaaR01
/-
  Contracts: slices.Grow of nil and slices.Concat at rows of ints, none of them empty.
-/
namespace Go.Proofs.Ythkkiakfmbnfeaa
open Go.RowKit

set_option maxRecDepth 100000 in
set_option maxHeartbeats 1000000 in
theorem grow0_any (n : Nat) (w : World) (hn : n ≤ 1048576) :
    Calls Try.prog 72 #[.slice none 0 0, .int .i64 n] w fun e w' => ∃ v, e = .returned v ∧ w'.ownsRow w.heap.size 3 1 v 0 [] ∧ Below w.heap.size w w' := by
  obtain ⟨i0, hi, hz0, hz1, hz2⟩ := info_parts Try.infoInt
  by_cases h0 : n = 0
  · subst h0
    go_enter Try.func72, Try.ntmps72
    go_wp2_with fail
    go_ret
    exact ⟨_, rfl, World.ownsRow_nil _ _ _ _, Below.refl _ _⟩
  · have hold : (Builtin.firstCells i0.size 0 (.slice none 0 0)).run Try.prog w.drew = .ok ([] : List Value).toArray w.drew := run_firstCells_none w.drew i0.size 0 0 0
    have h := fun ty => Lib.run_append_grow_zeros w 22 3 ty 3 i0 (.int .i64 0) .i64 .i64 Try.underlying22 Try.underlying3 hi hz0 none 0 0 [] hold n (by omega) (by omega) (by omega) (by omega) (by rw [hz2]; omega) (growslice_fits (by omega) (by rw [hz2]; omega))
    have hge := grownCap_ge w (0 + n) 0 3
    have hle := grownCap_le_maxLen w (0 + n) 0 3 (by unfold maxLen; omega)
    obtain ⟨G, hG⟩ : ∃ G, G = grownCap w (0 + n) 0 3 := ⟨_, rfl⟩
    rw [← hG] at h hge hle
    have hm := World.ownsRow_made (base := w.heap.size) (e := 3) (size := 1) w.drew (([] : List Value).toArray ++ Builtin.zeroCells (Value.int .i64 0).cells n ++ Builtin.zeroCells (Value.int .i64 0).cells (G - (0 + n))) G (Nat.le_refl _) hle (by simp [Builtin.zeroCells, Value.cells]; omega)
    have hb : Below w.heap.size w (w.drew.alloc (.cells (([] : List Value).toArray ++ Builtin.zeroCells (Value.int .i64 0).cells n ++ Builtin.zeroCells (Value.int .i64 0).cells (G - (0 + n))) 3)) := (below_drewN (Below.refl _ _) 1).alloc (Nat.le_refl _) _
    obtain ⟨W2, hW2⟩ : ∃ W2, W2 = w.drew.alloc (.cells (([] : List Value).toArray ++ Builtin.zeroCells (Value.int .i64 0).cells n ++ Builtin.zeroCells (Value.int .i64 0).cells (G - (0 + n))) 3) := ⟨_, rfl⟩
    rw [← hW2] at h hm hb
    have hsz : (w.drew).heap.size = w.heap.size := rfl
    rw [hsz] at hm
    have HM := hid hm
    have hz : 0 + n = n := by omega
    rw [hz] at h hge
    have hn0 : (0 : Int) < (n : Int) := by omega
    have hG63 : G ≤ 9223372036854775807 := by unfold maxLen at hle; omega
    have HH := hid h
    clear hG hW2 hm hold h
    go_enter Try.func72, Try.ntmps72
    go_wp2_with (at_builtin; refine Lib.wpList_append_run _ rfl _ _ _ _ rfl _ _ rfl rfl _ _ (HH.out _) ?_)
    go_ret
    exact ⟨_, rfl, HM.out, hb⟩

theorem flat_succ (rows : List (List Int)) (k : Nat) (h : k < rows.length) : (rows.take (k + 1)).flatten = (rows.take k).flatten ++ rows.getD k [] := by
  rw [List.take_succ_eq_append_getElem h, List.flatten_append]; simp [List.getD, h]
theorem flat_len (rows : List (List Int)) : rows.flatten.length = tot rows := by
  induction rows with
  | nil => rfl
  | cons r t ih => simp only [List.flatten_cons, List.length_append, tot, ih]
theorem IL_app (xs ys : List Int) : IL (xs ++ ys) = IL xs ++ IL ys := by simp [IL]

set_option maxRecDepth 100000 in
set_option maxHeartbeats 2000000 in
theorem concat_any (A : Option Addr) (c : Nat) (rows : List (List Int)) (w : World) (hr : rows.length ≤ 1000) (ht : tot rows ≤ 1000) (hp : ∀ j, j < rows.length → 0 < (rows.getD j []).length) (hA : Cells2 w A rows) :
    Calls Try.prog 49 #[.slice A rows.length c] w fun e w' => ∃ A' c', e = .returned (.slice A' rows.flatten.length c') ∧ Own w' w.heap.size A' c' rows.flatten ∧ Below w.heap.size w w' := by
  obtain ⟨i0, hi, hz0, hz1, hz2⟩ := info_parts Try.infoInt
  obtain ⟨P, C, hA1, hA2⟩ := hA
  have HP := hid hp; have HA1 := hid hA1; have HA2 := hid hA2
  clear hp hA1 hA2
  go_enter Try.func49, Try.ntmps49
  go_wp2_with fail
  go_loop [3, 11] (fun s i => ∃ k : Nat, k ≤ rows.length ∧ i = .int .i64 k ∧ s = .int .i64 (tot (rows.take k) : Int)) (fun _ i => rows.length - (intOf i).toNat)
  case atStart => exact ⟨0, Nat.zero_le _, rfl, by simp [tot]⟩
  case round =>
    obtain ⟨k, hk, rfl, rfl⟩ := hrel
    by_cases hlt : k < rows.length
    · obtain ⟨b, o, rfl, hcc⟩ := HA1.out (by omega)
      have hck := hcc k hlt
      have hts := tot_take_succ rows k hlt
      have htl := tot_take_le rows (k + 1)
      obtain ⟨m, hm⟩ : ∃ m, m = (rows.getD k []).length := ⟨_, rfl⟩
      obtain ⟨s, hs⟩ : ∃ s, s = tot (rows.take k) := ⟨_, rfl⟩
      rw [← hm] at hck hts
      rw [← hs] at hts ⊢
      have HTS := hid hts
      have hmb : s + m ≤ 1000 := by omega
      clear hcc hm hs htl hts
      go_wp2_with fail
      go_round
      case rel => exact ⟨k + 1, by omega, by go_num, by rw [HTS.out]; go_num⟩
      case measure => simp [intOf]; omega
    · have hkn : k = rows.length := by omega
      subst hkn
      have e : rows.take rows.length = rows := List.take_of_length_le (Nat.le_refl _)
      rw [e]
      clear e
      obtain ⟨T, hT⟩ : ∃ T, T = tot rows := ⟨_, rfl⟩
      rw [← hT] at ht ⊢
      have HT := hid hT
      clear hT
      go_wp2_with (go_at_call 72; refine (grow0_any T _ (by omega)).mono ?_; rintro e w1 ⟨v1, rfl, o1, b1⟩)
      go_loopw [6, 27] (fun v i wr => ∃ k : Nat, k ≤ rows.length ∧ i = .int .i64 k ∧ wr.ownsRow w.heap.size 3 1 v (rows.take k).flatten.length (IL (rows.take k).flatten) ∧ Below w.heap.size w wr) (fun _ i _ => rows.length - (intOf i).toNat)
      case atStart => exact ⟨0, Nat.zero_le _, rfl, by simpa [IL] using o1, b1⟩
      case round =>
        obtain ⟨k, hk, rfl, hown, hbel⟩ := hrel
        by_cases hlt : k < rows.length
        · obtain ⟨b, o, rfl, hcc⟩ := HA1.out (by omega)
          have hck0 := hcc k hlt
          have hck := (hbel.cell (World.block_lt_of_cell? w _ hck0)).trans hck0
          have hpk := HP.out k hlt
          obtain ⟨b3, o3, hP3, hr3⟩ := HA2.out k hlt hpk
          rw [hP3] at hck
          have hfs := flat_succ rows k hlt
          have hfl := flat_len (rows.take k)
          have hts := tot_take_succ rows k hlt
          have htl := tot_take_le rows (k + 1)
          obtain ⟨r, hre⟩ : ∃ r, r = rows.getD k [] := ⟨_, rfl⟩
          rw [← hre] at hck hfs hr3 hpk hts
          have hrl : (rows.take k).flatten.length + r.length ≤ 1000 := by have := HT.out; omega
          have HFS := hid hfs
          have hnews : ∀ W, Below w.heap.size w W → ∀ j u, (IL r)[j]? = some u → W.cell? ((⟨b3, o3, none⟩ : Addr).add j) = some u := by
            intro W hW j u hu
            have hj : j < r.length := by
              have := (List.getElem?_eq_some_iff.1 hu).1
              simpa [IL] using this
            have h := hr3 j hj
            rw [IL_get r j hj] at hu
            have e : (⟨b3, o3, none⟩ : Addr).add j = ⟨b3, o3 + j, none⟩ := by unfold Addr.add; split <;> simp_all
            rw [e, hW.cell (World.block_lt_of_cell? w _ h), h, ← hu]
          have HN := hid hnews
          have HOW := hid hown
          have hrn : (IL r).length = r.length * 1 := by simp [IL]
          have HRN := hid hrn
          clear hcc hck0 hP3 hr3 hre hfs hfl hts htl hnews hown hrn
          obtain ⟨f, hf⟩ : ∃ f, f = (rows.take k).flatten := ⟨_, rfl⟩
          rw [← hf] at HOW HFS hrl
          have HF := hid hf
          clear hf
          go_wp2_with (at_builtin; refine wpList_append_own _ rfl _ _ 22 rfl w.heap.size 3 i0 (.int .i64 0) 1 8 Try.underlying22 hi hz0 hz1 hz2 rfl (by decide) _ _ _ rfl HOW.out ⟨b3, o3, none⟩ r.length (C k) (IL r) rfl HRN.out (HN.out _ hbel) (IL_oneC r) (by unfold maxLen; omega) (by omega) hbel.size ?_)
          intro v' w2 hown' hgrow _
          have hb1 : Below w.heap.size w w2 := hbel.grown hgrow hbel.size (fun q hq => (HOW.out.lt q hq).1)
          have hown2 : w2.ownsRow w.heap.size 3 1 v' (f ++ r).length (IL (f ++ r)) := by rw [IL_app, List.length_append]; exact hown'
          rw [← HFS.out] at hown2
          have HO2 := hid hown2
          clear hown' hgrow hown2
          go_wp2_with fail
          go_roundw
          case rel => exact ⟨k + 1, by omega, by go_num, HO2.out, hb1⟩
          case measure => simp [intOf]; omega
        · have hkn : k = rows.length := by omega
          subst hkn
          rw [List.take_of_length_le (Nat.le_refl _)] at hown
          obtain ⟨A', c', rfl, ho'⟩ := own_form hown rfl
          clear hown
          go_wp2_with fail
          go_ret
          exact ⟨A', c', rfl, ho', hbel⟩
end Go.Proofs.Ythkkiakfmbnfeaa
/-
  Plain facts on residues of contents, and how many cells have each.
-/
namespace Go.Proofs.Ythkkiakfmbnfeaa
open Go.RowKit

theorem tmod_resid {x t : Int} (ht : 2 ≤ t ∧ t ≤ 6) : -t < Int.tmod x t ∧ Int.tmod x t < t ∧ Int.tmod (Int.tmod x t + t) t = x % t := by
  by_cases h : 0 ≤ x
  · rw [Int.tmod_eq_emod_of_nonneg h]
    have h1 := Int.emod_nonneg x (show t ≠ 0 by omega)
    have h2 := Int.emod_lt_of_pos x (show 0 < t by omega)
    refine ⟨by omega, h2, ?_⟩
    rw [Int.tmod_eq_emod_of_nonneg (by omega), Int.add_emod_right, Int.emod_emod]
  · have e : Int.tmod x t = -((-x) % t) := by
      rw [← Int.tmod_eq_emod_of_nonneg (show 0 ≤ -x by omega), Int.neg_tmod, Int.neg_neg]
    have h1 := Int.emod_nonneg (-x) (show t ≠ 0 by omega)
    have h2 := Int.emod_lt_of_pos (-x) (show 0 < t by omega)
    rw [e]
    refine ⟨by omega, by omega, ?_⟩
    rw [Int.tmod_eq_emod_of_nonneg (by omega), Int.add_emod_right]
    have : t = 2 ∨ t = 3 ∨ t = 4 ∨ t = 5 ∨ t = 6 := by omega
    rcases this with rfl | rfl | rfl | rfl | rfl <;> omega
theorem cntL_len (t : Nat) (L : List Int) : (cntL t L).length = t := fnRow_len _ _
theorem cntL_nil (t : Nat) : cntL t [] = fnRow t (fun _ => 0) := rowF_ext _ _ _ fun j _ => by simp [cnt]
theorem cnt_snoc (t : Nat) (L : List Int) (x : Int) (m : Nat) (hm : x % (t : Int) = (m : Int)) (j : Nat) : cnt t (L ++ [x]) j = if j = m then cnt t L j + 1 else cnt t L j := by
  unfold cnt
  rw [List.filter_append, List.length_append]
  by_cases h : j = m
  · subst h
    rw [if_pos rfl]
    simp only [List.filter_cons, List.filter_nil, hm, decide_true, if_true, List.length_singleton]
    omega
  · rw [if_neg h]
    have : ¬ x % (t : Int) = (j : Int) := by rw [hm]; omega
    simp only [List.filter_cons, List.filter_nil, this, decide_false, Bool.false_eq_true, if_false, List.length_nil]
    omega
theorem cntL_snoc (t : Nat) (L : List Int) (x : Int) (m : Nat) (hm : x % (t : Int) = (m : Int)) (hmt : m < t) : (cntL t L).set m ((cntL t L).getD m 0 + 1) = cntL t (L ++ [x]) := by
  unfold cntL
  rw [fnRow_get _ _ _ hmt, fnRow_set]
  refine rowF_ext _ _ _ fun j _ => ?_
  rw [cnt_snoc t L x m hm]
  by_cases h : j = m
  · subst h; simp
  · simp [h]
theorem cnt_bd (t : Nat) (L : List Int) (j : Nat) : 0 ≤ cnt t L j ∧ cnt t L j ≤ L.length := by
  unfold cnt
  have := List.length_filter_le (fun x => decide (x % (t : Int) = (j : Int))) L
  omega
/-- The contents, cell by cell. -/
def contL (xs : List Int) (k : Nat) : List Int := (rowsF xs contN k).flatten
theorem contL_succ (xs : List Int) (k : Nat) : contL xs (k + 1) = contL xs k ++ rowF contN k (xs.getD k 0).toNat := by
  unfold contL; rw [rowsF_succ, List.flatten_append]; simp
theorem contL_len {xs : List Int} (G : Good xs) (k : Nat) (hk : k ≤ xs.length) : (contL xs k).length ≤ 900 := by
  have := tot_rowsF xs contN G.le k hk
  have := G.len
  unfold contL; rw [flat_len]; omega
theorem rowF_mem {f : Nat → Nat → Int} {r n : Nat} {x : Int} (h : x ∈ rowF f r n) : ∃ c, c < n ∧ x = f r c := by
  unfold rowF at h
  obtain ⟨c, hc, rfl⟩ := List.mem_map.1 h
  exact ⟨c, List.mem_range.1 hc, rfl⟩
theorem contL_bd {xs : List Int} (G : Good xs) : ∀ (k : Nat), k ≤ xs.length → ∀ x, x ∈ contL xs k → -30 ≤ x ∧ x ≤ 30
  | 0, _, x, hx => absurd hx (by simp [contL, rowsF])
  | k + 1, hk, x, hx => by
    rw [contL_succ, List.mem_append] at hx
    rcases hx with hx | hx
    · exact contL_bd G k (by omega) x hx
    · obtain ⟨c, hc, rfl⟩ := rowF_mem hx
      have := G.le k (by omega)
      have := G.len
      unfold contN
      omega
theorem getD_mem' {L : List Int} {k : Nat} (h : k < L.length) : L.getD k 0 ∈ L := by
  rw [List.getD_eq_getElem?_getD, List.getElem?_eq_getElem h]; exact List.getElem_mem h
def resB (xs : List Int) (t : Int) : Bool := good xs && inB 2 6 t
def resF (xs : List Int) (t : Int) : List Int := if resB xs t then cntL t.toNat (contL xs xs.length) else []
theorem resF_f {xs : List Int} {t : Int} (h : resB xs t = false) : resF xs t = [] := by simp [resF, h]
theorem resF_t {xs : List Int} {t : Nat} (h : resB xs t = true) : resF xs t = cntL t (contL xs xs.length) := by simp [resF, h]
theorem bound_ResidueCounts (xs : List Int) (t : Int) : (resF xs t).length ≤ 1048576 := by
  unfold resF; split
  · rename_i h
    simp only [resB, Bool.and_eq_true] at h
    have := inB_iff.1 h.2
    rw [cntL_len]; omega
  · simp
end Go.Proofs.Ythkkiakfmbnfeaa
