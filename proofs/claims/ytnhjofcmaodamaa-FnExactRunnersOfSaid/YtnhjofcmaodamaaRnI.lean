/-
  Contracts: the rows of a runner, and RunnersOf, of the program.
-/
import Derived.Test.YtnhjofcmaodamaaRnMath
import Derived.Test.YtnhjofcmaodamaaSetMath
namespace Go.Proofs.Ytnhjofcmaodamaa
open Go.RowKit

def rwL (f : Nat → Bool) (k : Nat) : List Int := ((List.range k).filter f).map fun r : Nat => (r : Int)
theorem rwL_t {f : Nat → Bool} {k : Nat} (h : f k = true) : rwL f (k + 1) = rwL f k ++ [(k : Int)] := by
  unfold rwL; rw [List.range_succ, List.filter_append, List.map_append, List.filter_cons_of_pos h]; rfl
theorem rwL_f {f : Nat → Bool} {k : Nat} (h : f k = false) : rwL f (k + 1) = rwL f k := by
  unfold rwL; rw [List.range_succ, List.filter_append, List.filter_cons_of_neg (by rw [h]; exact Bool.false_ne_true), List.filter_nil, List.append_nil]
theorem rwL_len (f : Nat → Bool) (k : Nat) : (rwL f k).length ≤ k := by
  unfold rwL
  rw [List.length_map]
  have := List.length_filter_le f (List.range k)
  rw [List.length_range] at this; exact this

theorem Try.infoBool : (Try.prog.info? 4).map (fun i => i.size) = some 1 := by kernel_rfl
theorem run_index_rn (f : Nat → Bool) (k : Nat) (hk : k < 36) (w : World) : (Instr.index 74 (.agg (ca 36 (bitV f))) (.int .i64 (k : Int))).run Try.prog w = .ok (.bool (f k)) w := by
  have hix : (ca 36 (bitV f))[k]? = some (.bool (f k)) := ca_get 36 (bitV f) k hk
  cases hi : Try.prog.info? 4 with
  | none => have h := Try.infoBool; rw [hi] at h; cases h
  | some i =>
    have hs : i.size = 1 := by have h := Try.infoBool; rw [hi] at h; injection h
    simp [Instr.index, asIntOf, run_underlying Try.underlying74, hk, sizeOf, typeInfo, part, isAgg, run_underlying Try.underlying4, hi, hs, hix]

set_option maxRecDepth 100000 in
set_option maxHeartbeats 2000000 in
theorem rows_any (f : Nat → Bool) (w : World) :
    Calls Try.prog 115 #[rnV f] w fun e w' => ∃ A' c', e = .returned (.slice A' (rwL f 36).length c') ∧ Own w' w.heap.size A' c' (rwL f 36) ∧ Below w.heap.size w w' := by
  obtain ⟨i0, hi, hz0, hz1, hz2⟩ := info_parts Try.infoInt
  unfold rnV
  have X1 := hid (Blk.new w 74 36 (bitV f))
  have b1 : Below w.heap.size w (w.alloc (.cells (ca 36 (bitV f)) 74)) := (Below.refl _ _).alloc (Nat.le_refl _) _
  obtain ⟨w1, hw1⟩ : ∃ w1, w1 = w.alloc (.cells (ca 36 (bitV f)) 74) := ⟨_, rfl⟩
  have hs1 : w1.heap.size = w.heap.size + 1 := by rw [hw1]; simp
  have HW := hid hw1
  rw [← hw1] at b1
  clear hw1
  go_enter Try.func115, Try.ntmps115
  go_wp2_with (refine wpList_load_row rfl 74 _ rfl w.heap.size rfl 74 _ (0, 0) _ X1.out Try.underlying74 rfl (by rw [ca_size]; exact Try.rnSize) ?_)
  rw [← HW.out]
  go_loopw [3, 7] (fun v i wr => ∃ k : Nat, k ≤ 36 ∧ i = .int .i64 k ∧ Hid (wr.ownsRow w.heap.size 3 1 v (rwL f k).length (IL (rwL f k))) ∧ Below w.heap.size w wr ∧ w1.heap.size ≤ wr.heap.size) (fun _ i _ => 36 - (intOf i).toNat)
  case atStart => exact ⟨0, by omega, rfl, hid (World.ownsRow_nil _ _ _ _), b1, Nat.le_refl _⟩
  case round =>
    obtain ⟨k, hk, rfl, HO, hbel, hsz⟩ := hrel
    by_cases hlt : k < 36
    · have hix := fun W => run_index_rn f k hlt W
      have hll := rwL_len f k
      cases hf : f k
      · have HS := hid (rwL_f hf)
        rw [hf] at hix
        clear hf
        go_wp2_with fail
        go_roundw
        case rel => exact ⟨k + 1, by omega, by go_num, by rw [HS.out]; exact HO, hbel, hsz⟩
        case measure => simp [intOf]; omega
      · have HS := hid (rwL_t hf)
        rw [hf] at hix
        obtain ⟨L, hL⟩ : ∃ L, L = rwL f k := ⟨_, rfl⟩
        rw [← hL] at HO HS hll
        clear hf hL
        go_wp2_with (at_builtin; refine wpList_append_own _ rfl _ _ 22 rfl w.heap.size 3 i0 (.int .i64 0) 1 8 Try.underlying22 hi hz0 hz1 hz2 rfl (by decide) _ _ _ rfl (HO.out.alloc _) ⟨wr.heap.size, 0, none⟩ 1 1 [.int .i64 (k : Int)] rfl rfl one_at (one_cell _) (by unfold maxLen; omega) (by omega) (by simp; omega) ?_)
        intro v' w5 hown' hgrow _
        have hb5 : Below w.heap.size w w5 := (hbel.alloc hbel.size _).grown hgrow (by have := hbel.size; simp; omega) (fun q hq => (HO.out.lt q hq).1)
        have hsz5 : w1.heap.size ≤ w5.heap.size := by have h := hgrow.size; simp at h; omega
        have HO5 := hid (own_snoc HS.out hown')
        clear hown' hgrow
        go_wp2_with fail
        go_roundw
        case rel => exact ⟨k + 1, by omega, by go_num, HO5, hb5, hsz5⟩
        case measure => simp [intOf]; omega
    · have hkl : k = 36 := by omega
      subst hkl
      obtain ⟨A', c', rfl, ho⟩ := own_form HO.out rfl
      go_wp2_with fail
      go_ret
      exact ⟨A', c', rfl, ho, hbel⟩
end Go.Proofs.Ytnhjofcmaodamaa
