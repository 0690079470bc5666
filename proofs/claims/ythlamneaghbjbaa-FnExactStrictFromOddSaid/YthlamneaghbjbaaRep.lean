/-
  Contracts: the library's product of a one and a small number; a row of one number repeated.
-/
import Derived.Test.YthlamneaghbjbaaCB
import Derived.Test.YthlamneaghbjbaaCutI
import Derived.Laws.CopyOwn
import Derived.Deep.RegionLaw
namespace Go.Proofs.Ythlamneaghbjbaa
open Go.RowKit

theorem and_low : ∀ n : Nat, n < 31 → bits BinOp.and IntKind.u64 (n : Int) 4294967295 = n := by decide +kernel
set_option maxRecDepth 100000 in
set_option maxHeartbeats 1000000 in
theorem mul64_one (n : Nat) (w : World) (hn : n ≤ 30) :
    Calls Try.prog 206 #[.int .u64 1, .int .u64 n] w fun e w' => e = .returned (.tuple #[.int .u64 0, .int .u64 n]) ∧ w = w' := by
  have h1 : bits BinOp.and IntKind.u64 1 4294967295 = 1 := and_low 1 (by omega)
  have h0 : bits BinOp.and IntKind.u64 0 4294967295 = 0 := and_low 0 (by omega)
  have h2 := and_low n (by omega)
  have h3 : (n : Int) / 4294967296 = 0 := by omega
  have h4 : IntKind.u64.wrap (n : Int) = n := Int.emod_eq_of_lt (by omega) (by show (n : Int) < 18446744073709551616; omega)
  go_enter Try.func206, Try.ntmps206
  go_wp2
  go_ret2
  exact ⟨rfl, rfl⟩

theorem mul_one_any (n : Nat) (w : World) (hn : n ≤ 30) :
    Calls Try.prog 183 #[.int .u64 1, .int .u64 n] w fun e w' => e = .returned (.tuple #[.int .u64 0, .int .u64 n]) ∧ w = w' := by
  have HM := hid fun W => mul64_one n W hn
  go_enter Try.func183, Try.ntmps183
  go_wp2_with (go_at_call 206; refine (HM.out _).mono ?_; rintro e w' ⟨rfl, rfl⟩)
  go_ret2
  exact ⟨rfl, rfl⟩

/-- n cells, the first k of them o. -/
def rpV (o : Int) (n k : Nat) : List Value := List.replicate k (.int .i64 o) ++ List.replicate (n - k) (.int .i64 0)
theorem rpV_len (o : Int) (n k : Nat) (h : k ≤ n) : (rpV o n k).length = n := by simp [rpV]; omega
theorem rpV_splice (o : Int) (n k m : Nat) (_ : k + m ≤ n) : splice (rpV o n k) k (List.replicate m (.int .i64 o)) = rpV o n (k + m) := by
  unfold splice rpV
  rw [List.take_left' (by simp), List.length_replicate, List.drop_append, List.drop_of_length_le (by simp), List.length_replicate, show k + m - k = m by omega, List.nil_append, List.drop_replicate, ← List.append_assoc, List.replicate_append_replicate]
  congr 2
  omega
theorem rpV_first (o : Int) (n : Nat) (_ : 1 ≤ n) : splice (List.replicate n (Value.int .i64 0)) 0 [.int .i64 o] = rpV o n 1 := by
  have := rpV_splice o n 0 1 (by omega)
  simpa [rpV] using this
theorem rpV_own {w : World} {B g n : Nat} {o : Int} (hB : B ≤ g) (hn : n ≤ 1000) (hh : w.heap[g]? = some (.cells (rpV o n n).toArray 3 (0, 0))) : Own w B (some ⟨g, 0, none⟩) n (List.replicate n o) := by
  unfold Own
  refine ⟨by simp [IL], ?_⟩
  refine .inr ⟨g, n, (rpV o n n).toArray, by simp, hB, hh, by simp, by unfold maxLen; omega, by simp [rpV], ?_⟩
  simp [rpV, IL]

set_option maxRecDepth 100000 in
set_option maxHeartbeats 2000000 in
theorem repeat1_any (b : Nat) (o : Int) (n c : Nat) (w : World) (h1 : 1 ≤ n) (hn : n ≤ 30) (hc : w.cell? ⟨b, 0, none⟩ = some (.int .i64 o)) :
    Calls Try.prog 136 #[.slice (some ⟨b, 0, none⟩) 1 c, .int .i64 n] w fun e w' => ∃ A' c', e = .returned (.slice A' n c') ∧ Own w' w.heap.size A' c' (List.replicate n o) ∧ Below w.heap.size w w' := by
  obtain ⟨i0, hi, hz0, hz1, hz2⟩ := info_parts Try.infoInt
  have HM := hid fun W => mul_one_any n W hn
  have hmk := run_make_row' (P := Try.prog) 22 3 (.int .i64 0) 8 Try.underlying22 Try.infoInt rfl .i64 .i64 n (by omega) (by omega)
  have hneg : ¬ (n : Int) < 0 := by omega
  have hsz : (Try.prog.info? 3).map (·.size) = some 1 := by rw [hi]; simp [hz1]
  have HSZ := hid hsz; clear hsz
  have hbig : ¬ (9223372036854775807 : Int) < n := by omega
  obtain ⟨Z, hZ⟩ : ∃ Z, Z = madeCells #[Value.int .i64 0] n := ⟨_, rfl⟩
  have hg0 : (w.alloc (.cells Z 3)).heap[w.heap.size]? = some (.cells (List.replicate n (Value.int .i64 0)).toArray 3 (0, 0)) := by
    rw [heap_alloc_new, hZ]
    congr 2
    apply Array.toList_inj.1
    rw [toList_madeCells_one]
  rw [← hZ] at hmk
  have HG0 := hid hg0
  have hB0 : Below w.heap.size w (w.alloc (.cells Z 3)) := (Below.refl _ _).alloc (Nat.le_refl _) _
  have HB0 := hid hB0
  have hbl := World.block_lt_of_cell? w _ hc
  have HSR := hid (show ∀ j v, [Value.int .i64 o][j]? = some v → (w.alloc (.cells Z 3)).cell? ((⟨b, 0, none⟩ : Addr).add j) = some v from fun j v hj => by
    match j, hj with
    | 0, h =>
      simp at h; subst h
      exact (hB0.cell (p := ⟨b, 0, none⟩) hbl).trans hc)
  have hrun := run_copy_row (P := Try.prog) (w.alloc (.cells Z 3)) 22 22 3 3 w.heap.size 0 n n ⟨b, 0, none⟩ 1 c (List.replicate n (Value.int .i64 0)).toArray 3 [.int .i64 o] Try.underlying22 HSZ.out HG0.out (by show 1 = min 1 n; omega) HSR.out (by simp; omega) (one_cell o)
  obtain ⟨w2, hw2⟩ : ∃ w2, w2 = (w.alloc (.cells Z 3)).setRow w.heap.size ((List.replicate n (Value.int .i64 0)).toArray.toList.take 0 ++ [Value.int .i64 o] ++ (List.replicate n (Value.int .i64 0)).toArray.toList.drop (0 + [Value.int .i64 o].length)).toArray := ⟨_, rfl⟩
  rw [← hw2] at hrun
  have hg2 : w2.heap[w.heap.size]? = some (.cells (rpV o n 1).toArray 3 (0, 0)) := by
    rw [hw2, ← rpV_first o n h1]
    have := setRow_heap (w.alloc (.cells Z 3)) w.heap.size _ ((List.replicate n (Value.int .i64 0)).toArray.toList.take 0 ++ [Value.int .i64 o] ++ (List.replicate n (Value.int .i64 0)).toArray.toList.drop (0 + [Value.int .i64 o].length)).toArray _ _ HG0.out
    unfold splice
    rw [List.append_assoc] at this
    exact this
  have hb2 : Below w.heap.size w w2 := by rw [hw2]; exact below_setRow HB0.out (Nat.le_refl _) _
  have HG2 := hid hg2
  have hrun2 : (Builtin.copy_ #[22, 22] 3 #[.slice (some ⟨w.heap.size, 0, none⟩) n n, .slice (some ⟨b, 0, none⟩) 1 c]).run Try.prog (w.alloc (.cells Z 3)) = .ok (.int .i64 1) w2 := hrun
  clear hZ hg0 hB0 hrun hg2 hw2
  go_enter Try.func136, Try.ntmps136
  go_wp2_with (go_at_call 183; refine (HM.out _).mono ?_; rintro e w' ⟨rfl, rfl⟩)
  clear hmk hrun2
  go_loopw [8] (fun i wr => ∃ k : Nat, 1 ≤ k ∧ k ≤ n ∧ i = .int .i64 k ∧ Hid (wr.heap[w.heap.size]? = some (.cells (rpV o n k).toArray 3 (0, 0))) ∧ Below w.heap.size w wr) (fun i _ => n - (intOf i).toNat)
  case atStart => exact ⟨1, Nat.le_refl _, h1, rfl, HG2, hb2⟩
  case round =>
    obtain ⟨k, hk1, hk, rfl, HG, hbel⟩ := hrel
    by_cases hlt : k < n
    · obtain ⟨m, hm⟩ : ∃ m, m = Nat.min k (n - k) := ⟨_, rfl⟩
      have hmk : m ≤ k := by rw [hm]; exact Nat.min_le_left _ _
      have hmn : m ≤ n - k := by rw [hm]; exact Nat.min_le_right _ _
      have hm1 : 1 ≤ m := by rw [hm]; exact Nat.le_min.2 ⟨hk1, by omega⟩
      have HM2 := hid hm
      have hcut1 : ∀ W, (Instr.slice 22 (.slice (some ⟨w.heap.size, 0, none⟩) n n) (some (.int .i64 (k : Int))) none none).run Try.prog W = .ok (.slice (some ⟨w.heap.size, k, none⟩) (n - k) (n - k)) W := fun W => by
        rw [runI_cut_lo _ _ _ _ hk]
        congr 2
        unfold cutI; rw [if_neg (by omega), Nat.mul_one, Option.map_some]; congr 1; unfold Addr.add; split <;> simp_all
      have hcut2 := fun W => runI_cut_hi (some ⟨w.heap.size, 0, none⟩) n n k hk W
      have HSRC := hid (show ∀ W : World, W.heap[w.heap.size]? = some (.cells (rpV o n k).toArray 3 (0, 0)) → ∀ j v, (List.replicate m (Value.int .i64 o))[j]? = some v → W.cell? ((⟨w.heap.size, 0, none⟩ : Addr).add j) = some v from fun W hW j v hj => by
        have hjm : j < m := by have := (List.getElem?_eq_some_iff.1 hj).1; simpa using this
        have e : (⟨w.heap.size, 0, none⟩ : Addr).add j = ⟨w.heap.size, j, none⟩ := by unfold Addr.add; split <;> simp_all
        rw [e, cell_of_row _ _ j _ _ (0, 0) hW, ← hj, List.getElem?_toArray]
        unfold rpV
        rw [List.getElem?_append_left (by simp; omega), List.getElem?_replicate, List.getElem?_replicate, if_pos (by omega), if_pos hjm])
      have HSP := hid (rpV_splice o n k m (by omega))
      clear hm
      go_wp2_with fail
      go_region_law (refine step_copy_splice rfl (.tmp 41) (.tmp 44) 22 22 rfl 3 Try.underlying22 HSZ.out (some ⟨w.heap.size, k, none⟩) (some ⟨w.heap.size, 0, none⟩) (n - k) (n - k) k n (by simp [Act.eval, Act.put]) (by simp [Act.eval, Act.put]) w.heap.size k (rpV o n k) 3 (by exact HG.out) (List.replicate m (.int .i64 o)) (by rw [List.length_replicate]; exact HM2.out) (fun _ => ⟨rfl, _, rfl, HSRC.out _ (by exact HG.out)⟩) (by rw [List.length_replicate, rpV_len o n k hk]; omega) (fun v hv => by rw [(List.mem_replicate.1 hv).2]; rfl) w.heap.size w (by first | exact hbel.drew | exact below_drewN hbel _) (Nat.le_refl _) ?_; intro w4 hg4 hb4)
      rw [HSP.out] at hg4
      have HG4 := hid hg4.out
      clear hg4
      go_wp2_with fail
      simp only [Act.put, List.getElem_toArray, List.getElem_cons_succ, List.getElem_cons_zero, List.setIfInBounds_toArray, List.set_cons_zero, List.set_cons_succ]
      go_wp2_with fail
      rw [show IntKind.i64.wrap ((k : Int) + (m : Int)) = ((k + m : Nat) : Int) by rw [IntWalk.i64_in _ (by omega)]; omega]
      go_roundw
      case rel => exact ⟨k + m, by omega, by omega, rfl, HG4, hb4⟩
      case measure => simp only [intOf, Int.toNat_natCast]; omega
    · have hg := HG.out
      rw [show k = n by omega] at hg
      have HO := hid (rpV_own (B := w.heap.size) (n := n) (Nat.le_refl _) (by omega) hg)
      clear hg
      go_wp2_with fail
      go_ret
      exact ⟨_, _, rfl, HO.out, hbel⟩
end Go.Proofs.Ythlamneaghbjbaa
