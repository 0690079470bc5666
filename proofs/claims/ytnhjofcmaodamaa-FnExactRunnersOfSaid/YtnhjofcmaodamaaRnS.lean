/-
  Contracts: the rows of the runners, of the model.
-/
import Derived.Test.YtnhjofcmaodamaaRnMath
namespace Go.Proofs.Ytnhjofcmaodamaa
open Go.RowKit

theorem Try.infoInts2 : (Try.prog.info? 22).map (fun i => (i.zero, i.size, i.bytes)) = some (some (.slice none 0 0), 1, 24) := by kernel_rfl
theorem take_snoc' (ys : List Int) (k : Nat) (h : k < ys.length) : ys.take (k + 1) = ys.take k ++ [ys.getD k 0] := by
  rw [List.take_succ_eq_append_getElem h]; simp [List.getD, h]
theorem ownBlock_slice (A : Option Addr) (n c : Nat) : (Value.slice A n c).ownBlock = A.map Addr.block := by cases A <;> rfl
theorem gr_start (w : World) (t : Nat) (ht : t ≤ 6) : Gr (w.alloc (.cells (madeCells #[.slice none 0 0] t) 22)) w.heap.size w.heap.size t (rnS t []) (fun _ => none) (fun _ => 0) := by
  refine ⟨rnS_len _ _, ?_, fun j hj => ?_, fun i j _ _ b hb => by simp at hb⟩
  · have h := World.ownsRow_lit (base := w.heap.size) (e := 22) (size := 1) w (madeCells #[.slice none 0 0] t) t (Nat.le_refl _) (by unfold maxLen; omega) (by rw [size_madeCells]; simp)
    rw [toList_madeCells_one] at h
    have e : RL (fun _ => none) (fun _ => 0) (rnS t []) = List.replicate t (.slice none 0 0) := by
      unfold RL
      rw [rnS_len]
      apply List.ext_getElem
      · simp
      · intro j h1 h2
        simp only [List.length_map, List.length_range] at h1
        simp only [List.getElem_map, List.getElem_range, List.getElem_replicate]
        rw [rnS_get t [] j h1]; rfl
    rw [e]; exact h
  · rw [rnS_get t [] j hj]; exact own_nil _ _

set_option maxRecDepth 100000 in
set_option maxHeartbeats 8000000 in
theorem abRows_any (t : Nat) (A : Option Addr) (c : Nat) (xs : List Int) (w : World) (ht : 2 ≤ t ∧ t ≤ 6) (hl : xs.length ≤ 40) (hb : ∀ j, j < xs.length → 0 ≤ xs.getD j 0 ∧ xs.getD j 0 ≤ 1000) (hc : Cells w A xs) :
    Calls Try.prog 114 #[.agg #[.int .i64 t, .slice A xs.length c]] w fun e w' => ∃ A' c', e = .returned (.slice A' t c') ∧ Own2 w' w.heap.size w'.heap.size A' c' (rnS t xs) ∧ Below w.heap.size w w' := by
  obtain ⟨i0, hi, hz0, hz1, hz2⟩ := info_parts Try.infoInt
  have HB := hid hb; clear hb
  have hne : ¬ (t : Int) = 0 := by omega
  have hmk := run_make_row' (P := Try.prog) 35 22 (.slice none 0 0) 24 Try.underlying35 Try.infoInts2 rfl .i64 .i64 t (by omega) (by omega)
  obtain ⟨w1, hw1⟩ : ∃ w1, w1 = w.alloc (.cells #[.int .i64 t, .slice A xs.length c] 26) := ⟨_, rfl⟩
  have y1 : Box2 w1 w.heap.size 26 (.int .i64 t) (.slice A xs.length c) := by rw [hw1]; exact Box2.new _ _ _ _
  have b1 : Below w.heap.size w w1 := by rw [hw1]; exact (Below.refl _ _).alloc (Nat.le_refl _) _
  have hs1 : w1.heap.size = w.heap.size + 1 := by rw [hw1]; simp
  have f0 := y1.cell0
  obtain ⟨w2, hw2⟩ : ∃ w2, w2 = w1.alloc (.cells (madeCells #[.slice none 0 0] t) 22) := ⟨_, rfl⟩
  have g2 : Gr w2 w1.heap.size w1.heap.size t (rnS t []) (fun _ => none) (fun _ => 0) := by rw [hw2]; exact gr_start w1 t (by omega)
  have y2 : Box2 w2 w.heap.size 26 (.int .i64 t) (.slice A xs.length c) := by rw [hw2]; exact y1.alloc _
  have b2 : Below w.heap.size w w2 := by rw [hw2]; exact b1.alloc (by omega) _
  have f1 := y2.cell1
  rw [hw1] at f0 hw2
  rw [hw2] at f1
  have HW := hid hw2
  have HG2 := hid g2; have HY2 := hid y2
  clear hw1 hw2 g2 y1 y2
  go_enter Try.func114, Try.ntmps114
  go_wp2_with fail
  rw [← HW.out]
  rw [hs1] at HG2
  clear f0 f1 HW hmk
  go_loopw [12] (fun i wr => ∃ k : Nat, k ≤ xs.length ∧ i = .int .i64 k ∧ (∃ P C, Hid (Gr wr (w.heap.size + 1) (w.heap.size + 1) t (rnS t (xs.take k)) P C)) ∧ Hid (Box2 wr w.heap.size 26 (.int .i64 t) (.slice A xs.length c)) ∧ Below w.heap.size w wr ∧ w.heap.size + 1 ≤ wr.heap.size) (fun i _ => xs.length - (intOf i).toNat)
  case atStart => exact ⟨0, Nat.zero_le _, rfl, ⟨_, _, HG2⟩, HY2, b2, by have := ownsRow_block HG2.out.out (w.heap.size + 1) rfl; omega⟩
  case round =>
    obtain ⟨k, hk, rfl, ⟨P, C, HG⟩, HY, hbel, hsz⟩ := hrel
    clear HG2 HY2
    by_cases hlt : k < xs.length
    · obtain ⟨b, o, rfl, hcc⟩ := (hc.later hbel) (by omega)
      have hck := hcc k hlt
      clear hcc
      have hxb := HB.out k hlt
      have hts := take_snoc' xs k hlt
      obtain ⟨n, hn⟩ : ∃ n : Nat, xs.getD k 0 = n := ⟨(xs.getD k 0).toNat, by omega⟩
      rw [hn] at hck hxb hts
      have hml : n % t < t := Nat.mod_lt _ (by omega)
      have htm : Int.tmod (n : Int) (t : Int) = ((n % t : Nat) : Int) := by rfl
      have htd : Int.tdiv (n : Int) (t : Int) = ((n / t : Nat) : Int) := by rfl
      have hrs := rnS_snoc t (xs.take k) (n : Int) (n % t) (by rfl)
      have hde : (n : Int) / (t : Int) = ((n / t : Nat) : Int) := by rfl
      rw [← hts, hde] at hrs
      have hrl := rnL_len t (xs.take k) (n % t)
      rw [List.length_take] at hrl
      obtain ⟨m, hm⟩ : ∃ m, m = n % t := ⟨_, rfl⟩
      obtain ⟨d, hd⟩ : ∃ d, d = n / t := ⟨_, rfl⟩
      rw [← hm] at hml htm hrs hrl
      rw [← hd] at htd hrs
      have hgl := HG.out.len
      have hdn : d ≤ n := by rw [hd]; exact Nat.div_le_self _ _
      have hrow0 := HG.out.row m hml
      have hget := rnS_get t (xs.take k) m hml
      rw [hget] at hrow0
      have hcell : wr.drew.cell? ⟨w.heap.size + 1, m, none⟩ = some (.slice (P m) (rnL t (xs.take k) m).length (C m)) := by
        show wr.cell? _ = _
        rw [World.ownsRow.cellAt HG.out.out m (by omega), RL_get P C _ m (by rw [hgl]; exact hml), hget]
      obtain ⟨L, hL⟩ : ∃ L, L = rnL t (xs.take k) m := ⟨_, rfl⟩
      rw [← hL] at hrs hrl hrow0 hcell
      have HR0 : Hid (Own wr.drew (w.heap.size + 1) (P m) (C m) L) := hid hrow0
      have HRS := hid hrs
      have HGd : Hid (Gr wr.drew (w.heap.size + 1) (w.heap.size + 1) t (rnS t (xs.take k)) P C) := hid ⟨HG.out.len, HG.out.out, HG.out.row, HG.out.apart⟩
      have HYd : Hid (Box2 wr.drew w.heap.size 26 (.int .i64 t) (.slice (some ⟨b, o, none⟩) xs.length c)) := HY
      have p0 : wr.drew.cell? ⟨w.heap.size, 0, none⟩ = some (.int .i64 t) := HY.out.cell0
      have hbd : Below w.heap.size w wr.drew := below_drewN hbel 1
      have hmi : (m : Int) < (t : Int) := by omega
      have p1 : (wr.alloc (.cells #[.int .i64 (d : Int)] 3)).cell? ⟨w.heap.size, 0, none⟩ = some (.int .i64 t) := (HY.out.alloc _).cell0
      have p2 : (wr.alloc (.cells #[.int .i64 (d : Int)] 3)).cell? ⟨w.heap.size + 1, m, none⟩ = some (.slice (P m) L.length (C m)) := (World.cell?_of_block (Below.heap_alloc _ _ _ (World.block_lt_of_cell? wr _ hcell))).trans hcell
      have hL40 : L.length ≤ 40 := by omega
      have htn : ¬ t = 0 := by omega
      have hwd : IntKind.i64.wrap (d : Int) = (d : Int) := IntWalk.i64_in _ (by have := hdn; omega)
      have HRG := hid fun j (hj : j < (rnS t (xs.take k)).length) => RL_get P C (rnS t (xs.take k)) j hj
      have HGL := hid (HG.out.len)
      clear hn hts hm hd hrs hde hrl hgl hrow0 hget hL
      go_wp2_with fail
      go_region_law (refine step_append_own rfl (.tmp 27) (.tmp 32) 22 rfl (w.heap.size + 1) 3 i0 (.int .i64 0) 1 8 Try.underlying22 hi hz0 hz1 hz2 rfl (by decide) (.slice (P m) L.length (C m)) L.length (IL L) (by first | rfl | simp [Act.eval, Act.put]) (World.ownsRow.alloc HR0.out _) ⟨wr.heap.size, 0, none⟩ 1 1 [.int .i64 (d : Int)] (by first | rfl | simp [Act.eval, Act.put]) rfl (fun j u h => one_at (w := wr) j u h) (one_cell _) (by unfold maxLen; omega) (by omega) (by simp; omega) ?_; intro v' w5 ho5 hg5 hat5; rw [ownBlock_slice] at hg5 hat5; obtain ⟨A5, c5, rfl, ho6⟩ := own_form (own_snoc (zs := L ++ [(d : Int)]) rfl ho5) rfl; rw [ownBlock_slice] at hat5; have hg6 : (wr.drew.alloc (.cells #[.int .i64 (d : Int)] 3)).grownBy w5 ((P m).map Addr.block) := hg5; have hout5 := HGd.out.outAfter hml hg6; have hcell5 := World.ownsRow.cellAt hout5 m (by omega); rw [HRG.out m (by rw [HGL.out]; exact hml)] at hcell5; have hfr5 := World.ownsRow.frozenAt hout5 m; have hg7 := HGd.out.push hml ho6 hg6 hat5; rw [HRS.out, List.length_append, List.length_singleton] at hg7; have HG8 := hid hg7; clear hg7; have hb7 := ((hbd.alloc hbd.size (.cells #[.int .i64 (d : Int)] 3)).grown hg6 (by simp; omega) (fun q hq => by have := (HR0.out.block q hq).1; omega)); have HB8 : Below w.heap.size w (w5.setCell ⟨w.heap.size + 1, m, none⟩ (.slice A5 (L.length + 1) c5)) := hb7.setCell (by simp) _; have hsz8 : w.heap.size + 1 ≤ (w5.setCell ⟨w.heap.size + 1, m, none⟩ (.slice A5 (L.length + 1) c5)).heap.size := (by have h1 := hg6.size; simp at h1 ⊢; omega); clear hb7; have y7 := HYd.out.keepG hg6 (fun e => by have := (HR0.out.block w.heap.size e.symm).1; omega); have p7 := y7.cell0; have HY8 := hid (y7.other (g' := w.heap.size + 1) (k := m) (by omega) (.slice A5 (L.length + 1) c5)); clear y7)
      all_goals go_wp2_with fail
      all_goals go_roundw
      all_goals first | exact ⟨k + 1, by omega, by go_num, ⟨_, _, HG8⟩, HY8, HB8, hsz8⟩ | (simp [intOf]; omega)
    · have hkl : k = xs.length := by omega
      subst hkl
      rw [List.take_of_length_le (Nat.le_refl _)] at HG
      go_wp2_with fail
      go_ret
      have ho := HG.out.own2
      exact ⟨_, _, rfl, ho.more (by omega), hbel⟩
end Go.Proofs.Ytnhjofcmaodamaa
