/-
  Contracts: the laws' own helpers on a slice of slices among the arguments: its size, a copy of it.
-/
import Derived.Test.YtnhjofcmaodamaaQuo
import Derived.Test.YtnhjofcmaodamaaFrnI
namespace Go.Proofs.Ytnhjofcmaodamaa
open Go.RowKit

theorem Cells2.later {w w' : World} {A : Option Addr} {rows : List (List Int)} (h : Cells2 w A rows) (hb : Below w.heap.size w w') : Cells2 w' A rows := by
  obtain ⟨P2, C2, q1, q2⟩ := h
  exact ⟨P2, C2, fun h => by obtain ⟨b, o, h1, h2⟩ := q1 h; exact ⟨b, o, h1, fun j hj => (hb.cell (World.block_lt_of_cell? w _ (h2 j hj))).trans (h2 j hj)⟩, fun j hj => (q2 j hj).below hb⟩

theorem szIntS_l (A : Option Addr) (n c : Nat) (l : Int) (w : World) (hn : n ≤ 9223372036854775807) (h0 : 0 ≤ l) (h1 : l ≤ 1048576) :
    Calls Try.prog 80 #[.slice A n c, .int .i64 l] w fun e w' => e = .returned (.int .i64 (if (n : Int) ≤ l then l - n else -1)) ∧ w = w' := by
  by_cases h : (n : Int) ≤ l
  · rw [if_pos h]
    go_enter Try.func80, Try.ntmps80
    go_wp2
    go_ret
    exact ⟨rfl, rfl⟩
  · rw [if_neg h]
    go_enter Try.func80, Try.ntmps80
    go_wp2
    go_ret
    exact ⟨rfl, rfl⟩
theorem gr_start2 (w : World) (t : Nat) (ht : t ≤ 1048576) : Gr (w.alloc (.cells (madeCells #[.slice none 0 0] t) 22)) w.heap.size w.heap.size t ((List.range t).map fun _ => ([] : List Int)) (fun _ => none) (fun _ => 0) := by
  refine ⟨by simp, ?_, fun j hj => ?_, fun i j _ _ b hb => by simp at hb⟩
  · have h := World.ownsRow_lit (base := w.heap.size) (e := 22) (size := 1) w (madeCells #[.slice none 0 0] t) t (Nat.le_refl _) (by unfold maxLen; omega) (by rw [size_madeCells]; simp)
    rw [toList_madeCells_one] at h
    have e : RL (fun _ => none) (fun _ => 0) ((List.range t).map fun _ => ([] : List Int)) = List.replicate t (.slice none 0 0) := by
      unfold RL
      rw [List.length_map, List.length_range]
      apply List.ext_getElem
      · simp
      · intro j h1 h2
        simp only [List.length_map, List.length_range] at h1
        simp only [List.getElem_map, List.getElem_range, List.getElem_replicate]
        simp [List.getD, h1]
    rw [e]; exact h
  · rw [show ((List.range t).map fun _ => ([] : List Int)).getD j [] = [] by simp [List.getD, hj]]; exact own_nil _ _

set_option maxHeartbeats 1000000 in
theorem szIntSS_any (A : Option Addr) (c : Nat) (rows : List (List Int)) (w : World) (hn : rows.length ≤ 9223372036854775807) (hr : ∀ j, j < rows.length → (rows.getD j []).length ≤ 9223372036854775807) (hc : Cells2 w A rows) :
    Calls Try.prog 41 #[.slice A rows.length c, .int .i64 1048576] w fun e w' => e = .returned (.int .i64 (if rows.length + tot rows ≤ 1048576 then (1048576 : Int) - (rows.length + tot rows : Nat) else -1)) ∧ w = w' := by
  by_cases hbig : 1048576 < rows.length
  · rw [if_neg (by omega)]
    go_enter Try.func41, Try.ntmps41
    go_wp2_with fail
    go_ret
    exact ⟨rfl, rfl⟩
  have hl : rows.length ≤ 1048576 := by omega
  clear hbig
  have HTS := hid (fun k (hk : k < rows.length) => tot_take_succ rows k hk)
  have HTL := hid (fun k => tot_take_le rows k)
  have HRL := hid hr
  obtain ⟨V, hV⟩ : ∃ V : Int, V = if rows.length + tot rows ≤ 1048576 then (1048576 : Int) - (rows.length + tot rows : Nat) else -1 := ⟨_, rfl⟩
  rw [← hV]
  have HV := hid hV
  obtain ⟨Pt, Ct, hA1, hA2⟩ := hc
  have HA1 := hid hA1
  clear hV hr hA1 hA2
  go_enter Try.func41, Try.ntmps41
  go_wp2_with fail
  go_loop [1, 5] (fun lv i => ∃ k : Nat, k ≤ rows.length ∧ i = .int .i64 k ∧ (∃ l : Int, lv = .int .i64 l ∧ l = 1048576 - rows.length - tot (rows.take k) ∧ 0 ≤ l)) (fun _ i => rows.length - (intOf i).toNat)
  case atStart => exact ⟨0, Nat.zero_le _, rfl, ⟨_, rfl, by simp [tot], by omega⟩⟩
  case round =>
    obtain ⟨k, hk, rfl, ⟨l, rfl, hle, hl0⟩⟩ := hrel
    have HLE := hid hle
    have hl1 : l ≤ 1048576 := by omega
    clear hle
    by_cases hlt : k < rows.length
    · obtain ⟨b, o, rfl, hcc⟩ := HA1.out (by omega)
      have hck := hcc k hlt
      have hts := HTS.out k hlt
      have hle2 := HTL.out (k + 1)
      have hrl := HRL.out k hlt
      have HSZ := hid (szIntS_l (Pt k) (rows.getD k []).length (Ct k) l w hrl hl0 hl1)
      obtain ⟨n, hnn⟩ : ∃ n, n = (rows.getD k []).length := ⟨_, rfl⟩
      rw [← hnn] at hck hts HSZ
      have HT := hid hts; have HL2 := hid hle2
      clear hcc hts hle2 hnn hrl
      by_cases hfit : (n : Int) ≤ l
      · rw [if_pos hfit] at HSZ
        go_wp2_with (go_at_call 80; refine HSZ.out.mono ?_; rintro e w' ⟨rfl, rfl⟩)
        go_round
        case rel => exact ⟨k + 1, by omega, by go_num, ⟨_, rfl, by have := HLE.out; have := HT.out; omega, by omega⟩⟩
        case measure => simp [intOf]; omega
      · rw [if_neg hfit] at HSZ
        have hvv : V = -1 := by
          rw [HV.out, if_neg]
          have := HLE.out; have := HT.out; have := HL2.out; omega
        subst hvv
        go_wp2_with (go_at_call 80; refine HSZ.out.mono ?_; rintro e w' ⟨rfl, rfl⟩)
        go_ret
        exact ⟨rfl, rfl⟩
    · have hkn : k = rows.length := by omega
      subst hkn
      have e : rows.take rows.length = rows := List.take_of_length_le (Nat.le_refl _)
      have hvv : l = V := by
        have h1 := HLE.out
        rw [e] at h1
        rw [HV.out, if_pos (by omega), h1]; omega
      subst hvv
      clear e
      go_wp2_with fail
      go_ret
      exact ⟨rfl, rfl⟩

set_option maxRecDepth 100000 in
set_option maxHeartbeats 4000000 in
theorem toIntSS_any (A : Option Addr) (c : Nat) (rows : List (List Int)) (w : World) (hl : rows.length ≤ 1048576 ∧ tot rows ≤ 1048576) (hc : Cells2 w A rows) :
    Calls Try.prog 43 #[.slice A rows.length c] w fun e w' => ∃ A' c', e = .returned (.slice A' rows.length c') ∧ Own2 w' w.heap.size w'.heap.size A' c' rows ∧ Below w.heap.size w w' := by
  obtain ⟨t, hte⟩ : ∃ t, t = rows.length := ⟨_, rfl⟩
  have ht := hl.1
  have HTL := hid (fun k (hk : k < rows.length) => (Nat.le_trans (tot_get_le rows k hk) hl.2 : (rows.getD k []).length ≤ 1048576))
  obtain ⟨Pt, Ct, hA1, hA2⟩ := hc
  rw [← hte] at ht hA1 hA2 HTL
  rw [← hte]
  have hRR : (List.range t).map (rowsR rows) = rows := by
    rw [hte]
    apply List.ext_getElem
    · simp
    · intro j h1 h2
      simp only [List.getElem_map, List.getElem_range]
      unfold rowsR
      rw [List.getD_eq_getElem?_getD, List.getElem?_eq_getElem h2]; rfl
  have HRD := hid (show ∀ k, rows.getD k [] = rowsR rows k from fun _ => rfl)
  obtain ⟨R, hR⟩ : ∃ R, R = rowsR rows := ⟨_, rfl⟩
  rw [← hR] at hRR HRD
  have HRR := hid hRR
  have HA1 := hid hA1; have HA2 := hid hA2
  have hmk := run_make_row' (P := Try.prog) 35 22 (.slice none 0 0) 24 Try.underlying35 Try.infoInts2 rfl .i64 .i64 t (by omega) (by omega)
  obtain ⟨w1, hw1⟩ : ∃ w1, w1 = w.alloc (.cells (madeCells #[.slice none 0 0] t) 22) := ⟨_, rfl⟩
  have HG1 : Hid (Gr w1 w.heap.size w.heap.size t (midQ R (fun _ => []) t 0) (fun _ => none) (fun _ => 0)) := hid (by rw [hw1, midQ_zero]; exact gr_start2 w t ht)
  have B1 : Below w.heap.size w w1 := by rw [hw1]; exact (Below.refl _ _).alloc (Nat.le_refl _) _
  have HW1 := hid hw1
  clear hRR hA1 hA2 hw1 hte hl hR
  go_enter Try.func43, Try.ntmps43
  go_wp2_with fail
  rw [← HW1.out]
  go_loopw [4] (fun i wr => ∃ k : Nat, k ≤ t ∧ i = .int .i64 k ∧ (∃ P C, Hid (Gr wr w.heap.size w.heap.size t (midQ R (fun _ => []) t k) P C)) ∧ Below w.heap.size w wr) (fun i _ => t - (intOf i).toNat)
  case atStart => exact ⟨0, Nat.zero_le _, rfl, ⟨_, _, HG1⟩, B1⟩
  case round =>
    obtain ⟨k, hk, rfl, ⟨P, C, HG⟩, hbel⟩ := hrel
    clear HG1 B1
    have hsr := hbel.size
    by_cases hlt : k < t
    · obtain ⟨b, o, rfl, hcc⟩ := HA1.out (by omega)
      have hck := (hbel.cell (World.block_lt_of_cell? w _ (hcc k hlt))).trans (hcc k hlt)
      have hrow := (HA2.out k hlt).below hbel
      have hlen := HTL.out k hlt
      rw [HRD.out k] at hck hrow hlen
      have HCK := hid (toIntS_any (Pt k) (Ct k) (R k) wr hlen hrow)
      have HGG := hid fun (A2 : Option Addr) c2 w3 (b3 : Below wr.heap.size wr w3) (o3 : Own w3 wr.heap.size A2 c2 (R k)) => HG.out.place hlt b3 o3 hsr
      have HFZ := hid fun w3 (b3 : Below wr.heap.size wr w3) => World.ownsRow.frozenAt (HG.out.below b3).out k
      have HCE := hid fun w3 (b3 : Below wr.heap.size wr w3) => World.ownsRow.cellAt (HG.out.below b3).out k (by omega)
      have hml := midQ_set R (fun _ => []) t k
      rw [hml] at HGG
      obtain ⟨L, hL⟩ : ∃ L, L = R k := ⟨_, rfl⟩
      rw [← hL] at hck HCK HGG
      obtain ⟨n, hn⟩ : ∃ n, n = L.length := ⟨_, rfl⟩
      have HNL := hid hn
      rw [← hn] at hck HCK
      clear hcc hrow hlen hml hL hn HG
      go_wp2_with fail
      refine HCK.out.mono ?_
      rintro e w3 ⟨A3, c3, rfl, o3, b3⟩
      have HG3 := hid (HGG.out A3 c3 w3 b3 o3)
      have hfz := HFZ.out w3 b3
      have hce := HCE.out w3 b3
      rw [RL_get P C _ k (by rw [midQ_len]; exact hlt)] at hce
      have B3 := Below.next hbel b3
      have hs3 := b3.size
      rw [← HNL.out] at HG3
      go_wp2_with fail
      go_roundw
      case rel => exact ⟨k + 1, by omega, by go_num, ⟨_, _, HG3⟩, B3.setCell (Nat.le_refl _) _⟩
      case measure => simp [intOf]; omega
    · have hkl : k = t := by omega
      subst hkl
      rw [midQ_all, HRR.out] at HG
      go_wp2_with fail
      go_ret
      exact ⟨_, _, rfl, HG.out.own2, hbel⟩
end Go.Proofs.Ytnhjofcmaodamaa
