/-
  Contracts: AllPartitions of the program.
-/
import Derived.Test.YthlkfkcaaimceaaTake
import Derived.Test.YthlkfkcaaimceaaRowsF
namespace Go.Proofs.Ythlkfkcaaimceaa
open Go.RowKit

/-- A row that a call made is laid into the outer row. -/
theorem Fill.put {w : World} {B g n : Nat} {rows : List (List Int)} {P : Nat → Option Addr} {C : Nat → Nat} (h : Fill w B g n rows P C) (hlt : rows.length < n) {w2 : World} (hb : Below w.heap.size w w2) {A : Option Addr} {c : Nat} {r : List Int} (hr : Own w2 w.heap.size A c r) :
    (∃ u, w2.cell? ⟨g, rows.length, none⟩ = some u) ∧ w2.frozen? ⟨g, rows.length, none⟩ = false ∧ Fill (w2.setCell ⟨g, rows.length, none⟩ (.slice A r.length c)) B g n (rows ++ [r]) (setAt P rows.length A) (setAt C rows.length c) ∧ Below B w (w2.setCell ⟨g, rows.length, none⟩ (.slice A r.length c)) := by
  have hg := h.out.lt g rfl
  have h2 := h.keep hb
  have ho := h2.out
  have hst := (ho.stored rows.length (.slice A r.length c)).1
  have hne : ∀ b, A.map Addr.block = some b → b ≠ g := fun b hbb => by have := (hr.block b hbb).1; omega
  refine ⟨cells_some ho hlt, World.ownsRow.frozenAt ho _, ⟨?_, fun j hj => ?_, fun i j hij hj b hbb => ?_⟩, ((hb.mono (by omega)).setCell hg.1 _)⟩
  · rw [RL_snoc, List.length_append, List.length_singleton]
    have e2 : (RL P C rows ++ List.replicate (n - rows.length) (Value.slice none 0 0)).set rows.length (.slice A r.length c) = RL P C rows ++ [.slice A r.length c] ++ List.replicate (n - (rows.length + 1)) (Value.slice none 0 0) := by
      rw [List.set_append_right _ _ (by rw [RL_len]; exact Nat.le_refl _), RL_len, Nat.sub_self]
      obtain ⟨d, hd⟩ : ∃ d, n - rows.length = d + 1 := ⟨n - rows.length - 1, by omega⟩
      rw [hd, List.replicate_succ, List.set_cons_zero, show n - (rows.length + 1) = d by omega, List.append_assoc]; rfl
    rw [e2] at hst
    exact hst
  · rw [List.length_append, List.length_singleton] at hj
    by_cases e : j = rows.length
    · subst e
      rw [setAt_eq, setAt_eq, getD_snoc_eq]
      refine (hr.more (show B ≤ w.heap.size by omega)).keep fun b hbb _ => Below.heap_setCell _ _ _ _ (hne b hbb)
    · rw [setAt_ne P _ e, setAt_ne C _ e, getD_snoc_lt rows r j (by omega)]
      have hx := h2.row j (by omega)
      exact hx.keep fun b hbb _ => Below.heap_setCell _ _ _ _ (fun e => row_ne' ho hx b hbb (by simp only [Value.ownBlock]; rw [e]))
  · rw [List.length_append, List.length_singleton] at hj
    rw [setAt_ne P _ (show i ≠ rows.length by omega)] at hbb
    by_cases e : j = rows.length
    · subst e
      rw [setAt_eq]
      intro he
      have := ((h.row i (by omega)).block b hbb).2
      have := (hr.block b he).1
      omega
    · rw [setAt_ne P _ e]
      exact h.apart i j hij (by omega) b hbb

def allR (n k : Nat) : List (List Int) := (List.range k).map fun r => pa n n n r
theorem allR_len (n k : Nat) : (allR n k).length = k := by simp [allR]
theorem allR_succ (n k : Nat) : allR n (k + 1) = allR n k ++ [pa n n n k] := by simp [allR, List.range_succ]

set_option maxRecDepth 100000 in
set_option maxHeartbeats 4000000 in
theorem listPartitions_any (n : Nat) (w : World) (hn : n ≤ 14) :
    Calls Try.prog 116 #[.int .i64 n] w fun e w' => ∃ A' c', e = .returned (.slice A' (allR n (T n n)).length c') ∧ Own2 w' w.heap.size w'.heap.size A' c' (allR n (T n n)) ∧ Below w.heap.size w w' := by
  have hTb := T_bound n (by omega) n (by omega)
  obtain ⟨u, hu⟩ : ∃ u, u = T n n := ⟨_, rfl⟩
  have hal := fun ww => all_any w.heap.size n ww (by omega)
  have hpa := fun (r : Nat) (ww : World) => partitionAt_any w.heap.size n r ww (by omega)
  rw [← hu] at hTb
  rw [← hu] at hal hpa ⊢
  have hmkO := run_make_row' (P := Try.prog) 26 24 (.slice none 0 0) 24 Try.underlying26 Try.infoInts rfl .i64 .i64 u (by omega) (by omega)
  clear hu
  go_enter Try.func116, Try.ntmps116
  go_wp2_with fail
  refine (countBounded_any _).mono ?_
  rintro e w2 ⟨rfl, ht, b2⟩
  have HT := hid ht
  go_wp2_with fail
  refine (hal _ ht).mono ?_
  rintro e w3 ⟨rfl, rfl⟩
  clear ht
  go_wp2_with fail
  clear hmkO
  go_loopw [13] (fun i wr => ∃ k : Nat, k ≤ u ∧ i = .int .i64 k ∧ (∃ P C, Fill wr w2.heap.size w2.heap.size u (allR n k) P C) ∧ Below w2.heap.size w2 wr) (fun i _ => u - (intOf i).toNat)
  case atStart => exact ⟨0, Nat.zero_le _, rfl, ⟨_, _, fill_start w2 u (by unfold maxLen; omega)⟩, (Below.refl _ _).alloc (Nat.le_refl _) _⟩
  case round =>
    obtain ⟨k, hk, rfl, ⟨P, C, hfill⟩, hbel⟩ := hrel
    obtain ⟨wo, rfl⟩ : ∃ wo : World, wo = wr := ⟨_, rfl⟩
    have HF := hid hfill; clear hfill
    by_cases hlt : k < u
    · have hto := hid (HT.out.below hbel)
      have HB := hid hbel; clear hbel
      go_wp2_with fail
      refine (hpa k _ hlt hto.out).mono ?_
      rintro e w4 ⟨A', c', rfl, ho, hb⟩
      have hput := HF.out.put (by rw [allR_len]; exact hlt) hb ho
      rw [allR_len, ← allR_succ] at hput
      obtain ⟨⟨uo, huo⟩, hfz, hf2, hbb⟩ := hput
      have HF2 := hid hf2
      have hb3 := hid (HB.out.trans hbb)
      clear hf2 hbb ho hb
      go_wp2_with fail
      go_roundw
      case rel => exact ⟨k + 1, by omega, by go_num, ⟨_, _, HF2.out⟩, hb3.out⟩
      case measure => simp [intOf]; omega
    · have hku : k = u := by omega
      subst hku
      have HO := hid (HF.out.own2 (allR_len n k))
      have HL := hid (allR_len n k)
      have hb3 := hid (b2.trans (hbel.mono b2.size))
      have hb2 := b2.size
      clear hbel
      go_wp2_with fail
      go_ret
      refine ⟨some ⟨w2.heap.size, 0, none⟩, k, ?_, ?_, hb3.out⟩
      · rw [HL.out]; rfl
      · obtain ⟨P', C', h⟩ := HO.out
        exact ⟨P', C', ⟨h.out.1, h.out.2.imp id fun ⟨g, cap, cur, a, b, r⟩ => ⟨g, cap, cur, a, Nat.le_trans hb2 b, r⟩⟩, h.outS, fun j hj => (h.row j hj).more hb2, h.rowS, h.apart⟩

def allF (n : Int) : List (List Int) := if inB 0 14 n then allR n.toNat (T n.toNat n.toNat) else []
theorem allF_f {n : Int} (h : inB 0 14 n = false) : allF n = [] := by simp [allF, h]
theorem allF_t (m : Nat) (h : m ≤ 14) : allF m = allR m (T m m) := by
  have e : inB 0 14 (m : Int) = true := inB_iff.2 (by omega)
  simp [allF, e]

set_option maxHeartbeats 1000000 in
theorem impl_AllPartitions (n : Int) (w : World) (_hn : I64 n) :
    Calls Try.prog 70 #[.int .i64 n] w fun e w' => ∃ A' c', e = .returned (.tuple #[.slice A' (allF n).length c', .bool (inB 0 14 n)]) ∧ Own2 w' w.heap.size w'.heap.size A' c' (allF n) ∧ Below w.heap.size w w' := by
  cases h : inB 0 14 n
  · rw [allF_f h]
    have h' : ¬ (0 ≤ n ∧ n ≤ 14) := fun hh => by have := inB_iff.2 hh; rw [h] at this; cases this
    clear h
    by_cases h0 : n < 0
    · go_enter Try.func70, Try.ntmps70
      go_wp2_with fail
      go_ret2
      exact ⟨none, 0, rfl, own2_nil _ _ _, Below.refl _ _⟩
    · have h14 : 14 < n := by omega
      clear h'
      go_enter Try.func70, Try.ntmps70
      go_wp2_with fail
      go_ret2
      exact ⟨none, 0, rfl, own2_nil _ _ _, Below.refl _ _⟩
  have hh := inB_iff.1 h
  obtain ⟨m, rfl⟩ : ∃ m : Nat, n = m := ⟨n.toNat, by omega⟩
  have hm : m ≤ 14 := by omega
  rw [allF_t m hm]
  clear h hh
  go_enter Try.func70, Try.ntmps70
  go_wp2_with fail
  refine (listPartitions_any m _ hm).mono ?_
  rintro e w2 ⟨A', c', rfl, ho, hb⟩
  go_wp2_with fail
  go_ret2
  exact ⟨A', c', rfl, ho, hb⟩
end Go.Proofs.Ythlkfkcaaimceaa
