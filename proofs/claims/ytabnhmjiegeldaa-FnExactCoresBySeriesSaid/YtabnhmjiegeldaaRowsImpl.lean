/-
  Contracts: the program's rows of numbers, a number for each cell.
-/
import Derived.Test.YtabnhmjiegeldaaRowsSpec
import Derived.Deep.RegionHeld3
namespace Go.Proofs.Ytabnhmjiegeldaa
open Go.RowKit

theorem IL_append (a b : List Int) : IL (a ++ b) = IL a ++ IL b := by simp [IL]

/-- Some rows are made; the outer row, block g with n cells, holds them and behind them empty ones. -/
structure Fill (w : World) (B g n : Nat) (rows : List (List Int)) (P : Nat → Option Addr) (C : Nat → Nat) : Prop where
  out : w.ownsRow B 22 1 (.slice (some ⟨g, 0, none⟩) n n) n (RL P C rows ++ List.replicate (n - rows.length) (.slice none 0 0))
  row : ∀ j, j < rows.length → Own w B (P j) (C j) (rows.getD j [])
  apart : ∀ i j, i < j → j < rows.length → ∀ b, (P i).map Addr.block = some b → (P j).map Addr.block ≠ some b
theorem Fill.lt {w : World} {B g n : Nat} {rows : List (List Int)} {P : Nat → Option Addr} {C : Nat → Nat} (h : Fill w B g n rows P C) : g < w.heap.size := (h.out.lt g rfl).2
theorem fill_start (w : World) (n : Nat) (hn : n ≤ maxLen) : Fill (w.alloc (.cells (madeCells #[.slice none 0 0] n) 22)) w.heap.size w.heap.size n [] (fun _ => none) (fun _ => 0) := by
  refine ⟨?_, fun j h => absurd h (by simp), fun i j _ h => absurd h (by simp)⟩
  have h := World.ownsRow_lit (base := w.heap.size) (e := 22) (size := 1) w (madeCells #[.slice none 0 0] n) n (Nat.le_refl _) hn (by rw [size_madeCells]; omega)
  rw [toList_madeCells_one] at h
  simpa [RL] using h
theorem Fill.keep {w w' : World} {B g n : Nat} {rows : List (List Int)} {P : Nat → Option Addr} {C : Nat → Nat} (h : Fill w B g n rows P C) (hb : Below w.heap.size w w') : Fill w' B g n rows P C := by
  refine ⟨ownsRow_keep h.out fun b _ hlt => hb.block b hlt, fun j hj => (h.row j hj).below hb, h.apart⟩
theorem cells_some {w : World} {B e g n : Nat} {vs : List Value} (h : w.ownsRow B e 1 (.slice (some ⟨g, 0, none⟩) n n) n vs) {j : Nat} (hj : j < n) : ∃ u, w.cell? ⟨g, j, none⟩ = some u := by
  rw [World.ownsRow.cellAt h j (by omega)]
  exact ⟨_, List.getElem?_eq_getElem (by have := h.1; omega)⟩
/-- What stands when the next row is made and laid into the outer row. -/
theorem Fill.start {w : World} {B g n : Nat} {rows : List (List Int)} {P : Nat → Option Addr} {C : Nat → Nat} (h : Fill w B g n rows P C) (hlt : rows.length < n) (m : Nat) (hm : m ≤ 1048576) (wa : World) (hwa : wa = w.alloc (.cells (madeCells #[.int .i64 0] m) 3)) :
    (wa.setCell ⟨g, rows.length, none⟩ (.slice (some ⟨w.heap.size, 0, none⟩) m m)).cell? ⟨g, rows.length, none⟩ = some (.slice (some ⟨w.heap.size, 0, none⟩) m m) ∧
    (∃ u, wa.cell? ⟨g, rows.length, none⟩ = some u) ∧ wa.frozen? ⟨g, rows.length, none⟩ = false ∧
    (wa.setCell ⟨g, rows.length, none⟩ (.slice (some ⟨w.heap.size, 0, none⟩) m m)).ownsRow w.heap.size 3 1 (.slice (some ⟨w.heap.size, 0, none⟩) m m) m (IL (rowF (fun _ _ => 0) 0 0) ++ List.replicate (m - 0) (.int .i64 0)) ∧
    Below B w (wa.setCell ⟨g, rows.length, none⟩ (.slice (some ⟨w.heap.size, 0, none⟩) m m)) := by
  have hg := h.lt
  have ho : wa.ownsRow B 22 1 (.slice (some ⟨g, 0, none⟩) n n) n (RL P C rows ++ List.replicate (n - rows.length) (.slice none 0 0)) := by rw [hwa]; exact h.out.alloc _
  obtain ⟨u, hu⟩ := cells_some ho hlt
  have hst := (ho.stored rows.length (.slice (some ⟨w.heap.size, 0, none⟩) m m)).1
  refine ⟨?_, ⟨u, hu⟩, World.ownsRow.frozenAt ho _, ?_, ?_⟩
  · rw [World.ownsRow.cellAt hst rows.length (by omega), List.getElem?_set_self (by have := ho.1; omega)]
  · have hr := World.ownsRow_lit (base := w.heap.size) (e := 3) (size := 1) w (madeCells #[.int .i64 0] m) m (Nat.le_refl _) (by unfold maxLen; omega) (by rw [size_madeCells]; omega)
    rw [toList_madeCells_one, ← hwa] at hr
    have e : IL (rowF (fun _ _ => 0) 0 0) ++ List.replicate (m - 0) (Value.int .i64 0) = List.replicate m (Value.int .i64 0) := by simp [IL, rowF]
    rw [e]
    exact ownsRow_keep hr fun b hb _ => by
      have hbw : b = w.heap.size := by simpa using hb.symm
      exact Below.heap_setCell _ _ _ _ (by show b ≠ g; omega)
  · rw [hwa]
    exact ((Below.refl B w).alloc (by have := (h.out.lt g rfl).1; omega) _).setCell (h.out.lt g rfl).1 _
theorem _root_.Go.World.ownsRow.base_le {w : World} {B e n g : Nat} {vs : List Value} (h : w.ownsRow B e 1 (.slice (some ⟨g, 0, none⟩) n n) n vs) : B ≤ w.heap.size := by
  have := h.lt g rfl; omega
/-- A cell of the row is written behind a call that writes nothing old. -/
theorem fill_row {w w2 : World} {B g n m : Nat} {zs : List Int} (h : w.ownsRow B 3 1 (.slice (some ⟨g, 0, none⟩) n n) n (IL zs ++ List.replicate (n - m) (.int .i64 0))) (hb : Below w.drew.heap.size w.drew w2) (y : Int) (hm : m < n) (hz : zs.length = m) :
    (∃ u, w2.cell? ⟨g, m, none⟩ = some u) ∧ w2.frozen? ⟨g, m, none⟩ = false ∧ (w2.setCell ⟨g, m, none⟩ (.int .i64 y)).ownsRow B 3 1 (.slice (some ⟨g, 0, none⟩) n n) n (IL zs ++ IL [y] ++ List.replicate (n - (m + 1)) (.int .i64 0)) := by
  have h2 : w2.ownsRow B 3 1 (.slice (some ⟨g, 0, none⟩) n n) n (IL zs ++ List.replicate (n - m) (.int .i64 0)) := ownsRow_keep h fun b _ hlt => hb.block b hlt
  refine ⟨cells_some h2 hm, World.ownsRow.frozenAt h2 _, ?_⟩
  have hst := (h2.stored m (.int .i64 y)).1
  have hl : (IL zs).length = m := by simp [IL, hz]
  rw [List.set_append_right _ _ (by omega), hl, Nat.sub_self] at hst
  obtain ⟨d, hd⟩ : ∃ d, n - m = d + 1 := ⟨n - m - 1, by omega⟩
  rw [hd, List.replicate_succ, List.set_cons_zero] at hst
  rw [show n - (m + 1) = d by omega, List.append_assoc]
  exact hst
/-- The row is full: one row more. -/
theorem Fill.next {w : World} {B g n : Nat} {rows : List (List Int)} {P : Nat → Option Addr} {C : Nat → Nat} (h : Fill w B g n rows P C) (hlt : rows.length < n) {m : Nat} {r : List Int} (wa : World) (hwa : wa = w.alloc (.cells (madeCells #[.int .i64 0] m) 3)) (wb : World)
    (hwb : wb = wa.setCell ⟨g, rows.length, none⟩ (.slice (some ⟨w.heap.size, 0, none⟩) m m)) {wi : World} (hbi : Below w.heap.size wb wi) (hr : Own wi w.heap.size (some ⟨w.heap.size, 0, none⟩) m r) (hrl : r.length = m) :
    Fill wi B g n (rows ++ [r]) (setAt P rows.length (some ⟨w.heap.size, 0, none⟩)) (setAt C rows.length m) := by
  have hg := h.out.lt g rfl
  have ho : wa.ownsRow B 22 1 (.slice (some ⟨g, 0, none⟩) n n) n (RL P C rows ++ List.replicate (n - rows.length) (.slice none 0 0)) := by rw [hwa]; exact h.out.alloc _
  have hst := (ho.stored rows.length (.slice (some ⟨w.heap.size, 0, none⟩) m m)).1
  rw [← hwb] at hst
  have hold : ∀ j, j < rows.length → Own wi B (P j) (C j) (rows.getD j []) := fun j hj => by
    have hx := h.row j hj
    refine hx.keep fun b hb hlt2 => ?_
    rw [hbi.block b hlt2, hwb, Below.heap_setCell _ _ _ _ (fun e => row_ne' h.out hx b hb (by simp only [Value.ownBlock]; rw [e])), hwa]
    exact Below.heap_alloc _ _ _ hlt2
  refine ⟨?_, fun j hj => ?_, fun i j hij hj b hbb => ?_⟩
  · have e1 : RL (setAt P rows.length (some ⟨w.heap.size, 0, none⟩)) (setAt C rows.length m) (rows ++ [r]) = RL P C rows ++ [.slice (some ⟨w.heap.size, 0, none⟩) m m] := by rw [RL_snoc, hrl]
    rw [e1, List.length_append, List.length_singleton]
    have e2 : (RL P C rows ++ List.replicate (n - rows.length) (Value.slice none 0 0)).set rows.length (.slice (some ⟨w.heap.size, 0, none⟩) m m) = RL P C rows ++ [.slice (some ⟨w.heap.size, 0, none⟩) m m] ++ List.replicate (n - (rows.length + 1)) (Value.slice none 0 0) := by
      rw [List.set_append_right _ _ (by rw [RL_len]; exact Nat.le_refl _), RL_len, Nat.sub_self]
      obtain ⟨d, hd⟩ : ∃ d, n - rows.length = d + 1 := ⟨n - rows.length - 1, by omega⟩
      rw [hd, List.replicate_succ, List.set_cons_zero, show n - (rows.length + 1) = d by omega, List.append_assoc]; rfl
    rw [e2] at hst
    exact ownsRow_keep hst fun b hb _ => hbi.block b (by have hbg : b = g := by simpa using hb.symm
                                                         omega)
  · rw [List.length_append, List.length_singleton] at hj
    by_cases e : j = rows.length
    · subst e
      rw [setAt_eq, setAt_eq, getD_snoc_eq]
      exact hr.more (by omega)
    · rw [setAt_ne P _ e, setAt_ne C _ e, getD_snoc_lt rows r j (by omega)]
      exact hold j (by omega)
  · rw [List.length_append, List.length_singleton] at hj
    rw [setAt_ne P _ (show i ≠ rows.length by omega)] at hbb
    by_cases e : j = rows.length
    · subst e
      rw [setAt_eq]
      intro he
      have hbw : w.heap.size = b := by simpa using he
      have := ((h.row i (by omega)).block b hbb).2
      omega
    · rw [setAt_ne P _ e]
      exact h.apart i j hij (by omega) b hbb
theorem Fill.own2 {w : World} {B g n : Nat} {rows : List (List Int)} {P : Nat → Option Addr} {C : Nat → Nat} (h : Fill w B g n rows P C) (hl : rows.length = n) : Own2 w B w.heap.size (some ⟨g, 0, none⟩) n rows := by
  have ho := h.out
  rw [hl, Nat.sub_self, List.replicate_zero, List.append_nil] at ho
  exact ⟨P, C, by rw [hl]; exact ho, fun b hb => (ownsRow_block ho b hb).2, h.row, fun j hj b hb => ((h.row j hj).block b hb).2, h.apart⟩

set_option maxRecDepth 100000 in
set_option maxHeartbeats 4000000 in
/-- Only where 110 is. -/
theorem rowsCont_any (A : Option Addr) (c : Nat) (xs : List Int) (w : World) (G : Good xs) (hc : Cells w A xs)
    (hnum : ∀ (W : World) (r k : Nat), Below w.heap.size w W → r < xs.length → (k : Int) < xs.getD r 0 → Calls Try.prog 162 #[.agg #[.int .i64 r, .int .i64 k]] W fun e W' => e = .returned (.int .i64 (contN r k)) ∧ Below W.heap.size W W') :
    Calls Try.prog 161 #[.slice A xs.length c, .func (.func 162) #[] #[]] w fun e w' => ∃ A' c', e = .returned (.slice A' (rowsF xs (contN) xs.length).length c') ∧ Own2 w' w.heap.size w'.heap.size A' c' (rowsF xs (contN) xs.length) ∧ Below w.heap.size w w' := by
  have HNUM := hid hnum; clear hnum
  have HG := hid G; clear G
  have hlen := HG.out.len
  have hmkO := run_make_row' (P := Try.prog) 33 22 (.slice none 0 0) 24 Try.underlying33 Try.infoInts rfl .i64 .i64 xs.length (by omega) (by omega)
  go_enter Try.func161, Try.ntmps161
  go_wp2_with fail
  go_loopw [14] (fun i wr => ∃ k : Nat, k ≤ xs.length ∧ i = .int .i64 k ∧ (∃ P C, Fill wr w.heap.size w.heap.size xs.length (rowsF xs (contN) k) P C) ∧ Below w.heap.size w wr) (fun i _ => xs.length - (intOf i).toNat)
  case atStart => exact ⟨0, Nat.zero_le _, rfl, ⟨_, _, fill_start w xs.length (by unfold maxLen; omega)⟩, (Below.refl _ _).alloc (Nat.le_refl _) _⟩
  case round =>
    obtain ⟨k, hk, rfl, ⟨P, C, hfill⟩, hbel⟩ := hrel
    obtain ⟨wo, rfl⟩ : ∃ wo : World, wo = wr := ⟨_, rfl⟩
    have HF := hid hfill; clear hfill
    have HRL := hid (rowsF_len xs (contN) k)
    by_cases hlt : k < xs.length
    · have hx1 := HG.out.pos k hlt
      have hx2 := HG.out.le k hlt
      have hcr : Cells wo A xs := hc.later hbel
      obtain ⟨b, o, rfl, hck⟩ := hcr.get hlt
      obtain ⟨n, hn⟩ : ∃ n : Nat, (n : Int) = xs.getD k 0 := ⟨(xs.getD k 0).toNat, by omega⟩
      rw [← hn] at hck hx1 hx2
      have HN := hid hn; clear hn
      have hmk := run_make_row' (P := Try.prog) 22 3 (.int .i64 0) 8 Try.underlying22 Try.infoInt rfl .i64 .i64 n (by omega) (by omega)
      obtain ⟨wa, hwa⟩ : ∃ wa, wa = wo.alloc (.cells (madeCells #[.int .i64 0] n) 3) := ⟨_, rfl⟩
      have hst := HF.out.start (by rw [HRL.out]; exact hlt) n (by omega) wa hwa
      rw [HRL.out] at hst
      obtain ⟨ho0, hcur, hfz, hrow0, hbelb⟩ := hst
      have HO0 := hid ho0
      have HROW0 := hid hrow0
      have HBB := hid hbelb
      have HWA := hid hwa
      obtain ⟨uo, huo⟩ := hcur
      rw [hwa] at huo hfz
      have hlt0 : w.heap.size < wo.heap.size := HF.out.lt
      clear ho0 hrow0 hbelb hwa
      have hwbe : wa.setCell ⟨w.heap.size, k, none⟩ (.slice (some ⟨wo.heap.size, 0, none⟩) n n) = (wo.setCell ⟨w.heap.size, k, none⟩ (.slice (some ⟨wo.heap.size, 0, none⟩) n n)).alloc (.cells (madeCells #[.int .i64 0] n) 3) := by
        rw [HWA.out]; exact World.setCell_alloc_past _ _ _ _ hlt0
      have HWBE := hid hwbe; clear hwbe
      go_wp2_with fail
      rw [← HWBE.out]
      obtain ⟨wb, hwb⟩ : ∃ wb, wb = wa.setCell ⟨w.heap.size, k, none⟩ (.slice (some ⟨wo.heap.size, 0, none⟩) n n) := ⟨_, rfl⟩
      rw [← hwb]
      have HWB := hid hwb; clear hwb hmk huo hfz
      go_loopw [25] (fun j wi => ∃ m : Nat, m ≤ n ∧ j = .int .i64 m ∧ wi.ownsRow wo.heap.size 3 1 (.slice (some ⟨wo.heap.size, 0, none⟩) n n) n (IL (rowF (contN) k m) ++ List.replicate (n - m) (.int .i64 0)) ∧ Below wo.heap.size wb wi) (fun j _ => n - (intOf j).toNat)
      case atStart => exact ⟨0, Nat.zero_le _, rfl, by rw [HWB.out]; exact HROW0.out, Below.refl _ _⟩
      case round =>
        obtain ⟨m, hm, rfl, hown, hbi⟩ := hrel
        have hSo : wb.cell? ⟨w.heap.size, k, none⟩ = some (.slice (some ⟨wo.heap.size, 0, none⟩) n n) := by rw [HWB.out]; exact HO0.out
        have hS0 : ∀ W, Below wo.heap.size wb W → W.cell? ⟨w.heap.size, k, none⟩ = some (.slice (some ⟨wo.heap.size, 0, none⟩) n n) := fun W hW => (hW.cell hlt0).trans hSo
        have HS0 := hid hS0
        clear hSo hS0
        by_cases hml : m < n
        · have hwi : Below w.heap.size w wr.drew := (hbel.trans (HBB.out.trans (by rw [← HWB.out]; exact hbi.mono (by omega)))).drew
          have hcallm := HNUM.out wr.drew k m hwi hlt (by rw [← HN.out]; omega)
          have HC := hid hcallm; clear hcallm
          have hS1 : wr.drew.cell? ⟨w.heap.size, k, none⟩ = some (.slice (some ⟨wo.heap.size, 0, none⟩) n n) := HS0.out _ hbi.drew
          have hmn' : (m : Int) < (n : Int) := by omega
          have hk0 : (0 : Int) ≤ (k : Int) := by omega
          have hkl : (k : Int) < (xs.length : Int) := by omega
          have hm0 : (0 : Int) ≤ (m : Int) := by omega
          have HOW := hid hown; clear hown
          obtain ⟨y, hy⟩ : ∃ y, y = (contN) k m := ⟨_, rfl⟩
          have HY := hid hy
          have hcc := HC.out
          rw [← hy] at hcc
          have HC2 := hid hcc; clear hcc hy
          go_wp2_with fail
          go_region_held3 (fun w' => w'.cell? ⟨w.heap.size, k, none⟩ = some (.slice (some ⟨wo.heap.size, 0, none⟩) n n)) (first | exact hS1 | exact hS2 | exact hS3) (first | (go_at_call 162; refine HC2.out.mono ?_; rintro e w2 ⟨rfl, b2⟩; have hb2 : Below wo.heap.size wb w2 := hbi.drew.trans (b2.mono HOW.out.base_le); have hS2 : w2.cell? ⟨w.heap.size, k, none⟩ = some (.slice (some ⟨wo.heap.size, 0, none⟩) n n) := HS0.out _ hb2; have how2 := fill_row HOW.out b2 y hml (rowF_len (contN) k m); obtain ⟨⟨u2, hu2⟩, hfz2, hrow2⟩ := how2; have HROW2 := hid hrow2; clear hrow2; have hS3 : (w2.setCell ⟨wo.heap.size, m, none⟩ (.int .i64 y)).cell? ⟨w.heap.size, k, none⟩ = some (.slice (some ⟨wo.heap.size, 0, none⟩) n n) := (World.cell?_setCell_other w2 _ _ _ (fun e => by injection e; omega)).trans hS2))
          go_wp2_with fail
          go_roundw
          case rel =>
            refine ⟨m + 1, by omega, by go_num, ?_, hb2.setCell (Nat.le_refl _) _⟩
            have h := HROW2.out
            rw [rowF_succ, IL_append, ← HY.out]; exact h
          case measure => simp [intOf]; omega
        · have hmn : m = n := by omega
          subst hmn
          have hrow : Own wr wo.heap.size (some ⟨wo.heap.size, 0, none⟩) m (rowF (contN) k m) := by
            have h := hown
            rw [Nat.sub_self, List.replicate_zero, List.append_nil] at h
            unfold Own; rw [rowF_len]; exact h
          have hxk : (xs.getD k 0).toNat = m := by rw [← HN.out]; omega
          have hnext := HF.out.next (by rw [HRL.out]; exact hlt) wa HWA.out wb (by rw [HRL.out]; exact HWB.out) hbi hrow (by rw [rowF_len])
          have e := rowsF_succ xs (contN) k
          rw [hxk] at e
          rw [← e] at hnext
          have HNX := hid hnext
          have hb3 : Below w.heap.size w wr := hbel.trans (HBB.out.trans (by rw [← HWB.out]; exact hbi.mono (by omega)))
          clear hown hnext e hrow
          go_wp2_with fail
          go_roundw
          case rel => exact ⟨k + 1, by omega, by go_num, ⟨_, _, HNX.out⟩, hb3⟩
          case measure => simp [intOf]; omega
    · have hkl : k = xs.length := by omega
      subst hkl
      have ho := HF.out.own2 HRL.out
      have HO := hid ho
      clear ho
      go_wp2_with fail
      go_ret
      refine ⟨some ⟨w.heap.size, 0, none⟩, xs.length, ?_, HO.out, hbel⟩
      rw [HRL.out]; rfl

set_option maxRecDepth 100000 in
set_option maxHeartbeats 4000000 in
theorem rowsHook_any (A : Option Addr) (c : Nat) (xs : List Int) (gp gc : Nat) (w : World) (G : Good xs) (hc : Cells w A xs)
    (hnum : ∀ (W : World) (r k : Nat), Below w.heap.size w W → r < xs.length → (k : Int) < xs.getD r 0 → Calls Try.prog 210 #[.agg #[.int .i64 r, .int .i64 k], .pointer (some ⟨gp, 0, none⟩), .pointer (some ⟨gc, 0, none⟩)] W fun e W' => e = .returned (.int .i64 (hookN xs r k)) ∧ Below W.heap.size W W') :
    Calls Try.prog 161 #[.slice A xs.length c, .func (.func 210) #[] #[.pointer (some ⟨gp, 0, none⟩), .pointer (some ⟨gc, 0, none⟩)]] w fun e w' => ∃ A' c', e = .returned (.slice A' (rowsF xs (hookN xs) xs.length).length c') ∧ Own2 w' w.heap.size w'.heap.size A' c' (rowsF xs (hookN xs) xs.length) ∧ Below w.heap.size w w' := by
  have HNUM := hid hnum; clear hnum
  have HG := hid G; clear G
  have hlen := HG.out.len
  have hmkO := run_make_row' (P := Try.prog) 33 22 (.slice none 0 0) 24 Try.underlying33 Try.infoInts rfl .i64 .i64 xs.length (by omega) (by omega)
  go_enter Try.func161, Try.ntmps161
  go_wp2_with fail
  go_loopw [14] (fun i wr => ∃ k : Nat, k ≤ xs.length ∧ i = .int .i64 k ∧ (∃ P C, Fill wr w.heap.size w.heap.size xs.length (rowsF xs (hookN xs) k) P C) ∧ Below w.heap.size w wr) (fun i _ => xs.length - (intOf i).toNat)
  case atStart => exact ⟨0, Nat.zero_le _, rfl, ⟨_, _, fill_start w xs.length (by unfold maxLen; omega)⟩, (Below.refl _ _).alloc (Nat.le_refl _) _⟩
  case round =>
    obtain ⟨k, hk, rfl, ⟨P, C, hfill⟩, hbel⟩ := hrel
    obtain ⟨wo, rfl⟩ : ∃ wo : World, wo = wr := ⟨_, rfl⟩
    have HF := hid hfill; clear hfill
    have HRL := hid (rowsF_len xs (hookN xs) k)
    by_cases hlt : k < xs.length
    · have hx1 := HG.out.pos k hlt
      have hx2 := HG.out.le k hlt
      have hcr : Cells wo A xs := hc.later hbel
      obtain ⟨b, o, rfl, hck⟩ := hcr.get hlt
      obtain ⟨n, hn⟩ : ∃ n : Nat, (n : Int) = xs.getD k 0 := ⟨(xs.getD k 0).toNat, by omega⟩
      rw [← hn] at hck hx1 hx2
      have HN := hid hn; clear hn
      have hmk := run_make_row' (P := Try.prog) 22 3 (.int .i64 0) 8 Try.underlying22 Try.infoInt rfl .i64 .i64 n (by omega) (by omega)
      obtain ⟨wa, hwa⟩ : ∃ wa, wa = wo.alloc (.cells (madeCells #[.int .i64 0] n) 3) := ⟨_, rfl⟩
      have hst := HF.out.start (by rw [HRL.out]; exact hlt) n (by omega) wa hwa
      rw [HRL.out] at hst
      obtain ⟨ho0, hcur, hfz, hrow0, hbelb⟩ := hst
      have HO0 := hid ho0
      have HROW0 := hid hrow0
      have HBB := hid hbelb
      have HWA := hid hwa
      obtain ⟨uo, huo⟩ := hcur
      rw [hwa] at huo hfz
      have hlt0 : w.heap.size < wo.heap.size := HF.out.lt
      clear ho0 hrow0 hbelb hwa
      have hwbe : wa.setCell ⟨w.heap.size, k, none⟩ (.slice (some ⟨wo.heap.size, 0, none⟩) n n) = (wo.setCell ⟨w.heap.size, k, none⟩ (.slice (some ⟨wo.heap.size, 0, none⟩) n n)).alloc (.cells (madeCells #[.int .i64 0] n) 3) := by
        rw [HWA.out]; exact World.setCell_alloc_past _ _ _ _ hlt0
      have HWBE := hid hwbe; clear hwbe
      go_wp2_with fail
      rw [← HWBE.out]
      obtain ⟨wb, hwb⟩ : ∃ wb, wb = wa.setCell ⟨w.heap.size, k, none⟩ (.slice (some ⟨wo.heap.size, 0, none⟩) n n) := ⟨_, rfl⟩
      rw [← hwb]
      have HWB := hid hwb; clear hwb hmk huo hfz
      go_loopw [25] (fun j wi => ∃ m : Nat, m ≤ n ∧ j = .int .i64 m ∧ wi.ownsRow wo.heap.size 3 1 (.slice (some ⟨wo.heap.size, 0, none⟩) n n) n (IL (rowF (hookN xs) k m) ++ List.replicate (n - m) (.int .i64 0)) ∧ Below wo.heap.size wb wi) (fun j _ => n - (intOf j).toNat)
      case atStart => exact ⟨0, Nat.zero_le _, rfl, by rw [HWB.out]; exact HROW0.out, Below.refl _ _⟩
      case round =>
        obtain ⟨m, hm, rfl, hown, hbi⟩ := hrel
        have hSo : wb.cell? ⟨w.heap.size, k, none⟩ = some (.slice (some ⟨wo.heap.size, 0, none⟩) n n) := by rw [HWB.out]; exact HO0.out
        have hS0 : ∀ W, Below wo.heap.size wb W → W.cell? ⟨w.heap.size, k, none⟩ = some (.slice (some ⟨wo.heap.size, 0, none⟩) n n) := fun W hW => (hW.cell hlt0).trans hSo
        have HS0 := hid hS0
        clear hSo hS0
        by_cases hml : m < n
        · have hwi : Below w.heap.size w wr.drew := (hbel.trans (HBB.out.trans (by rw [← HWB.out]; exact hbi.mono (by omega)))).drew
          have hcallm := HNUM.out wr.drew k m hwi hlt (by rw [← HN.out]; omega)
          have HC := hid hcallm; clear hcallm
          have hS1 : wr.drew.cell? ⟨w.heap.size, k, none⟩ = some (.slice (some ⟨wo.heap.size, 0, none⟩) n n) := HS0.out _ hbi.drew
          have hmn' : (m : Int) < (n : Int) := by omega
          have hk0 : (0 : Int) ≤ (k : Int) := by omega
          have hkl : (k : Int) < (xs.length : Int) := by omega
          have hm0 : (0 : Int) ≤ (m : Int) := by omega
          have HOW := hid hown; clear hown
          obtain ⟨y, hy⟩ : ∃ y, y = (hookN xs) k m := ⟨_, rfl⟩
          have HY := hid hy
          have hcc := HC.out
          rw [← hy] at hcc
          have HC2 := hid hcc; clear hcc hy
          go_wp2_with fail
          go_region_held3 (fun w' => w'.cell? ⟨w.heap.size, k, none⟩ = some (.slice (some ⟨wo.heap.size, 0, none⟩) n n)) (first | exact hS1 | exact hS2 | exact hS3) (first | (go_at_call 210; refine HC2.out.mono ?_; rintro e w2 ⟨rfl, b2⟩; have hb2 : Below wo.heap.size wb w2 := hbi.drew.trans (b2.mono HOW.out.base_le); have hS2 : w2.cell? ⟨w.heap.size, k, none⟩ = some (.slice (some ⟨wo.heap.size, 0, none⟩) n n) := HS0.out _ hb2; have how2 := fill_row HOW.out b2 y hml (rowF_len (hookN xs) k m); obtain ⟨⟨u2, hu2⟩, hfz2, hrow2⟩ := how2; have HROW2 := hid hrow2; clear hrow2; have hS3 : (w2.setCell ⟨wo.heap.size, m, none⟩ (.int .i64 y)).cell? ⟨w.heap.size, k, none⟩ = some (.slice (some ⟨wo.heap.size, 0, none⟩) n n) := (World.cell?_setCell_other w2 _ _ _ (fun e => by injection e; omega)).trans hS2))
          go_wp2_with fail
          go_roundw
          case rel =>
            refine ⟨m + 1, by omega, by go_num, ?_, hb2.setCell (Nat.le_refl _) _⟩
            have h := HROW2.out
            rw [rowF_succ, IL_append, ← HY.out]; exact h
          case measure => simp [intOf]; omega
        · have hmn : m = n := by omega
          subst hmn
          have hrow : Own wr wo.heap.size (some ⟨wo.heap.size, 0, none⟩) m (rowF (hookN xs) k m) := by
            have h := hown
            rw [Nat.sub_self, List.replicate_zero, List.append_nil] at h
            unfold Own; rw [rowF_len]; exact h
          have hxk : (xs.getD k 0).toNat = m := by rw [← HN.out]; omega
          have hnext := HF.out.next (by rw [HRL.out]; exact hlt) wa HWA.out wb (by rw [HRL.out]; exact HWB.out) hbi hrow (by rw [rowF_len])
          have e := rowsF_succ xs (hookN xs) k
          rw [hxk] at e
          rw [← e] at hnext
          have HNX := hid hnext
          have hb3 : Below w.heap.size w wr := hbel.trans (HBB.out.trans (by rw [← HWB.out]; exact hbi.mono (by omega)))
          clear hown hnext e hrow
          go_wp2_with fail
          go_roundw
          case rel => exact ⟨k + 1, by omega, by go_num, ⟨_, _, HNX.out⟩, hb3⟩
          case measure => simp [intOf]; omega
    · have hkl : k = xs.length := by omega
      subst hkl
      have ho := HF.out.own2 HRL.out
      have HO := hid ho
      clear ho
      go_wp2_with fail
      go_ret
      refine ⟨some ⟨w.heap.size, 0, none⟩, xs.length, ?_, HO.out, hbel⟩
      rw [HRL.out]; rfl
end Go.Proofs.Ytabnhmjiegeldaa
