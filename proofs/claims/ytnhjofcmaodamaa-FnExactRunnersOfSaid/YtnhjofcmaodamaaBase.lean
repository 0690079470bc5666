/-
  Small facts on slices of ints, read or owned, and the contracts of the laws' own helpers: toIntS, eqIntS, markIntS, heldIntS.
-/
import Derived.Test.YtnhjofcmaodamaaProg
import Derived.WalkKit
import Derived.WalkSpells
import Derived.WalkLawsBesides
import Derived.BigQuiet
import Derived.Deep.QuietTactic
import Derived.Deep.OwnRows
namespace Go.Proofs.Ytnhjofcmaodamaa
open Go.RowKit

theorem hid {p : Prop} (h : p) : Hid p := h
theorem ret_bool {a b : Bool} (h : a = b) : Ending.returned (.bool a) = .returned (.bool b) := by rw [h]
theorem ret_int {k : IntKind} {a b : Int} (h : a = b) : Ending.returned (.int k a) = .returned (.int k b) := by rw [h]

/-- The slice of address A reads as the numbers xs. -/
def Cells (w : World) (A : Option Addr) (xs : List Int) : Prop :=
  0 < xs.length → ∃ b o, A = some ⟨b, o, none⟩ ∧ ∀ j, j < xs.length → w.cell? ⟨b, o + j, none⟩ = some (.int .i64 (xs.getD j 0))
def IL (xs : List Int) : List Value := xs.map (Value.int .i64)
/-- The slice of address A is a row of the call's own, from block B on, and holds xs. -/
def Own (w : World) (B : Nat) (A : Option Addr) (c : Nat) (xs : List Int) : Prop :=
  w.ownsRow B 3 1 (.slice A xs.length c) xs.length (IL xs)

theorem IL_get (xs : List Int) (j : Nat) (h : j < xs.length) : (IL xs)[j]? = some (.int .i64 (xs.getD j 0)) := by
  simp [IL, List.getD, h]
theorem Cells.nil (w : World) (A : Option Addr) : Cells w A [] := fun h => absurd h (by simp)
theorem Cells.keep {w w' : World} {A : Option Addr} {xs : List Int} (h : Cells w A xs) (hk : ∀ b, A.map Addr.block = some b → b < w.heap.size → w'.heap[b]? = w.heap[b]?) : Cells w' A xs := by
  intro hp
  obtain ⟨b, o, rfl, hc⟩ := h hp
  refine ⟨b, o, rfl, fun j hj => ?_⟩
  have hcj := hc j hj
  rw [← hcj]
  exact World.cell?_of_block (w := w) (hk b rfl (World.block_lt_of_cell? w _ hcj))
theorem Cells.below {w w' : World} {A : Option Addr} {xs : List Int} (h : Cells w A xs) (hb : Below w.heap.size w w') : Cells w' A xs :=
  h.keep fun b _ hlt => hb.block b hlt
theorem Cells.later {w0 w : World} {A : Option Addr} {xs : List Int} (h : Cells w0 A xs) (hb : Below w0.heap.size w0 w) : Cells w A xs := h.below hb
theorem Cells.grown {w w' : World} {A : Option Addr} {xs : List Int} {row : Option Nat} (h : Cells w A xs) (hg : w.grownBy w' row) (hne : ∀ b, A.map Addr.block = some b → b < w.heap.size → some b ≠ row) : Cells w' A xs :=
  h.keep fun b hb hlt => hg.block b hlt (hne b hb hlt)

theorem Own.cells {w : World} {B : Nat} {A : Option Addr} {c : Nat} {xs : List Int} (h : Own w B A c xs) : Cells w A xs := by
  intro hp
  rcases h.2 with ⟨_, h0⟩ | ⟨g, cap, cur, hv, _⟩
  · omega
  · have hA : A = some ⟨g, 0, none⟩ := by injection hv
    subst hA
    refine ⟨g, 0, rfl, fun j hj => ?_⟩
    rw [Nat.zero_add, World.ownsRow.cellAt h j (by omega), IL_get xs j hj]
theorem Own.at_ {w : World} {B : Nat} {A : Option Addr} {c : Nat} {xs : List Int} (h : Own w B A c xs) (hp : 0 < xs.length) : ∃ g, A = some ⟨g, 0, none⟩ ∧ B ≤ g ∧ g < w.heap.size := by
  rcases h.2 with ⟨_, h0⟩ | ⟨g, cap, cur, hv, hb, hg, _⟩
  · omega
  · have hA : A = some ⟨g, 0, none⟩ := by injection hv
    exact ⟨g, hA, hb, (Array.getElem?_eq_some_iff.1 hg).1⟩
theorem Own.block {w : World} {B : Nat} {A : Option Addr} {c : Nat} {xs : List Int} (h : Own w B A c xs) : ∀ b, A.map Addr.block = some b → B ≤ b ∧ b < w.heap.size := by
  intro b hb
  refine World.ownsRow.lt h b ?_
  cases A with
  | none => simp at hb
  | some a => simpa [Value.ownBlock] using hb
theorem Own.keep {w w' : World} {B : Nat} {A : Option Addr} {c : Nat} {xs : List Int} (h : Own w B A c xs) (hk : ∀ b, A.map Addr.block = some b → b < w.heap.size → w'.heap[b]? = w.heap[b]?) : Own w' B A c xs := by
  refine ⟨h.1, ?_⟩
  rcases h.2 with hn | ⟨g, cap, cur, hv, hb, hgg, rest⟩
  · exact .inl hn
  · refine .inr ⟨g, cap, cur, hv, hb, ?_, rest⟩
    have hA : A = some ⟨g, 0, none⟩ := by injection hv
    rw [hk g (by rw [hA]; rfl) (Array.getElem?_eq_some_iff.1 hgg).1]
    exact hgg
theorem Own.below {w w' : World} {B : Nat} {A : Option Addr} {c : Nat} {xs : List Int} (h : Own w B A c xs) (hb : Below w.heap.size w w') : Own w' B A c xs := h.keep fun b _ hlt => hb.block b hlt
theorem Own.grown {w w' : World} {B : Nat} {A : Option Addr} {c : Nat} {xs : List Int} {row : Option Nat} (h : Own w B A c xs) (hg : w.grownBy w' row) (hne : ∀ b, A.map Addr.block = some b → b < w.heap.size → some b ≠ row) : Own w' B A c xs :=
  h.keep fun b hb hlt => hg.block b hlt (hne b hb hlt)
theorem Own.drewN {w : World} {B : Nat} {A : Option Addr} {c : Nat} {xs : List Int} (h : Own w B A c xs) (n : Nat) : Own (w.drewN n) B A c xs := h
theorem Own.more {w : World} {B B' : Nat} {A : Option Addr} {c : Nat} {xs : List Int} (h : Own w B A c xs) (hB : B' ≤ B) : Own w B' A c xs := by
  refine ⟨h.1, ?_⟩
  rcases h.2 with hn | ⟨g, cap, cur, hv, hb, rest⟩
  · exact .inl hn
  · exact .inr ⟨g, cap, cur, hv, Nat.le_trans hB hb, rest⟩
theorem Below.next {a b c : World} (h : Below a.heap.size a b) (k : Below b.heap.size b c) : Below a.heap.size a c := h.trans (k.mono h.size)
theorem drew2 {w : World} (n m : Nat) : ∃ k, (w.drewN n).drewN m = w.drewN k := ⟨n + m, by rw [World.drewN_drewN]⟩
theorem below_drewN {B : Nat} {a w : World} (h : Below B a w) (n : Nat) : Below B a (w.drewN n) := ⟨h.os, h.tape, h.output, h.size, h.block⟩
theorem below_drew' (w : World) (n : Nat) : Below w.heap.size w (w.drewN n) := below_drewN (Below.refl _ _) n

theorem Try.infoInt : (Try.prog.info? 3).map (fun i => (i.zero, i.size, i.bytes)) = some (some (.int .i64 0), 1, 8) := by kernel_rfl

/-! toIntS -/
theorem toCopy (xs : List Int) (k : Nat) (hk : k < xs.length) (g : Nat) (w : World) (B : Nat)
    (hown : w.ownsRow B 3 1 (.slice (some ⟨g, 0, none⟩) xs.length xs.length) xs.length (IL (xs.take k) ++ List.replicate (xs.length - k) (.int .i64 0))) :
    (w.setCell ⟨g, k, none⟩ (.int .i64 (xs.getD k 0))).ownsRow B 3 1 (.slice (some ⟨g, 0, none⟩) xs.length xs.length) xs.length (IL (xs.take (k + 1)) ++ List.replicate (xs.length - (k + 1)) (.int .i64 0)) := by
  have h := (hown.stored k (.int .i64 (xs.getD k 0))).1
  have e : (IL (xs.take k) ++ List.replicate (xs.length - k) (Value.int .i64 0)).set k (.int .i64 (xs.getD k 0)) = IL (xs.take (k + 1)) ++ List.replicate (xs.length - (k + 1)) (.int .i64 0) := by
    have hl : (IL (xs.take k)).length = k := by simp [IL]; omega
    rw [List.set_append_right _ _ (by omega), hl, Nat.sub_self]
    obtain ⟨m, hm⟩ : ∃ m, xs.length - k = m + 1 := ⟨xs.length - k - 1, by omega⟩
    rw [hm, show xs.length - (k + 1) = m by omega, List.replicate_succ, List.set_cons_zero, List.take_succ_eq_append_getElem hk]
    simp only [IL, List.map_append, List.map_cons, List.map_nil, List.append_assoc, List.cons_append, List.nil_append]
    rw [List.getD_eq_getElem?_getD, List.getElem?_eq_getElem hk]; rfl
  rw [e] at h
  exact h

set_option maxHeartbeats 400000 in
theorem toIntS_any (A : Option Addr) (c : Nat) (xs : List Int) (w : World) (hl : xs.length ≤ 1048576) (hc : Cells w A xs) :
    Calls Try.prog 34 #[.slice A xs.length c] w fun e w' => ∃ A' c', e = .returned (.slice A' xs.length c') ∧ Own w' w.heap.size A' c' xs ∧ Below w.heap.size w w' := by
  have hmk := run_make_row' (P := Try.prog) 22 3 (.int .i64 0) 8 Try.underlying22 Try.infoInt rfl .i64 .i64 xs.length (by omega) (by omega)
  go_enter Try.func34, Try.ntmps34
  go_wp2
  go_loopw [4] (fun i wr => ∃ k : Nat, k ≤ xs.length ∧ i = .int .i64 k ∧ wr.ownsRow w.heap.size 3 1 (.slice (some ⟨w.heap.size, 0, none⟩) xs.length xs.length) xs.length (IL (xs.take k) ++ List.replicate (xs.length - k) (.int .i64 0)) ∧ Below w.heap.size w wr) (fun i _ => xs.length - (intOf i).toNat)
  case atStart =>
    refine ⟨0, Nat.zero_le _, rfl, ?_, (Below.refl _ _).alloc (Nat.le_refl _) _⟩
    have h := World.ownsRow_lit (base := w.heap.size) (e := 3) (size := 1) w (madeCells #[.int .i64 0] xs.length) xs.length (Nat.le_refl _) (by unfold maxLen; omega) (by rw [size_madeCells]; omega)
    rw [toList_madeCells_one] at h
    exact h
  case round =>
    obtain ⟨k, hk, rfl, hown, hbel⟩ := hrel
    by_cases hlt : k < xs.length
    · obtain ⟨b, o, rfl, hcc⟩ := hc (by omega)
      have hck := hcc k hlt
      have hck' : wr.cell? ⟨b, o + k, none⟩ = some (.int .i64 (xs.getD k 0)) := by
        rw [← hck]; exact hbel.cell (World.block_lt_of_cell? w _ hck)
      have hcur := World.ownsRow.cellAt hown k (by omega)
      obtain ⟨u, hu⟩ : ∃ u, (IL (xs.take k) ++ List.replicate (xs.length - k) (Value.int .i64 0))[k]? = some u := by
        refine ⟨_, List.getElem?_eq_getElem (by simp [IL]; omega)⟩
      rw [hu] at hcur
      have hfz := World.ownsRow.frozenAt hown k
      have hst := toCopy xs k hlt _ wr _ hown
      obtain ⟨x, hx⟩ : ∃ x, x = xs.getD k 0 := ⟨_, rfl⟩
      rw [← hx] at hck' hst
      clear hcc hc hck hu hown hx
      have HS := hid hst; clear hst
      go_wp2
      go_roundw
      case rel => exact ⟨k + 1, by omega, by go_num, HS.out, hbel.setCell (Nat.le_refl _) _⟩
      case measure => simp [intOf]; omega
    · have hkl : k = xs.length := by omega
      subst hkl
      have HO := hid hown; clear hown
      go_wp2
      go_ret
      refine ⟨_, _, rfl, ?_, hbel⟩
      have h := HO.out
      rw [List.take_of_length_le (Nat.le_refl _), Nat.sub_self, List.replicate_zero, List.append_nil] at h
      exact h

/-! eqIntS -/
theorem getD_ne_false (xs : List Int) (k : Nat) : (xs.getD k 0 != xs.getD k 0) = false := by simp

set_option maxHeartbeats 400000 in
theorem eqIntS_q (A B : Option Addr) (c d : Nat) (xs : List Int) (w : World) (hl : xs.length ≤ 1048576) (hA : Cells w A xs) (hB : Cells w B xs) :
    Calls Try.prog 37 #[.slice A xs.length c, .slice B xs.length d] w fun e w' => e = .returned (.bool true) ∧ ∃ n, w' = w.drewN n := by
  go_enter Try.func37, Try.ntmps37
  go_wp2
  go_loopw [5] (fun i wr => ∃ k : Nat, k ≤ xs.length ∧ i = .int .i64 k ∧ ∃ n, wr = w.drewN n) (fun i _ => xs.length - (intOf i).toNat)
  case atStart => exact ⟨0, Nat.zero_le _, rfl, 0, rfl⟩
  case round =>
    obtain ⟨k, hk, rfl, n, rfl⟩ := hrel
    by_cases hlt : k < xs.length
    · obtain ⟨b, o, rfl, hcc⟩ := hA (by omega)
      obtain ⟨b2, o2, rfl, hcc2⟩ := hB (by omega)
      have hck := hcc k hlt
      have hck2 := hcc2 k hlt
      clear hcc hcc2
      obtain ⟨x, hx⟩ : ∃ x, x = xs.getD k 0 := ⟨_, rfl⟩
      rw [← hx] at hck hck2
      clear hx
      go_wp2
      go_quiet (fail)
      go_wp2
      go_roundw
      case rel => exact ⟨k + 1, by omega, by go_num, _, rfl⟩
      case measure => simp [intOf]; omega
    · go_wp2
      go_ret
      exact ⟨rfl, n, rfl⟩

theorem eqIntS_t (A B : Option Addr) (c d : Nat) (xs : List Int) (w : World) (hl : xs.length ≤ 1048576) (hA : Cells w A xs) (hB : Cells w B xs) :
    Calls Try.prog 37 #[.slice A xs.length c, .slice B xs.length d] w fun e w' => e = .returned (.bool true) ∧ Below w.heap.size w w' :=
  (eqIntS_q A B c d xs w hl hA hB).mono fun _ _ ⟨he, n, hw⟩ => ⟨he, by rw [hw]; exact below_drew' w n⟩

/-! heldIntS, markIntS -/
def marks (k : Int) (n : Nat) : List Int := (List.range n).map fun i : Nat => k + i
theorem marks_len (k : Int) (n : Nat) : (marks k n).length = n := by simp [marks]
theorem marks_get (k : Int) (n j : Nat) (h : j < n) : (marks k n).getD j 0 = k + j := by simp [marks, List.getD, h]

set_option maxHeartbeats 400000 in
theorem heldIntS_q (A : Option Addr) (c : Nat) (n : Nat) (q : Int) (w : World) (hl : n ≤ 1048576) (hq0 : 0 ≤ q) (hq : q ≤ 1000000000000) (hA : Cells w A (marks q n)) :
    Calls Try.prog 45 #[.slice A n c, .int .i64 q] w fun e w' => e = .returned (.int .i64 (q + n)) ∧ w = w' := by
  go_enter Try.func45, Try.ntmps45
  go_wp2
  go_loop [1, 5] (fun v i => ∃ k : Nat, k ≤ n ∧ i = .int .i64 k ∧ v = .int .i64 (q + k)) (fun _ i => n - (intOf i).toNat)
  case atStart => exact ⟨0, Nat.zero_le _, rfl, by simp⟩
  case round =>
    obtain ⟨k, hk, rfl, rfl⟩ := hrel
    by_cases hlt : k < n
    · obtain ⟨b, o, rfl, hcc⟩ := hA (by rw [marks_len]; omega)
      have hck := hcc k (by rw [marks_len]; omega)
      rw [marks_get q n k hlt] at hck
      clear hcc
      go_wp2
      go_round
      case rel => exact ⟨k + 1, by omega, by go_num, by go_num⟩
      case measure => simp [intOf]; omega
    · have hkn : k = n := by omega
      subst hkn
      go_wp2
      go_ret
      exact ⟨rfl, rfl⟩

theorem heldIntS_t (A : Option Addr) (c : Nat) (n : Nat) (q : Int) (w : World) (hl : n ≤ 1048576) (hq0 : 0 ≤ q) (hq : q ≤ 1000000000000) (hA : Cells w A (marks q n)) :
    Calls Try.prog 45 #[.slice A n c, .int .i64 q] w fun e w' => e = .returned (.int .i64 (q + n)) ∧ Below w.heap.size w w' :=
  (heldIntS_q A c n q w hl hq0 hq hA).mono fun _ _ ⟨he, hw⟩ => ⟨he, by rw [hw]; exact Below.refl _ _⟩

theorem IL_set (ys : List Int) (k : Nat) (x : Int) : (IL ys).set k (.int .i64 x) = IL (ys.set k x) := by simp [IL, List.map_set]
/-- What markIntS has written after k rounds. -/
def marked (q : Int) (xs : List Int) (k : Nat) : List Int := marks q k ++ xs.drop k
theorem marked_len (q : Int) (xs : List Int) (k : Nat) (h : k ≤ xs.length) : (marked q xs k).length = xs.length := by simp [marked, marks]; omega
theorem marked_zero (q : Int) (xs : List Int) : marked q xs 0 = xs := by simp [marked, marks]
theorem marked_full (q : Int) (xs : List Int) : marked q xs xs.length = marks q xs.length := by simp [marked]
theorem marked_set (q : Int) (xs : List Int) (k : Nat) (h : k < xs.length) : (marked q xs k).set k (q + k) = marked q xs (k + 1) := by
  unfold marked
  rw [List.set_append_right _ _ (by rw [marks_len]; exact Nat.le_refl _), marks_len, Nat.sub_self, List.drop_eq_getElem_cons h, List.set_cons_zero]
  simp [marks, List.range_succ]

set_option maxHeartbeats 400000 in
theorem markIntS_any (B : Nat) (A : Option Addr) (c : Nat) (xs : List Int) (q : Int) (w : World) (hl : xs.length ≤ 1048576) (hq0 : 0 ≤ q) (hq : q ≤ 1000000000000) (hA : Own w B A c xs) :
    Calls Try.prog 38 #[.slice A xs.length c, .int .i64 q] w fun e w' => e = .returned (.int .i64 (q + xs.length)) ∧ Own w' B A c (marks q xs.length) ∧ w.grownBy w' (A.map Addr.block) ∧ w'.heap.size = w.heap.size := by
  by_cases h0 : xs.length = 0
  · have hx : xs = [] := List.eq_nil_of_length_eq_zero h0
    subst hx
    go_enter Try.func38, Try.ntmps38
    go_wp2
    go_loop [1, 5] (fun v i => i = .int .i64 0 ∧ v = .int .i64 q) (fun _ _ => 0)
    case atStart => exact ⟨rfl, rfl⟩
    case round =>
      obtain ⟨rfl, rfl⟩ := hrel
      go_wp2
      go_ret
      exact ⟨ret_int (by simp), by simpa [marks] using hA, World.grownBy.refl _ _, rfl⟩
  obtain ⟨g, rfl, hBg, hglt⟩ := hA.at_ (by omega)
  go_enter Try.func38, Try.ntmps38
  go_wp2
  go_loopw [1, 5] (fun v i wr => ∃ k : Nat, k ≤ xs.length ∧ i = .int .i64 k ∧ v = .int .i64 (q + k) ∧ wr.ownsRow B 3 1 (.slice (some ⟨g, 0, none⟩) xs.length c) xs.length (IL (marked q xs k)) ∧ w.grownBy wr (some g) ∧ wr.heap.size = w.heap.size) (fun _ i _ => xs.length - (intOf i).toNat)
  case atStart => exact ⟨0, Nat.zero_le _, rfl, by simp, by rw [marked_zero]; exact hA, World.grownBy.refl _ _, rfl⟩
  case round =>
    obtain ⟨k, hk, rfl, rfl, hown, hgr, hsz⟩ := hrel
    by_cases hlt : k < xs.length
    · have hcur := World.ownsRow.cellAt hown k (by omega)
      obtain ⟨u, hu⟩ : ∃ u, (IL (marked q xs k))[k]? = some u := ⟨_, IL_get _ k (by rw [marked_len q xs k hk]; exact hlt)⟩
      rw [hu] at hcur
      have hfz := World.ownsRow.frozenAt hown k
      obtain ⟨hst, hg2⟩ := hown.stored k (.int .i64 (q + k))
      rw [IL_set, marked_set q xs k hlt] at hst
      have HS := hid hst; clear hst
      have HG := hid hg2; clear hg2
      have HZ := hid hsz; clear hsz
      clear hu hown hA
      go_wp2
      go_roundw
      case rel => exact ⟨k + 1, by omega, by go_num, by go_num, HS.out, ⟨HG.out.os.trans hgr.os, HG.out.tape.trans hgr.tape, HG.out.output.trans hgr.output, Nat.le_trans hgr.size HG.out.size, fun i hi hne => (HG.out.block i (Nat.lt_of_lt_of_le hi hgr.size) hne).trans (hgr.block i hi hne)⟩, by rw [← HZ.out]; simp [World.setCell]⟩
      case measure => simp [intOf]; omega
    · have hkl : k = xs.length := by omega
      subst hkl
      have HO := hid hown; clear hown
      have HZ := hid hsz; clear hsz
      clear hA
      go_wp2
      go_ret
      have h := HO.out
      rw [marked_full] at h
      refine ⟨rfl, ?_, hgr, HZ.out⟩
      unfold Own
      rw [marks_len]
      exact h
def I64 (n : Int) : Prop := -9223372036854775808 ≤ n ∧ n ≤ 9223372036854775807
theorem ret_two {a b : Value} {x y : Value} (h1 : a = x) (h2 : b = y) : Ending.returned (.tuple #[a, b]) = .returned (.tuple #[x, y]) := by rw [h1, h2]
end Go.Proofs.Ytnhjofcmaodamaa
