/-
  Several texts in one.
-/
import Derived.Test.YtmiifdedmjfgkaaR02
import Derived.Test.YtmiifdedmjfgkaaR01
/-
  The program's IsPartition and the sum of cells.
-/
namespace Go.Proofs.Ytmiifdedmjfgkaa
open Go.RowKit

set_option maxHeartbeats 400000 in
theorem idPart_any (x : Int) (w : World) : Calls Try.prog 50 #[.int .i64 x] w fun e w' => e = .returned (.int .i64 x) ∧ w = w' := by
  go_enter Try.func50, Try.ntmps50
  go_wp2
  go_ret
  exact ⟨rfl, rfl⟩

set_option maxHeartbeats 400000 in
theorem sumCells_any (A : Option Addr) (xs : List Int) (c : Nat) (w : World) (hl : xs.length ≤ 30) (hb : ∀ j, j < xs.length → 0 ≤ xs.getD j 0 ∧ xs.getD j 0 ≤ 1000) (hc : Cells w A xs) :
    Calls Try.prog 48 #[.slice A xs.length c, .func (.func 50) #[] #[]] w fun e w' => e = .returned (.int .i64 xs.sum) ∧ w = w' := by
  have HB := hid hb; clear hb
  go_enter Try.func48, Try.ntmps48
  go_wp2_with fail
  go_loop [5, 10] (fun s i => ∃ k : Nat, k ≤ xs.length ∧ i = .int .i64 k ∧ s = .int .i64 (xs.take k).sum) (fun _ i => xs.length - (intOf i).toNat)
  case atStart => exact ⟨0, Nat.zero_le _, rfl, by simp⟩
  case round =>
    obtain ⟨k, hk, rfl, rfl⟩ := hrel
    have hsb := sum_take_bound xs 1000 HB.out (by omega) k
    obtain ⟨s, hs⟩ : ∃ s, s = (xs.take k).sum := ⟨_, rfl⟩
    rw [← hs] at hsb ⊢
    have HS := hid hs; clear hs
    by_cases hlt : k < xs.length
    · obtain ⟨b, o, rfl, hcc⟩ := hc (by omega)
      have hck := hcc k hlt
      have hxb := HB.out k hlt
      clear hcc hc
      obtain ⟨x, hx⟩ : ∃ x, x = xs.getD k 0 := ⟨_, rfl⟩
      rw [← hx] at hck hxb
      have HX := hid hx; clear hx
      go_wp2_with (go_at_call 50; refine (idPart_any _ _).mono ?_; rintro e w' ⟨rfl, rfl⟩)
      go_round
      case rel => exact ⟨k + 1, by omega, by go_num, by rw [sum_take_succ xs k hlt, ← HS.out, ← HX.out]⟩
      case measure => simp [intOf]; omega
    · go_wp2_with fail
      go_ret
      exact ⟨ret_int (by rw [HS.out, List.take_of_length_le (by omega)]), rfl⟩

set_option maxHeartbeats 400000 in
theorem cellCount_any (A : Option Addr) (xs : List Int) (c : Nat) (w : World) (hl : xs.length ≤ 30) (hb : ∀ j, j < xs.length → 0 ≤ xs.getD j 0 ∧ xs.getD j 0 ≤ 1000) (hc : Cells w A xs) :
    Calls Try.prog 42 #[.slice A xs.length c] w fun e w' => e = .returned (.int .i64 xs.sum) ∧ w = w' := by
  have HB := hid hb; clear hb
  go_enter Try.func42, Try.ntmps42
  go_wp2_with (go_at_call 48; refine (sumCells_any _ _ _ _ hl HB.out hc).mono ?_; rintro e w' ⟨rfl, rfl⟩)
  go_ret
  exact ⟨rfl, rfl⟩

theorem chk_lo {m x : Int} {t : List Int} (h : x < 1) : chk m (x :: t) = false := by simp only [chk]; rw [decide_eq_false (by omega)]; rfl
theorem chk_hi {m x : Int} {t : List Int} (h : m < x) : chk m (x :: t) = false := by simp only [chk]; rw [decide_eq_false (p := x ≤ m) (by omega)]; simp

set_option maxHeartbeats 400000 in
theorem IsPartition_any (A : Option Addr) (xs : List Int) (c : Nat) (w : World) (hl : xs.length ≤ 1048576) (hc : Cells w A xs) :
    Calls Try.prog 28 #[.slice A xs.length c] w fun e w' => e = .returned (.bool (good xs)) ∧ w = w' := by
  by_cases h30 : 30 < xs.length
  · rw [good_no_len h30]
    go_enter Try.func28, Try.ntmps28
    go_wp2_with fail
    go_ret
    exact ⟨rfl, rfl⟩
  go_enter Try.func28, Try.ntmps28
  go_wp2_with fail
  go_loop [3, 11] (fun m i => ∃ (k : Nat) (l : Int), k ≤ xs.length ∧ i = .int .i64 k ∧ m = .int .i64 l ∧ chk 30 xs = chk l (xs.drop k)) (fun _ i => xs.length - (intOf i).toNat)
  case atStart => exact ⟨0, 30, Nat.zero_le _, rfl, rfl, by simp⟩
  case round =>
    obtain ⟨k, l, hk, rfl, rfl, he⟩ := hrel
    have HE := hid he; clear he
    by_cases hlt : k < xs.length
    · obtain ⟨b, o, rfl, hcc⟩ := hc (by omega)
      have hck := hcc k hlt
      clear hcc hc
      have HD := hid (drop_cons xs k hlt)
      obtain ⟨x, hx⟩ : ∃ x, x = xs.getD k 0 := ⟨_, rfl⟩
      rw [← hx] at hck HD
      clear hx
      by_cases h1 : x < 1
      · go_wp2_with fail
        go_ret
        exact ⟨ret_bool (good_no_chk (by rw [HE.out, HD.out, chk_lo h1])).symm, rfl⟩
      by_cases h2 : l < x
      · go_wp2_with fail
        go_ret
        exact ⟨ret_bool (good_no_chk (by rw [HE.out, HD.out, chk_hi h2])).symm, rfl⟩
      go_wp2_with fail
      go_round
      case rel => exact ⟨k + 1, x, by omega, by go_num, rfl, by rw [HE.out, HD.out, chk, decide_eq_true (by omega), decide_eq_true (by omega)]; rfl⟩
      case measure => simp [intOf]; omega
    · have hck : chk 30 xs = true := by rw [HE.out, List.drop_eq_nil_of_le (by omega)]; rfl
      have HK := hid hck; clear hck
      go_wp2_with (go_at_call 42; refine (cellCount_any _ _ _ _ (by omega) (fun j hj => by have := (chk_parts HK.out).1 j hj; have := (chk_parts HK.out).2.1 j hj; omega) hc).mono ?_; rintro e w' ⟨rfl, rfl⟩)
      go_ret
      exact ⟨ret_bool (good_chk (by omega) HK.out).symm, rfl⟩
theorem IsPartition_b (A : Option Addr) (xs : List Int) (c : Nat) (w : World) (hl : xs.length ≤ 1048576) (hc : Cells w A xs) (b : Bool) (h : good xs = b) :
    Calls Try.prog 28 #[.slice A xs.length c] w fun e w' => e = .returned (.bool b) ∧ w = w' := by
  subst h; exact IsPartition_any A xs c w hl hc
end Go.Proofs.Ytmiifdedmjfgkaa
/-
  Small facts on rows of ints of the call's own.
-/
namespace Go.Proofs.Ytmiifdedmjfgkaa
open Go.RowKit

theorem own_form {w : World} {B : Nat} {v : Value} {n : Nat} {xs : List Int} (h : w.ownsRow B 3 1 v n (IL xs)) (hn : n = xs.length) : ∃ A c, v = .slice A xs.length c ∧ Own w B A c xs := by
  subst hn
  rcases h.2 with ⟨hv, h0⟩ | ⟨g, cap, cur, hv, _⟩
  · refine ⟨none, 0, by rw [hv, h0], ?_⟩
    unfold Own; rw [h0]; rw [h0] at h; rw [← hv]; exact h
  · exact ⟨some ⟨g, 0, none⟩, cap, hv, by unfold Own; rw [← hv]; exact h⟩

theorem own_nil (w : World) (B : Nat) : Own w B none 0 [] := World.ownsRow_nil w B _ _

theorem IL_snoc (ys : List Int) (k : Nat) (h : k < ys.length) : IL (ys.take k) ++ [Value.int .i64 (ys.getD k 0)] = IL (ys.take (k + 1)) := by
  rw [List.take_succ_eq_append_getElem h]
  simp only [IL, List.map_append, List.map_cons, List.map_nil]
  rw [List.getD_eq_getElem?_getD, List.getElem?_eq_getElem h]; rfl

theorem one_at {w : World} {x : Value} {t : TypeId} (j : Nat) (u : Value) (h : [x][j]? = some u) : (w.alloc (.cells #[x] t)).cell? ((⟨w.heap.size, 0, none⟩ : Addr).add j) = some u := by
  match j, h with
  | 0, h => simp at h; subst h; simp [Addr.add]

theorem one_cell (x : Int) : ∀ u ∈ [Value.int .i64 x], u.oneCell' = true := by
  intro u hu; simp at hu; subst hu; rfl

theorem own_snoc {w : World} {B : Nat} {v : Value} {ys zs : List Int} {x : Int} (h : zs = ys ++ [x]) (ho : w.ownsRow B 3 1 v (ys.length + 1) (IL ys ++ [.int .i64 x])) : w.ownsRow B 3 1 v zs.length (IL zs) := by
  subst h
  have e : IL (ys ++ [x]) = IL ys ++ [.int .i64 x] := by simp [IL]
  rw [e, List.length_append]; exact ho
theorem IL_set' (xs : List Int) (k : Nat) (v : Int) : (IL xs).set k (.int .i64 v) = IL (xs.set k v) := by simp [IL, List.map_set]
theorem own_set {w : World} {B g c : Nat} {xs : List Int} (h : Own w B (some ⟨g, 0, none⟩) c xs) (k : Nat) (v : Int) : Own (w.setCell ⟨g, k, none⟩ (.int .i64 v)) B (some ⟨g, 0, none⟩) c (xs.set k v) := by
  have h2 := (World.ownsRow.stored h k (.int .i64 v)).1
  rw [IL_set'] at h2
  unfold Own
  rw [List.length_set]
  exact h2
theorem own_get {w : World} {B g c : Nat} {xs : List Int} (h : Own w B (some ⟨g, 0, none⟩) c xs) {k : Nat} (hk : k < xs.length) : w.cell? ⟨g, k, none⟩ = some (.int .i64 (xs.getD k 0)) := by
  rw [World.ownsRow.cellAt h k (by omega), IL_get xs k hk]
theorem own_froz {w : World} {B g c : Nat} {xs : List Int} (h : Own w B (some ⟨g, 0, none⟩) c xs) (k : Nat) : w.frozen? ⟨g, k, none⟩ = false := World.ownsRow.frozenAt h k
theorem own_len {w : World} {B c : Nat} {A : Option Addr} {xs ys : List Int} (h : Own w B A c xs) (e : xs = ys) : Own w B A c ys := e ▸ h
end Go.Proofs.Ytmiifdedmjfgkaa
