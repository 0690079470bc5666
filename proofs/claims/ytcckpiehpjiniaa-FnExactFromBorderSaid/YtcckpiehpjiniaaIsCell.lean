/-
  Contracts: what is a cell, of the program and of the model.
-/
import Derived.Test.YtcckpiehpjiniaaIsPart
import Derived.Test.YtcckpiehpjiniaaSmall
import Derived.Test.YtcckpiehpjiniaaCellMath
namespace Go.Proofs.Ytcckpiehpjiniaa
open Go.RowKit

set_option maxHeartbeats 1000000 in
theorem ptCell_any (A : Option Addr) (c : Nat) (xs : List Int) (r k : Int) (w : World) (hg : good xs = true) (hr : I64 r) (hk : I64 k) (hc : Cells w A xs) :
    Calls Try.prog 87 #[.slice A xs.length c, .int .i64 r, .int .i64 k] w fun e w' => e = .returned (.bool (cellB xs r k)) ∧ w = w' := by
  have G := (good_iff xs).1 hg
  have hn := G.len
  clear hg
  have hr' := hr; unfold I64 at hr'
  have hk' := hk; unfold I64 at hk'
  by_cases h1 : inB 0 ((xs.length : Int) - 1) r = true
  · have h1' := inB_iff.1 h1
    obtain ⟨r', rfl⟩ : ∃ r' : Nat, r = r' := ⟨r.toNat, by omega⟩
    have hx := G.pos r' (by omega)
    have hx2 := G.le r' (by omega)
    obtain ⟨b, o, rfl, hcc⟩ := hc (by omega)
    have hck := hcc r' (by omega)
    obtain ⟨x, hxx⟩ : ∃ x, x = xs.getD r' 0 := ⟨_, rfl⟩
    have e : cellB xs r' k = inB 0 (x - 1) k := by
      rw [hxx]; unfold cellB inB
      rw [decide_eq_true (by omega), decide_eq_true (by omega), Bool.true_and, Bool.true_and, Int.toNat_natCast]
      congr 1
      exact decide_eq_decide.2 (by omega)
    rw [← hxx] at hx hx2 hck
    rw [e]
    clear hcc hc hxx e
    have H1 := hid h1; clear h1 G
    go_enter Try.func87, Try.ntmps87
    go_wp2_with fail
    refine (l1In_b _ _ _ _ _ H1.out).mono ?_
    rintro e w' ⟨rfl, rfl⟩
    go_wp2_with fail
    refine (l1In_any _ _ _ _).mono ?_
    rintro e w' ⟨rfl, rfl⟩
    go_wp2_with fail
    go_ret
    exact ⟨rfl, rfl⟩
  · have h1f : inB 0 ((xs.length : Int) - 1) r = false := by simpa using h1
    have e : cellB xs r k = false := by
      rw [inB_iff] at h1
      cases hcb : cellB xs r k
      · rfl
      · have := cellB_iff.1 hcb; omega
    rw [e]
    have H1 := hid h1f; clear h1 h1f e G
    go_enter Try.func87, Try.ntmps87
    go_wp2_with fail
    refine (l1In_b _ _ _ _ _ H1.out).mono ?_
    rintro e w' ⟨rfl, rfl⟩
    go_wp2_with fail
    go_ret
    exact ⟨rfl, rfl⟩
theorem ptCell_b (A : Option Addr) (c : Nat) (xs : List Int) (r k : Int) (w : World) (hg : good xs = true) (hr : I64 r) (hk : I64 k) (hc : Cells w A xs) (v : Bool) (h : cellB xs r k = v) :
    Calls Try.prog 87 #[.slice A xs.length c, .int .i64 r, .int .i64 k] w fun e w' => e = .returned (.bool v) ∧ w = w' := by
  subst h; exact ptCell_any A c xs r k w hg hr hk hc

theorem at_no_good {xs : List Int} {r k : Int} (h : good xs = false) : atB xs r k = false := by simp [atB, h]
theorem at_good {xs : List Int} {r k : Int} (h : good xs = true) : atB xs r k = cellB xs r k := by simp [atB, h]
theorem cell_no {xs : List Int} {r k : Int} (h : ¬ (0 ≤ r ∧ r < xs.length ∧ 0 ≤ k ∧ k < xs.getD r.toNat 0)) : cellB xs r k = false := by
  cases hcb : cellB xs r k
  · rfl
  · exact absurd (cellB_iff.1 hcb) h

set_option maxHeartbeats 1000000 in
theorem isCell_any (A : Option Addr) (c : Nat) (xs : List Int) (r k : Int) (w : World) (hl : xs.length ≤ 1048576) (hc : Cells w A xs) :
    Calls Try.prog 90 #[.slice A xs.length c, .int .i64 r, .int .i64 k] w fun e w' => e = .returned (.bool (atB xs r k)) ∧ w = w' := by
  cases hg : good xs
  · rw [at_no_good hg]
    have HG := hid hg; clear hg
    go_enter Try.func90, Try.ntmps90
    go_wp2_with (go_at_call 79; refine (IsPartition_b _ _ _ _ hl hc _ HG.out).mono ?_; rintro e w' ⟨rfl, rfl⟩)
    go_ret
    exact ⟨rfl, rfl⟩
  rw [at_good hg]
  have HG := hid hg; clear hg
  by_cases h1 : 0 ≤ r
  rotate_left
  · rw [cell_no (by omega)]
    go_enter Try.func90, Try.ntmps90
    go_wp2_with (go_at_call 79; refine (IsPartition_b _ _ _ _ hl hc _ HG.out).mono ?_; rintro e w' ⟨rfl, rfl⟩)
    go_ret
    exact ⟨rfl, rfl⟩
  by_cases h2 : r < xs.length
  rotate_left
  · rw [cell_no (by omega)]
    go_enter Try.func90, Try.ntmps90
    go_wp2_with (go_at_call 79; refine (IsPartition_b _ _ _ _ hl hc _ HG.out).mono ?_; rintro e w' ⟨rfl, rfl⟩)
    go_ret
    exact ⟨rfl, rfl⟩
  by_cases h3 : 0 ≤ k
  rotate_left
  · rw [cell_no (by omega)]
    go_enter Try.func90, Try.ntmps90
    go_wp2_with (go_at_call 79; refine (IsPartition_b _ _ _ _ hl hc _ HG.out).mono ?_; rintro e w' ⟨rfl, rfl⟩)
    go_ret
    exact ⟨rfl, rfl⟩
  obtain ⟨r', rfl⟩ : ∃ r' : Nat, r = r' := ⟨r.toNat, by omega⟩
  obtain ⟨b, o, rfl, hcc⟩ := hc (by omega)
  have hck := hcc r' (by omega)
  clear hcc
  obtain ⟨x, hxx⟩ : ∃ x, x = xs.getD r' 0 := ⟨_, rfl⟩
  have e : cellB xs r' k = decide (k < x) := by
    rw [hxx]; unfold cellB
    rw [decide_eq_true (by omega), decide_eq_true (by omega), decide_eq_true (by omega), Int.toNat_natCast]; rfl
  rw [← hxx] at hck
  rw [e]
  clear e hxx
  by_cases h4 : k < x
  · rw [decide_eq_true h4]
    go_enter Try.func90, Try.ntmps90
    go_wp2_with (go_at_call 79; refine (IsPartition_b _ _ _ _ hl hc _ HG.out).mono ?_; rintro e w' ⟨rfl, rfl⟩)
    go_ret
    exact ⟨rfl, rfl⟩
  · rw [decide_eq_false h4]
    have h4' : x ≤ k := by omega
    clear h4
    go_enter Try.func90, Try.ntmps90
    go_wp2_with (go_at_call 79; refine (IsPartition_b _ _ _ _ hl hc _ HG.out).mono ?_; rintro e w' ⟨rfl, rfl⟩)
    go_ret
    exact ⟨ret_bool (decide_eq_false (by omega)), rfl⟩
theorem isCell_b (A : Option Addr) (c : Nat) (xs : List Int) (r k : Int) (w : World) (hl : xs.length ≤ 1048576) (hc : Cells w A xs) (v : Bool) (h : atB xs r k = v) :
    Calls Try.prog 90 #[.slice A xs.length c, .int .i64 r, .int .i64 k] w fun e w' => e = .returned (.bool v) ∧ w = w' := by
  subst h; exact isCell_any A c xs r k w hl hc

theorem Cells.get {w : World} {A : Option Addr} {xs : List Int} (h : Cells w A xs) {j : Nat} (hj : j < xs.length) : ∃ b o, A = some ⟨b, o, none⟩ ∧ w.cell? ⟨b, o + j, none⟩ = some (.int .i64 (xs.getD j 0)) := by
  obtain ⟨b, o, e, hc⟩ := h (by omega)
  exact ⟨b, o, e, hc j hj⟩

end Go.Proofs.Ytcckpiehpjiniaa
