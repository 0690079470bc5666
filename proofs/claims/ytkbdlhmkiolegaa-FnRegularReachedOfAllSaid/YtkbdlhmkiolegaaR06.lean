/-
  Several texts in one.
-/
import Derived.Test.YtkbdlhmkiolegaaR05
import Derived.BigQuiet
import Derived.Test.YtkbdlhmkiolegaaCB
import Derived.Test.YtkbdlhmkiolegaaR04
import Derived.Test.YtkbdlhmkiolegaaCH
/-
  Contracts: WithoutRim of the program and of the model.
-/
namespace Go.Proofs.Ytkbdlhmkiolegaa
open Go.RowKit

def lowN (xs : List Int) (k : Nat) : Nat := (colH xs k).toNat - 1
def outF (xs : List Int) (r k : Int) : List Int := if atB xs r k then outL xs r.toNat k.toNat (lowN xs k.toNat) else []
def legF (xs : List Int) (r k : Int) : Int := if atB xs r k then (lowN xs k.toNat : Int) - r else 0
theorem outL_len (xs : List Int) (r k low : Nat) : (outL xs r k low).length ≤ xs.length := by
  unfold outL
  refine Nat.le_trans (List.length_filter_le _ _) ?_
  rw [restL_len]; exact Nat.le_refl _
theorem bound_WithoutRim (xs : List Int) (r k : Int) : (outF xs r k).length ≤ 1048576 := by
  unfold outF
  split
  · rename_i h
    simp only [atB, Bool.and_eq_true] at h
    have := ((good_iff xs).1 h.1).len
    have := outL_len xs r.toNat k.toNat (lowN xs k.toNat)
    omega
  · simp

theorem own_prefix {w : World} {B g c : Nat} {ys : List Int} (h : Own w B (some ⟨g, 0, none⟩) c ys) (m : Nat) (hm : m ≤ ys.length) : Own w B (some ⟨g, 0, none⟩) c (ys.take m) := by
  unfold Own
  refine ⟨by simp [IL], ?_⟩
  rcases h.2 with ⟨hv, _⟩ | ⟨g', cap, cur, hv, hB, hh, hn, hmx, hcs, htk⟩
  · simp at hv
  · have e1 : c = cap := by injection hv
    have e2 : g = g' := by injection hv with h1; injection h1 with h1; injection h1
    subst e1 e2
    refine .inr ⟨g, c, cur, rfl, hB, hh, by rw [List.length_take]; omega, hmx, hcs, ?_⟩
    have e3 : IL (ys.take m) = (IL ys).take m := by simp [IL, List.map_take]
    rw [e3, ← htk, List.take_take, List.length_take]
    congr 1
    omega
theorem out_ex {xs : List Int} {r k low : Nat} (R : RimOK xs r k low) : ∀ m, m ≤ xs.length → (∀ j, m ≤ j → j < xs.length → rest xs r k low j = 0) → ∃ m', m' ≤ m ∧ (restL xs r k low).take m' = outL xs r k low
  | 0, hm, hz => ⟨0, Nat.le_refl _, R.out_take hm hz (fun h => absurd h (by omega))⟩
  | m + 1, hm, hz => by
    by_cases h : rest xs r k low m = 0
    · obtain ⟨m', h1, h2⟩ := out_ex R m (by omega) (fun j h1 h2 => by
        by_cases e : m + 1 ≤ j
        · exact hz j e h2
        · have : j = m := by omega
          subst this; exact h)
      exact ⟨m', by omega, h2⟩
    · exact ⟨m + 1, Nat.le_refl _, R.out_take hm hz (fun _ => h)⟩
theorem own_out {w : World} {B g c : Nat} {xs : List Int} {r k low : Nat} (R : RimOK xs r k low) (h : Own w B (some ⟨g, 0, none⟩) c (restL xs r k low)) : Own w B (some ⟨g, 0, none⟩) c (outL xs r k low) := by
  obtain ⟨m, h1, h2⟩ := out_ex R xs.length (Nat.le_refl _) (fun j h1 h2 => by omega)
  rw [← h2]
  exact own_prefix h m (by rw [restL_len]; exact h1)
theorem IL_oneC (xs : List Int) : ∀ u ∈ IL xs, u.oneCell' = true := by
  intro u hu
  simp only [IL, List.mem_map] at hu
  obtain ⟨x, _, rfl⟩ := hu
  rfl
set_option maxRecDepth 100000 in
set_option maxHeartbeats 1000000 in
theorem clone_any (b o c : Nat) (xs : List Int) (w : World) (hl : xs.length ≤ 1000) (hp : 0 < xs.length) (hc : Cells w (some ⟨b, o, none⟩) xs) :
    Calls Try.prog 81 #[.slice (some ⟨b, o, none⟩) xs.length c] w fun e w' => ∃ g c', e = .returned (.slice (some ⟨g, 0, none⟩) xs.length c') ∧ Own w' w.heap.size (some ⟨g, 0, none⟩) c' xs ∧ Below w.heap.size w w' := by
  obtain ⟨i0, hi, hz0, hz1, hz2⟩ := info_parts Try.infoInt
  have hm0 := World.ownsRow_made (base := w.heap.size) (e := 3) (size := 1) w #[] 0 (Nat.le_refl _) (by unfold maxLen; omega) rfl
  have hb0 : Below w.heap.size w (w.alloc (.cells #[] 3)) := (Below.refl _ _).alloc (Nat.le_refl _) _
  have hcc := hc.below hb0
  have hat : ∀ j u, (IL xs)[j]? = some u → (w.alloc (.cells #[] 3)).cell? ((⟨b, o, none⟩ : Addr).add j) = some u := by
    intro j u hu
    have hj : j < xs.length := by
      have := (List.getElem?_eq_some_iff.1 hu).1
      simpa [IL] using this
    have h := hcc.at_row hj
    rw [IL_get xs j hj] at hu
    have e : (⟨b, o, none⟩ : Addr).add j = ⟨b, o + j, none⟩ := by unfold Addr.add; split <;> simp_all
    rw [e, h, ← hu]
  have hnil := fun w => Lib.run_eql_slice_nil (P := Try.prog) w 22 3 (some ⟨b, o, none⟩) xs.length c 0 0 Try.underlying22
  go_enter Try.func81, Try.ntmps81
  go_wp2_with (at_builtin; refine wpList_append_own _ rfl _ _ 22 rfl w.heap.size 3 i0 (.int .i64 0) 1 8 Try.underlying22 hi hz0 hz1 hz2 rfl (by decide) _ 0 [] rfl hm0 ⟨b, o, none⟩ xs.length c (IL xs) rfl (by simp [IL]) hat (IL_oneC xs) (by unfold maxLen; omega) (by omega) (by simp) ?_)
  intro v' w1 hown' hgrow _
  have hb1 : Below w.heap.size w w1 := hb0.grown hgrow (by simp) (fun q hq => (hm0.lt q hq).1)
  obtain ⟨g, c', rfl, ho⟩ : ∃ g c', v' = .slice (some ⟨g, 0, none⟩) xs.length c' ∧ Own w1 w.heap.size (some ⟨g, 0, none⟩) c' xs := by
    rcases hown'.2 with ⟨_, h0⟩ | ⟨g, cap, cur, rfl, _⟩
    · omega
    · exact ⟨g, cap, rfl, hown'⟩
  clear hown' hgrow
  go_wp2_with fail
  go_ret
  exact ⟨g, c', rfl, ho, hb1⟩

end Go.Proofs.Ytkbdlhmkiolegaa
/-
  Contracts: a row of ints copied, its source a row of the call's own, nil or not.
-/
namespace Go.Proofs.Ytkbdlhmkiolegaa
open Go.RowKit

set_option maxRecDepth 100000 in
set_option maxHeartbeats 1000000 in
theorem cloneOwn_any {B : Nat} (A : Option Addr) (c : Nat) (xs : List Int) (w : World) (hl : xs.length ≤ 1048576) (ho : Own w B A c xs) :
    Calls Try.prog 81 #[.slice A xs.length c] w fun e w' => ∃ A' c', e = .returned (.slice A' xs.length c') ∧ Own w' w.heap.size A' c' xs ∧ Below w.heap.size w w' := by
  obtain ⟨i0, hi, hz0, hz1, hz2⟩ := info_parts Try.infoInt
  cases A with
  | none =>
    obtain ⟨h0, rfl⟩ := own_none ho
    have e : xs = [] := List.eq_nil_of_length_eq_zero h0
    subst e
    have hnil := fun w => Lib.run_eql_slice_nil (P := Try.prog) w 22 3 none 0 0 0 0 Try.underlying22
    go_enter Try.func81, Try.ntmps81
    go_wp2_with fail
    go_ret
    exact ⟨none, 0, rfl, own_nil _ _, Below.refl _ _⟩
  | some ad =>
    have hm0 := World.ownsRow_made (base := w.heap.size) (e := 3) (size := 1) w #[] 0 (Nat.le_refl _) (by unfold maxLen; omega) rfl
    have hb0 : Below w.heap.size w (w.alloc (.cells #[] 3)) := (Below.refl _ _).alloc (Nat.le_refl _) _
    have hat := own_news ho (.cells #[] 3)
    have hnil := fun w => Lib.run_eql_slice_nil (P := Try.prog) w 22 3 (some ad) xs.length c 0 0 Try.underlying22
    go_enter Try.func81, Try.ntmps81
    go_wp2_with (at_builtin; refine wpList_append_own _ rfl _ _ 22 rfl w.heap.size 3 i0 (.int .i64 0) 1 8 Try.underlying22 hi hz0 hz1 hz2 rfl (by decide) _ 0 [] rfl hm0 ad xs.length c (IL xs) rfl (by simp [IL]) hat (IL_oneC xs) (by unfold maxLen; omega) (by omega) (by simp) ?_)
    intro v' w1 hown' hgrow _
    have hb1 : Below w.heap.size w w1 := hb0.grown hgrow (by simp) (fun q hq => (hm0.lt q hq).1)
    obtain ⟨A', c', rfl, ho'⟩ := own_form hown' rfl
    clear hown' hgrow
    go_wp2_with fail
    go_ret
    exact ⟨A', c', rfl, ho', hb1⟩

set_option maxRecDepth 100000 in
set_option maxHeartbeats 1000000 in
theorem l1Own_any {B : Nat} (A : Option Addr) (c : Nat) (xs : List Int) (w : World) (hl : xs.length ≤ 1048576) (ho : Own w B A c xs) :
    Calls Try.prog 59 #[.slice A xs.length c] w fun e w' => ∃ A' c', e = .returned (.slice A' xs.length c') ∧ Own w' w.heap.size A' c' xs ∧ Below w.heap.size w w' := by
  obtain ⟨i0, hi, hz0, hz1, hz2⟩ := info_parts Try.infoInt
  have hm0 := World.ownsRow_made (base := w.heap.size) (e := 3) (size := 1) w #[] 0 (Nat.le_refl _) (by unfold maxLen; omega) rfl
  have hb0 : Below w.heap.size w (w.alloc (.cells #[] 3)) := (Below.refl _ _).alloc (Nat.le_refl _) _
  have hat : ∀ ad, A = some ad → ∀ k u, (IL xs)[k]? = some u → (w.alloc (.cells #[] 3)).cell? (ad.add k) = some u := by
    rintro ad rfl; exact own_news ho _
  have hno : A = none → xs.length = 0 ∧ c = 0 := by rintro rfl; exact own_none ho
  go_enter Try.func59, Try.ntmps59
  go_wp2_with (at_builtin; refine wpList_append_opt _ rfl _ _ 22 rfl w.heap.size 3 i0 (.int .i64 0) 1 8 Try.underlying22 hi hz0 hz1 hz2 rfl (by decide) _ 0 [] rfl hm0 A xs.length c (IL xs) rfl (by simp [IL]) hno hat (IL_oneC xs) (by unfold maxLen; omega) (by omega) (by simp) ?_)
  intro v' w1 hown' hgrow
  have hb1 : Below w.heap.size w w1 := hb0.grown hgrow (by simp) (fun q hq => (hm0.lt q hq).1)
  obtain ⟨A', c', rfl, ho'⟩ := own_form hown' rfl
  clear hown' hgrow
  go_wp2_with fail
  go_ret
  exact ⟨A', c', rfl, ho', hb1⟩
end Go.Proofs.Ytkbdlhmkiolegaa
/-
  Sets of closed gaps: the model's boSets.
-/
namespace Go.Proofs.Ytkbdlhmkiolegaa
open Go.RowKit

/-- All closed gaps that go on H with some of the gaps. -/
def bsL (a b : Int) : List Int → List Int → List (List Int)
  | [], H => [H]
  | x :: gs, H => bsL a b gs H ++ (if (hbB H x a && hbB H x b) = true then bsL a b gs (H ++ [x]) else [])
theorem bsL_len (a b : Int) : ∀ (gs H : List Int), (bsL a b gs H).length ≤ 2 ^ gs.length
  | [], H => Nat.le_refl _
  | x :: gs, H => by
    rw [bsL, List.length_append, List.length_cons, Nat.pow_succ]
    have h1 := bsL_len a b gs H
    split
    · have h2 := bsL_len a b gs (H ++ [x]); omega
    · simp; omega
theorem pow10 {n : Nat} (h : n ≤ 10) : 2 ^ n ≤ 1024 := by
  rcases (show n = 0 ∨ n = 1 ∨ n = 2 ∨ n = 3 ∨ n = 4 ∨ n = 5 ∨ n = 6 ∨ n = 7 ∨ n = 8 ∨ n = 9 ∨ n = 10 by omega) with rfl | rfl | rfl | rfl | rfl | rfl | rfl | rfl | rfl | rfl | rfl <;> decide

end Go.Proofs.Ytkbdlhmkiolegaa
