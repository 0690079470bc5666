/-
  Several texts in one.
-/
import Derived.Test.YtkbdlhmkiolegaaCV
import Derived.Test.YtkbdlhmkiolegaaR22
import Derived.Test.YtkbdlhmkiolegaaR09
import Derived.Test.YtkbdlhmkiolegaaCU
/-
  Contracts: signatures and arrows of the program (made by genfo.py).
-/
namespace Go.Proofs.Ytkbdlhmkiolegaa
open Go.RowKit

theorem canHaveArrows_b (A : Option Addr) (c : Nat) (xs : List Int) (t i : Int) (w : World) (hl : xs.length ≤ 1048576) (hc : Cells w A xs) (b : Bool) (h : asB xs t i = b) :
    Calls Try.prog 49 #[.slice A xs.length c, .int .i64 t, .int .i64 i] w fun e w' => e = .returned (.bool b) ∧ w = w' := by
  subst h
  cases hg : good xs
  · rw [show asB xs t i = false by simp [asB, hg]]
    have H := hid hg
    clear hg
    go_enter Try.func49, Try.ntmps49
    go_wp2_with (go_at_call 36; refine (IsPartition_b _ _ _ _ hl hc _ H.out).mono ?_; rintro e w' ⟨rfl, rfl⟩)
    go_ret
    exact ⟨rfl, rfl⟩
  · cases ht : inB 2 6 t
    · rw [show asB xs t i = false by simp [asB, ht]]
      have H := hid hg
      have HT := hid ht
      clear hg ht
      go_enter Try.func49, Try.ntmps49
      go_wp2_with (first | (go_at_call 36; refine (IsPartition_b _ _ _ _ hl hc _ H.out).mono ?_; rintro e w' ⟨rfl, rfl⟩) | (go_at_call 19; refine (hasRunners_b _ _ _ HT.out).mono ?_; rintro e w' ⟨rfl, rfl⟩))
      go_ret
      exact ⟨rfl, rfl⟩
    · have H := hid hg
      have HT := hid ht
      have e : asB xs t i = (decide (0 ≤ i) && decide (i < t)) := by
        rw [show asB xs t i = inB 0 (t - 1) i by simp [asB, hg, ht]]
        unfold inB
        congr 1
        exact decide_eq_decide.2 (by omega)
      obtain ⟨b, hb⟩ : ∃ b, b = (decide (0 ≤ i) && decide (i < t)) := ⟨_, rfl⟩
      rw [e, ← hb]
      have HB := hid hb.symm
      clear hg ht e hb
      go_enter Try.func49, Try.ntmps49
      go_wp2_with (first | (go_at_call 36; refine (IsPartition_b _ _ _ _ hl hc _ H.out).mono ?_; rintro e w' ⟨rfl, rfl⟩) | (go_at_call 19; refine (hasRunners_b _ _ _ HT.out).mono ?_; rintro e w' ⟨rfl, rfl⟩) | (go_at_call 60; refine (isResidue_b _ _ _ _ HB.out).mono ?_; rintro e w' ⟨rfl, rfl⟩))
      go_ret
      exact ⟨rfl, rfl⟩

end Go.Proofs.Ytkbdlhmkiolegaa
/-
  Contracts: the arrows of the program (made by genfa.py).
-/
namespace Go.Proofs.Ytkbdlhmkiolegaa
open Go.RowKit

theorem RN_get (l : List Nat) (k : Nat) (h : k < l.length) : (RN l).getD k 0 = ((l.getD k 0 : Nat) : Int) := by simp [RN, List.getD, h]

theorem choice_call_up (v : Value) (w : World) : (callMethod (.iface 62 (.agg #[])) "loop.example/g01136/impl.choice" #[v]).run Try.prog w = .ok (.enter 116 #[.agg #[], v]) w := by kernel_rfl
theorem change_call_up (v x : Value) (w : World) : (callMethod (.iface 62 (.agg #[])) "loop.example/g01136/impl.change" #[v, x]).run Try.prog w = .ok (.enter 115 #[.agg #[], v, x]) w := by kernel_rfl
theorem nil_up (n : Nat) (w : World) : (nilAhead (n + 1) 62 (.agg #[]) "loop.example/g01136/impl.change").run Try.prog w = .ok (some false) w := by kernel_rfl
theorem choice_up (A : Option Addr) (c : Nat) (X : List Int) (r : Nat) (w : World) (_hl : X.length ≤ 1000) (h0 : 0 < X.length) (hr : X.getD (0) 0 = (r : Int)) (hc : Cells w A X) :
    Calls Try.prog 116 #[.agg #[], .slice A X.length c] w fun e w' => e = .returned (.int .i64 r) ∧ Below w.heap.size w w' := by
  obtain ⟨b, o, rfl, hcc⟩ := hc h0
  have hck := (hcc (0) (by omega)).trans (by rw [hr])
  have hck2 : (w.alloc (.cells #[] 62)).cell? ⟨b, o + (0), none⟩ = some (.int .i64 (r : Int)) := by
    rw [((Below.refl _ _).alloc (Nat.le_refl _) _ : Below w.heap.size w (w.alloc (.cells #[] 62))).cell (World.block_lt_of_cell? w _ hck)]; exact hck
  obtain ⟨n, hn⟩ : ∃ n, n = X.length := ⟨_, rfl⟩
  rw [← hn] at h0 ⊢
  rw [Nat.add_zero] at hck hck2
  clear hcc hr hn
  go_enter Try.func116, Try.ntmps116
  go_wp2
  go_ret
  exact ⟨rfl, (Below.refl _ _).alloc (Nat.le_refl _) _⟩
theorem change_up (A : Option Addr) (c : Nat) (p : List Int) (r : Nat) (w : World) (G : Good p) (hok : r ≤ p.length) (hno : A = none → p.length = 0 ∧ c = 0) (hc : Cells w A p) :
    Calls Try.prog 115 #[.agg #[], .slice A p.length c, .int .i64 r] w fun e w' => ∃ A' c', e = .returned (.slice A' (incL p r).length c') ∧ Own w' w.heap.size A' c' (incL p r) ∧ Below w.heap.size w w' := by
  have hw : Below w.heap.size w (w.alloc (.cells #[] 62)) := (Below.refl _ _).alloc (Nat.le_refl _) _
  have HC := hid (withCellC_any A c p r (w.alloc (.cells #[] 62)) (by have := G.len; omega) (fun j hj => ⟨G.pos j hj, G.le j hj⟩) hok hno (hc.later hw))
  have hsz : (w.alloc (.cells #[] 62)).heap.size = w.heap.size + 1 := by simp
  have HW := hid hw
  have HSZ := hid hsz
  clear hw hsz hc hno G hok
  go_enter Try.func115, Try.ntmps115
  go_wp2_with fail
  refine HC.out.mono ?_
  rintro e w1 ⟨A1, c1, rfl, o1, b1⟩
  have HO := hid (o1.more (by rw [HSZ.out]; omega) : Own w1 w.heap.size A1 c1 _)
  have HB := hid (Below.next HW.out b1)
  clear o1 b1
  go_wp2_with fail
  go_ret
  exact ⟨A1, c1, rfl, HO.out, HB.out⟩

set_option maxRecDepth 100000 in
set_option maxHeartbeats 8000000 in
theorem follow_up (A : Option Addr) (c : Nat) (xs : List Int) (t i : Int) (w : World) (hl : xs.length ≤ 1048576) (hno : A = none → xs.length = 0 ∧ c = 0) (hc : Cells w A xs) :
    Calls Try.prog 32 #[.slice A xs.length c, .int .i64 t, .int .i64 i, .iface 62 (.agg #[])] w fun e w' => ∃ A' c', e = .returned (.tuple #[.slice A' (upF xs t i).length c', .bool (upOk xs t i)]) ∧ Own w' w.heap.size A' c' (upF xs t i) ∧ Below w.heap.size w w' := by
  cases h : asB xs t i
  · rw [show upF xs t i = [] by simp [upF, h], show upOk xs t i = false by simp [upOk, h]]
    have H := hid h; clear h
    go_enter Try.func32, Try.ntmps32
    go_wp2_with (go_at_call 49; refine (canHaveArrows_b _ _ _ _ _ _ hl hc _ H.out).mono ?_; rintro e w' ⟨rfl, rfl⟩)
    go_ret2
    exact ⟨none, 0, rfl, own_nil _ _, Below.refl _ _⟩
  · obtain ⟨hg, G, ht, _⟩ := asB_t h
    obtain ⟨n, rfl⟩ : ∃ n : Nat, t = n := ⟨t.toNat, by omega⟩
    have HR := hid (rowsLeft_up A c xs n i w hg (by omega) hno hc)
    have hrl := sigM_len31 G.len n i
    have hfl := fl_le (red (sig xs n i)) 65
    have hRl : (RN (fl (red (sig xs n i)) 65)).length ≤ 31 := by rw [RN_len]; omega
    have H := hid h
    cases hu : upR (red (sig xs n i)) with
    | none =>
      rw [upR_no hu, show RN ([] : List Nat) = [] from rfl] at HR
      have e1 : upF xs n i = [] := by simp [upF, h, (au_none hu).1]
      have e2 : upOk xs n i = false := by simp [upOk, (au_none hu).2]
      rw [e1, e2]
      clear h hu e1 e2 hrl hfl hRl G
      go_enter Try.func32, Try.ntmps32
      go_wp2_with (first | (go_at_call 49; refine (canHaveArrows_b _ _ _ _ _ _ hl hc _ H.out).mono ?_; rintro e w' ⟨rfl, rfl⟩) | (go_at_call 50; refine HR.out.mono ?_; rintro e w1 ⟨A1, c1, rfl, o1, b1⟩))
      go_ret2
      exact ⟨none, 0, rfl, own_nil _ _, b1⟩
    | some r =>
      obtain ⟨k0, k1⟩ := upR_fl hu
      have hX0 : 0 < (RN (fl (red (sig xs n i)) 65)).length := by rw [RN_len]; exact k0
      have hXr : (RN (fl (red (sig xs n i)) 65)).getD (0) 0 = (r : Int) := by first | rw [RN_len, RN_get _ _ (by omega), k1] | rw [RN_get _ _ (by omega), k1]
      have hok := up_ok G hu
      have hrl31 := hok.1
      have e1 : upF xs n i = (if good (incL xs r) then incL xs r else []) := by simp [upF, h, (au_some hu).1]
      have e2 : upOk xs n i = good (incL xs r) := by simp [upOk, h, (au_some hu).1, (au_some hu).2]
      rw [e1, e2]
      obtain ⟨X, hX⟩ : ∃ X, X = RN (fl (red (sig xs n i)) 65) := ⟨_, rfl⟩
      rw [← hX] at HR hX0 hXr hRl
      have HX0 := hid hX0
      have HXR := hid hXr
      have HCHO := hid fun W A1 c1 (h : Cells W A1 X) => choice_up A1 c1 X r W (by omega) HX0.out HXR.out h
      have HCHA := hid fun W (h : Cells W A xs) => change_up A c xs r W G hok.1 hno h
      have hch := choice_call_up
      have hca := change_call_up
      have hna := nil_up
      have hx30 := G.len
      have hDl : (incL xs r).length ≤ 31 := by rw [inc_len]; split <;> omega
      have HGOOD := hid (True.intro : True)
      obtain ⟨D, hD⟩ : ∃ D, D = incL xs r := ⟨_, rfl⟩
      rw [← hD] at HCHA hDl
      rw [← hD]
      have HIP := hid fun A2 c2 W (h : Cells W A2 D) b hb => IsPartition_b A2 D c2 W (by omega) h b hb
      have HCC := hid hc
      clear h hu k0 k1 hok e1 e2 hrl hfl G hX hD hX0 hXr
      have hne : ¬ ((X.length : Nat) : Int) = 0 := by have := HX0.out; omega
      cases hg2 : good D
      · have HG := hid hg2
        rw [if_neg (by simp)]
        clear hg2
        go_enter Try.func32, Try.ntmps32
        go_wp2_with (first | (go_at_call 49; refine (canHaveArrows_b _ _ _ _ _ _ hl hc _ H.out).mono ?_; rintro e w' ⟨rfl, rfl⟩) | (go_at_call 50; refine HR.out.mono ?_; rintro e w1 ⟨A1, c1, rfl, o1, b1⟩))
        have HX1 := hid o1.cells
        have HB1 := hid b1
        have bd : Below w.heap.size w w1.drew := below_drewN b1 1
        have HBD := hid bd
        have HXD := hid (show Cells w1.drew A1 X from o1.cells)
        have HCD := hid (HCC.out.later bd)
        have HWN := hid b1.size
        clear o1 b1 bd
        go_region_with (first | (go_at_call 116; refine (HCHO.out _ _ _ HXD.out).mono ?_; rintro e w2 ⟨rfl, b2⟩; have HB2 := hid b2; have HC2 := hid (HCD.out.later b2); clear b2) | (go_at_call 115; refine (HCHA.out _ HC2.out).mono ?_; rintro e w3 ⟨A3, c3, rfl, o3, b3⟩; have HO3 := hid o3; have HB3 := hid b3; clear o3 b3))
        all_goals go_wp2_with (go_at_call 36; refine (HIP.out _ _ _ HO3.out.cells _ HG.out).mono ?_; rintro e w' ⟨rfl, rfl⟩)
        all_goals go_ret2
        all_goals exact ⟨none, 0, rfl, own_nil _ _, Below.next (Below.next HBD.out HB2.out) HB3.out⟩
      · have HG := hid hg2
        rw [if_pos rfl]
        clear hg2
        go_enter Try.func32, Try.ntmps32
        go_wp2_with (first | (go_at_call 49; refine (canHaveArrows_b _ _ _ _ _ _ hl hc _ H.out).mono ?_; rintro e w' ⟨rfl, rfl⟩) | (go_at_call 50; refine HR.out.mono ?_; rintro e w1 ⟨A1, c1, rfl, o1, b1⟩))
        have HX1 := hid o1.cells
        have HB1 := hid b1
        have bd : Below w.heap.size w w1.drew := below_drewN b1 1
        have HBD := hid bd
        have HXD := hid (show Cells w1.drew A1 X from o1.cells)
        have HCD := hid (HCC.out.later bd)
        have HWN := hid b1.size
        clear o1 b1 bd
        go_region_with (first | (go_at_call 116; refine (HCHO.out _ _ _ HXD.out).mono ?_; rintro e w2 ⟨rfl, b2⟩; have HB2 := hid b2; have HC2 := hid (HCD.out.later b2); clear b2) | (go_at_call 115; refine (HCHA.out _ HC2.out).mono ?_; rintro e w3 ⟨A3, c3, rfl, o3, b3⟩; have HO3 := hid o3; have HB3 := hid b3; clear o3 b3))
        all_goals go_wp2_with (go_at_call 36; refine (HIP.out _ _ _ HO3.out.cells _ HG.out).mono ?_; rintro e w' ⟨rfl, rfl⟩)
        all_goals go_ret2
        all_goals exact ⟨A3, c3, rfl, HO3.out.more (Nat.le_trans HBD.out.size HB2.out.size), Below.next (Below.next HBD.out HB2.out) HB3.out⟩


theorem choice_call_down (v : Value) (w : World) : (callMethod (.iface 50 (.agg #[])) "loop.example/g01136/impl.choice" #[v]).run Try.prog w = .ok (.enter 111 #[.agg #[], v]) w := by kernel_rfl
theorem change_call_down (v x : Value) (w : World) : (callMethod (.iface 50 (.agg #[])) "loop.example/g01136/impl.change" #[v, x]).run Try.prog w = .ok (.enter 110 #[.agg #[], v, x]) w := by kernel_rfl
theorem nil_down (n : Nat) (w : World) : (nilAhead (n + 1) 50 (.agg #[]) "loop.example/g01136/impl.change").run Try.prog w = .ok (some false) w := by kernel_rfl
theorem choice_down (A : Option Addr) (c : Nat) (X : List Int) (r : Nat) (w : World) (_hl : X.length ≤ 1000) (h0 : 0 < X.length) (hr : X.getD (X.length - 1) 0 = (r : Int)) (hc : Cells w A X) :
    Calls Try.prog 111 #[.agg #[], .slice A X.length c] w fun e w' => e = .returned (.int .i64 r) ∧ Below w.heap.size w w' := by
  obtain ⟨b, o, rfl, hcc⟩ := hc h0
  have hck := (hcc (X.length - 1) (by omega)).trans (by rw [hr])
  have hck2 : (w.alloc (.cells #[] 50)).cell? ⟨b, o + (X.length - 1), none⟩ = some (.int .i64 (r : Int)) := by
    rw [((Below.refl _ _).alloc (Nat.le_refl _) _ : Below w.heap.size w (w.alloc (.cells #[] 50))).cell (World.block_lt_of_cell? w _ hck)]; exact hck
  obtain ⟨n, hn⟩ : ∃ n, n = X.length := ⟨_, rfl⟩
  rw [← hn] at hck hck2 _hl h0 ⊢
  have hw : IntKind.i64.wrap ((n : Int) - 1) = ((n - 1 : Nat) : Int) := by rw [IntWalk.i64_in _ (by omega)]; omega
  have hn2 : ((n - 1 : Nat) : Int) < (n : Int) := by omega
  have hn1 : n - 1 < n := by omega
  obtain ⟨n1, hn1e⟩ : ∃ n1, n1 = n - 1 := ⟨_, rfl⟩
  rw [← hn1e] at hck hck2 hw hn2 hn1
  clear hn1e
  clear hcc hr hn
  go_enter Try.func111, Try.ntmps111
  go_wp2
  go_ret
  exact ⟨rfl, (Below.refl _ _).alloc (Nat.le_refl _) _⟩
theorem change_down (A : Option Addr) (c : Nat) (p : List Int) (r : Nat) (w : World) (G : Good p) (hok : r < p.length ∧ p.getD (r + 1) 0 < p.getD r 0) (hno : A = none → p.length = 0 ∧ c = 0) (hc : Cells w A p) :
    Calls Try.prog 110 #[.agg #[], .slice A p.length c, .int .i64 r] w fun e w' => ∃ A' c', e = .returned (.slice A' (decL p r).length c') ∧ Own w' w.heap.size A' c' (decL p r) ∧ Below w.heap.size w w' := by
  have hw : Below w.heap.size w (w.alloc (.cells #[] 50)) := (Below.refl _ _).alloc (Nat.le_refl _) _
  have HC := hid (withoutCell_any A c p r (w.alloc (.cells #[] 50)) G hok.1 hok.2 hno (hc.later hw))
  have hsz : (w.alloc (.cells #[] 50)).heap.size = w.heap.size + 1 := by simp
  have HW := hid hw
  have HSZ := hid hsz
  clear hw hsz hc hno G hok
  go_enter Try.func110, Try.ntmps110
  go_wp2_with fail
  refine HC.out.mono ?_
  rintro e w1 ⟨A1, c1, rfl, o1, b1⟩
  have HO := hid (o1.more (by rw [HSZ.out]; omega) : Own w1 w.heap.size A1 c1 _)
  have HB := hid (Below.next HW.out b1)
  clear o1 b1
  go_wp2_with fail
  go_ret
  exact ⟨A1, c1, rfl, HO.out, HB.out⟩

set_option maxRecDepth 100000 in
set_option maxHeartbeats 8000000 in
theorem follow_down (A : Option Addr) (c : Nat) (xs : List Int) (t i : Int) (w : World) (hl : xs.length ≤ 1048576) (hno : A = none → xs.length = 0 ∧ c = 0) (hc : Cells w A xs) :
    Calls Try.prog 32 #[.slice A xs.length c, .int .i64 t, .int .i64 i, .iface 50 (.agg #[])] w fun e w' => ∃ A' c', e = .returned (.tuple #[.slice A' (dnF xs t i).length c', .bool (dnOk8 xs t i)]) ∧ Own w' w.heap.size A' c' (dnF xs t i) ∧ Below w.heap.size w w' := by
  cases h : asB xs t i
  · rw [show dnF xs t i = [] by simp [dnF, h], show dnOk8 xs t i = false by simp [dnOk8, h]]
    have H := hid h; clear h
    go_enter Try.func32, Try.ntmps32
    go_wp2_with (go_at_call 49; refine (canHaveArrows_b _ _ _ _ _ _ hl hc _ H.out).mono ?_; rintro e w' ⟨rfl, rfl⟩)
    go_ret2
    exact ⟨none, 0, rfl, own_nil _ _, Below.refl _ _⟩
  · obtain ⟨hg, G, ht, _⟩ := asB_t h
    obtain ⟨n, rfl⟩ : ∃ n : Nat, t = n := ⟨t.toNat, by omega⟩
    have HR := hid (rowsLeft_down A c xs n i w hg (by omega) hno hc)
    have hrl := sigM_len31 G.len n i
    have hfl := fl_le (red (sig xs n i)) 82
    have hRl : (RN (fl (red (sig xs n i)) 82)).length ≤ 31 := by rw [RN_len]; omega
    have H := hid h
    cases hu : dnRr (red (sig xs n i)) with
    | none =>
      rw [dnRr_no hu, show RN ([] : List Nat) = [] from rfl] at HR
      have e1 : dnF xs n i = [] := by simp [dnF, h, (ad_none hu).1]
      have e2 : dnOk8 xs n i = false := by simp [dnOk8, (ad_none hu).2]
      rw [e1, e2]
      clear h hu e1 e2 hrl hfl hRl G
      go_enter Try.func32, Try.ntmps32
      go_wp2_with (first | (go_at_call 49; refine (canHaveArrows_b _ _ _ _ _ _ hl hc _ H.out).mono ?_; rintro e w' ⟨rfl, rfl⟩) | (go_at_call 50; refine HR.out.mono ?_; rintro e w1 ⟨A1, c1, rfl, o1, b1⟩))
      go_ret2
      exact ⟨none, 0, rfl, own_nil _ _, b1⟩
    | some r =>
      obtain ⟨k0, k1⟩ := dnR_fl hu
      have hX0 : 0 < (RN (fl (red (sig xs n i)) 82)).length := by rw [RN_len]; exact k0
      have hXr : (RN (fl (red (sig xs n i)) 82)).getD ((RN (fl (red (sig xs n i)) 82)).length - 1) 0 = (r : Int) := by first | rw [RN_len, RN_get _ _ (by omega), k1] | rw [RN_get _ _ (by omega), k1]
      have hok := dn_ok G hu
      have hrl31 := hok.1
      have e1 : dnF xs n i = decL xs r := by simp [dnF, h, (ad_some hu).1]
      have e2 : dnOk8 xs n i = true := by simp [dnOk8, h, (ad_some hu).2]
      rw [e1, e2]
      obtain ⟨X, hX⟩ : ∃ X, X = RN (fl (red (sig xs n i)) 82) := ⟨_, rfl⟩
      rw [← hX] at HR hX0 hXr hRl
      have HX0 := hid hX0
      have HXR := hid hXr
      have HCHO := hid fun W A1 c1 (h : Cells W A1 X) => choice_down A1 c1 X r W (by omega) HX0.out HXR.out h
      have HCHA := hid fun W (h : Cells W A xs) => change_down A c xs r W G ⟨hok.1, hok.2.1⟩ hno h
      have hch := choice_call_down
      have hca := change_call_down
      have hna := nil_down
      have hx30 := G.len
      have hDl : (decL xs r).length ≤ 31 := by have := dec_len xs r; omega
      have HGOOD := hid ((good_iff _).2 (dec_good G hok.1 hok.2.1))
      obtain ⟨D, hD⟩ : ∃ D, D = decL xs r := ⟨_, rfl⟩
      rw [← hD] at HCHA hDl HGOOD
      rw [← hD]
      have HIP := hid fun A2 c2 W (h : Cells W A2 D) b hb => IsPartition_b A2 D c2 W (by omega) h b hb
      have HCC := hid hc
      clear h hu k0 k1 hok e1 e2 hrl hfl G hX hD hX0 hXr
      have hne : ¬ ((X.length : Nat) : Int) = 0 := by have := HX0.out; omega
      have HG := HGOOD
      go_enter Try.func32, Try.ntmps32
      go_wp2_with (first | (go_at_call 49; refine (canHaveArrows_b _ _ _ _ _ _ hl hc _ H.out).mono ?_; rintro e w' ⟨rfl, rfl⟩) | (go_at_call 50; refine HR.out.mono ?_; rintro e w1 ⟨A1, c1, rfl, o1, b1⟩))
      have HX1 := hid o1.cells
      have HB1 := hid b1
      have bd : Below w.heap.size w w1.drew := below_drewN b1 1
      have HBD := hid bd
      have HXD := hid (show Cells w1.drew A1 X from o1.cells)
      have HCD := hid (HCC.out.later bd)
      have HWN := hid b1.size
      clear o1 b1 bd
      go_region_with (first | (go_at_call 111; refine (HCHO.out _ _ _ HXD.out).mono ?_; rintro e w2 ⟨rfl, b2⟩; have HB2 := hid b2; have HC2 := hid (HCD.out.later b2); clear b2) | (go_at_call 110; refine (HCHA.out _ HC2.out).mono ?_; rintro e w3 ⟨A3, c3, rfl, o3, b3⟩; have HO3 := hid o3; have HB3 := hid b3; clear o3 b3))
      all_goals go_wp2_with (go_at_call 36; refine (HIP.out _ _ _ HO3.out.cells _ HG.out).mono ?_; rintro e w' ⟨rfl, rfl⟩)
      all_goals go_ret2
      all_goals exact ⟨A3, c3, rfl, HO3.out.more (Nat.le_trans HBD.out.size HB2.out.size), Below.next (Below.next HBD.out HB2.out) HB3.out⟩


set_option maxRecDepth 100000 in
theorem impl_ArrowUpC (A : Option Addr) (c : Nat) (xs : List Int) (t i : Int) (w : World) (hl : xs.length ≤ 1048576) (hno : A = none → xs.length = 0 ∧ c = 0) (hc : Cells w A xs) :
    Calls Try.prog 31 #[.slice A xs.length c, .int .i64 t, .int .i64 i] w fun e w' => ∃ A' c', e = .returned (.tuple #[.slice A' (upF xs t i).length c', .bool (upOk xs t i)]) ∧ Own w' w.heap.size A' c' (upF xs t i) ∧ Below w.heap.size w w' := by
  have HF := hid (follow_up A c xs t i w hl hno hc)
  have hmk := mk_up
  obtain ⟨R, hR⟩ : ∃ R, R = upF xs t i := ⟨_, rfl⟩
  obtain ⟨S, hS⟩ : ∃ S, S = upOk xs t i := ⟨_, rfl⟩
  rw [← hR, ← hS] at HF
  rw [← hR, ← hS]
  clear hR hS
  go_enter Try.func31, Try.ntmps31
  go_wp2_with fail
  refine HF.out.mono ?_
  rintro e w1 ⟨A1, c1, rfl, o1, b1⟩
  go_wp2_with fail
  go_ret2
  exact ⟨A1, c1, rfl, o1, b1⟩

set_option maxRecDepth 100000 in
theorem impl_ArrowDownC (A : Option Addr) (c : Nat) (xs : List Int) (t i : Int) (w : World) (hl : xs.length ≤ 1048576) (hno : A = none → xs.length = 0 ∧ c = 0) (hc : Cells w A xs) :
    Calls Try.prog 15 #[.slice A xs.length c, .int .i64 t, .int .i64 i] w fun e w' => ∃ A' c', e = .returned (.tuple #[.slice A' (dnF xs t i).length c', .bool (dnOk8 xs t i)]) ∧ Own w' w.heap.size A' c' (dnF xs t i) ∧ Below w.heap.size w w' := by
  have HF := hid (follow_down A c xs t i w hl hno hc)
  have hmk := mk_down
  obtain ⟨R, hR⟩ : ∃ R, R = dnF xs t i := ⟨_, rfl⟩
  obtain ⟨S, hS⟩ : ∃ S, S = dnOk8 xs t i := ⟨_, rfl⟩
  rw [← hR, ← hS] at HF
  rw [← hR, ← hS]
  clear hR hS
  go_enter Try.func15, Try.ntmps15
  go_wp2_with fail
  refine HF.out.mono ?_
  rintro e w1 ⟨A1, c1, rfl, o1, b1⟩
  go_wp2_with fail
  go_ret2
  exact ⟨A1, c1, rfl, o1, b1⟩

end Go.Proofs.Ytkbdlhmkiolegaa
/-
  Contracts of chapter 8's calls on signatures and arrows, as the laws' walks ask them: of rows of the call's own.
-/
namespace Go.Proofs.Ytkbdlhmkiolegaa
open Go.RowKit

theorem own_hno {w : World} {B c : Nat} {A : Option Addr} {xs : List Int} (h : Own w B A c xs) : A = none → xs.length = 0 ∧ c = 0 := by
  rintro rfl; exact own_none h
theorem impl_ArrowUp {B : Nat} (A : Option Addr) (c : Nat) (xs : List Int) (t i : Int) (w : World) (hl : xs.length ≤ 1048576) (ho : Own w B A c xs) (_ : I64 t) (_ : I64 i) :
    Calls Try.prog 31 #[.slice A xs.length c, .int .i64 t, .int .i64 i] w fun e w' => ∃ A' c', e = .returned (.tuple #[.slice A' (upF xs t i).length c', .bool (upOk xs t i)]) ∧ Own w' w.heap.size A' c' (upF xs t i) ∧ Below w.heap.size w w' :=
  impl_ArrowUpC A c xs t i w hl (own_hno ho) ho.cells
theorem impl_ArrowDown {B : Nat} (A : Option Addr) (c : Nat) (xs : List Int) (t i : Int) (w : World) (hl : xs.length ≤ 1048576) (ho : Own w B A c xs) (_ : I64 t) (_ : I64 i) :
    Calls Try.prog 15 #[.slice A xs.length c, .int .i64 t, .int .i64 i] w fun e w' => ∃ A' c', e = .returned (.tuple #[.slice A' (dnF xs t i).length c', .bool (dnOk8 xs t i)]) ∧ Own w' w.heap.size A' c' (dnF xs t i) ∧ Below w.heap.size w w' :=
  impl_ArrowDownC A c xs t i w hl (own_hno ho) ho.cells
end Go.Proofs.Ytkbdlhmkiolegaa
