/-
  Contracts: IsAbove of the program and of the model (made by genrg.py).
-/
import Derived.Test.YthbkonpclflkhaaReg
namespace Go.Proofs.Ythbkonpclflkhaa
open Go.RowKit

theorem take_bd {xs : List Int} (G : Good xs) (k : Nat) : 0 ≤ (xs.take k).sum ∧ (xs.take k).sum ≤ 30 := by
  have h := sum_take_bound xs 30 (fun j hj => by have := G.pos j hj; have := G.le j hj; omega) (by omega) k
  have h2 := (take_le_sum G.pos k).1
  have := G.sum
  exact ⟨h.1, by omega⟩

set_option maxHeartbeats 2000000 in
theorem impl_IsAbove (A D : Option Addr) (c d : Nat) (xs ys : List Int) (w : World) (hl : xs.length ≤ 1048576) (hc : Cells w A xs) (hl2 : ys.length ≤ 1048576) (hc2 : Cells w D ys) :
    Calls Try.prog 56 #[.slice A xs.length c, .slice D ys.length d] w fun e w' => e = .returned (.tuple #[.bool (aaB xs ys), .bool (good xs && good ys)]) ∧ Below w.heap.size w w' := by
  cases hg : good xs
  · rw [show aaB xs ys = false by simp [aaB, hg], Bool.false_and]
    have H := hid hg; clear hg
    go_enter Try.func56, Try.ntmps56
    go_wp2_with fail
    refine (IsPartition_b A xs c _ hl hc _ H.out).mono ?_
    rintro e w' ⟨rfl, rfl⟩
    go_wp2_with fail
    go_ret2
    exact ⟨rfl, Below.refl _ _⟩
  cases hg2 : good ys
  · rw [show aaB xs ys = false by simp [aaB, hg2], Bool.and_false]
    have H := hid hg
    have H2 := hid hg2
    clear hg hg2
    go_enter Try.func56, Try.ntmps56
    go_wp2_with fail
    refine (IsPartition_b A xs c _ hl hc _ H.out).mono ?_
    rintro e w' ⟨rfl, rfl⟩
    go_wp2_with fail
    refine (IsPartition_b D ys d _ hl2 hc2 _ H2.out).mono ?_
    rintro e w' ⟨rfl, rfl⟩
    go_wp2_with fail
    go_ret2
    exact ⟨rfl, Below.refl _ _⟩
  have G := (good_iff xs).1 hg
  have G2 := (good_iff ys).1 hg2
  have e1 : aaB xs ys = abB xs ys := by simp [aaB, hg, hg2]
  have HAB := hid fun (hs : xs.sum = ys.sum) => ab_impl G G2 hs
  have HNS := hid fun (hs : ¬ xs.sum = ys.sum) => ab_sum hs
  have HC1 := hid (cellCount_any A xs c w G.len (fun j hj => by have := G.pos j hj; have := G.le j hj; omega) hc)
  have HC2 := hid (cellCount_any D ys d w G2.len (fun j hj => by have := G2.pos j hj; have := G2.le j hj; omega) hc2)
  have H := hid hg
  have H2 := hid hg2
  have hx30 := G.len
  have hy30 := G2.len
  have HT1 := hid fun k => take_bd G k
  have HT2 := hid fun k => take_bd G2 k
  have HP1 := hid G.part
  have HP2 := hid G2.part
  rw [e1]
  clear hg hg2 e1 G G2
  obtain ⟨s1, hs1⟩ : ∃ s1, s1 = xs.sum := ⟨_, rfl⟩
  obtain ⟨s2, hs2⟩ : ∃ s2, s2 = ys.sum := ⟨_, rfl⟩
  rw [← hs1] at HC1 HAB HNS
  rw [← hs2] at HC2 HAB HNS
  clear hs1 hs2
  by_cases hs : s1 = s2
  · have hb : (s1 != s2) = false := by rw [hs]; exact bne_self_eq_false s2
    have he := HAB.out hs
    by_cases hle : xs.length ≤ ys.length
    · rw [decide_eq_true hle, Bool.true_and] at he
      have hnle : ¬ (ys.length : Int) < (xs.length : Int) := by omega
      rw [he]
      have HE := hid he
      clear he hs
      go_enter Try.func56, Try.ntmps56
      go_wp2_with fail
      refine (IsPartition_b A xs c _ hl hc _ H.out).mono ?_
      rintro e w' ⟨rfl, rfl⟩
      go_wp2_with fail
      refine (IsPartition_b D ys d _ hl2 hc2 _ H2.out).mono ?_
      rintro e w' ⟨rfl, rfl⟩
      go_wp2_with fail
      refine HC1.out.mono ?_
      rintro e w' ⟨rfl, rfl⟩
      go_wp2_with fail
      refine HC2.out.mono ?_
      rintro e w' ⟨rfl, rfl⟩
      go_wp2_with fail
      go_loop [6, 31] (fun lv kv => ∃ k : Nat, k ≤ xs.length ∧ kv = .int .i64 k ∧ lv = .int .i64 ((xs.take k).sum - (ys.take k).sum) ∧ Hid (abTo xs ys k = true)) (fun _ kv => xs.length - (intOf kv).toNat)
      case atStart => exact ⟨0, Nat.zero_le _, rfl, by simp, hid rfl⟩
      case round =>
        obtain ⟨k, hk, rfl, rfl, HB⟩ := hrel
        by_cases hlt : k < xs.length
        · obtain ⟨b, o, rfl, hcc⟩ := hc (by omega)
          obtain ⟨b2, o2, rfl, hcc2⟩ := hc2 (by omega)
          have hck := hcc k hlt
          have hck2 := hcc2 k (by omega)
          have t1 := HT1.out k
          have t2 := HT2.out k
          have p1 := HP1.out k
          have p2 := HP2.out k
          have n1 := sum_take_any xs k
          have n2 := sum_take_any ys k
          have hkl2 : k < ys.length := by omega
          obtain ⟨x, hx⟩ : ∃ x, x = xs.getD k 0 := ⟨_, rfl⟩
          obtain ⟨y, hy⟩ : ∃ y, y = ys.getD k 0 := ⟨_, rfl⟩
          obtain ⟨a, ha⟩ : ∃ a, a = (xs.take k).sum := ⟨_, rfl⟩
          obtain ⟨b3, hb3⟩ : ∃ b3, b3 = (ys.take k).sum := ⟨_, rfl⟩
          rw [← hx] at hck p1 n1
          rw [← hy] at hck2 p2 n2
          rw [← ha] at t1 n1 ⊢
          rw [← hb3] at t2 n2 ⊢
          have N1 := hid n1
          have N2 := hid n2
          clear hcc hcc2 hx hy ha hb3 n1 n2
          by_cases hneg : a - b3 + (x - y) < 0
          · have hE : abTo xs ys xs.length = false := abTo_no (k := k) (by rw [N1.out, N2.out]; omega) hlt
            have HF := hid hE
            clear hE
            go_wp2_with fail
            go_ret2
            exact ⟨by rw [HF.out]; rfl, Below.refl _ _⟩
          · have hN : abTo xs ys (k + 1) = true := by
              simp only [abTo, HB.out, Bool.true_and, decide_eq_true_eq]
              rw [N1.out, N2.out]; omega
            have HN := hid hN
            clear hN
            go_wp2_with fail
            go_round
            case rel => exact ⟨k + 1, by omega, by go_num, by rw [N1.out, N2.out]; congr 1; omega, HN⟩
            case measure => simp [intOf]; omega
        · have hke : k = xs.length := by omega
          subst hke
          go_wp2_with fail
          go_ret2
          exact ⟨by rw [HB.out]; rfl, Below.refl _ _⟩
    · rw [decide_eq_false hle, Bool.false_and] at he
      have hnle : (ys.length : Int) < (xs.length : Int) := by omega
      rw [he]
      clear he hs
      go_enter Try.func56, Try.ntmps56
      go_wp2_with fail
      refine (IsPartition_b A xs c _ hl hc _ H.out).mono ?_
      rintro e w' ⟨rfl, rfl⟩
      go_wp2_with fail
      refine (IsPartition_b D ys d _ hl2 hc2 _ H2.out).mono ?_
      rintro e w' ⟨rfl, rfl⟩
      go_wp2_with fail
      refine HC1.out.mono ?_
      rintro e w' ⟨rfl, rfl⟩
      go_wp2_with fail
      refine HC2.out.mono ?_
      rintro e w' ⟨rfl, rfl⟩
      go_wp2_with fail
      go_ret2
      exact ⟨rfl, Below.refl _ _⟩
  · have hb : (s1 != s2) = true := bne_iff_ne.2 hs
    have he := HNS.out hs
    rw [he]
    clear he hs
    go_enter Try.func56, Try.ntmps56
    go_wp2_with fail
    refine (IsPartition_b A xs c _ hl hc _ H.out).mono ?_
    rintro e w' ⟨rfl, rfl⟩
    go_wp2_with fail
    refine (IsPartition_b D ys d _ hl2 hc2 _ H2.out).mono ?_
    rintro e w' ⟨rfl, rfl⟩
    go_wp2_with fail
    refine HC1.out.mono ?_
    rintro e w' ⟨rfl, rfl⟩
    go_wp2_with fail
    refine HC2.out.mono ?_
    rintro e w' ⟨rfl, rfl⟩
    go_wp2_with fail
    go_ret2
    exact ⟨rfl, Below.refl _ _⟩

set_option maxHeartbeats 2000000 in
theorem spec_IsAbove (A D : Option Addr) (c d : Nat) (xs ys : List Int) (w : World) (hl : xs.length ≤ 1048576) (hc : Cells w A xs) (hl2 : ys.length ≤ 1048576) (hc2 : Cells w D ys) :
    Calls Try.prog 55 #[.slice A xs.length c, .slice D ys.length d] w fun e w' => e = .returned (.tuple #[.bool (aaB xs ys), .bool (good xs && good ys)]) ∧ Below w.heap.size w w' := by
  cases hg : good xs
  · rw [show aaB xs ys = false by simp [aaB, hg], Bool.false_and]
    have H := hid hg; clear hg
    go_enter Try.func55, Try.ntmps55
    go_wp2_with fail
    refine (ptGood_b A xs c _ hl hc _ H.out).mono ?_
    rintro e w' ⟨rfl, n0, rfl⟩
    go_wp2_with fail
    go_ret2
    exact ⟨rfl, below_drew' _ _⟩
  cases hg2 : good ys
  · rw [show aaB xs ys = false by simp [aaB, hg2], Bool.and_false]
    have H := hid hg
    have H2 := hid hg2
    clear hg hg2
    go_enter Try.func55, Try.ntmps55
    go_wp2_with fail
    refine (ptGood_b A xs c _ hl hc _ H.out).mono ?_
    rintro e w' ⟨rfl, n0, rfl⟩
    go_wp2_with fail
    refine (ptGood_b D ys d _ hl2 (by exact hc2) _ H2.out).mono ?_
    rintro e w' ⟨rfl, n1, rfl⟩
    go_wp2_with fail
    go_ret2
    exact ⟨rfl, below_drew' _ _⟩
  have G := (good_iff xs).1 hg
  have G2 := (good_iff ys).1 hg2
  have e1 : aaB xs ys = abB xs ys := by simp [aaB, hg, hg2]
  have H := hid hg
  have H2 := hid hg2
  have hx30 := G.len
  have hy30 := G2.len
  have HT1 := hid fun k => take_bd G k
  have HT2 := hid fun k => take_bd G2 k
  have HP1 := hid G.part
  have HP2 := hid G2.part
  have HH1 := hid fun W (h : Cells W A xs) k (hk : k ≤ 100) => chPart_any A c xs k W hl (by omega) h
  have HH2 := hid fun W (h : Cells W D ys) k (hk : k ≤ 100) => chPart_any D d ys k W hl2 (by omega) h
  rw [e1]
  clear hg hg2 e1 G G2
  obtain ⟨m, hm⟩ : ∃ m, m = max xs.length ys.length := ⟨_, rfl⟩
  have HMX := hid hm
  have hm31 : m ≤ 30 := by omega
  clear hm
  go_enter Try.func55, Try.ntmps55
  go_wp2_with fail
  refine (ptGood_b A xs c _ hl hc _ H.out).mono ?_
  rintro e w' ⟨rfl, n0, rfl⟩
  go_wp2_with fail
  refine (ptGood_b D ys d _ hl2 (by exact hc2) _ H2.out).mono ?_
  rintro e w' ⟨rfl, n1', rfl⟩
  go_wp2_with fail
  go_loop [6, 7, 8] (fun fv sv kv => ∃ k : Nat, k ≤ m ∧ kv = .int .i64 k ∧ fv = .int .i64 (xs.take k).sum ∧ sv = .int .i64 (ys.take k).sum ∧ Hid (abTo xs ys k = true)) (fun _ _ kv => m - (intOf kv).toNat)
  case atStart => exact ⟨0, Nat.zero_le _, rfl, by simp, by simp, hid rfl⟩
  case round =>
    obtain ⟨k, hk, rfl, rfl, rfl, HB⟩ := hrel
    have t1 := HT1.out k
    have t2 := HT2.out k
    by_cases hlt : k < m
    · have p1 := HP1.out k
      have p2 := HP2.out k
      have n1 := sum_take_any xs k
      have n2 := sum_take_any ys k
      have hx1 := HH1.out (w.drewN (n0 + n1')) (by exact hc) k (by omega)
      have hx2 := HH2.out (w.drewN (n0 + n1')) (by exact hc2) k (by omega)
      obtain ⟨x, hx⟩ : ∃ x, x = xs.getD k 0 := ⟨_, rfl⟩
      obtain ⟨y, hy⟩ : ∃ y, y = ys.getD k 0 := ⟨_, rfl⟩
      obtain ⟨a, ha⟩ : ∃ a, a = (xs.take k).sum := ⟨_, rfl⟩
      obtain ⟨b3, hb3⟩ : ∃ b3, b3 = (ys.take k).sum := ⟨_, rfl⟩
      rw [← hx] at hx1 p1 n1
      rw [← hy] at hx2 p2 n2
      rw [← ha] at t1 n1 ⊢
      rw [← hb3] at t2 n2 ⊢
      have N1 := hid n1
      have N2 := hid n2
      have HX1 := hid hx1
      have HX2 := hid hx2
      clear hx hy ha hb3 n1 n2 hx1 hx2
      have hor : (k : Int) < (xs.length : Int) ∨ (¬ (k : Int) < (xs.length : Int) ∧ (k : Int) < (ys.length : Int)) := by have := HMX.out; omega
      by_cases hneg : a + x < b3 + y
      · have hE : abB xs ys = false := by
          unfold abB
          rw [abTo_no (k := k) (by rw [N1.out, N2.out]; omega) (by rw [← HMX.out]; exact hlt), Bool.false_and]
        have HF := hid hE
        clear hE
        rcases hor with ho | ⟨ho1, ho2⟩
        all_goals
          go_wp2_with fail
          refine HX1.out.mono ?_
          rintro e w' ⟨rfl, rfl⟩
          go_wp2_with fail
          refine HX2.out.mono ?_
          rintro e w' ⟨rfl, rfl⟩
          go_wp2_with fail
          go_ret2
          exact ⟨by rw [HF.out]; rfl, below_drew' _ _⟩
      · have hN : abTo xs ys (k + 1) = true := by
          simp only [abTo, HB.out, Bool.true_and, decide_eq_true_eq]
          rw [N1.out, N2.out]; omega
        have HN := hid hN
        clear hN
        rcases hor with ho | ⟨ho1, ho2⟩
        all_goals
          go_wp2_with fail
          refine HX1.out.mono ?_
          rintro e w' ⟨rfl, rfl⟩
          go_wp2_with fail
          refine HX2.out.mono ?_
          rintro e w' ⟨rfl, rfl⟩
          go_wp2_with fail
          go_round
          case rel => exact ⟨k + 1, by omega, by go_num, by rw [N1.out], by rw [N2.out], HN⟩
          case measure => simp [intOf]; omega
    · have hke : k = m := by omega
      have h1 : ¬ (k : Int) < (xs.length : Int) := by have := HMX.out; omega
      have h2 : ¬ (k : Int) < (ys.length : Int) := by have := HMX.out; omega
      have e1 : xs.take k = xs := List.take_of_length_le (by omega)
      have e2 : ys.take k = ys := List.take_of_length_le (by omega)
      rw [e1] at t1 ⊢
      rw [e2] at t2 ⊢
      have hE : abB xs ys = (xs.sum == ys.sum) := by
        unfold abB
        rw [← HMX.out, ← hke, HB.out, Bool.true_and]
        cases h : xs.sum == ys.sum
        · exact decide_eq_false (beq_eq_false_iff_ne.1 h)
        · exact decide_eq_true (beq_iff_eq.1 h)
      have HF := hid hE
      obtain ⟨s1, hs1⟩ : ∃ s1, s1 = xs.sum := ⟨_, rfl⟩
      obtain ⟨s2, hs2⟩ : ∃ s2, s2 = ys.sum := ⟨_, rfl⟩
      rw [← hs1, ← hs2] at HF ⊢
      clear e1 e2 hke hE hs1 hs2 t1 t2
      go_wp2_with fail
      go_ret2
      exact ⟨by rw [HF.out]; rfl, below_drew' _ _⟩
end Go.Proofs.Ythbkonpclflkhaa
