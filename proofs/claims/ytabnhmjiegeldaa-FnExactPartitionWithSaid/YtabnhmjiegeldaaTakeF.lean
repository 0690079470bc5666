/-
  Contracts: PartitionWith of the model.
-/
import Derived.Test.YtabnhmjiegeldaaTake
namespace Go.Proofs.Ytabnhmjiegeldaa
open Go.RowKit

theorem l1Least_s (a b : Nat) (w : World) :
    Calls Try.prog 128 #[.int .i64 a, .int .i64 b] w fun e w' => e = .returned (.int .i64 ((min a b : Nat) : Int)) ∧ w = w' :=
  (l1Least_any a b w).mono fun _ _ h => ⟨h.1, h.2.symm⟩

set_option maxRecDepth 100000 in
set_option maxHeartbeats 4000000 in
theorem spec_PartitionWith (n0 r0 : Int) (w : World) (_hn : I64 n0) (_hr : I64 r0) :
    Calls Try.prog 65 #[.int .i64 n0, .int .i64 r0] w fun e w' => ∃ A' c', e = .returned (.tuple #[.slice A' (withF n0 r0).length c', .bool (withB n0 r0)]) ∧ Own w' w.heap.size A' c' (withF n0 r0) ∧ Below w.heap.size w w' := by
  cases hok : okN n0
  · have hb : withB n0 r0 = false := by simp [withB, hok]
    rw [withF_f hb, hb]
    have H := hid hok
    clear hb hok
    go_enter Try.func65, Try.ntmps65
    go_wp2_with (go_at_call 124; refine (ptCells_b _ _ _ H.out).mono ?_; rintro e w' ⟨rfl, rfl⟩)
    go_ret2
    exact ⟨none, 0, rfl, own_nil _ _, Below.refl _ _⟩
  by_cases hr : r0 < 0
  · have hb : withB n0 r0 = false := by
      cases h : withB n0 r0
      · rfl
      · obtain ⟨m', q, _, rfl, hm, hq⟩ := withB_iff.1 h; omega
    rw [withF_f hb, hb]
    have H := hid hok
    clear hb hok
    go_enter Try.func65, Try.ntmps65
    go_wp2_with (go_at_call 124; refine (ptCells_b _ _ _ H.out).mono ?_; rintro e w' ⟨rfl, rfl⟩)
    go_ret2
    exact ⟨none, 0, rfl, own_nil _ _, Below.refl _ _⟩
  obtain ⟨s, rfl, hs⟩ := okN_nat hok
  obtain ⟨q0, rfl⟩ : ∃ q : Nat, r0 = q := ⟨r0.toNat, by omega⟩
  have H := hid hok
  clear hok
  obtain ⟨i0, hi, hz0, hz1, hz2⟩ := info_parts Try.infoInt
  have hl2 := rowsT_len s (s + 1)
  have HL2 := hid hl2; clear hl2
  have hs1 : (s : Int) < (s : Int) + 1 := by omega
  by_cases hq : q0 < T s s
  · rw [withF_t hs hq, withB_iff.2 ⟨s, q0, rfl, rfl, hs, hq⟩]
    have HQ0 := hid hq; clear hq
    go_enter Try.func65, Try.ntmps65
    go_wp2_with fail
    refine (ptCells_b _ _ _ H.out).mono ?_
    rintro e w1 ⟨rfl, rfl⟩
    go_wp2_with fail
    refine (ptCounts_any s _ hs).mono ?_
    rintro e w2 ⟨A2, c2, rfl, o2, b2⟩
    obtain ⟨tb, to, P, C, rfl, ht⟩ := RowsAt.of o2
    rw [HL2.out]
    have HT := hid ht
    have htop := ht.top s (Nat.le_refl _)
    obtain ⟨rb, ro, hpe, hrow⟩ := ht.row s (Nat.le_refl _)
    rw [hpe] at htop
    have hcs := hrow s (Nat.le_refl _)
    obtain ⟨u0, hu0⟩ : ∃ u, u = T s s := ⟨_, rfl⟩
    rw [← hu0] at hcs
    have hle0 : ¬ ((u0 : Int) ≤ q0) := by have := HQ0.out; omega
    clear ht hpe hrow hu0 o2
    go_wp2_with fail
    rw [decide_eq_false (show ¬ (u0 ≤ q0) by omega)]
    clear htop hcs hle0
    go_loopw [7, 0, 1, 8] (fun v nv rv mv wr => ∃ (f n m r : Nat) (ys : List Int), n ≤ f ∧ nv = .int .i64 n ∧ rv = .int .i64 r ∧ mv = .int .i64 m ∧ m ≤ 30 ∧ n ≤ s ∧ ys.length + n ≤ 30 ∧ Hid (r < T n m) ∧ r ≤ 5604 ∧ Hid (ys ++ pa f n m r = pa s s s q0) ∧ wr.ownsRow w2.heap.size 3 1 v ys.length (IL ys) ∧ Below w2.heap.size w2 wr) (fun _ nv _ _ _ => (intOf nv).toNat)
    case atStart => exact ⟨s, s, s, q0, [], Nat.le_refl _, rfl, rfl, rfl, hs, Nat.le_refl _, by simp; omega, HQ0.out, by have := T_bound s (by omega) s (by omega); have := HQ0.out; omega, rfl, World.ownsRow_nil _ _ _ _, Below.refl _ _⟩
    case round =>
      obtain ⟨f, n, m, r, ys, hf, rfl, rfl, rfl, hm30, hns, hyl, HR, hr5, HE, hown, hbel2⟩ := hrel
      obtain ⟨wo, rfl⟩ : ∃ wo : World, wo = wr := ⟨_, rfl⟩
      have HO := hid hown; clear hown
      have HB2 := hid hbel2; clear hbel2
      by_cases h1 : 1 ≤ n
      · have h1' : (0 : Int) < n := by omega
        have hto := HT.out.below HB2.out
        have HTO := hid hto
        have htop := hto.top n hns
        obtain ⟨rb, ro, hpe, hrow⟩ := hto.row n hns
        rw [hpe] at htop
        have hm1 : 1 ≤ m := by
          rcases Nat.eq_zero_or_pos m with h | h
          · have := HR.out; rw [h, T_none n (by omega) h1] at this; omega
          · exact h
        obtain ⟨y, hy⟩ : ∃ y, y = min n m := ⟨_, rfl⟩
        have hy1 : 1 ≤ y := by omega
        have hyn : y ≤ n := by omega
        have hpk := pk_min (n := n) (by omega) m (by omega) r
        have hTy := T_min (l := n) (m := m) (by omega) (by omega)
        have hcl := l1Least_s n m wo
        rw [← hy] at hpk hTy hcl
        have HCL := hid hcl
        have hcy := hrow y (by omega)
        have hcy1 := hrow (y - 1) (by omega)
        have hyc : ((y - 1 : Nat) : Int) = (y : Int) - 1 := by omega
        have hri : ∀ z : Nat, ∀ v, wo.cell? ⟨rb, ro + z, none⟩ = some v → wo.cell? ⟨rb, ro + z, none⟩ = some v := fun _ _ h => h
        have hb1 := T_bound n (by omega) y (by omega)
        have hb2 := T_bound n (by omega) (y - 1) (by omega)
        obtain ⟨u, hu⟩ : ∃ u, u = T n y := ⟨_, rfl⟩
        obtain ⟨v1, hv1⟩ : ∃ v1, v1 = T n (y - 1) := ⟨_, rfl⟩
        have hup := T_up n (by omega) (y - 1) (by omega)
        rw [show y - 1 + 1 = y by omega] at hup
        rw [← hu] at hb1 hcy
        rw [← hv1] at hb2 hcy1
        have HU := hid hu
        have HV1 := hid hv1
        have HPK := hid (show pk n m r = pk n y r ∧ r < T n y from ⟨hpk, by rw [hTy]; exact HR.out⟩)
        have HPE := hid hpe
        have HROW := hid hrow
        obtain ⟨y', hy'⟩ : ∃ y', y' = y - 1 := ⟨_, rfl⟩
        rw [← hy'] at hcy1
        have hy1i : (1 : Int) ≤ y := by omega
        have hn1 : (n : Int) < (s : Int) + 1 := by omega
        have hy2 : (y : Int) < (s : Int) + 1 := by omega
        have hy3 : (y' : Int) < (s : Int) + 1 := by omega
        obtain ⟨d0, hd0⟩ : ∃ d : Nat, d = u - v1 := ⟨_, rfl⟩
        have hwr : IntKind.i64.wrap ((y : Int) - 1) = (y' : Int) := by rw [IntWalk.i64_in _ (by omega)]; omega
        have hwd : IntKind.i64.wrap ((u : Int) - v1) = (d0 : Int) := by rw [IntWalk.i64_in _ (by omega)]; omega
        have HD0 := hid (show d0 = T n y - T n (y - 1) by rw [← hu, ← hv1]; exact hd0)
        clear hto hpe hrow hy hpk hTy hcl hri hu hv1 hup hyc hy' hd0
        go_wp2_with fail
        refine HCL.out.mono ?_
        rintro e w3 ⟨rfl, rfl⟩
        go_wp2_with fail
        go_quiet (fail)
        go_wp2_with fail
        clear hcy hcy1 hwr hwd hb1 hb2 htop
        go_loopw [1, 9, 10] (fun qv pv dv wr => ∃ p q d : Nat, 1 ≤ p ∧ p ≤ n ∧ qv = .int .i64 q ∧ pv = .int .i64 p ∧ dv = .int .i64 d ∧ q ≤ 5604 ∧ d ≤ 5604 ∧ Hid (pk n m r = pk n p q ∧ q < T n p ∧ d = T n p - T n (p - 1)) ∧ Hid (∃ k, wr = wo.drewN k)) (fun _ pv _ _ => (intOf pv).toNat)
        case atStart => exact ⟨y, r, d0, hy1, hyn, rfl, rfl, rfl, hr5, by have := HD0.out; have := T_bound n (by omega) y (by omega); omega, ⟨HPK.out.1, HPK.out.2, HD0.out⟩, ⟨_, rfl⟩⟩
        case round =>
          clear hy1i hy2 hy3 HPK HU HV1 HD0 HPE HROW HCL
          obtain ⟨p, q, d, hp1, hpn, rfl, rfl, rfl, hq5, hd5, HP, HW⟩ := hrel
          by_cases hle : d ≤ q
          · have hlei : (d : Int) ≤ q := by omega
            obtain ⟨k1, k2, k3⟩ := HP.out
            obtain ⟨p', hp'⟩ : ∃ p', p' = p - 1 := ⟨_, rfl⟩
            have hup := T_up n (by omega) (p - 1) (by omega)
            rw [show p - 1 + 1 = p by omega] at hup
            have hst : pk n p q = pk n p' (q - d) := by
              have := @pk_yes n (p - 1) q
              rw [show p - 1 + 1 = p by omega, ← k3, ← hp'] at this
              exact this hle
            have hq' : q - d < T n p' := by rw [hp']; omega
            have hp2 : 1 ≤ p' := by
              rcases Nat.eq_zero_or_pos p' with h | h
              · rw [h, T_none n (by omega) h1] at hq'; omega
              · exact h
            obtain ⟨p2, hpp⟩ : ∃ p2, p2 = p' - 1 := ⟨_, rfl⟩
            obtain ⟨nw, hnw⟩ := HW.out
            have htr : RowsAt wr tb to P C s := by rw [hnw]; exact HTO.out.drewN _
            have htop := htr.top n hns
            obtain ⟨rb, ro, hpe, hrow⟩ := htr.row n hns
            rw [hpe] at htop
            have hcy := hrow p' (by omega)
            have hcy1 := hrow p2 (by omega)
            have hb1 := T_bound n (by omega) p' (by omega)
            have hb2 := T_bound n (by omega) p2 (by omega)
            have hup2 := T_up n (by omega) p2 (by omega)
            rw [show p2 + 1 = p' by omega] at hup2
            obtain ⟨d2, hd2⟩ : ∃ d2, d2 = T n p' - T n p2 := ⟨_, rfl⟩
            obtain ⟨u, hu⟩ : ∃ u, u = T n p' := ⟨_, rfl⟩
            obtain ⟨v1, hv1⟩ : ∃ v1, v1 = T n p2 := ⟨_, rfl⟩
            rw [← hu] at hcy hb1
            rw [← hv1] at hcy1 hb2
            have hp30 : (p : Int) ≤ 30 := by omega
            have hp1i : (1 : Int) ≤ p := by omega
            have hy2 : (p' : Int) < (s : Int) + 1 := by omega
            have hy3 : (p2 : Int) < (s : Int) + 1 := by omega
            have hwp : IntKind.i64.wrap ((p : Int) - 1) = (p' : Int) := by rw [IntWalk.i64_in _ (by omega)]; omega
            have hwr : IntKind.i64.wrap ((p' : Int) - 1) = (p2 : Int) := by rw [IntWalk.i64_in _ (by omega)]; omega
            have hwd : IntKind.i64.wrap ((u : Int) - v1) = (d2 : Int) := by rw [IntWalk.i64_in _ (by omega)]; omega
            have hwq : IntKind.i64.wrap ((q : Int) - d) = ((q - d : Nat) : Int) := by rw [IntWalk.i64_in _ (by omega)]; omega
            have HN := hid (show pk n m r = pk n p' (q - d) ∧ q - d < T n p' ∧ d2 = T n p' - T n (p' - 1) from ⟨k1.trans hst, hq', by rw [← hpp]; exact hd2⟩)
            have hd25 : d2 ≤ 5604 := by omega
            have HNW := hid hnw
            have hpm : p' < p := by omega
            have hp'n : p' ≤ n := by omega
            have hqd : q - d ≤ 5604 := by omega
            clear k1 k2 k3 hp' hup hst hq' hpp hnw htr hpe hrow hup2 hd2 hu hv1
            go_wp2_with fail
            go_quiet (fail)
            go_wp2_with fail
            go_roundw
            case rel => exact ⟨p', q - d, d2, hp2, hp'n, rfl, rfl, rfl, hqd, hd25, HN.out, by rw [HNW.out]; exact drew2 _ _⟩
            case measure => simp [intOf]; omega
          · have hlei : ¬ ((d : Int) ≤ q) := by omega
            obtain ⟨k1, k2, k3⟩ := HP.out
            have hno : ¬ T n p - T n (p - 1) ≤ q := by omega
            obtain ⟨hpn', hq⟩ := pick_last (by omega) (by omega) hp1 hno
            have hst : pk n p q = (p, q) := by
              have := @pk_no n (p - 1) q
              rw [show p - 1 + 1 = p by omega] at this
              exact this hno
            rw [hst] at k1
            obtain ⟨f', hf', hpa⟩ := pa_next hf h1 k1
            have he := HE.out
            rw [hpa] at he
            have HE2 := hid he
            have HQ := hid hq
            obtain ⟨nw, hnw⟩ := HW.out
            have hoz : wr.ownsRow w2.heap.size 3 1 u7 (ys.length) (IL ys) := by rw [hnw]; exact HO.out
            have hbz : Below w2.heap.size w2 wr := by rw [hnw]; exact below_drewN HB2.out _
            have hsz := hbz.size
            clear k1 k2 k3 hno hst hpa he hq hnw
            go_wp2_with (at_builtin; refine wpList_append_own _ rfl _ _ 22 rfl w2.heap.size 3 i0 (.int .i64 0) 1 8 Try.underlying22 hi hz0 hz1 hz2 rfl (by decide) _ _ _ rfl (hoz.alloc _) ⟨wr.heap.size, 0, none⟩ 1 1 [.int .i64 (p : Int)] rfl rfl one_at (one_cell _) (by unfold maxLen; omega) (by omega) (by simp; omega) ?_)
            intro v' w1 hown' hgrow _
            have hb1 : Below w2.heap.size w2 w1 := (hbz.alloc hbz.size _).grown hgrow (by simp; omega) (fun q hq => (hoz.lt q hq).1)
            have hown2 := own_snoc rfl hown'
            clear hgrow hown' hoz hbz hsz
            go_wp2_with fail
            go_roundw
            case rel => exact ⟨f', n - p, p, q, ys ++ [(p : Int)], by omega, by go_num, rfl, rfl, by omega, by omega, by simp; omega, HQ.out, by omega, by rw [List.append_assoc]; exact HE2.out, hown2, hb1⟩
            case measure => simp [intOf]; omega
      · have hn0 : n = 0 := by omega
        subst hn0
        have he := HE.out
        rw [pa_zero, List.append_nil] at he
        obtain ⟨A', c', rfl, ho⟩ := own_form HO.out rfl
        have HEE := hid he
        clear he HO
        go_wp2_with fail
        go_ret2
        exact ⟨A', c', by rw [← HEE.out]; rfl, by rw [← HEE.out]; exact own_lower ho b2.size, b2.trans (HB2.out.mono b2.size)⟩
  · have hb : withB s q0 = false := by
      cases h : withB s q0
      · rfl
      · obtain ⟨m', q', h1, h2, _, hq'⟩ := withB_iff.1 h
        have : s = m' := by omega
        have : q0 = q' := by omega
        subst m'; subst q'; exact absurd hq' hq
    rw [withF_f hb, hb]
    have HQ0 := hid hq
    clear hq hb
    go_enter Try.func65, Try.ntmps65
    go_wp2_with fail
    refine (ptCells_b _ _ _ H.out).mono ?_
    rintro e w1 ⟨rfl, rfl⟩
    go_wp2_with fail
    refine (ptCounts_any s _ hs).mono ?_
    rintro e w2 ⟨A2, c2, rfl, o2, b2⟩
    obtain ⟨tb, to, P, C, rfl, ht⟩ := RowsAt.of o2
    rw [HL2.out]
    have htop := ht.top s (Nat.le_refl _)
    obtain ⟨rb, ro, hpe, hrow⟩ := ht.row s (Nat.le_refl _)
    rw [hpe] at htop
    have hcs := hrow s (Nat.le_refl _)
    obtain ⟨u0, hu0⟩ : ∃ u, u = T s s := ⟨_, rfl⟩
    rw [← hu0] at hcs
    have hle0 : (u0 : Int) ≤ q0 := by have := HQ0.out; omega
    clear ht hpe hrow hu0 o2
    go_wp2_with fail
    go_ret2
    exact ⟨none, 0, rfl, own_nil _ _, b2⟩
theorem bound_PartitionWith (n r : Int) : (withF n r).length ≤ 1048576 := by have := withF_len n r; omega
end Go.Proofs.Ytabnhmjiegeldaa
