/-
  Contracts: PartitionWith of the program.
-/
import Derived.Test.YtabnhmjiegeldaaRankF
import Derived.Test.YtabnhmjiegeldaaTakeMath
import Derived.Test.YtabnhmjiegeldaaCorners
namespace Go.Proofs.Ytabnhmjiegeldaa
open Go.RowKit

set_option maxRecDepth 100000 in
set_option maxHeartbeats 4000000 in
theorem partitionAt_any (b s r0 : Nat) (w : World) (hs : s ≤ 30) (hr0 : r0 < T s s) (ht : Tab w b (fun i => (T (i / 31) (i % 31) : Int))) :
    Calls Try.prog 129 #[.pointer (some ⟨b, 0, none⟩), .int .i64 s, .int .i64 r0] w fun e w' => ∃ A' c', e = .returned (.slice A' (pa s s s r0).length c') ∧ Own w' w.heap.size A' c' (pa s s s r0) ∧ Below w.heap.size w w' := by
  obtain ⟨i0, hi, hz0, hz1, hz2⟩ := info_parts Try.infoInt
  have HT := hid ht; clear ht
  go_enter Try.func129, Try.ntmps129
  go_wp2_with fail
  go_loopw [7, 1, 2, 8] (fun v nv rv mv wr => ∃ (f n m r : Nat) (ys : List Int), n ≤ f ∧ nv = .int .i64 n ∧ rv = .int .i64 r ∧ mv = .int .i64 m ∧ m ≤ 30 ∧ ys.length + n ≤ 30 ∧ Hid (r < T n m) ∧ r ≤ 5604 ∧ Hid (ys ++ pa f n m r = pa s s s r0) ∧ wr.ownsRow w.heap.size 3 1 v ys.length (IL ys) ∧ Below w.heap.size w wr) (fun _ nv _ _ _ => (intOf nv).toNat)
  case atStart => exact ⟨s, s, s, r0, [], Nat.le_refl _, rfl, rfl, rfl, hs, by simp; omega, hr0, by have := T_bound s (by omega) s (by omega); omega, rfl, World.ownsRow_nil _ _ _ _, Below.refl _ _⟩
  case round =>
    obtain ⟨f, n, m, r, ys, hf, rfl, rfl, rfl, hm30, hyl, HR, hr5, HE, hown, hbel⟩ := hrel
    obtain ⟨wo, rfl⟩ : ∃ wo : World, wo = wr := ⟨_, rfl⟩
    have HO := hid hown; clear hown
    have HB := hid hbel; clear hbel
    by_cases h1 : 1 ≤ n
    · have h1' : (0 : Int) < n := by omega
      have hTo := HT.out.below HB.out
      have HTO := hid hTo; clear hTo
      go_wp2_with fail
      rw [decide_eq_true (show 0 < n from h1)]
      go_loopw [9] (fun pv wr => ∃ p : Nat, 1 ≤ p ∧ p ≤ m ∧ pv = .int .i64 p ∧ Hid (T n p ≤ T n m ∧ T n m - T n p ≤ r ∧ pk n m r = pk n p (r - (T n m - T n p))) ∧ Hid (∃ k, wr = wo.drewN k)) (fun pv _ => (intOf pv).toNat)
      case atStart =>
        have hm1 : 1 ≤ m := by
          rcases Nat.eq_zero_or_pos m with h | h
          · have := HR.out; rw [h, T_none n (by omega) h1] at this; omega
          · exact h
        exact ⟨m, hm1, Nat.le_refl _, rfl, ⟨Nat.le_refl _, by omega, by rw [Nat.sub_self, Nat.sub_zero]⟩, ⟨0, rfl⟩⟩
      case round =>
        obtain ⟨p, hp1, hpm, rfl, HP, HW⟩ := hrel
        obtain ⟨nw, hnw⟩ := HW.out
        have hb1 := T_bound n (by omega) m (by omega)
        have hb3 := T_bound n (by omega) (p - 1) (by omega)
        have hpc : ((p - 1 : Nat) : Int) = (p : Int) - 1 := by omega
        have hab := above_any b n (p - 1) m wr (by omega) (by omega) hm30 (by rw [hnw]; exact HTO.out.drewN _)
        rw [hpc] at hab
        obtain ⟨u, hu⟩ : ∃ u, u = T n m := ⟨_, rfl⟩
        obtain ⟨v1, hv1⟩ : ∃ v1, v1 = T n (p - 1) := ⟨_, rfl⟩
        rw [← hu] at hb1
        rw [← hv1] at hb3
        rw [← hu, ← hv1] at hab
        have HAB := hid hab; clear hab
        have HU := hid hu
        have HV1 := hid hv1
        have HNW := hid hnw
        clear hu hv1 hnw hpc
        have hn30 : (n : Int) ≤ 30 := by omega
        have hp30 : (p : Int) ≤ 30 := by omega
        have hm30' : (m : Int) ≤ 30 := by omega
        by_cases hle : (u : Int) - v1 ≤ r
        · have HLE := hid hle
          go_wp2_with (go_at_call 173; refine HAB.out.mono ?_; rintro e w4 ⟨rfl, n4, rfl⟩)
          go_roundw
          case rel =>
            obtain ⟨k1, k2, k3⟩ := HP.out
            have hu := HU.out; have hv1 := HV1.out; have hle := HLE.out; have hr := HR.out
            have hp2 : 1 ≤ p - 1 := by
              rcases Nat.eq_zero_or_pos (p - 1) with h | h
              · rw [h, T_none n (by omega) h1] at hv1; omega
              · exact h
            have hup := T_up n (by omega) (p - 1) (by omega)
            rw [show p - 1 + 1 = p by omega] at hup
            have hst : pk n p (r - (T n m - T n p)) = pk n (p - 1) (r - (T n m - T n p) - (T n p - T n (p - 1))) := by
              have := @pk_yes n (p - 1) (r - (T n m - T n p))
              rw [show p - 1 + 1 = p by omega] at this
              exact this (by omega)
            refine ⟨p - 1, hp2, by omega, by go_num, ⟨by omega, by omega, ?_⟩, ?_⟩
            · rw [k3, hst]; congr 1; omega
            · rw [HNW.out]; exact drew2 _ _
          case measure => simp [intOf]; omega
        · have HLE := hid hle
          obtain ⟨k1, k2, k3⟩ := HP.out
          have hb2 := T_bound n (by omega) p (by omega)
          have hu := HU.out; have hv1 := HV1.out; have hr := HR.out
          have hup := T_up n (by omega) (p - 1) (by omega)
          rw [show p - 1 + 1 = p by omega] at hup
          have hno : ¬ T n p - T n (p - 1) ≤ r - (T n m - T n p) := by omega
          obtain ⟨hpn, hq⟩ := pick_last (by omega) (by omega) hp1 hno
          have hst : pk n p (r - (T n m - T n p)) = (p, r - (T n m - T n p)) := by
            have := @pk_no n (p - 1) (r - (T n m - T n p))
            rw [show p - 1 + 1 = p by omega] at this
            exact this hno
          rw [hst] at k3
          obtain ⟨v, hv⟩ : ∃ v, v = T n p := ⟨_, rfl⟩
          obtain ⟨q, hqe⟩ : ∃ q, q = r - (T n m - T n p) := ⟨_, rfl⟩
          have hqi : (q : Int) = r - ((u : Int) - v) := by omega
          rw [← hqe] at k3 hq
          rw [← hv] at hb2
          have hq5 : q ≤ 5604 := by omega
          obtain ⟨f', hf', hpa⟩ := pa_next hf h1 k3
          have he := HE.out
          rw [hpa] at he
          have hab2 := fun nn => above_any b n p m (wr.drewN nn) (by omega) (by omega) hm30 (by rw [HNW.out]; exact (HTO.out.drewN _).drewN _)
          rw [← hu, ← hv] at hab2
          have HAB2 := hid hab2
          have HE2 := hid he
          have HQ := hid hq
          clear k1 k2 k3 hu hv1 hr hup hno hst hv hqe hpa he hab2 hq
          go_wp2_with fail
          refine HAB.out.mono ?_
          rintro e w4 ⟨rfl, n4, rfl⟩
          go_wp2_with fail
          refine (HAB2.out _).mono ?_
          rintro e wz ⟨rfl, n5, hwz⟩
          have hoz : wz.ownsRow w.heap.size 3 1 u7 (ys.length) (IL ys) := by rw [hwz, HNW.out]; exact HO.out
          have hbz : Below w.heap.size w wz := by rw [hwz, HNW.out]; exact below_drewN (below_drewN (below_drewN HB.out _) _) _
          clear hwz
          have hsz := hbz.size
          go_wp2_with (at_builtin; refine wpList_append_own _ rfl _ _ 22 rfl w.heap.size 3 i0 (.int .i64 0) 1 8 Try.underlying22 hi hz0 hz1 hz2 rfl (by decide) _ _ _ rfl (hoz.alloc _) ⟨wz.heap.size, 0, none⟩ 1 1 [.int .i64 (p : Int)] rfl rfl one_at (one_cell _) (by unfold maxLen; omega) (by omega) (by simp; omega) ?_)
          intro v' w1 hown' hgrow _
          have hb1 : Below w.heap.size w w1 := (hbz.alloc hbz.size _).grown hgrow (by simp; omega) (fun q hq => (hoz.lt q hq).1)
          have hown2 := own_snoc rfl hown'
          clear hgrow hown' hoz hbz hsz
          go_wp2_with fail
          go_roundw
          case rel => exact ⟨f', n - p, p, q, ys ++ [(p : Int)], by omega, by go_num, by go_num, rfl, by omega, by simp; omega, HQ.out, by omega, by rw [List.append_assoc]; exact HE2.out, hown2, hb1⟩
          case measure => simp [intOf]; omega
    · have hn0 : n = 0 := by omega
      subst hn0
      have he := HE.out
      rw [pa_zero, List.append_nil] at he
      obtain ⟨A', c', rfl, ho⟩ := own_form HO.out rfl
      have HEE := hid he
      clear he HO
      go_wp2_with fail
      go_ret
      exact ⟨A', c', by rw [← HEE.out]; rfl, by rw [← HEE.out]; exact ho, HB.out⟩

theorem own_lower {w : World} {B B' : Nat} {A : Option Addr} {c : Nat} {xs : List Int} (h : Own w B A c xs) (hb : B' ≤ B) : Own w B' A c xs :=
  ⟨h.1, h.2.imp id fun ⟨g, cap, cur, a, b, r⟩ => ⟨g, cap, cur, a, Nat.le_trans hb b, r⟩⟩
def withB (n r : Int) : Bool := okN n && decide (0 ≤ r) && decide (r < (T n.toNat n.toNat : Int))
def withF (n r : Int) : List Int := if withB n r then pa n.toNat n.toNat n.toNat r.toNat else []
theorem withF_f {n r : Int} (h : withB n r = false) : withF n r = [] := by simp [withF, h]
theorem withB_iff {n r : Int} : withB n r = true ↔ ∃ m q : Nat, n = m ∧ r = q ∧ m ≤ 30 ∧ q < T m m := by
  constructor
  · intro h
    simp only [withB, Bool.and_eq_true, decide_eq_true_eq] at h
    obtain ⟨⟨h1, h2⟩, h3⟩ := h
    obtain ⟨m, rfl, hm⟩ := okN_nat h1
    rw [Int.toNat_natCast] at h3
    exact ⟨m, r.toNat, rfl, by omega, hm, by omega⟩
  · rintro ⟨m, q, rfl, rfl, hm, hq⟩
    simp only [withB, Bool.and_eq_true, decide_eq_true_eq, Int.toNat_natCast]
    exact ⟨⟨inB_iff.2 (by omega), by omega⟩, by omega⟩
theorem withF_t {m q : Nat} (hm : m ≤ 30) (hq : q < T m m) : withF m q = pa m m m q := by
  have h : withB m q = true := withB_iff.2 ⟨m, q, rfl, rfl, hm, hq⟩
  simp [withF, h]
theorem pa_len : ∀ f n m r, (pa f n m r).length ≤ f := by
  intro f
  induction f with
  | zero => intro n m r; simp [pa]
  | succ f ih =>
    intro n m r
    rw [pa]
    split
    · simp
    · simp; exact ih _ _ _
theorem withF_len (n r : Int) : (withF n r).length ≤ 30 := by
  cases h : withB n r
  · rw [withF_f h]; simp
  · obtain ⟨m, q, rfl, rfl, hm, hq⟩ := withB_iff.1 h
    rw [withF_t hm hq]; have := pa_len m m m q; omega

set_option maxHeartbeats 1000000 in
theorem impl_PartitionWith (n r : Int) (w : World) (_hn : I64 n) (_hr : I64 r) :
    Calls Try.prog 66 #[.int .i64 n, .int .i64 r] w fun e w' => ∃ A' c', e = .returned (.tuple #[.slice A' (withF n r).length c', .bool (withB n r)]) ∧ Own w' w.heap.size A' c' (withF n r) ∧ Below w.heap.size w w' := by
  by_cases h0 : n < 0
  · have hb : withB n r = false := by
      cases h : withB n r
      · rfl
      · obtain ⟨m, q, rfl, rfl, hm, hq⟩ := withB_iff.1 h; omega
    rw [withF_f hb, hb]
    clear hb
    have H := hid (show okN n = false from by simp [okN, inB]; omega)
    go_enter Try.func66, Try.ntmps66
    go_wp2_with fail
    refine (isCellNumber_b _ _ _ H.out).mono ?_
    rintro e w1 ⟨rfl, rfl⟩
    go_wp2_with fail
    go_ret2
    exact ⟨none, 0, rfl, own_nil _ _, Below.refl _ _⟩
  by_cases h30 : 30 < n
  · have hb : withB n r = false := by
      cases h : withB n r
      · rfl
      · obtain ⟨m, q, rfl, rfl, hm, hq⟩ := withB_iff.1 h; omega
    rw [withF_f hb, hb]
    clear hb
    have H := hid (show okN n = false from by simp [okN, inB]; omega)
    go_enter Try.func66, Try.ntmps66
    go_wp2_with fail
    refine (isCellNumber_b _ _ _ H.out).mono ?_
    rintro e w1 ⟨rfl, rfl⟩
    go_wp2_with fail
    go_ret2
    exact ⟨none, 0, rfl, own_nil _ _, Below.refl _ _⟩
  obtain ⟨m, rfl⟩ : ∃ m : Nat, n = m := ⟨n.toNat, by omega⟩
  have hm : m ≤ 30 := by omega
  have H := hid (show okN (m : Int) = true from inB_iff.2 ⟨by omega, by omega⟩)
  by_cases hr : r < 0
  · have hb : withB m r = false := by
      cases h : withB m r
      · rfl
      · obtain ⟨m', q, _, rfl, hm, hq⟩ := withB_iff.1 h; omega
    rw [withF_f hb, hb]
    clear hb
    go_enter Try.func66, Try.ntmps66
    go_wp2_with fail
    refine (isCellNumber_b _ _ _ H.out).mono ?_
    rintro e w1 ⟨rfl, rfl⟩
    go_wp2_with fail
    refine (countBounded_any _).mono ?_
    rintro e w2 ⟨rfl, ht, b2⟩
    go_wp2_with fail
    go_ret2
    exact ⟨none, 0, rfl, own_nil _ _, b2⟩
  obtain ⟨q, rfl⟩ : ∃ q : Nat, r = q := ⟨r.toNat, by omega⟩
  by_cases hq : q < T m m
  · rw [withF_t hm hq, withB_iff.2 ⟨m, q, rfl, rfl, hm, hq⟩]
    obtain ⟨u, hu⟩ : ∃ u, u = T m m := ⟨_, rfl⟩
    have hal := fun ww => all_any w.heap.size m ww hm
    rw [← hu] at hal
    have hqi : ¬ ((u : Int) ≤ q) := by rw [hu]; omega
    have HQ := hid hq
    clear hq hu
    go_enter Try.func66, Try.ntmps66
    go_wp2_with fail
    refine (isCellNumber_b _ _ _ H.out).mono ?_
    rintro e w1 ⟨rfl, rfl⟩
    go_wp2_with fail
    refine (countBounded_any _).mono ?_
    rintro e w2 ⟨rfl, ht, b2⟩
    go_wp2_with fail
    refine (hal _ ht).mono ?_
    rintro e w3 ⟨rfl, rfl⟩
    go_wp2_with fail
    refine (partitionAt_any _ m q _ hm HQ.out ht).mono ?_
    rintro e w4 ⟨A', c', rfl, ho, hb⟩
    go_wp2_with fail
    go_ret2
    exact ⟨A', c', rfl, own_lower ho b2.size, b2.trans (hb.mono b2.size)⟩
  · have hb : withB m q = false := by
      cases h : withB m q
      · rfl
      · obtain ⟨m', q', h1, h2, _, hq'⟩ := withB_iff.1 h
        have : m = m' := by omega
        have : q = q' := by omega
        subst m'; subst q'; exact absurd hq' hq
    rw [withF_f hb, hb]
    obtain ⟨u, hu⟩ : ∃ u, u = T m m := ⟨_, rfl⟩
    have hal := fun ww => all_any w.heap.size m ww hm
    rw [← hu] at hal
    have hqi : (u : Int) ≤ q := by rw [hu]; omega
    clear hq hu hb
    go_enter Try.func66, Try.ntmps66
    go_wp2_with fail
    refine (isCellNumber_b _ _ _ H.out).mono ?_
    rintro e w1 ⟨rfl, rfl⟩
    go_wp2_with fail
    refine (countBounded_any _).mono ?_
    rintro e w2 ⟨rfl, ht, b2⟩
    go_wp2_with fail
    refine (hal _ ht).mono ?_
    rintro e w3 ⟨rfl, rfl⟩
    go_wp2_with fail
    go_ret2
    exact ⟨none, 0, rfl, own_nil _ _, b2⟩
end Go.Proofs.Ytabnhmjiegeldaa
