/-
  Contracts: FromMaya of the model on any row of ints that a caller has (XUnS and XUnT ask for a row of the call's own).
-/
import Derived.Test.YtpokehnjpakgcaaUnT
namespace Go.Proofs.Ytpokehnjpakgcaa
open Go.RowKit

theorem cellsHi {w : World} {A : Option Addr} {xs : List Int} (h : Cells w A xs) (k : Nat) : Cells w A (xs.take k) := by
  intro h0
  rw [List.length_take] at h0
  obtain ⟨b, o, e, hh⟩ := h (by omega)
  refine ⟨b, o, e, fun j hj => ?_⟩
  rw [List.length_take] at hj
  rw [hh j (by omega), List.getD_eq_getElem?_getD, List.getD_eq_getElem?_getD, List.getElem?_take, if_pos (by omega)]
theorem cellsNewsC {w : World} {ad : Addr} {xs : List Int} (hc : Cells w (some ad) xs) : ∀ k u, (IL xs)[k]? = some u → w.cell? (ad.add k) = some u := by
  intro k u hu
  have hk : k < xs.length := by
    have := (List.getElem?_eq_some_iff.1 hu).1
    simpa [IL] using this
  obtain ⟨b, o', he, hcc⟩ := hc (by omega)
  have h := hcc k hk
  rw [IL_get xs k hk] at hu
  injection he with he
  subst he
  have e : (⟨b, o', none⟩ : Addr).add k = ⟨b, o' + k, none⟩ := by unfold Addr.add; split <;> simp_all
  rw [e, h, hu]

set_option maxRecDepth 100000 in
set_option maxHeartbeats 1000000 in
theorem l1OwnC_any (A : Option Addr) (c : Nat) (xs : List Int) (w : World) (hl : xs.length ≤ 1048576) (hno : A = none → xs.length = 0 ∧ c = 0) (hc : Cells w A xs) :
    Calls Try.prog 33 #[.slice A xs.length c] w fun e w' => ∃ A' c', e = .returned (.slice A' xs.length c') ∧ Own w' w.heap.size A' c' xs ∧ Below w.heap.size w w' := by
  obtain ⟨i0, hi, hz0, hz1, hz2⟩ := info_parts Try.infoInt
  have hm0 := World.ownsRow_made (base := w.heap.size) (e := 3) (size := 1) w #[] 0 (Nat.le_refl _) (by unfold maxLen; omega) rfl
  have hb0 : Below w.heap.size w (w.alloc (.cells #[] 3)) := (Below.refl _ _).alloc (Nat.le_refl _) _
  have hat : ∀ ad, A = some ad → ∀ k u, (IL xs)[k]? = some u → (w.alloc (.cells #[] 3)).cell? (ad.add k) = some u := by
    rintro ad rfl; exact cellsNewsC (hc.later hb0)
  go_enter Try.func33, Try.ntmps33
  go_wp2_with (at_builtin; refine wpList_append_opt _ rfl _ _ 22 rfl w.heap.size 3 i0 (.int .i64 0) 1 8 Try.underlying22 hi hz0 hz1 hz2 rfl (by decide) _ 0 [] rfl hm0 A xs.length c (IL xs) rfl (by simp [IL]) hno hat (IL_oneC xs) (by unfold maxLen; omega) (by omega) (by simp) ?_)
  intro v' w1 hown' hgrow
  have hb1 : Below w.heap.size w w1 := hb0.grown hgrow (by simp) (fun q hq => (hm0.lt q hq).1)
  obtain ⟨A', c', rfl, ho'⟩ := own_form hown' rfl
  clear hown' hgrow
  go_wp2_with fail
  go_ret
  exact ⟨A', c', rfl, ho', hb1⟩

set_option maxRecDepth 100000 in
set_option maxHeartbeats 20000000 in
theorem spec_FromMaya_posC (A : Option Addr) (c : Nat) (m : List Int) (w : World) (hl : m.length ≤ 1048576) (hp : 0 < m.length) (hcap0 : m.length ≤ c) (hc : Cells w A m) :
    Calls Try.prog 17 #[.slice A m.length c] w fun e w' => ∃ A' c', e = .returned (.tuple #[.slice A' (unF m).length c', .bool (unOk m)]) ∧ Own w' w.heap.size A' c' (unF m) ∧ Below w.heap.size w w' := by
  obtain ⟨i0, hi, hz0, hz1, hz2⟩ := info_parts Try.infoInt
  have HLP := hid hp
  clear hp
  have hmod : (m.length : Int).tmod 2 = ((m.length % 2 : Nat) : Int) := rfl
  by_cases h60 : 60 < m.length
  · have h1 : unOk m = false := by
      have : moB m = false := by simp [moB]; omega
      simp [unOk, this]
    rw [h1, unF_no h1]
    clear h1
    go_enter Try.func17, Try.ntmps17
    go_wp2_with fail
    go_ret2
    exact ⟨none, 0, rfl, own_nil _ _, Below.refl _ _⟩
  by_cases hev : m.length % 2 = 0
  case neg =>
    have h1 : unOk m = false := by
      have : moB m = false := by simp [moB]; omega
      simp [unOk, this]
    rw [h1, unF_no h1]
    have hm1 : m.length % 2 = 1 := by omega
    rw [hm1] at hmod
    clear h1 hev hm1
    go_enter Try.func17, Try.ntmps17
    go_wp2_with fail
    go_ret2
    exact ⟨none, 0, rfl, own_nil _ _, Below.refl _ _⟩
  have hev0 := hev
  rw [hev] at hmod
  have HEV := hid hev0
  clear hev hev0
  cases hal : m.all (inB (-1000) 1000)
  · have h1 : unOk m = false := by
      cases hb : moB m
      · simp [unOk, hb]
      · exfalso
        have M := moB_iff.1 hb
        have : m.all (inB (-1000) 1000) = true := List.all_eq_true.2 fun x hx => inB_iff.2 (by have := M.lo x hx; omega)
        rw [this] at hal; cases hal
    rw [h1, unF_no h1]
    have HA := hid hal
    clear h1 hal
    go_enter Try.func17, Try.ntmps17
    go_wp2_with (go_at_call 32; refine (l1All_b _ _ _ _ _ _ hl hc _ HA.out).mono ?_; rintro e w' ⟨rfl, rfl⟩)
    go_ret2
    exact ⟨none, 0, rfl, own_nil _ _, Below.refl _ _⟩
  have HA := hid hal
  have HBD := hid (fun j (hj : j < m.length) => inB_iff.1 (List.all_eq_true.1 hal (m.getD j 0) (by rw [getD_in hj]; exact List.getElem_mem _)))
  have HNO := hid (fun k (hk : k < m.length) (h : okM m k = false) => (by simp [unOk, moB_no hk h] : unOk m = false))
  have HUN := hid (fun h => unF_no (m := m) h)
  have HFI := hid (fm_iff m)
  obtain ⟨rB, hrB⟩ : ∃ rB, rB = unOk m := ⟨_, rfl⟩
  obtain ⟨rX, hrX⟩ : ∃ rX, rX = unF m := ⟨_, rfl⟩
  rw [← hrB] at HNO HUN HFI
  rw [← hrX] at HUN HFI
  rw [← hrB, ← hrX]
  have HCC := hid hc
  obtain ⟨half, hh⟩ : ∃ half, half = m.length / 2 := ⟨_, rfl⟩
  have hquo : Int.tdiv (m.length : Int) 2 = (half : Int) := by rw [hh]; rfl
  have HH2 := hid (show m.length = 2 * half by have := HEV.out; omega)
  have hhb : half ≤ m.length := by omega
  have HHF := hid hh
  clear hal hrB hrX hh
  go_enter Try.func17, Try.ntmps17
  go_wp2_with (go_at_call 32; refine (l1All_b _ _ _ _ _ _ hl hc _ HA.out).mono ?_; rintro e w' ⟨rfl, rfl⟩)
  go_loop [32] (fun i => ∃ k : Nat, k ≤ m.length ∧ i = .int .i64 k ∧ Hid (∀ j, j < k → (j = 0 ∨ m.getD j 0 < m.getD (j - 1) 0) ∧ (j < half ↔ 0 ≤ m.getD j 0))) (fun i => m.length - (intOf i).toNat)
  case atStart => exact ⟨0, Nat.zero_le _, rfl, hid fun j hj => absurd hj (Nat.not_lt_zero _)⟩
  case round =>
    obtain ⟨k, hk, rfl, HD⟩ := hrel
    by_cases hlt : k < m.length
    · obtain ⟨b, o, rfl, hcc⟩ := hc (by omega)
      have hck := hcc k hlt
      have hck1 := hcc (k - 1) (by omega)
      have hek : ((k : Int) - 1).toNat = k - 1 := by omega
      have hxb := HBD.out k hlt
      have hyb := HBD.out (k - 1) (by omega)
      have HK := hid (fun (h : okM m k = false) => HNO.out k hlt h)
      have HOK := hid (fun (h : okM m k = true) => (okM_iff.1 h).2)
      have HHF2 := hid HHF.out
      obtain ⟨x, hx⟩ : ∃ x, x = m.getD k 0 := ⟨_, rfl⟩
      obtain ⟨y, hy⟩ : ∃ y, y = m.getD (k - 1) 0 := ⟨_, rfl⟩
      rw [← hx] at hck hxb HOK
      rw [← hy] at hck1 hyb HOK
      rw [← HHF.out] at HOK
      have HX := hid hx; have HY := hid hy
      clear hcc hx hy
      by_cases hok : (k = 0 ∨ x < y) ∧ (k < half ↔ 0 ≤ x)
      · have HN := hid (show ∀ j, j < k + 1 → (j = 0 ∨ m.getD j 0 < m.getD (j - 1) 0) ∧ (j < half ↔ 0 ≤ m.getD j 0) from fun j hj => by
          rcases Nat.lt_or_ge j k with h | h
          · exact HD.out j h
          · rw [show j = k by omega, ← HX.out, ← HY.out]; exact hok)
        obtain ⟨ho1, ho2⟩ := hok
        by_cases hkh : k < half
        · have hx0 := ho2.1 hkh
          clear ho2
          by_cases h0 : k = 0
          · subst h0
            rw [Nat.add_zero] at hck
            go_wp2_with fail
            go_round
            case rel => exact ⟨1, by omega, by go_num, HN⟩
            case measure => simp [intOf]; omega
          · have hyx : x < y := by omega
            have h1 : 0 < k := by omega
            clear ho1
            go_wp2_with fail
            go_round
            case rel => exact ⟨k + 1, by omega, by go_num, HN⟩
            case measure => simp [intOf]; omega
        · have hx0 : ¬ 0 ≤ x := fun h => hkh (ho2.2 h)
          clear ho2
          by_cases h0 : k = 0
          · subst h0
            rw [Nat.add_zero] at hck
            go_wp2_with fail
            go_round
            case rel => exact ⟨1, by omega, by go_num, HN⟩
            case measure => simp [intOf]; omega
          · have hyx : x < y := by omega
            have h1 : 0 < k := by omega
            clear ho1
            go_wp2_with fail
            go_round
            case rel => exact ⟨k + 1, by omega, by go_num, HN⟩
            case measure => simp [intOf]; omega
      · have hf : rB = false := HK.out (by
          cases h : okM m k
          · rfl
          · exact absurd (HOK.out h) hok)
        have hfx := HUN.out hf
        subst hf hfx
        by_cases h0 : k = 0
        · subst h0
          rw [Nat.add_zero] at hck
          by_cases hkh : 0 < half
          · have hx0 : ¬ 0 ≤ x := fun h => hok ⟨.inl rfl, fun _ => h, fun _ => hkh⟩
            clear hok
            go_wp2_with fail
            go_ret2
            exact ⟨none, 0, rfl, own_nil _ _, Below.refl _ _⟩
          · have := HH2.out; omega
        · have h1 : 0 < k := by omega
          by_cases hyx : x < y
          · by_cases hkh : k < half
            · have hx0 : ¬ 0 ≤ x := fun h => hok ⟨.inr hyx, fun _ => h, fun _ => hkh⟩
              clear hok
              go_wp2_with fail
              go_ret2
              exact ⟨none, 0, rfl, own_nil _ _, Below.refl _ _⟩
            · have hx0 : 0 ≤ x := by
                rcases Int.lt_or_le x 0 with h | h
                · exact absurd ⟨.inr hyx, fun hh => absurd hh hkh, fun hh => by omega⟩ hok
                · exact h
              clear hok
              go_wp2_with fail
              go_ret2
              exact ⟨none, 0, rfl, own_nil _ _, Below.refl _ _⟩
          · clear hok
            go_wp2_with fail
            go_ret2
            exact ⟨none, 0, rfl, own_nil _ _, Below.refl _ _⟩
    · have hkl : k = m.length := by omega
      subst hkl
      have HN1000 := hid (show 0 < half → m.getD (m.length - 1) 0 = -(mn m : Int) ∧ 0 < mn m ∧ mn m ≤ 1000 from fun h0 => by
        have h1 := HH2.out
        have h2 := (HD.out (m.length - 1) (by omega)).2
        have h3 := HBD.out (m.length - 1) (by omega)
        unfold mn; omega)
      have HN0 := hid (show ¬ 0 < half → mn m = 0 from fun h0 => by
        have h1 := HH2.out
        have : m = [] := List.eq_nil_of_length_eq_zero (by omega)
        unfold mn; rw [this]; simp)
      obtain ⟨b0, o0, hAe, hcc0⟩ := HCC.out (by have := HLP.out; omega)
      have HLO := hid (show Calls Try.prog 33 #[.slice A half c] w fun e w' => ∃ A' c', e = .returned (.slice A' half c') ∧ Own w' w.heap.size A' c' (m.take half) ∧ Below w.heap.size w w' from by
        have hlt : (m.take half).length = half := by rw [List.length_take]; omega
        have := l1OwnC_any A c (m.take half) w (by rw [hlt]; omega) (fun h => by rw [hAe] at h; cases h) (cellsHi HCC.out half)
        rw [hlt] at this; exact this)
      have HHL := hid (show ∀ j, (mH m j).length ≤ half + j from fun j => by
        have := gaps_len m j
        have h1 : (m.take (m.length / 2)).length ≤ m.length / 2 := by rw [List.length_take]; omega
        unfold mH; rw [List.length_append, HHF.out]; omega)
      have HMB := hid (show ∀ j, j ≤ 1000 → ∀ k, k < (mH m j).length → -1001 ≤ (mH m j).getD k 0 ∧ (mH m j).getD k 0 ≤ 1000 from fun j hj k hk => by
        have hm : (mH m j).getD k 0 ∈ mH m j := by rw [getD_in hk]; exact List.getElem_mem _
        rcases List.mem_append.1 hm with h | h
        · obtain ⟨i, hi, e⟩ := List.mem_iff_getElem.1 (List.mem_of_mem_take h)
          have := HBD.out i hi
          rw [getD_in hi, e] at this; omega
        · have := mem_below.1 (List.mem_filter.1 h).1; omega)
      have HM0 := hid (show mH m 0 = m.take half by unfold mH; rw [← HHF.out]; simp [gaps, below])
      have HMY := hid (show ∀ j : Nat, (-1 - (j : Int)) ∉ m → mH m (j + 1) = mH m j ++ [-1 - (j : Int)] from fun j h => by unfold mH; rw [gaps_yes h, List.append_assoc])
      have HMN := hid (show ∀ j : Nat, (-1 - (j : Int)) ∈ m → mH m (j + 1) = mH m j from fun j h => by unfold mH; rw [gaps_no h])
      obtain ⟨N, hN⟩ : ∃ N, N = mn m - 1 := ⟨_, rfl⟩
      have HOUT := hid (show outM m = oK (mH m N) (mH m N).length by rw [hN]; rfl)
      have hN1000 : N ≤ 1000 := by
        by_cases h0 : 0 < half
        · have := HN1000.out h0; omega
        · have := HN0.out h0; omega
      have HNE := hid hN
      have hh30 : half ≤ 30 := by have := HH2.out; omega
      obtain ⟨M, hM⟩ : ∃ M, M = mH m := ⟨_, rfl⟩
      rw [← hM] at HHL HMB HM0 HMY HMN HOUT
      clear hM hN
      have hh0 : 0 < half := by have := HH2.out; have := HLP.out; omega
      have hcap := hcap0
      subst hAe
      obtain ⟨hl1, hl2, hl3⟩ := HN1000.out hh0
      have hck : w.cell? ⟨b0, o0 + (m.length - 1), none⟩ = some (.int .i64 (-(mn m : Int))) := by
        rw [← hl1]; exact hcc0 (m.length - 1) (by omega)
      have hek2 : ((m.length : Int) - 1).toNat = m.length - 1 := by omega
      obtain ⟨q, hq⟩ : ∃ q, q = mn m := ⟨_, rfl⟩
      have HNQ := hid (show N + 1 = q by have := HNE.out; omega)
      have hNq := HNQ.out
      rw [← hq] at hck
      clear hl1 hl2 hl3 hq
      go_wp2_with (go_at_call 33; refine HLO.out.mono ?_; rintro e w1 ⟨A1, c1, rfl, o1, b1⟩; have hck' := (b1.cell (World.block_lt_of_cell? w _ hck)).trans hck)
      have hrow1 : w1.ownsRow w.heap.size 3 1 (.slice A1 half c1) (M 0).length (IL (M 0)) := by
        have hlt : (m.take half).length = half := by rw [List.length_take]; omega
        have := o1
        unfold Own at this
        rw [hlt] at this
        rw [HM0.out, hlt]; exact this
      have HR1 := hid hrow1
      clear o1 hrow1
      go_loopw [7, 9] (fun v xv wr => ∃ j : Nat, j ≤ N ∧ xv = .int .i64 (-1 - (j : Int)) ∧ Hid (wr.ownsRow w.heap.size 3 1 v (M j).length (IL (M j))) ∧ Below w.heap.size w wr) (fun _ xv _ => (intOf xv + 1002).toNat)
      case atStart => exact ⟨0, Nat.zero_le _, by simp, HR1, b1⟩
      case round =>
        obtain ⟨j, hj, rfl, HRW, hbel⟩ := hrel
        clear HR1
        have hlj := HHL.out j
        have hcw := hc.later hbel
        have hszr := hbel.size
        by_cases hjN : j < N
        · have hcnd : -(q : Int) < -1 - (j : Int) := by omega
          by_cases hm : (-1 - (j : Int)) ∈ m
          · have hms := HMN.out j hm
            have HMS := hid hms
            have HDD := hid (decide_eq_true hm)
            clear hm hms
            go_wp2_with (go_at_call 34; refine (l1Has_b _ _ _ _ _ (by omega) hcw _ HDD.out).mono ?_; rintro e w' ⟨rfl, rfl⟩)
            go_roundw
            case rel => exact ⟨j + 1, by omega, by go_num, by rw [HMS.out]; exact HRW, hbel⟩
            case measure => simp [intOf]; omega
          · have hms := HMY.out j hm
            have HMS := hid hms
            have HDD := hid (decide_eq_false hm)
            clear hm hms
            obtain ⟨L, hL⟩ : ∃ L, L = M j := ⟨_, rfl⟩
            rw [← hL] at HMS HRW hlj
            clear hL
            go_wp2_with (first | (go_at_call 34; refine (l1Has_b _ _ _ _ _ (by omega) hcw _ HDD.out).mono ?_; rintro e w' ⟨rfl, rfl⟩) | (at_builtin; refine wpList_append_own _ rfl _ _ 22 rfl w.heap.size 3 i0 (.int .i64 0) 1 8 Try.underlying22 hi hz0 hz1 hz2 rfl (by decide) _ _ _ rfl (HRW.out.alloc _) ⟨wr.heap.size, 0, none⟩ 1 1 [.int .i64 (-1 - (j : Int))] rfl rfl one_at (one_cell _) (by unfold maxLen; omega) (by omega) (by simp; omega) ?_))
            intro v' w2 hown' hgrow _
            have hb1 : Below w.heap.size w w2 := (hbel.alloc hbel.size _).grown hgrow (by simp; omega) (fun q hq => (HRW.out.lt q hq).1)
            have hown2 := own_snoc HMS.out hown'
            have HR2 := hid hown2
            clear hgrow hown' hown2
            go_wp2_with fail
            go_roundw
            case rel => exact ⟨j + 1, by omega, by go_num, HR2, hb1⟩
            case measure => simp [intOf]; omega
        · have hjn : j = N := by omega
          subst hjn
          have hcnd : ¬ -(q : Int) < -1 - (j : Int) := by omega
          obtain ⟨H, hH⟩ : ∃ H, H = M j := ⟨_, rfl⟩
          have hHB := HMB.out j hN1000
          rw [← hH] at HRW HOUT hHB hlj
          have HHB := hid hHB
          clear hH hHB
          obtain ⟨A2, c2, rfl, ho2⟩ := own_form' HRW.out
          have HO2 := hid ho2
          obtain ⟨wo, rfl⟩ : ∃ wo, wo = wr := ⟨_, rfl⟩
          clear ho2 HRW
          go_wp2_with fail
          go_loopw [10, 84] (fun v i wr3 => ∃ k : Nat, k ≤ H.length ∧ i = .int .i64 k ∧ Hid (wr3.ownsRow wo.heap.size 3 1 v (oK H k).length (IL (oK H k))) ∧ Below wo.heap.size wo wr3) (fun _ i _ => H.length - (intOf i).toNat)
          case atStart => exact ⟨0, Nat.zero_le _, rfl, hid (World.ownsRow_nil _ _ _ _), Below.refl _ _⟩
          case round =>
            obtain ⟨k, hk, rfl, HRK, hb3⟩ := hrel
            have hok := oK_len H k
            have hsz3 := hb3.size
            by_cases hlt : k < H.length
            · obtain ⟨g2, hg2, _, _⟩ := HO2.out.at_ (by omega)
              have hcell := own_get (show Own wo w.heap.size (some ⟨g2, 0, none⟩) c2 H by rw [← hg2]; exact HO2.out) (k := k) hlt
              have hck := (hb3.cell (World.block_lt_of_cell? wo _ hcell)).trans hcell
              have hxb := HHB.out k hlt
              have HOY := hid (oK_yes (H := H) (k := k))
              have HON := hid (oK_no (H := H) (k := k))
              obtain ⟨x, hx⟩ : ∃ x, x = H.getD k 0 := ⟨_, rfl⟩
              rw [← hx] at hck hxb HOY HON
              subst hg2
              clear hx hcell
              by_cases h0 : 0 < x + k + 1
              · have HOS := hid (HOY.out h0)
                obtain ⟨L, hL⟩ : ∃ L, L = oK H k := ⟨_, rfl⟩
                rw [← hL] at HOS HRK hok
                clear hL HOY HON
                go_wp2_with (at_builtin; refine wpList_append_own _ rfl _ _ 22 rfl wo.heap.size 3 i0 (.int .i64 0) 1 8 Try.underlying22 hi hz0 hz1 hz2 rfl (by decide) _ _ _ rfl (HRK.out.alloc _) ⟨wr.heap.size, 0, none⟩ 1 1 [.int .i64 (x + k + 1)] rfl rfl one_at (one_cell _) (by unfold maxLen; omega) (by omega) (by simp; omega) ?_)
                intro v' w4 hown' hgrow _
                have hb4 : Below wo.heap.size wo w4 := (hb3.alloc hb3.size _).grown hgrow (by simp; omega) (fun q hq => (HRK.out.lt q hq).1)
                have hown2 := own_snoc HOS.out hown'
                have HR4 := hid hown2
                clear hgrow hown' hown2
                go_wp2_with fail
                go_roundw
                case rel => exact ⟨k + 1, by omega, by go_num, HR4, hb4⟩
                case measure => simp [intOf]; omega
              · have HOS := hid (HON.out h0)
                have HR4 := hid (show wr.ownsRow wo.heap.size 3 1 u10 (oK H (k + 1)).length (IL (oK H (k + 1))) by rw [HOS.out]; exact HRK.out)
                clear HOY HON
                go_wp2_with fail
                go_roundw
                case rel => exact ⟨k + 1, by omega, by go_num, HR4, hb3⟩
                case measure => simp [intOf]; omega
            · have hkl : k = H.length := by omega
              subst hkl
              obtain ⟨A3, c3, rfl, ho3⟩ := own_form' HRK.out
              rw [← HOUT.out] at ho3 hok ⊢
              have HO3 := hid ho3
              have B3 := Below.next hbel hb3
              have HFF := hid HFI.out
              obtain ⟨Q, hQ⟩ : ∃ Q, Q = outM m := ⟨_, rfl⟩
              rw [← hQ] at HO3 hok HFF ⊢
              clear ho3 hQ HRK
              cases hg : good Q
              · have hf : rB = false := by rw [HFF.out.1, hg]; rfl
                have hfx := HUN.out hf
                have HG := hid hg
                subst hf hfx
                clear hg
                go_wp2_with (go_at_call 21; refine (ptGood_b _ _ _ _ (by omega) HO3.out.cells _ HG.out).mono ?_; rintro e w' ⟨rfl, n, rfl⟩)
                go_ret2
                exact ⟨none, 0, rfl, own_nil _ _, Below.next B3 (below_drew' _ n)⟩
              · have GQ := (good_iff Q).1 hg
                have HG := hid hg
                have HMA := hid fun W (h : Cells W A3 Q) => abMaya_any A3 c3 Q W GQ h
                have hml := mayaL_len Q
                have hQl := GQ.len
                have HSM := hid fun A1 c1 W (h1 : Cells W A1 (mayaL Q)) (h2 : Cells W (some ⟨b0, o0, none⟩) m) => l1Same_any A1 (some ⟨b0, o0, none⟩) c1 c (mayaL Q) m W (by omega) hl h1 h2
                have hrb : rB = decide (mayaL Q = m) := by rw [HFF.out.1, hg]; rfl
                obtain ⟨Y, hY⟩ : ∃ Y, Y = mayaL Q := ⟨_, rfl⟩
                have hrx : rX = if decide (mayaL Q = m) then Q else [] := by rw [HFF.out.2, hg]; rfl
                rw [← hY] at HMA HSM hrb hrx
                have HRB := hid hrb; have HRX := hid hrx
                clear hg hY hrb hrx GQ HFF
                cases hd : decide (Y = m)
                · rw [hd] at HSM
                  have h1 := HRB.out; have h2 := HRX.out
                  rw [hd] at h1 h2
                  subst h1
                  simp only [Bool.false_eq_true, if_false] at h2
                  subst h2
                  clear hd HRB HRX
                  go_wp2_with (go_at_call 21; refine (ptGood_b _ _ _ _ (by omega) HO3.out.cells _ HG.out).mono ?_; rintro e w' ⟨rfl, n, rfl⟩)
                  refine (HMA.out _ (HO3.out.below (below_drew' _ n)).cells).mono ?_
                  rintro e w5 ⟨A5, c5, rfl, o5, b5⟩
                  have B5 := Below.next (Below.next B3 (below_drew' _ n)) b5
                  go_wp2_with (go_at_call 35; refine (HSM.out _ _ _ o5.cells (hc.later B5)).mono ?_; rintro e w' ⟨rfl, n', rfl⟩)
                  go_ret2
                  exact ⟨none, 0, rfl, own_nil _ _, Below.next B5 (below_drew' _ n')⟩
                · rw [hd] at HSM
                  have h1 := HRB.out; have h2 := HRX.out
                  rw [hd] at h1 h2
                  subst h1
                  simp only [if_true] at h2
                  subst h2
                  clear hd HRB HRX
                  go_wp2_with (go_at_call 21; refine (ptGood_b _ _ _ _ (by omega) HO3.out.cells _ HG.out).mono ?_; rintro e w' ⟨rfl, n, rfl⟩)
                  refine (HMA.out _ (HO3.out.below (below_drew' _ n)).cells).mono ?_
                  rintro e w5 ⟨A5, c5, rfl, o5, b5⟩
                  have B5 := Below.next (Below.next B3 (below_drew' _ n)) b5
                  have ho5 := (HO3.out.below (below_drew' _ n)).below b5
                  have HO5 := hid ho5
                  clear ho5
                  go_wp2_with (go_at_call 35; refine (HSM.out _ _ _ o5.cells (hc.later B5)).mono ?_; rintro e w' ⟨rfl, n', rfl⟩)
                  go_ret2
                  exact ⟨A3, c3, rfl, (HO5.out.below (below_drew' _ n')).more hbel.size, Below.next B5 (below_drew' _ n')⟩

set_option maxRecDepth 100000 in
set_option maxHeartbeats 4000000 in
theorem spec_FromMaya_nilC (A : Option Addr) (c : Nat) (w : World) (hA : (A = none ∧ c = 0) ∨ ∃ g, A = some g) :
    Calls Try.prog 17 #[.slice A 0 c] w fun e w' => ∃ A' c', e = .returned (.tuple #[.slice A' 0 c', .bool true]) ∧ Own w' w.heap.size A' c' [] ∧ Below w.heap.size w w' := by
  have HLO := hid (l1OwnC_any A c [] w (by simp) (fun h => ⟨rfl, by rcases hA with ⟨_, h2⟩ | ⟨g, h2⟩; exact h2; rw [h2] at h; cases h⟩) (fun h => absurd h (by simp)))
  have HAL := hid (l1All_b A [] c (-1000) 1000 w (by simp) (fun h => absurd h (by simp)) true rfl)
  have HGD := hid fun W => ptGood_b none [] 0 W (by simp) (Cells.nil _ _) true (by rfl)
  have HMA := hid fun W => abMaya_any none 0 [] W ((good_iff []).1 rfl) (Cells.nil _ _)
  have HSM := hid fun A1 c1 W => l1Same_any A1 A c1 c [] [] W (by simp) (by simp) (Cells.nil _ _) (Cells.nil _ _)
  rw [show mayaL [] = [] from rfl] at HMA
  rw [show decide (([] : List Int) = []) = true by simp] at HSM
  rw [show ([] : List Int).length = 0 from rfl] at HLO HAL HGD HMA HSM
  have h20 : Int.tmod 0 2 = 0 := rfl
  have h21 : Int.tdiv 0 2 = 0 := rfl
  rcases hA with ⟨rfl, rfl⟩ | ⟨g, rfl⟩
  · go_enter Try.func17, Try.ntmps17
    go_wp2_with (go_at_call 32; refine HAL.out.mono ?_; rintro e w' ⟨rfl, rfl⟩)
    go_loop [32] (fun i => i = .int .i64 0) (fun _ => 0)
    case atStart => rfl
    case round =>
      subst hrel
      go_wp2_with (go_at_call 33; refine HLO.out.mono ?_; rintro e w1 ⟨A1, c1, rfl, o1, b1⟩)
      go_loopw [7, 9] (fun v xv wr => v = .slice A1 0 c1 ∧ xv = .int .i64 (-1) ∧ wr = w1) (fun _ _ _ => 0)
      case atStart => exact ⟨rfl, rfl, rfl⟩
      case round =>
        obtain ⟨rfl, rfl, hw⟩ := hrel
        rw [hw]
        clear hw
        go_wp2_with fail
        go_loopw [10, 84] (fun v xv wr => v = .slice none 0 0 ∧ xv = .int .i64 0 ∧ wr = w1) (fun _ _ _ => 0)
        case atStart => exact ⟨rfl, rfl, rfl⟩
        case round =>
          obtain ⟨rfl, rfl, hw⟩ := hrel
          rw [hw]
          clear hw
          go_wp2_with (go_at_call 21; refine (HGD.out _).mono ?_; rintro e w' ⟨rfl, n, rfl⟩)
          refine (HMA.out _).mono ?_
          rintro e w5 ⟨A5, c5, rfl, o5, b5⟩
          have B5 := Below.next (Below.next b1 (below_drew' _ n)) b5
          have h5 : A5 = none ∧ c5 = 0 ∨ True := .inr trivial
          have HS := hid (HSM.out A5 c5 w5)
          go_wp2_with (go_at_call 35; refine HS.out.mono ?_; rintro e w' ⟨rfl, n', rfl⟩)
          go_ret2
          exact ⟨none, 0, rfl, own_nil _ _, Below.next B5 (below_drew' _ n')⟩
  · go_enter Try.func17, Try.ntmps17
    go_wp2_with (go_at_call 32; refine HAL.out.mono ?_; rintro e w' ⟨rfl, rfl⟩)
    go_loop [32] (fun i => i = .int .i64 0) (fun _ => 0)
    case atStart => rfl
    case round =>
      subst hrel
      go_wp2_with (go_at_call 33; refine HLO.out.mono ?_; rintro e w1 ⟨A1, c1, rfl, o1, b1⟩)
      go_loopw [7, 9] (fun v xv wr => v = .slice A1 0 c1 ∧ xv = .int .i64 (-1) ∧ wr = w1) (fun _ _ _ => 0)
      case atStart => exact ⟨rfl, rfl, rfl⟩
      case round =>
        obtain ⟨rfl, rfl, hw⟩ := hrel
        rw [hw]
        clear hw
        go_wp2_with fail
        go_loopw [10, 84] (fun v xv wr => v = .slice none 0 0 ∧ xv = .int .i64 0 ∧ wr = w1) (fun _ _ _ => 0)
        case atStart => exact ⟨rfl, rfl, rfl⟩
        case round =>
          obtain ⟨rfl, rfl, hw⟩ := hrel
          rw [hw]
          clear hw
          go_wp2_with (go_at_call 21; refine (HGD.out _).mono ?_; rintro e w' ⟨rfl, n, rfl⟩)
          refine (HMA.out _).mono ?_
          rintro e w5 ⟨A5, c5, rfl, o5, b5⟩
          have B5 := Below.next (Below.next b1 (below_drew' _ n)) b5
          have h5 : A5 = none ∧ c5 = 0 ∨ True := .inr trivial
          have HS := hid (HSM.out A5 c5 w5)
          go_wp2_with (go_at_call 35; refine HS.out.mono ?_; rintro e w' ⟨rfl, n', rfl⟩)
          go_ret2
          exact ⟨none, 0, rfl, own_nil _ _, Below.next B5 (below_drew' _ n')⟩

theorem spec_FromMayaC (A : Option Addr) (c : Nat) (m : List Int) (w : World) (hl : m.length ≤ 1048576) (hcap : m.length ≤ c) (hno : A = none → c = 0) (hc : Cells w A m) :
    Calls Try.prog 17 #[.slice A m.length c] w fun e w' => ∃ A' c', e = .returned (.tuple #[.slice A' (unF m).length c', .bool (unOk m)]) ∧ Own w' w.heap.size A' c' (unF m) ∧ Below w.heap.size w w' := by
  rcases Nat.eq_zero_or_pos m.length with h0 | h0
  · have hm : m = [] := List.eq_nil_of_length_eq_zero h0
    subst hm
    rw [un_nil.1, un_nil.2]
    refine spec_FromMaya_nilC A c w ?_
    cases A with
    | none => exact .inl ⟨rfl, hno rfl⟩
    | some g => exact .inr ⟨g, rfl⟩
  · exact spec_FromMaya_posC A c m w hl h0 hcap hc
end Go.Proofs.Ytpokehnjpakgcaa
