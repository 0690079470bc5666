/-
  Contracts: FromMaya of the model.
-/
import Derived.Test.YtpokehnjpakgcaaUnF
import Derived.Test.YtpokehnjpakgcaaOwnCopy
import Derived.Test.YtpokehnjpakgcaaSame
import Derived.Test.YtpokehnjpakgcaaMaya
namespace Go.Proofs.Ytpokehnjpakgcaa
open Go.RowKit

/-- The parts that held numbers tell. -/
def oK (H : List Int) : Nat → List Int
  | 0 => []
  | k + 1 => oK H k ++ if 0 < H.getD k 0 + k + 1 then [H.getD k 0 + k + 1] else []
theorem oK_yes {H : List Int} {k : Nat} (h : 0 < H.getD k 0 + k + 1) : oK H (k + 1) = oK H k ++ [H.getD k 0 + k + 1] := by rw [oK, if_pos h]
theorem oK_no {H : List Int} {k : Nat} (h : ¬ 0 < H.getD k 0 + k + 1) : oK H (k + 1) = oK H k := by rw [oK, if_neg h, List.append_nil]
theorem oK_len (H : List Int) : ∀ k, (oK H k).length ≤ k
  | 0 => by simp [oK]
  | k + 1 => by
    have := oK_len H k
    rw [oK, List.length_append]; split <;> simp <;> omega
def mH (m : List Int) (j : Nat) : List Int := m.take (m.length / 2) ++ gaps m j
def outM (m : List Int) : List Int := oK (mH m (mn m - 1)) (mH m (mn m - 1)).length
theorem gaps_yes {m : List Int} {j : Nat} (h : (-1 - (j : Int)) ∉ m) : gaps m (j + 1) = gaps m j ++ [-1 - (j : Int)] := by unfold gaps; rw [below_succ, List.filter_append]; simp [h]
theorem gaps_no {m : List Int} {j : Nat} (h : (-1 - (j : Int)) ∈ m) : gaps m (j + 1) = gaps m j := by unfold gaps; rw [below_succ, List.filter_append]; simp [h]
theorem gaps_len (m : List Int) (j : Nat) : (gaps m j).length ≤ j := by
  have := List.length_filter_le (fun x => decide (x ∉ m)) (below j)
  have h2 : (below j).length = j := by simp [below]
  unfold gaps; omega
theorem MO_hold {m : List Int} (M : MO m) : mH m (mn m - 1) = hold m := by
  unfold mH hold
  rw [M.take.1]
  congr 1
  rcases Nat.eq_zero_or_pos m.length with h0 | h0
  · have : m = [] := List.eq_nil_of_length_eq_zero h0
    subst this; rfl
  · obtain ⟨h1, h2⟩ := MO_last M h0
    have e : mn m = (mn m - 1) + 1 := by omega
    conv => rhs; rw [e]
    rw [gaps_no]
    have : -1 - ((mn m - 1 : Nat) : Int) = m.getD (m.length - 1) 0 := by omega
    rw [this, getD_in (by omega)]
    exact List.getElem_mem _
theorem MO_out {m : List Int} (M : MO m) : outM m = unOut m := by
  unfold outM
  rw [MO_hold M]
  have hl := hold_len M
  have key : ∀ k, k ≤ mn m → oK (hold m) k = (unOut m).take k := by
    intro k
    induction k with
    | zero => intro _; rfl
    | succ k ih =>
      intro hk
      rw [oK_yes (out_pos M (by omega)), ih (by omega), List.take_succ_eq_append_getElem (by rw [unOut_len]; omega)]
      congr 2
      have h3 : (unOut m).getD k 0 = (hold m).getD k 0 + k + 1 := fnRow_get _ _ _ (by omega)
      rw [getD_in (by rw [unOut_len]; omega)] at h3
      exact h3.symm
  rw [hl, key (mn m) (Nat.le_refl _), List.take_of_length_le (by rw [unOut_len]; omega)]
theorem fm_iff (m : List Int) : (unOk m = (good (outM m) && decide (mayaL (outM m) = m))) ∧ unF m = if good (outM m) && decide (mayaL (outM m) = m) then outM m else [] := by
  cases hb : moB m
  · have h1 : unOk m = false := by simp [unOk, hb]
    have h2 : (good (outM m) && decide (mayaL (outM m) = m)) = false := by
      cases hg : good (outM m)
      · rfl
      · rw [Bool.true_and, decide_eq_false_iff_not]
        intro e
        have M := maya_MO ((good_iff _).1 hg)
        rw [e] at M
        rw [moB_iff.2 M] at hb; cases hb
    rw [h1, h2, unF_no h1]; exact ⟨rfl, by simp⟩
  · have M := moB_iff.1 hb
    rw [MO_out M]
    have h1 : unOk m = good (unOut m) := by simp [unOk, hb]
    cases hg : good (unOut m)
    · rw [hg] at h1; rw [h1, unF_no h1]; simp
    · rw [hg] at h1
      have : mayaL (unOut m) = m := maya_out M
      rw [h1, unF_yes h1, this]; simp
theorem impl_FromMaya {B : Nat} (A : Option Addr) (c : Nat) (m : List Int) (w : World) (hl : m.length ≤ 1048576) (ho : Own w B A c m) :
    Calls Try.prog 15 #[.slice A m.length c] w fun e w' => ∃ A' c', e = .returned (.tuple #[.slice A' (unF m).length c', .bool (unOk m)]) ∧ Own w' w.heap.size A' c' (unF m) ∧ Below w.heap.size w w' :=
  impl_FromMaya_c A c m w hl ho.cells

set_option maxRecDepth 100000 in
set_option maxHeartbeats 20000000 in
theorem spec_FromMaya_pos {B : Nat} (A : Option Addr) (c : Nat) (m : List Int) (w : World) (hl : m.length ≤ 1048576) (hp : 0 < m.length) (ho : Own w B A c m) :
    Calls Try.prog 17 #[.slice A m.length c] w fun e w' => ∃ A' c', e = .returned (.tuple #[.slice A' (unF m).length c', .bool (unOk m)]) ∧ Own w' w.heap.size A' c' (unF m) ∧ Below w.heap.size w w' := by
  obtain ⟨i0, hi, hz0, hz1, hz2⟩ := info_parts Try.infoInt
  have hc := ho.cells
  have HLP := hid hp
  clear hp
  have hmod : (m.length : Int).tmod 2 = ((m.length % 2 : Nat) : Int) := rfl
  by_cases h60 : 60 < m.length
  · have h1 : unOk m = false := by
      have : moB m = false := by simp [moB]; omega
      simp [unOk, this]
    rw [h1, unF_no h1]
    clear h1 ho
    go_enter Try.func17, Try.ntmps17
    go_wp2_with fail
    go_ret2
    exact ⟨none, 0, rfl, own_nil _ _, Below.refl _ _⟩
  by_cases hev : m.length % 2 = 0
  case neg =>
    have h1 : unOk m = false := by
      have : moB m = false := by simp [moB]; omega
      simp [unOk, this]
    rw [h1, unF_no h1]
    have hm1 : m.length % 2 = 1 := by omega
    rw [hm1] at hmod
    clear h1 ho hev hm1
    go_enter Try.func17, Try.ntmps17
    go_wp2_with fail
    go_ret2
    exact ⟨none, 0, rfl, own_nil _ _, Below.refl _ _⟩
  have hev0 := hev
  rw [hev] at hmod
  have HEV := hid hev0
  clear hev hev0
  cases hal : m.all (inB (-1000) 1000)
  · have h1 : unOk m = false := by
      cases hb : moB m
      · simp [unOk, hb]
      · exfalso
        have M := moB_iff.1 hb
        have : m.all (inB (-1000) 1000) = true := List.all_eq_true.2 fun x hx => inB_iff.2 (by have := M.lo x hx; omega)
        rw [this] at hal; cases hal
    rw [h1, unF_no h1]
    have HA := hid hal
    clear h1 ho hal
    go_enter Try.func17, Try.ntmps17
    go_wp2_with (go_at_call 32; refine (l1All_b _ _ _ _ _ _ hl hc _ HA.out).mono ?_; rintro e w' ⟨rfl, rfl⟩)
    go_ret2
    exact ⟨none, 0, rfl, own_nil _ _, Below.refl _ _⟩
  have HA := hid hal
  have HBD := hid (fun j (hj : j < m.length) => inB_iff.1 (List.all_eq_true.1 hal (m.getD j 0) (by rw [getD_in hj]; exact List.getElem_mem _)))
  have HNO := hid (fun k (hk : k < m.length) (h : okM m k = false) => (by simp [unOk, moB_no hk h] : unOk m = false))
  have HUN := hid (fun h => unF_no (m := m) h)
  have HFI := hid (fm_iff m)
  obtain ⟨rB, hrB⟩ : ∃ rB, rB = unOk m := ⟨_, rfl⟩
  obtain ⟨rX, hrX⟩ : ∃ rX, rX = unF m := ⟨_, rfl⟩
  rw [← hrB] at HNO HUN HFI
  rw [← hrX] at HUN HFI
  rw [← hrB, ← hrX]
  have HO := hid ho
  obtain ⟨half, hh⟩ : ∃ half, half = m.length / 2 := ⟨_, rfl⟩
  have hquo : Int.tdiv (m.length : Int) 2 = (half : Int) := by rw [hh]; rfl
  have HH2 := hid (show m.length = 2 * half by have := HEV.out; omega)
  have hhb : half ≤ m.length := by omega
  have HHF := hid hh
  clear hal ho hrB hrX hh
  go_enter Try.func17, Try.ntmps17
  go_wp2_with (go_at_call 32; refine (l1All_b _ _ _ _ _ _ hl hc _ HA.out).mono ?_; rintro e w' ⟨rfl, rfl⟩)
  go_loop [32] (fun i => ∃ k : Nat, k ≤ m.length ∧ i = .int .i64 k ∧ Hid (∀ j, j < k → (j = 0 ∨ m.getD j 0 < m.getD (j - 1) 0) ∧ (j < half ↔ 0 ≤ m.getD j 0))) (fun i => m.length - (intOf i).toNat)
  case atStart => exact ⟨0, Nat.zero_le _, rfl, hid fun j hj => absurd hj (Nat.not_lt_zero _)⟩
  case round =>
    obtain ⟨k, hk, rfl, HD⟩ := hrel
    by_cases hlt : k < m.length
    · obtain ⟨b, o, rfl, hcc⟩ := hc (by omega)
      have hck := hcc k hlt
      have hck1 := hcc (k - 1) (by omega)
      have hek : ((k : Int) - 1).toNat = k - 1 := by omega
      have hxb := HBD.out k hlt
      have hyb := HBD.out (k - 1) (by omega)
      have HK := hid (fun (h : okM m k = false) => HNO.out k hlt h)
      have HOK := hid (fun (h : okM m k = true) => (okM_iff.1 h).2)
      have HHF2 := hid HHF.out
      obtain ⟨x, hx⟩ : ∃ x, x = m.getD k 0 := ⟨_, rfl⟩
      obtain ⟨y, hy⟩ : ∃ y, y = m.getD (k - 1) 0 := ⟨_, rfl⟩
      rw [← hx] at hck hxb HOK
      rw [← hy] at hck1 hyb HOK
      rw [← HHF.out] at HOK
      have HX := hid hx; have HY := hid hy
      clear hcc hx hy
      by_cases hok : (k = 0 ∨ x < y) ∧ (k < half ↔ 0 ≤ x)
      · have HN := hid (show ∀ j, j < k + 1 → (j = 0 ∨ m.getD j 0 < m.getD (j - 1) 0) ∧ (j < half ↔ 0 ≤ m.getD j 0) from fun j hj => by
          rcases Nat.lt_or_ge j k with h | h
          · exact HD.out j h
          · rw [show j = k by omega, ← HX.out, ← HY.out]; exact hok)
        obtain ⟨ho1, ho2⟩ := hok
        by_cases hkh : k < half
        · have hx0 := ho2.1 hkh
          clear ho2
          by_cases h0 : k = 0
          · subst h0
            rw [Nat.add_zero] at hck
            go_wp2_with fail
            go_round
            case rel => exact ⟨1, by omega, by go_num, HN⟩
            case measure => simp [intOf]; omega
          · have hyx : x < y := by omega
            have h1 : 0 < k := by omega
            clear ho1
            go_wp2_with fail
            go_round
            case rel => exact ⟨k + 1, by omega, by go_num, HN⟩
            case measure => simp [intOf]; omega
        · have hx0 : ¬ 0 ≤ x := fun h => hkh (ho2.2 h)
          clear ho2
          by_cases h0 : k = 0
          · subst h0
            rw [Nat.add_zero] at hck
            go_wp2_with fail
            go_round
            case rel => exact ⟨1, by omega, by go_num, HN⟩
            case measure => simp [intOf]; omega
          · have hyx : x < y := by omega
            have h1 : 0 < k := by omega
            clear ho1
            go_wp2_with fail
            go_round
            case rel => exact ⟨k + 1, by omega, by go_num, HN⟩
            case measure => simp [intOf]; omega
      · have hf : rB = false := HK.out (by
          cases h : okM m k
          · rfl
          · exact absurd (HOK.out h) hok)
        have hfx := HUN.out hf
        subst hf hfx
        by_cases h0 : k = 0
        · subst h0
          rw [Nat.add_zero] at hck
          by_cases hkh : 0 < half
          · have hx0 : ¬ 0 ≤ x := fun h => hok ⟨.inl rfl, fun _ => h, fun _ => hkh⟩
            clear hok
            go_wp2_with fail
            go_ret2
            exact ⟨none, 0, rfl, own_nil _ _, Below.refl _ _⟩
          · have := HH2.out; omega
        · have h1 : 0 < k := by omega
          by_cases hyx : x < y
          · by_cases hkh : k < half
            · have hx0 : ¬ 0 ≤ x := fun h => hok ⟨.inr hyx, fun _ => h, fun _ => hkh⟩
              clear hok
              go_wp2_with fail
              go_ret2
              exact ⟨none, 0, rfl, own_nil _ _, Below.refl _ _⟩
            · have hx0 : 0 ≤ x := by
                rcases Int.lt_or_le x 0 with h | h
                · exact absurd ⟨.inr hyx, fun hh => absurd hh hkh, fun hh => by omega⟩ hok
                · exact h
              clear hok
              go_wp2_with fail
              go_ret2
              exact ⟨none, 0, rfl, own_nil _ _, Below.refl _ _⟩
          · clear hok
            go_wp2_with fail
            go_ret2
            exact ⟨none, 0, rfl, own_nil _ _, Below.refl _ _⟩
    · have hkl : k = m.length := by omega
      subst hkl
      have HN1000 := hid (show 0 < half → m.getD (m.length - 1) 0 = -(mn m : Int) ∧ 0 < mn m ∧ mn m ≤ 1000 from fun h0 => by
        have h1 := HH2.out
        have h2 := (HD.out (m.length - 1) (by omega)).2
        have h3 := HBD.out (m.length - 1) (by omega)
        unfold mn; omega)
      have HN0 := hid (show ¬ 0 < half → mn m = 0 from fun h0 => by
        have h1 := HH2.out
        have : m = [] := List.eq_nil_of_length_eq_zero (by omega)
        unfold mn; rw [this]; simp)
      have hAA : (A = none ∧ c = 0 ∧ m.length = 0) ∨ ∃ g, A = some ⟨g, 0, none⟩ ∧ m.length ≤ c := by
        rcases HO.out.2 with ⟨hv, h0⟩ | ⟨g', cap, cur, hv, _, _, hn, _⟩
        · injection hv with h1 _ h3
          exact .inl ⟨h1, h3, h0⟩
        · injection hv with h1 _ h3
          exact .inr ⟨g', h1, by omega⟩
      have HLO := hid (show Calls Try.prog 33 #[.slice A half c] w fun e w' => ∃ A' c', e = .returned (.slice A' half c') ∧ Own w' w.heap.size A' c' (m.take half) ∧ Below w.heap.size w w' from by
        have hlt : (m.take half).length = half := by rw [List.length_take]; omega
        have hop : Own w B A c (m.take half) := by
          rcases hAA with ⟨rfl, rfl, h0⟩ | ⟨g, rfl, _⟩
          · have h1 : m = [] := List.eq_nil_of_length_eq_zero h0
            rw [h1, List.take_nil]; exact own_nil _ _
          · exact own_prefix HO.out half hhb
        have := l1Own_any A c (m.take half) w (by rw [hlt]; omega) hop
        rw [hlt] at this; exact this)
      have HHL := hid (show ∀ j, (mH m j).length ≤ half + j from fun j => by
        have := gaps_len m j
        have h1 : (m.take (m.length / 2)).length ≤ m.length / 2 := by rw [List.length_take]; omega
        unfold mH; rw [List.length_append, HHF.out]; omega)
      have HMB := hid (show ∀ j, j ≤ 1000 → ∀ k, k < (mH m j).length → -1001 ≤ (mH m j).getD k 0 ∧ (mH m j).getD k 0 ≤ 1000 from fun j hj k hk => by
        have hm : (mH m j).getD k 0 ∈ mH m j := by rw [getD_in hk]; exact List.getElem_mem _
        rcases List.mem_append.1 hm with h | h
        · obtain ⟨i, hi, e⟩ := List.mem_iff_getElem.1 (List.mem_of_mem_take h)
          have := HBD.out i hi
          rw [getD_in hi, e] at this; omega
        · have := mem_below.1 (List.mem_filter.1 h).1; omega)
      have HM0 := hid (show mH m 0 = m.take half by unfold mH; rw [← HHF.out]; simp [gaps, below])
      have HMY := hid (show ∀ j : Nat, (-1 - (j : Int)) ∉ m → mH m (j + 1) = mH m j ++ [-1 - (j : Int)] from fun j h => by unfold mH; rw [gaps_yes h, List.append_assoc])
      have HMN := hid (show ∀ j : Nat, (-1 - (j : Int)) ∈ m → mH m (j + 1) = mH m j from fun j h => by unfold mH; rw [gaps_no h])
      obtain ⟨N, hN⟩ : ∃ N, N = mn m - 1 := ⟨_, rfl⟩
      have HOUT := hid (show outM m = oK (mH m N) (mH m N).length by rw [hN]; rfl)
      have hN1000 : N ≤ 1000 := by
        by_cases h0 : 0 < half
        · have := HN1000.out h0; omega
        · have := HN0.out h0; omega
      have HNE := hid hN
      have hh30 : half ≤ 30 := by have := HH2.out; omega
      obtain ⟨M, hM⟩ : ∃ M, M = mH m := ⟨_, rfl⟩
      rw [← hM] at HHL HMB HM0 HMY HMN HOUT
      clear hM hN
      have hh0 : 0 < half := by have := HH2.out; have := HLP.out; omega
      obtain ⟨g, rfl, hcap⟩ := hAA.resolve_left (fun h => by have := HLP.out; omega)
      obtain ⟨hl1, hl2, hl3⟩ := HN1000.out hh0
      have hck : w.cell? ⟨g, m.length - 1, none⟩ = some (.int .i64 (-(mn m : Int))) := by
        rw [← hl1]; exact own_get HO.out (by omega)
      have hek2 : ((m.length : Int) - 1).toNat = m.length - 1 := by omega
      obtain ⟨q, hq⟩ : ∃ q, q = mn m := ⟨_, rfl⟩
      have HNQ := hid (show N + 1 = q by have := HNE.out; omega)
      have hNq := HNQ.out
      rw [← hq] at hck
      clear hl1 hl2 hl3 hq
      go_wp2_with (go_at_call 33; refine HLO.out.mono ?_; rintro e w1 ⟨A1, c1, rfl, o1, b1⟩; have hck' := (b1.cell (World.block_lt_of_cell? w _ hck)).trans hck)
      have hrow1 : w1.ownsRow w.heap.size 3 1 (.slice A1 half c1) (M 0).length (IL (M 0)) := by
        have hlt : (m.take half).length = half := by rw [List.length_take]; omega
        have := o1
        unfold Own at this
        rw [hlt] at this
        rw [HM0.out, hlt]; exact this
      have HR1 := hid hrow1
      clear o1 hrow1
      go_loopw [7, 9] (fun v xv wr => ∃ j : Nat, j ≤ N ∧ xv = .int .i64 (-1 - (j : Int)) ∧ Hid (wr.ownsRow w.heap.size 3 1 v (M j).length (IL (M j))) ∧ Below w.heap.size w wr) (fun _ xv _ => (intOf xv + 1002).toNat)
      case atStart => exact ⟨0, Nat.zero_le _, by simp, HR1, b1⟩
      case round =>
        obtain ⟨j, hj, rfl, HRW, hbel⟩ := hrel
        clear HR1
        have hlj := HHL.out j
        have hcw := hc.later hbel
        have hszr := hbel.size
        by_cases hjN : j < N
        · have hcnd : -(q : Int) < -1 - (j : Int) := by omega
          by_cases hm : (-1 - (j : Int)) ∈ m
          · have hms := HMN.out j hm
            have HMS := hid hms
            have HDD := hid (decide_eq_true hm)
            clear hm hms
            go_wp2_with (go_at_call 34; refine (l1Has_b _ _ _ _ _ (by omega) hcw _ HDD.out).mono ?_; rintro e w' ⟨rfl, rfl⟩)
            go_roundw
            case rel => exact ⟨j + 1, by omega, by go_num, by rw [HMS.out]; exact HRW, hbel⟩
            case measure => simp [intOf]; omega
          · have hms := HMY.out j hm
            have HMS := hid hms
            have HDD := hid (decide_eq_false hm)
            clear hm hms
            obtain ⟨L, hL⟩ : ∃ L, L = M j := ⟨_, rfl⟩
            rw [← hL] at HMS HRW hlj
            clear hL
            go_wp2_with (first | (go_at_call 34; refine (l1Has_b _ _ _ _ _ (by omega) hcw _ HDD.out).mono ?_; rintro e w' ⟨rfl, rfl⟩) | (at_builtin; refine wpList_append_own _ rfl _ _ 22 rfl w.heap.size 3 i0 (.int .i64 0) 1 8 Try.underlying22 hi hz0 hz1 hz2 rfl (by decide) _ _ _ rfl (HRW.out.alloc _) ⟨wr.heap.size, 0, none⟩ 1 1 [.int .i64 (-1 - (j : Int))] rfl rfl one_at (one_cell _) (by unfold maxLen; omega) (by omega) (by simp; omega) ?_))
            intro v' w2 hown' hgrow _
            have hb1 : Below w.heap.size w w2 := (hbel.alloc hbel.size _).grown hgrow (by simp; omega) (fun q hq => (HRW.out.lt q hq).1)
            have hown2 := own_snoc HMS.out hown'
            have HR2 := hid hown2
            clear hgrow hown' hown2
            go_wp2_with fail
            go_roundw
            case rel => exact ⟨j + 1, by omega, by go_num, HR2, hb1⟩
            case measure => simp [intOf]; omega
        · have hjn : j = N := by omega
          subst hjn
          have hcnd : ¬ -(q : Int) < -1 - (j : Int) := by omega
          obtain ⟨H, hH⟩ : ∃ H, H = M j := ⟨_, rfl⟩
          have hHB := HMB.out j hN1000
          rw [← hH] at HRW HOUT hHB hlj
          have HHB := hid hHB
          clear hH hHB
          obtain ⟨A2, c2, rfl, ho2⟩ := own_form' HRW.out
          have HO2 := hid ho2
          obtain ⟨wo, rfl⟩ : ∃ wo, wo = wr := ⟨_, rfl⟩
          clear ho2 HRW
          go_wp2_with fail
          go_loopw [10, 84] (fun v i wr3 => ∃ k : Nat, k ≤ H.length ∧ i = .int .i64 k ∧ Hid (wr3.ownsRow wo.heap.size 3 1 v (oK H k).length (IL (oK H k))) ∧ Below wo.heap.size wo wr3) (fun _ i _ => H.length - (intOf i).toNat)
          case atStart => exact ⟨0, Nat.zero_le _, rfl, hid (World.ownsRow_nil _ _ _ _), Below.refl _ _⟩
          case round =>
            obtain ⟨k, hk, rfl, HRK, hb3⟩ := hrel
            have hok := oK_len H k
            have hsz3 := hb3.size
            by_cases hlt : k < H.length
            · obtain ⟨g2, hg2, _, _⟩ := HO2.out.at_ (by omega)
              have hcell := own_get (show Own wo w.heap.size (some ⟨g2, 0, none⟩) c2 H by rw [← hg2]; exact HO2.out) (k := k) hlt
              have hck := (hb3.cell (World.block_lt_of_cell? wo _ hcell)).trans hcell
              have hxb := HHB.out k hlt
              have HOY := hid (oK_yes (H := H) (k := k))
              have HON := hid (oK_no (H := H) (k := k))
              obtain ⟨x, hx⟩ : ∃ x, x = H.getD k 0 := ⟨_, rfl⟩
              rw [← hx] at hck hxb HOY HON
              subst hg2
              clear hx hcell
              by_cases h0 : 0 < x + k + 1
              · have HOS := hid (HOY.out h0)
                obtain ⟨L, hL⟩ : ∃ L, L = oK H k := ⟨_, rfl⟩
                rw [← hL] at HOS HRK hok
                clear hL HOY HON
                go_wp2_with (at_builtin; refine wpList_append_own _ rfl _ _ 22 rfl wo.heap.size 3 i0 (.int .i64 0) 1 8 Try.underlying22 hi hz0 hz1 hz2 rfl (by decide) _ _ _ rfl (HRK.out.alloc _) ⟨wr.heap.size, 0, none⟩ 1 1 [.int .i64 (x + k + 1)] rfl rfl one_at (one_cell _) (by unfold maxLen; omega) (by omega) (by simp; omega) ?_)
                intro v' w4 hown' hgrow _
                have hb4 : Below wo.heap.size wo w4 := (hb3.alloc hb3.size _).grown hgrow (by simp; omega) (fun q hq => (HRK.out.lt q hq).1)
                have hown2 := own_snoc HOS.out hown'
                have HR4 := hid hown2
                clear hgrow hown' hown2
                go_wp2_with fail
                go_roundw
                case rel => exact ⟨k + 1, by omega, by go_num, HR4, hb4⟩
                case measure => simp [intOf]; omega
              · have HOS := hid (HON.out h0)
                have HR4 := hid (show wr.ownsRow wo.heap.size 3 1 u10 (oK H (k + 1)).length (IL (oK H (k + 1))) by rw [HOS.out]; exact HRK.out)
                clear HOY HON
                go_wp2_with fail
                go_roundw
                case rel => exact ⟨k + 1, by omega, by go_num, HR4, hb3⟩
                case measure => simp [intOf]; omega
            · have hkl : k = H.length := by omega
              subst hkl
              obtain ⟨A3, c3, rfl, ho3⟩ := own_form' HRK.out
              rw [← HOUT.out] at ho3 hok ⊢
              have HO3 := hid ho3
              have B3 := Below.next hbel hb3
              have HFF := hid HFI.out
              obtain ⟨Q, hQ⟩ : ∃ Q, Q = outM m := ⟨_, rfl⟩
              rw [← hQ] at HO3 hok HFF ⊢
              clear ho3 hQ HRK
              cases hg : good Q
              · have hf : rB = false := by rw [HFF.out.1, hg]; rfl
                have hfx := HUN.out hf
                have HG := hid hg
                subst hf hfx
                clear hg
                go_wp2_with (go_at_call 21; refine (ptGood_b _ _ _ _ (by omega) HO3.out.cells _ HG.out).mono ?_; rintro e w' ⟨rfl, n, rfl⟩)
                go_ret2
                exact ⟨none, 0, rfl, own_nil _ _, Below.next B3 (below_drew' _ n)⟩
              · have GQ := (good_iff Q).1 hg
                have HG := hid hg
                have HMA := hid fun W (h : Cells W A3 Q) => abMaya_any A3 c3 Q W GQ h
                have hml := mayaL_len Q
                have hQl := GQ.len
                have HSM := hid fun A1 c1 W (h1 : Cells W A1 (mayaL Q)) (h2 : Cells W (some ⟨g, 0, none⟩) m) => l1Same_any A1 (some ⟨g, 0, none⟩) c1 c (mayaL Q) m W (by omega) hl h1 h2
                have hrb : rB = decide (mayaL Q = m) := by rw [HFF.out.1, hg]; rfl
                obtain ⟨Y, hY⟩ : ∃ Y, Y = mayaL Q := ⟨_, rfl⟩
                have hrx : rX = if decide (mayaL Q = m) then Q else [] := by rw [HFF.out.2, hg]; rfl
                rw [← hY] at HMA HSM hrb hrx
                have HRB := hid hrb; have HRX := hid hrx
                clear hg hY hrb hrx GQ HFF
                cases hd : decide (Y = m)
                · rw [hd] at HSM
                  have h1 := HRB.out; have h2 := HRX.out
                  rw [hd] at h1 h2
                  subst h1
                  simp only [Bool.false_eq_true, if_false] at h2
                  subst h2
                  clear hd HRB HRX
                  go_wp2_with (go_at_call 21; refine (ptGood_b _ _ _ _ (by omega) HO3.out.cells _ HG.out).mono ?_; rintro e w' ⟨rfl, n, rfl⟩)
                  refine (HMA.out _ (HO3.out.below (below_drew' _ n)).cells).mono ?_
                  rintro e w5 ⟨A5, c5, rfl, o5, b5⟩
                  have B5 := Below.next (Below.next B3 (below_drew' _ n)) b5
                  go_wp2_with (go_at_call 35; refine (HSM.out _ _ _ o5.cells (hc.later B5)).mono ?_; rintro e w' ⟨rfl, n', rfl⟩)
                  go_ret2
                  exact ⟨none, 0, rfl, own_nil _ _, Below.next B5 (below_drew' _ n')⟩
                · rw [hd] at HSM
                  have h1 := HRB.out; have h2 := HRX.out
                  rw [hd] at h1 h2
                  subst h1
                  simp only [if_true] at h2
                  subst h2
                  clear hd HRB HRX
                  go_wp2_with (go_at_call 21; refine (ptGood_b _ _ _ _ (by omega) HO3.out.cells _ HG.out).mono ?_; rintro e w' ⟨rfl, n, rfl⟩)
                  refine (HMA.out _ (HO3.out.below (below_drew' _ n)).cells).mono ?_
                  rintro e w5 ⟨A5, c5, rfl, o5, b5⟩
                  have B5 := Below.next (Below.next B3 (below_drew' _ n)) b5
                  have ho5 := (HO3.out.below (below_drew' _ n)).below b5
                  have HO5 := hid ho5
                  clear ho5
                  go_wp2_with (go_at_call 35; refine (HSM.out _ _ _ o5.cells (hc.later B5)).mono ?_; rintro e w' ⟨rfl, n', rfl⟩)
                  go_ret2
                  exact ⟨A3, c3, rfl, (HO5.out.below (below_drew' _ n')).more hbel.size, Below.next B5 (below_drew' _ n')⟩
end Go.Proofs.Ytpokehnjpakgcaa
