/-
  Contract: numbers read, of the model.
-/
import Derived.Test.YtjhcbbafldflaaaDoorSpl
namespace Go.Proofs.YtjhcbbafldflaaaDoor
open Go.RowKit Go.Shelf

theorem str_getD (s : ByteArray) (k : Nat) (h : k < s.size) : (strL s).getD k 0 = s[k] := by
  rw [List.getD_eq_getElem?_getD, List.getElem?_eq_getElem (by rw [strL_len]; exact h)]
  exact strL_get s k h
theorem dg_take {s : ByteArray} {k : Nat} (h : k < s.size) : ((strL s).take (k + 1)).all dgB = (((strL s).take k).all dgB && dgB s[k]) := by
  rw [List.take_succ_eq_append_getElem (by rw [strL_len]; exact h), List.all_append, strL_get s k h]
  simp
theorem rdK_bd (l : List UInt8) : ∀ k, k ≤ l.length → (l.take k).all dgB = true → 0 ≤ rdK l k ∧ rdK l k < 10 ^ k
  | 0, _, _ => by simp [rdK]
  | k + 1, h, ha => by
    have e : l.take (k + 1) = l.take k ++ [l.getD k 0] := by
      rw [List.take_succ_eq_append_getElem (by omega)]
      congr 2
      simp [List.getD, show k < l.length by omega]
    rw [e, List.all_append, Bool.and_eq_true] at ha
    obtain ⟨h1, h2⟩ := rdK_bd l k (by omega) ha.1
    have h3 := ha.2
    simp only [List.all_cons, List.all_nil, Bool.and_true, dgB, Bool.and_eq_true, decide_eq_true_eq] at h3
    rw [rdK]
    rw [Int.pow_succ]
    omega
theorem bad_dg {s : ByteArray} {k : Nat} (h : k < s.size) (hb : dgB s[k] = false) : rdW (strL s) = -1 := by
  have : (strL s).all dgB = false := by
    cases ha : (strL s).all dgB
    · rfl
    · rw [List.all_eq_true] at ha
      have := ha (s[k]) (by rw [← strL_get s k h]; exact List.getElem_mem _)
      rw [hb] at this; cases this
  unfold rdW rdB
  rw [this]; simp

set_option maxRecDepth 100000 in
set_option maxHeartbeats 4000000 in
theorem l1Read_any (s : ByteArray) (w : World) (hs : s.size ≤ 1048576) :
    Calls Tryd.prog 36 #[.string s] w fun e w' => e = .returned (.int .i64 (rdW (strL s))) ∧ w = w' := by
  have hl := strL_len s
  by_cases h16 : 1 ≤ s.size ∧ s.size ≤ 6
  case neg =>
    have HI := hid (show inB 1 6 (s.size : Int) = false by cases h : inB 1 6 (s.size : Int); rfl; exact absurd (inB_iff.1 h) (by omega))
    have HR := hid (show rdW (strL s) = -1 by unfold rdW rdB; rw [hl, decide_eq_false h16]; rfl)
    rw [HR.out]
    clear hl h16 HR
    go_enter Tryd.func36, Tryd.ntmps36
    go_wp2_with (go_at_call 50; refine (l1In_b _ _ _ _ _ HI.out).mono ?_; rintro e w' ⟨rfl, rfl⟩)
    go_ret
    exact ⟨rfl, rfl⟩
  have h0 : 0 < s.size := by omega
  have HI := hid (inB_iff.2 (show (1 : Int) ≤ (s.size : Int) ∧ (s.size : Int) ≤ 6 by omega))
  have h6 : s.size ≤ 6 := h16.2
  have g0 := str_getD s 0 h0
  by_cases hz : s[0] = 48 ∧ 1 < s.size
  case pos =>
    have HR := hid (show rdW (strL s) = -1 by unfold rdW rdB; rw [hl, g0, hz.1, decide_eq_true hz.2]; simp)
    rw [HR.out]
    have hc : ((s[0].toNat : Int) = 48) := by rw [hz.1]; rfl
    have hgt : (1 : Int) < (s.size : Int) := by omega
    clear hl h16 HR hz g0
    go_enter Tryd.func36, Tryd.ntmps36
    go_wp2_with (go_at_call 50; refine (l1In_b _ _ _ _ _ HI.out).mono ?_; rintro e w' ⟨rfl, rfl⟩)
    go_ret
    exact ⟨rfl, rfl⟩
  have HZ := hid (show rdB (strL s) = (strL s).all dgB by
    unfold rdB
    rw [hl, g0, decide_eq_true h16]
    have : (decide (s[0] = 48) && decide (1 < s.size)) = false := by
      cases hh : (decide (s[0] = 48) && decide (1 < s.size))
      · rfl
      · rw [Bool.and_eq_true, decide_eq_true_eq, decide_eq_true_eq] at hh; exact absurd hh hz
    rw [this]; simp)
  have HBD := hid (rdK_bd (strL s))
  have HL := hid hl
  by_cases hc0 : s[0] = 48
  · have hc : ((s[0].toNat : Int) = 48) := by rw [hc0]; rfl
    have hgt : ¬ (1 : Int) < (s.size : Int) := by
      have : ¬ 1 < s.size := fun h => hz ⟨hc0, h⟩
      omega
    clear hz g0 hc0 h16 hl
    go_enter Tryd.func36, Tryd.ntmps36
    go_wp2_with (go_at_call 50; refine (l1In_b _ _ _ _ _ HI.out).mono ?_; rintro e w' ⟨rfl, rfl⟩)
    go_loop [3, 4] (fun v i => ∃ k : Nat, k ≤ s.size ∧ i = .int .i64 k ∧ v = .int .i64 (rdK (strL s) k) ∧ Hid (((strL s).take k).all dgB = true)) (fun _ i => s.size - (intOf i).toNat)
    case atStart => exact ⟨0, Nat.zero_le _, rfl, rfl, hid (by simp)⟩
    case round =>
      obtain ⟨k, hk, rfl, rfl, HA⟩ := hrel
      have hbd := HBD.out k (by rw [HL.out]; exact hk) HA.out
      have hp : (10 : Int) ^ k ≤ 10 ^ 6 := by
        have : (10 : Nat) ^ k ≤ 10 ^ 6 := Nat.pow_le_pow_right (by omega) (by omega)
        exact_mod_cast this
      have hbd2 : 0 ≤ rdK (strL s) k ∧ rdK (strL s) k < 1000000 := ⟨hbd.1, by have := hbd.2; omega⟩
      by_cases hlt : k < s.size
      · cases hd : dgB s[k]
        · have HB := hid (bad_dg hlt hd)
          by_cases hlo : ((s[k].toNat : Int) < 48)
          · clear hd hbd hp hbd2
            go_wp2_with fail
            go_ret
            exact ⟨by rw [HB.out]; rfl, rfl⟩
          · have hhi : (57 : Int) < (s[k].toNat : Int) := by
              unfold dgB at hd
              rw [Bool.and_eq_false_iff, decide_eq_false_iff_not, decide_eq_false_iff_not] at hd
              omega
            clear hd hbd hp hbd2
            go_wp2_with fail
            go_ret
            exact ⟨by rw [HB.out]; rfl, rfl⟩
        · have hd2 := hd
          unfold dgB at hd2
          rw [Bool.and_eq_true, decide_eq_true_eq, decide_eq_true_eq] at hd2
          have hlo : ¬ ((s[k].toNat : Int) < 48) := by omega
          have hhi : ¬ (57 : Int) < (s[k].toNat : Int) := by omega
          have HN := hid (show ((strL s).take (k + 1)).all dgB = true by rw [dg_take hlt, HA.out, hd]; rfl)
          have HV := hid (show rdK (strL s) (k + 1) = 10 * rdK (strL s) k + (s[k].toNat : Int) - 48 by rw [rdK, str_getD s k hlt])
          obtain ⟨v, hv⟩ : ∃ v, v = rdK (strL s) k := ⟨_, rfl⟩
          rw [← hv] at HV hbd2 ⊢
          have hw1 : IntKind.u8.wrap ((s[k].toNat : Int) - 48) = (s[k].toNat : Int) - 48 := IntWalk.u8_in _ (by omega)
          have hw2 : IntKind.i64.wrap (10 * v) = 10 * v := IntWalk.i64_in _ (by omega)
          have hw3 : IntKind.i64.wrap ((s[k].toNat : Int) - 48) = (s[k].toNat : Int) - 48 := IntWalk.i64_in _ (by omega)
          have hw4 : IntKind.i64.wrap (10 * v + ((s[k].toNat : Int) - 48)) = 10 * v + ((s[k].toNat : Int) - 48) := IntWalk.i64_in _ (by omega)
          clear hd hbd hp hv
          go_wp2_with fail
          go_round
          case rel => exact ⟨k + 1, by omega, by go_num, by rw [HV.out]; exact congrArg (Value.int .i64) (by omega), HN⟩
          case measure => simp [intOf]; omega
      · have hke : k = s.size := by omega
        subst hke
        have HE := hid (show rdW (strL s) = rdK (strL s) s.size by
          have := HA.out
          rw [List.take_of_length_le (by rw [HL.out]; exact Nat.le_refl _)] at this
          unfold rdW
          rw [HZ.out, this, if_pos rfl, HL.out])
        clear hbd hp hbd2
        go_wp2_with fail
        go_ret
        exact ⟨by rw [HE.out]; rfl, rfl⟩
  · have hc : ¬ ((s[0].toNat : Int) = 48) := fun e => hc0 (UInt8.toNat_inj.1 (by have : (48 : UInt8).toNat = 48 := rfl; omega))
    clear hz g0 hc0 h16 hl
    go_enter Tryd.func36, Tryd.ntmps36
    go_wp2_with (go_at_call 50; refine (l1In_b _ _ _ _ _ HI.out).mono ?_; rintro e w' ⟨rfl, rfl⟩)
    go_loop [3, 4] (fun v i => ∃ k : Nat, k ≤ s.size ∧ i = .int .i64 k ∧ v = .int .i64 (rdK (strL s) k) ∧ Hid (((strL s).take k).all dgB = true)) (fun _ i => s.size - (intOf i).toNat)
    case atStart => exact ⟨0, Nat.zero_le _, rfl, rfl, hid (by simp)⟩
    case round =>
      obtain ⟨k, hk, rfl, rfl, HA⟩ := hrel
      have hbd := HBD.out k (by rw [HL.out]; exact hk) HA.out
      have hp : (10 : Int) ^ k ≤ 10 ^ 6 := by
        have : (10 : Nat) ^ k ≤ 10 ^ 6 := Nat.pow_le_pow_right (by omega) (by omega)
        exact_mod_cast this
      have hbd2 : 0 ≤ rdK (strL s) k ∧ rdK (strL s) k < 1000000 := ⟨hbd.1, by have := hbd.2; omega⟩
      by_cases hlt : k < s.size
      · cases hd : dgB s[k]
        · have HB := hid (bad_dg hlt hd)
          by_cases hlo : ((s[k].toNat : Int) < 48)
          · clear hd hbd hp hbd2
            go_wp2_with fail
            go_ret
            exact ⟨by rw [HB.out]; rfl, rfl⟩
          · have hhi : (57 : Int) < (s[k].toNat : Int) := by
              unfold dgB at hd
              rw [Bool.and_eq_false_iff, decide_eq_false_iff_not, decide_eq_false_iff_not] at hd
              omega
            clear hd hbd hp hbd2
            go_wp2_with fail
            go_ret
            exact ⟨by rw [HB.out]; rfl, rfl⟩
        · have hd2 := hd
          unfold dgB at hd2
          rw [Bool.and_eq_true, decide_eq_true_eq, decide_eq_true_eq] at hd2
          have hlo : ¬ ((s[k].toNat : Int) < 48) := by omega
          have hhi : ¬ (57 : Int) < (s[k].toNat : Int) := by omega
          have HN := hid (show ((strL s).take (k + 1)).all dgB = true by rw [dg_take hlt, HA.out, hd]; rfl)
          have HV := hid (show rdK (strL s) (k + 1) = 10 * rdK (strL s) k + (s[k].toNat : Int) - 48 by rw [rdK, str_getD s k hlt])
          obtain ⟨v, hv⟩ : ∃ v, v = rdK (strL s) k := ⟨_, rfl⟩
          rw [← hv] at HV hbd2 ⊢
          have hw1 : IntKind.u8.wrap ((s[k].toNat : Int) - 48) = (s[k].toNat : Int) - 48 := IntWalk.u8_in _ (by omega)
          have hw2 : IntKind.i64.wrap (10 * v) = 10 * v := IntWalk.i64_in _ (by omega)
          have hw3 : IntKind.i64.wrap ((s[k].toNat : Int) - 48) = (s[k].toNat : Int) - 48 := IntWalk.i64_in _ (by omega)
          have hw4 : IntKind.i64.wrap (10 * v + ((s[k].toNat : Int) - 48)) = 10 * v + ((s[k].toNat : Int) - 48) := IntWalk.i64_in _ (by omega)
          clear hd hbd hp hv
          go_wp2_with fail
          go_round
          case rel => exact ⟨k + 1, by omega, by go_num, by rw [HV.out]; exact congrArg (Value.int .i64) (by omega), HN⟩
          case measure => simp [intOf]; omega
      · have hke : k = s.size := by omega
        subst hke
        have HE := hid (show rdW (strL s) = rdK (strL s) s.size by
          have := HA.out
          rw [List.take_of_length_le (by rw [HL.out]; exact Nat.le_refl _)] at this
          unfold rdW
          rw [HZ.out, this, if_pos rfl, HL.out])
        clear hbd hp hbd2
        go_wp2_with fail
        go_ret
        exact ⟨by rw [HE.out]; rfl, rfl⟩
end Go.Proofs.YtjhcbbafldflaaaDoor
