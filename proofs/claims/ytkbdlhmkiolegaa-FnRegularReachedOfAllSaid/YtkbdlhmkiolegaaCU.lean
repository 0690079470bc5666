/-
  Several texts in one.
-/
import Derived.Test.YtkbdlhmkiolegaaR01
import Derived.Test.YtkbdlhmkiolegaaR10
import Derived.Test.YtkbdlhmkiolegaaR11
import Derived.Test.YtkbdlhmkiolegaaR19
import Derived.Test.YtkbdlhmkiolegaaR20
import Derived.Test.YtkbdlhmkiolegaaR06
import Derived.Test.YtkbdlhmkiolegaaR09
import Derived.Test.YtkbdlhmkiolegaaR08
/-
  Contracts: letters of rows, signatures and what is left of them, the model's side.
-/
namespace Go.Proofs.Ytkbdlhmkiolegaa
open Go.RowKit

set_option maxHeartbeats 400000 in
theorem arResidue_any (r : Nat) (x : Int) (t : Nat) (w : World) (hr : r ≤ 1000) (hx : -1000 ≤ x ∧ x ≤ 1000) (ht : 2 ≤ t ∧ t ≤ 6) :
    Calls Try.prog 92 #[.int .i64 r, .int .i64 x, .int .i64 t] w fun e w' => e = .returned (.int .i64 ((x - r) % (t : Int))) ∧ w = w' := by
  obtain ⟨h1, h2, h3⟩ := tmod_resid (x := x - r) (t := (t : Int)) (by omega)
  obtain ⟨y, hy⟩ : ∃ y, y = Int.tmod (x - r) (t : Int) := ⟨_, rfl⟩
  rw [← hy] at h1 h2 h3
  have hyy : Int.tmod (x - r) (t : Int) = y := hy.symm
  have hne : ¬ ((t : Int) = 0) := by omega
  obtain ⟨z, hz⟩ : ∃ z, z = (x - r) % (t : Int) := ⟨_, rfl⟩
  rw [← hz] at h3 ⊢
  clear hy hz
  go_enter Try.func92, Try.ntmps92
  go_wp2
  go_ret
  exact ⟨rfl, rfl⟩

set_option maxRecDepth 100000 in
set_option maxHeartbeats 4000000 in
theorem arSign_any (A : Option Addr) (c : Nat) (xs : List Int) (t : Nat) (i : Int) (r : Nat) (w : World) (G : Good xs) (hr : r ≤ xs.length) (ht : 2 ≤ t ∧ t ≤ 6) (hc : Cells w A xs) :
    Calls Try.prog 76 #[.slice A xs.length c, .int .i64 t, .int .i64 i, .int .i64 r] w fun e w' => e = .returned (.int .u8 (sgB xs t i r)) ∧ w = w' := by
  have hlen := G.len
  have hs := sgB_eq G (t := t) (i := i) (r := r)
  have hb := G.part
  obtain ⟨F, hF⟩ : ∃ F : Int → Int, F = fun x => xs.getD x.toNat 0 := ⟨_, rfl⟩
  obtain ⟨R, hR⟩ : ∃ R : Int → Int, R = fun x => (x - r) % (t : Int) := ⟨_, rfl⟩
  have hF0 : xs.getD r 0 = F r := by rw [hF]; simp
  have hF1 : xs.getD (r - 1) 0 = F ((r : Int) - 1) := by rw [hF]; show _ = xs.getD ((r : Int) - 1).toNat 0; rw [show ((r : Int) - 1).toNat = r - 1 by omega]
  have hF2 : xs.getD (r + 1) 0 = F ((r : Int) + 1) := by rw [hF]; show _ = xs.getD ((r : Int) + 1).toNat 0; rw [show ((r : Int) + 1).toNat = r + 1 by omega]
  have HP := hid fun (x : Int) (hx : 0 ≤ x ∧ x ≤ 1000) => (show Calls Try.prog 91 #[.slice A xs.length c, .int .i64 x] w fun e w' => e = .returned (.int .i64 (F x)) ∧ w = w' by
    have h := chPart_any A c xs x.toNat w (by omega) (by omega) hc
    rw [show ((x.toNat : Nat) : Int) = x by omega] at h
    rw [hF]; exact h)
  have HRS := hid fun (x : Int) (hx : -1000 ≤ x ∧ x ≤ 1000) => (show Calls Try.prog 92 #[.int .i64 r, .int .i64 x, .int .i64 t] w fun e w' => e = .returned (.int .i64 (R x)) ∧ w = w' by
    rw [hR]; exact arResidue_any r x t w (by omega) hx ht)
  have hn := hb r
  rw [show (xs.getD r 0 - r) % (t : Int) = R (xs.getD r 0) by rw [hR], show (xs.getD r 0 - 1 - r) % (t : Int) = R (xs.getD r 0 - 1) by rw [hR], hF0, hF1, hF2] at hs
  rw [hF0] at hn
  obtain ⟨s, hse⟩ : ∃ s, s = sgB xs t i r := ⟨_, rfl⟩
  rw [← hse] at hs ⊢
  have HS := hid hs
  clear hF hR hF0 hF1 hF2 hs hse hb G
  have hr31 : r ≤ 31 := by omega
  by_cases h0 : r = 0 <;> by_cases h1 : F r < F ((r : Int) - 1) <;> by_cases z1 : R (F r) = i <;> by_cases h2 : F ((r : Int) + 1) < F r <;> by_cases z2 : R (F r - 1) = i
  all_goals
    have hs := HS.out
    first | (have e0 : (r = 0) = True := eq_true h0) | (have e0 : (r = 0) = False := eq_false h0)
    simp only [e0, h1, z1, h2, z2, true_or, or_true, or_self, and_true, and_false, if_true, if_false, and_self] at hs
    clear e0
    have HE := hid hs
    first | (have hk : ((r : Int) == 0) = true := beq_iff_eq.2 (by omega)) | (have hk : ((r : Int) == 0) = false := beq_eq_false_iff_ne.2 (by omega))
    have H0 := hid h0
    clear h0 hs
    go_enter Try.func76, Try.ntmps76
    go_wp2_with (first | (go_at_call 91; refine (HP.out _ (by have := H0.out; omega)).mono ?_; rintro e w' ⟨rfl, rfl⟩) | (go_at_call 92; refine (HRS.out _ (by omega)).mono ?_; rintro e w' ⟨rfl, rfl⟩))
    go_ret
    exact ⟨by rw [HE.out]; rfl, rfl⟩

theorem sgM_no' {xs : List Int} {t : Nat} {i : Int} {k : Nat} (h : sgB xs t i k = 0) : ltrs (sgM xs t i (k + 1)) = ltrs (sgM xs t i k) := by rw [sgM_no h]
set_option maxRecDepth 100000 in
set_option maxHeartbeats 4000000 in
theorem arSignature_any (A : Option Addr) (c : Nat) (xs : List Int) (t : Nat) (i : Int) (w : World) (G : Good xs) (ht : 2 ≤ t ∧ t ≤ 6) (hc : Cells w A xs) :
    Calls Try.prog 77 #[.slice A xs.length c, .int .i64 t, .int .i64 i] w fun e w' => e = .returned (.string (strOf (ltrs (sig xs t i)))) ∧ w = w' := by
  have hlen := G.len
  have HSG := hid fun r (h : r ≤ xs.length) => arSign_any A c xs t i r w G h ht hc
  have u65 : Utf8.encode 65 = strOf [65] := by decide
  have u82 : Utf8.encode 82 = strOf [82] := by decide
  have HU65 := hid u65
  have HU82 := hid u82
  clear G u65 u82
  go_enter Try.func77, Try.ntmps77
  go_wp2_with fail
  go_loop [7, 8] (fun v iv => ∃ k : Nat, k ≤ xs.length + 1 ∧ iv = .int .i64 k ∧ v = .string (strOf (ltrs (sgM xs t i k)))) (fun _ iv => xs.length + 1 - (intOf iv).toNat)
  case atStart => exact ⟨0, Nat.zero_le _, rfl, rfl⟩
  case round =>
    obtain ⟨k, hk, rfl, rfl⟩ := hrel
    by_cases hlt : k ≤ xs.length
    · have hS := HSG.out k hlt
      have hml := sgM_len xs t i k
      have hsz : (strOf (ltrs (sgM xs t i k))).size ≤ 40 := by rw [strOf_size, ltrs_len]; omega
      rcases sgB_cases xs t i k with hs | hs | hs
      · rw [hs] at hS
        have HS := hid hS
        have he : ltrs (sgM xs t i (k + 1)) = ltrs (sgM xs t i k) ++ [65] := by rw [sgM_yes (by omega), ltrs_snoc, hs]; rfl
        have HE := hid ((strOf_app (ltrs (sgM xs t i k)) [65]).trans (by rw [← he]))
        have u65 := HU65.out
        have s65 : (strOf [65]).size = 1 := rfl
        clear hS hs he
        go_wp2_with (go_at_call 76; refine HS.out.mono ?_; rintro e w' ⟨rfl, rfl⟩)
        go_round
        case rel => exact ⟨k + 1, by omega, by go_num, by rw [← HE.out]; first | done | rfl⟩
        case measure => simp [intOf]; omega
      · rw [hs] at hS
        have HS := hid hS
        have he : ltrs (sgM xs t i (k + 1)) = ltrs (sgM xs t i k) ++ [82] := by rw [sgM_yes (by omega), ltrs_snoc, hs]; rfl
        have HE := hid ((strOf_app (ltrs (sgM xs t i k)) [82]).trans (by rw [← he]))
        have u82 := HU82.out
        have s82 : (strOf [82]).size = 1 := rfl
        clear hS hs he
        go_wp2_with (go_at_call 76; refine HS.out.mono ?_; rintro e w' ⟨rfl, rfl⟩)
        go_round
        case rel => exact ⟨k + 1, by omega, by go_num, by rw [← HE.out]; first | done | rfl⟩
        case measure => simp [intOf]; omega
      · have he := sgM_no' hs
        rw [hs] at hS
        have HS := hid hS
        have HE := hid he
        clear hS hs he
        go_wp2_with (go_at_call 76; refine HS.out.mono ?_; rintro e w' ⟨rfl, rfl⟩)
        go_round
        case rel => exact ⟨k + 1, by omega, by go_num, by rw [HE.out]⟩
        case measure => simp [intOf]; omega
    · have hkl : k = xs.length + 1 := by omega
      subst hkl
      go_wp2_with fail
      go_ret
      exact ⟨rfl, rfl⟩

theorem own_take {w : World} {B : Nat} {A : Option Addr} {c : Nat} {xs : List Int} (h : Own w B A c xs) (k : Nat) (hk : k ≤ xs.length) : Own w B A c (xs.take k) := by
  cases A with
  | none =>
    obtain ⟨h0, rfl⟩ := own_none h
    rw [List.eq_nil_of_length_eq_zero h0, List.take_nil]
    exact own_nil _ _
  | some a =>
    rcases h.2 with ⟨hv, _⟩ | ⟨g, cap, cur, hv, _⟩
    · injection hv with h1; cases h1
    · injection hv with h1
      cases h1
      exact own_prefix h k hk
theorem bl_at (s : ByteArray) (k : Nat) (h : k < s.size) : (bl s).getD k 0 = s[k] := by
  rw [List.getD_eq_getElem?_getD, List.getElem?_eq_getElem (by rw [bl_len]; exact h)]
  exact bl_get s k h
end Go.Proofs.Ytkbdlhmkiolegaa
/-
  Contracts: what is left of a text of letters, and the rows that are left of a signature, the model's side.
-/
namespace Go.Proofs.Ytkbdlhmkiolegaa
open Go.RowKit

theorem redS_no {st : List (Nat × Nat)} {m : Nat × Nat} (h : ¬ (m.1 = 82 ∧ 0 < st.length ∧ (st.getD (st.length - 1) (0, 0)).1 = 65)) : redS st m = st ++ [m] := if_neg h
theorem redS_yes {st : List (Nat × Nat)} {m : Nat × Nat} (h : m.1 = 82 ∧ 0 < st.length ∧ (st.getD (st.length - 1) (0, 0)).1 = 65) : redS st m = st.take (st.length - 1) := if_pos h
theorem u8_eq {a : UInt8} {n : Nat} (_ : n < 256) (h : a.toNat = n) : a = UInt8.ofNat n := by
  rw [← h]; simp

set_option maxRecDepth 100000 in
set_option maxHeartbeats 4000000 in
theorem arLeft_any (s : ByteArray) (w : World) (hs : s.size ≤ 1000) :
    Calls Try.prog 78 #[.string s] w fun e w' => ∃ A' c', e = .returned (.slice A' (rws (red (idx (bl s)))).length c') ∧ Own w' w.heap.size A' c' (rws (red (idx (bl s)))) ∧ Below w.heap.size w w' := by
  obtain ⟨i0, hi, hz0, hz1, hz2⟩ := info_parts Try.infoInt
  go_enter Try.func78, Try.ntmps78
  go_wp2_with fail
  go_loopw [3, 4] (fun v iv wr => ∃ k A c, k ≤ s.size ∧ iv = .int .i64 (k : Nat) ∧ v = .slice A (rws (red ((idx (bl s)).take k))).length c ∧ Own wr w.heap.size A c (rws (red ((idx (bl s)).take k))) ∧ Below w.heap.size w wr) (fun _ iv _ => s.size - (intOf iv).toNat)
  case atStart => exact ⟨0, none, 0, Nat.zero_le _, rfl, rfl, own_nil _ _, Below.refl _ _⟩
  case round =>
    obtain ⟨k, A, c, hk, rfl, rfl, hown, hbel⟩ := hrel
    by_cases hlt : k < s.size
    · have hil : (idx (bl s)).length = s.size := by rw [idx_len, bl_len]
      have hnx := red_take (idx (bl s)) k (by omega)
      rw [idx_get (bl s) k (by rw [bl_len]; exact hlt), bl_at s k hlt] at hnx
      have hLk := red_len ((idx (bl s)).take k)
      rw [List.length_take] at hLk
      have hmem : ∀ m ∈ red ((idx (bl s)).take k), m.2 < s.size ∧ m.1 = ((bl s).getD m.2 0).toNat := fun m hm => by
        have := idx_mem (List.mem_of_mem_take (red_mem _ m hm))
        rw [bl_len] at this; exact this
      obtain ⟨L, hL⟩ : ∃ L, L = red ((idx (bl s)).take k) := ⟨_, rfl⟩
      rw [← hL] at hnx hLk hmem hown ⊢
      have hrl := rws_len L
      have hL1000 : L.length ≤ 1000 := by omega
      have hcap := Own.cap hown
      by_cases hY : (s[k].toNat : Nat) = 82 ∧ 0 < L.length ∧ (L.getD (L.length - 1) (0, 0)).1 = 65
      · obtain ⟨h1, h2, h3⟩ := hY
        have hR : redS L (s[k].toNat, k) = L.take (L.length - 1) := redS_yes ⟨h1, h2, h3⟩
        rw [hR] at hnx
        have hnx2 : rws (red ((idx (bl s)).take (k + 1))) = (rws L).take (L.length - 1) := by rw [hnx, rws_take]
        obtain ⟨g, rfl, -, -⟩ := hown.at_ (by omega)
        have hm := hmem _ (memD_ar (d := (0, 0)) (show L.length - 1 < L.length by omega))
        have hck := own_get hown (k := L.length - 1) (by omega)
        rw [rws_get L (L.length - 1) (by omega)] at hck
        obtain ⟨q, hq⟩ : ∃ q, q = (L.getD (L.length - 1) (0, 0)).2 := ⟨_, rfl⟩
        rw [← hq] at hm hck
        have hqs : q < s.size := hm.1
        have hsq : s[q] = 65 := by
          have := hm.2
          rw [bl_at s q hqs, h3] at this
          exact u8_eq (n := 65) (by decide) this.symm
        have hsk : s[k] = 82 := u8_eq (n := 82) (by decide) h1
        have hO2 := own_take hown (L.length - 1) (by omega)
        have hcut := fun W => runI_cut_hi (some ⟨g, 0, none⟩) L.length c (L.length - 1) (by omega) W
        rw [hrl]
        have hlen2 : (rws (red ((idx (bl s)).take (k + 1)))).length = L.length - 1 := by rw [hnx2, List.length_take]; omega
        rw [← hnx2] at hO2
        obtain ⟨M, hM⟩ : ∃ M, M = rws (red ((idx (bl s)).take (k + 1))) := ⟨_, rfl⟩
        rw [← hM] at hO2 hlen2
        have HM := hid hM
        have HO2 := hid hO2
        have HL2 := hid hlen2
        have hw : IntKind.i64.wrap ((L.length : Int) - 1) = ((L.length - 1 : Nat) : Int) := by rw [IntWalk.i64_in _ (by omega)]; omega
        have hpos : (0 : Int) < (L.length : Int) := by omega
        have hidx : (((L.length - 1 : Nat) : Int)).toNat = L.length - 1 := by simp
        have hn1 : L.length - 1 < L.length := by omega
        have hn2 : ((L.length - 1 : Nat) : Int) < (L.length : Int) := by omega
        obtain ⟨n, hn⟩ : ∃ n, n = L.length := ⟨_, rfl⟩
        rw [← hn] at hck hcut hw hpos hidx hn1 hn2 hL1000 HL2 ⊢
        obtain ⟨n1, hn1e⟩ : ∃ n1, n1 = n - 1 := ⟨_, rfl⟩
        rw [← hn1e] at hck hcut hw hidx hn1 hn2 HL2
        clear hown hM hO2 hlen2 hnx hnx2 hR h1 h3 hmem hm hLk hcap hq hil hrl hn hn1e hL h2
        go_wp2_with fail
        go_roundw
        case rel => exact ⟨k + 1, some ⟨g, 0, none⟩, c, by omega, by go_num, by rw [← HM.out, HL2.out], by rw [← HM.out]; exact HO2.out, hbel⟩
        case measure => simp [intOf]; omega
      · have hR : redS L (s[k].toNat, k) = L ++ [(s[k].toNat, k)] := redS_no hY
        rw [hR] at hnx
        have hnx2 : rws (red ((idx (bl s)).take (k + 1))) = rws L ++ [(k : Int)] := by rw [hnx, rws_snoc]
        have HNX := hid hnx2
        have HO := hid hown
        have HB := hid hbel
        have finish : ∀ v' w1, w1.ownsRow w.heap.size 3 1 v' ((rws L).length + 1) (IL (rws L) ++ [.int .i64 (k : Int)]) → (wr.alloc (.cells #[.int .i64 (k : Int)] 3)).grownBy w1 (Value.slice A (rws L).length c).ownBlock →
            ∃ A c, v' = .slice A (rws (red ((idx (bl s)).take (k + 1)))).length c ∧ Own w1 w.heap.size A c (rws (red ((idx (bl s)).take (k + 1)))) ∧ Below w.heap.size w w1 := fun v' w1 hown' hgrow => by
          have hb1 : Below w.heap.size w w1 := (HB.out.alloc HB.out.size _).grown hgrow (by have := HB.out.size; simp; omega) (fun q hq => (HO.out.lt q hq).1)
          have hown2 := own_snoc HNX.out hown'
          obtain ⟨A', c', rfl, ho⟩ := own_form hown2 rfl
          exact ⟨A', c', rfl, ho, hb1⟩
        have FIN := hid finish
        have hX1000 : (rws L).length ≤ 1000 := by omega
        by_cases h1 : s[k] = 82
        · have h1' : s[k].toNat = 82 := by rw [h1]; rfl
          by_cases h2 : 0 < L.length
          · have h3 : ¬ (L.getD (L.length - 1) (0, 0)).1 = 65 := fun h => hY ⟨h1', h2, h⟩
            obtain ⟨g, rfl, -, -⟩ := hown.at_ (by omega)
            have hm := hmem _ (memD_ar (d := (0, 0)) (show L.length - 1 < L.length by omega))
            have hck := own_get hown (k := L.length - 1) (by omega)
            rw [rws_get L (L.length - 1) (by omega)] at hck
            obtain ⟨q, hq⟩ : ∃ q, q = (L.getD (L.length - 1) (0, 0)).2 := ⟨_, rfl⟩
            rw [← hq] at hm hck
            have hqs : q < s.size := hm.1
            have hsq : ¬ ((s[q].toNat : Int) = 65) := by
              have := hm.2
              rw [bl_at s q hqs] at this
              omega
            have hpos : (0 : Int) < (L.length : Int) := by omega
            have hw : IntKind.i64.wrap ((L.length : Int) - 1) = ((L.length - 1 : Nat) : Int) := by rw [IntWalk.i64_in _ (by omega)]; omega
            have hn2 : ((L.length - 1 : Nat) : Int) < (L.length : Int) := by omega
            obtain ⟨X, hX⟩ : ∃ X, X = rws L := ⟨_, rfl⟩
            rw [← hX] at hrl hX1000 HO FIN ⊢
            rw [← hrl] at hck hpos hw hn2 hL1000
            have hn1 : X.length - 1 < X.length := by omega
            obtain ⟨n1, hn1e⟩ : ∃ n1, n1 = X.length - 1 := ⟨_, rfl⟩
            rw [← hn1e] at hck hw hn2 hn1
            clear hown hX hnx hnx2 hR h1' h3 hmem hm hLk hcap hq hil hrl hn1e hL h2 hY finish hL1000
            go_wp2_with (at_builtin; refine wpList_append_own _ rfl _ _ 22 rfl w.heap.size 3 i0 (.int .i64 0) 1 8 Try.underlying22 hi hz0 hz1 hz2 rfl (by decide) _ _ _ rfl (HO.out.alloc _) ⟨wr.heap.size, 0, none⟩ 1 1 [.int .i64 (k : Int)] rfl rfl one_at (one_cell _) (by unfold maxLen; omega) (by omega) (by have := hbel.size; simp; omega) ?_)
            intro v' w1 hown' hgrow _
            have HF := hid (FIN.out v' w1 hown' hgrow)
            clear hown' hgrow
            go_wp2_with fail
            go_roundw
            case rel => obtain ⟨A, c, e, o, b⟩ := HF.out; exact ⟨k + 1, A, c, by omega, by go_num, e, o, b⟩
            case measure => simp [intOf]; omega
          · have hX0 : (rws L).length = 0 := by omega
            rw [hX0] at FIN ⊢
            have HX0 := hid hX0
            clear hown hnx hnx2 hR h1' hmem hLk hcap hil hrl hL h2 hY finish hL1000 hX0 hX1000
            go_wp2_with (at_builtin; refine wpList_append_own _ rfl _ _ 22 rfl w.heap.size 3 i0 (.int .i64 0) 1 8 Try.underlying22 hi hz0 hz1 hz2 rfl (by decide) _ 0 (IL (rws L)) rfl (by have h := HO.out; unfold Own at h; rw [HX0.out] at h; exact h.alloc _) ⟨wr.heap.size, 0, none⟩ 1 1 [.int .i64 (k : Int)] rfl rfl one_at (one_cell _) (by unfold maxLen; omega) (by omega) (by have := hbel.size; simp; omega) ?_)
            intro v' w1 hown' hgrow _
            have HF := hid (FIN.out v' w1 hown' hgrow)
            clear hown' hgrow
            go_wp2_with fail
            go_roundw
            case rel => obtain ⟨A, c, e, o, b⟩ := HF.out; exact ⟨k + 1, A, c, by omega, by go_num, e, o, b⟩
            case measure => simp [intOf]; omega
        · have h1' : ¬ ((s[k].toNat : Int) = 82) := fun e => h1 (u8_eq (n := 82) (by decide) (by omega))
          clear hown hnx hnx2 hR h1 hmem hLk hcap hil hrl hL hY finish hL1000
          go_wp2_with (at_builtin; refine wpList_append_own _ rfl _ _ 22 rfl w.heap.size 3 i0 (.int .i64 0) 1 8 Try.underlying22 hi hz0 hz1 hz2 rfl (by decide) _ _ _ rfl (HO.out.alloc _) ⟨wr.heap.size, 0, none⟩ 1 1 [.int .i64 (k : Int)] rfl rfl one_at (one_cell _) (by unfold maxLen; omega) (by omega) (by have := hbel.size; simp; omega) ?_)
          intro v' w1 hown' hgrow _
          have HF := hid (FIN.out v' w1 hown' hgrow)
          clear hown' hgrow
          go_wp2_with fail
          go_roundw
          case rel => obtain ⟨A, c, e, o, b⟩ := HF.out; exact ⟨k + 1, A, c, by omega, by go_num, e, o, b⟩
          case measure => simp [intOf]; omega
    · have hke : (idx (bl s)).take k = idx (bl s) := List.take_of_length_le (by rw [idx_len, bl_len]; omega)
      rw [hke] at hown ⊢
      have HO := hid hown
      clear hown hke
      go_wp2_with fail
      go_ret
      exact ⟨A, c, rfl, HO.out, hbel⟩
end Go.Proofs.Ytkbdlhmkiolegaa
/-
  Contracts: the rows and letters that are left of a signature, the model's side.
-/
namespace Go.Proofs.Ytkbdlhmkiolegaa
open Go.RowKit

theorem strOf_cut (l : List UInt8) (q : Nat) (h : q < l.length) : (strOf l).extract q (q + 1) = strOf [l.getD q 0] := by
  unfold strOf
  rw [ByteArray.extract_mk, show q + 1 - q = 1 by omega, List.drop_eq_getElem_cons h, List.take_succ_cons, List.take_zero, List.getD_eq_getElem?_getD, List.getElem?_eq_getElem h]; rfl
theorem bl_strOf (l : List UInt8) : bl (strOf l) = l := by simp [bl, strOf]
theorem take_rws (L : List (Nat × Nat)) (k : Nat) (h : k < L.length) : rws (L.take (k + 1)) = rws (L.take k) ++ [((L.getD k (0, 0)).2 : Int)] := by
  rw [take_snoc_get L (0, 0) k h, rws_snoc]
theorem take_ltrs (L : List (Nat × Nat)) (k : Nat) (h : k < L.length) : ltrs (L.take (k + 1)) = ltrs (L.take k) ++ [UInt8.ofNat (L.getD k (0, 0)).1] := by
  rw [take_snoc_get L (0, 0) k h, ltrs_snoc]

set_option maxRecDepth 100000 in
set_option maxHeartbeats 4000000 in
theorem arRows_any (A : Option Addr) (c : Nat) (xs : List Int) (t : Nat) (i : Int) (w : World) (G : Good xs) (ht : 2 ≤ t ∧ t ≤ 6) (hc : Cells w A xs) :
    Calls Try.prog 58 #[.slice A xs.length c, .int .i64 t, .int .i64 i] w fun e w' => ∃ A' c', e = .returned (.tuple #[.slice A' (rws (red (sig xs t i))).length c', .string (strOf (ltrs (red (sig xs t i))))]) ∧ Own w' w.heap.size A' c' (rws (red (sig xs t i))) ∧ Below w.heap.size w w' := by
  obtain ⟨i0, hi, hz0, hz1, hz2⟩ := info_parts Try.infoInt
  have hlen := G.len
  have HSG := hid fun W (h : Cells W A xs) r (hr : r ≤ xs.length) => arSign_any A c xs t i r W G hr ht h
  have HAS := hid fun W (h : Cells W A xs) => arSignature_any A c xs t i W G ht h
  have HC := hid hc
  clear G hc
  go_enter Try.func58, Try.ntmps58
  go_wp2_with fail
  go_loopw [8, 9] (fun v iv wr => ∃ k A c, k ≤ xs.length + 1 ∧ iv = .int .i64 (k : Nat) ∧ v = .slice A (rws (sgM xs t i k)).length c ∧ Own wr w.heap.size A c (rws (sgM xs t i k)) ∧ Below w.heap.size w wr) (fun _ iv _ => xs.length + 1 - (intOf iv).toNat)
  case atStart => exact ⟨0, none, 0, Nat.zero_le _, rfl, rfl, own_nil _ _, Below.refl _ _⟩
  case round =>
    obtain ⟨k, A1, c1, hk, rfl, rfl, hown, hbel⟩ := hrel
    obtain ⟨wo, rfl⟩ : ∃ wo : World, wo = wr := ⟨_, rfl⟩
    by_cases hlt : k ≤ xs.length
    · have hS := HSG.out wo (HC.out.later hbel) k hlt
      have hml := sgM_len xs t i k
      rw [← rws_len] at hml
      by_cases h0 : sgB xs t i k = 0
      · have he := sgM_no h0
        have HE := hid he
        rw [h0] at hS
        have HS := hid hS
        have HO := hid hown
        clear he h0 hS hown
        go_wp2_with (go_at_call 76; refine HS.out.mono ?_; rintro e w' ⟨rfl, rfl⟩)
        go_roundw
        case rel => exact ⟨k + 1, A1, c1, by omega, by go_num, by rw [HE.out], by rw [HE.out]; exact HO.out, hbel⟩
        case measure => simp [intOf]; omega
      · have he : rws (sgM xs t i (k + 1)) = rws (sgM xs t i k) ++ [(k : Int)] := by rw [sgM_yes h0, rws_snoc]
        have HE := hid he
        have h256 : sgB xs t i k = 65 ∨ sgB xs t i k = 82 := by rcases sgB_cases xs t i k with e | e | e <;> omega
        have hne : ¬ ((sgB xs t i k : Nat) : Int) = 0 := by omega
        obtain ⟨sg, hsg⟩ : ∃ sg, sg = sgB xs t i k := ⟨_, rfl⟩
        rw [← hsg] at hS hne
        have HS := hid hS
        have HO := hid hown
        clear he h0 hS hown hsg h256
        go_wp2_with (first | (go_at_call 76; refine HS.out.mono ?_; rintro e w' ⟨rfl, rfl⟩) | (at_builtin; refine wpList_append_own _ rfl _ _ 22 rfl w.heap.size 3 i0 (.int .i64 0) 1 8 Try.underlying22 hi hz0 hz1 hz2 rfl (by decide) _ _ _ rfl (HO.out.alloc _) ⟨wo.heap.size, 0, none⟩ 1 1 [.int .i64 (k : Int)] rfl rfl one_at (one_cell _) (by unfold maxLen; omega) (by omega) (by have := hbel.size; simp; omega) ?_))
        intro v' w1 hown' hgrow _
        have hb1 : Below w.heap.size w w1 := (hbel.alloc hbel.size _).grown hgrow (by have := hbel.size; simp; omega) (fun q hq => (HO.out.lt q hq).1)
        have hown2 := own_snoc HE.out hown'
        obtain ⟨A', c', rfl, ho⟩ := own_form hown2 rfl
        have HO2 := hid ho
        clear hown' hgrow hown2 ho
        go_wp2_with fail
        go_roundw
        case rel => exact ⟨k + 1, A', c', by omega, by go_num, rfl, HO2.out, hb1⟩
        case measure => simp [intOf]; omega
    · have hkl : k = xs.length + 1 := by omega
      subst hkl
      have hsl := sig_len (xs := xs) t i
      have hrr := red_rows (sig xs t i) sig_lt
      have hS := HAS.out wo (HC.out.later hbel)
      have hLm : ∀ m ∈ red (sig xs t i), m.1 < 256 := fun m hm => sig_lt m (red_mem _ m hm)
      obtain ⟨sg, hsg⟩ : ∃ sg, sg = sig xs t i := ⟨_, rfl⟩
      rw [show sgM xs t i (xs.length + 1) = sg from hsg.symm] at hown
      rw [show sgM xs t i (xs.length + 1) = sg from hsg.symm]
      rw [← hsg] at hsl hrr hS hLm
      have HSGE := hid hsg
      have hL := fun W => arLeft_any (strOf (ltrs sg)) W (by rw [strOf_size, ltrs_len]; omega)
      rw [bl_strOf] at hL
      have hMm : ∀ m ∈ red (idx (ltrs sg)), m.2 < sg.length ∧ m.1 = ((ltrs sg).getD m.2 0).toNat := fun m hm => by
        have := idx_mem (red_mem _ m hm)
        rw [ltrs_len] at this; exact this
      obtain ⟨M, hM⟩ : ∃ M, M = red (idx (ltrs sg)) := ⟨_, rfl⟩
      rw [← hM] at hrr hL hMm
      have hMl : M.length = (red sg).length := by rw [← hrr, List.length_map]
      have hrl := red_len sg
      have hget : ∀ k, k < M.length → (red sg).getD k (0, 0) = ((M.getD k (0, 0)).1, ((rws sg).getD (M.getD k (0, 0)).2 0).toNat) := fun k hk => by
        rw [← hrr]; simp [List.getD, hk]
      obtain ⟨LR, hLR⟩ : ∃ LR, LR = red sg := ⟨_, rfl⟩
      rw [← hLR] at hMl hrl hget hLm
      have HLRE := hid hLR
      have HLL := hid hL
      have HS := hid hS
      have HGET := hid hget
      have HMm := hid hMm
      have HLm := hid hLm
      have HO := hid hown
      have hssz : (strOf (ltrs sg)).size = sg.length := by rw [strOf_size, ltrs_len]
      have hrwl := rws_len sg
      rw [rws_len M] at HLL
      have HSSZ := hid hssz
      have HRWL := hid hrwl
      have HML := hid hMl
      obtain ⟨m, hm⟩ : ∃ m, m = M.length := ⟨_, rfl⟩
      have HM := hid hm
      rw [← hm] at hMl HLL
      have hsb : m ≤ 31 := by omega
      have hsg31 : sg.length ≤ 31 := by omega
      clear hL hS hget hMm hLm hown hssz hrwl hrr hM hLR hm hMl hrl hsl hsg
      go_wp2_with (first | (go_at_call 77; refine HS.out.mono ?_; rintro e w' ⟨rfl, rfl⟩) | (go_at_call 78; refine (HLL.out _).mono ?_; rintro e w2 ⟨A2, c2, rfl, o2, b2⟩))
      have HO2 := hid o2
      have HB2 := hid (Below.next hbel b2)
      have HC1 := hid (HO.out.cells.later b2)
      clear o2 b2
      go_loopw [11, 12, 38] (fun lv sv kv wq => ∃ k A c, k ≤ m ∧ kv = .int .i64 (k : Nat) ∧ lv = .slice A (rws (LR.take k)).length c ∧ sv = .string (strOf (ltrs (LR.take k))) ∧ Own wq w2.heap.size A c (rws (LR.take k)) ∧ Below w2.heap.size w2 wq) (fun _ _ kv _ => m - (intOf kv).toNat)
      case atStart => exact ⟨0, none, 0, Nat.zero_le _, rfl, rfl, rfl, own_nil _ _, Below.refl _ _⟩
      case round =>
        obtain ⟨k, A3, c3, hk, rfl, rfl, rfl, hown, hb3⟩ := hrel
        by_cases hlt : k < m
        · have hkM : k < M.length := by rw [← HM.out]; exact hlt
          have hkL : k < LR.length := by rw [← HML.out]; exact hkM
          have hg := HGET.out k hkM
          have hmm := HMm.out _ (memD_ar (d := (0, 0)) hkM)
          obtain ⟨b1, o1, rfl, hcc1⟩ := (HO2.out.cells.later hb3) (by rw [rws_len]; omega)
          have hck1 := hcc1 k (by rw [rws_len]; omega)
          rw [rws_get M k hkM] at hck1
          obtain ⟨q, hq⟩ : ∃ q, q = (M.getD k (0, 0)).2 := ⟨_, rfl⟩
          rw [← hq] at hck1 hg hmm
          obtain ⟨b0, o0, rfl, hcc0⟩ := (HC1.out.later hb3) (by rw [rws_len]; omega)
          have hck0 := hcc0 q (by rw [rws_len]; omega)
          have hqs : q < sg.length := hmm.1
          rw [rws_get sg q hqs] at hck0 hg
          obtain ⟨r, hr⟩ : ∃ r, r = (sg.getD q (0, 0)).2 := ⟨_, rfl⟩
          rw [← hr] at hck0 hg
          have hcut := strOf_cut (ltrs sg) q (by rw [ltrs_len]; exact hqs)
          have he1 := take_rws LR k hkL
          have he2 := take_ltrs LR k hkL
          rw [hg] at he1 he2
          have hlet : UInt8.ofNat (M.getD k (0, 0)).1 = (ltrs sg).getD q 0 := by rw [hmm.2]; simp
          simp only [Int.toNat_natCast] at he1 he2
          rw [hlet] at he2
          obtain ⟨y, hy⟩ : ∃ y, y = (ltrs sg).getD q 0 := ⟨_, rfl⟩
          rw [← hy] at he2 hcut
          have HE1 := hid he1
          have HE2 := hid ((strOf_app (ltrs (LR.take k)) [y]).trans (by rw [← he2]))
          have hsz1 : (strOf (ltrs (LR.take k))).size ≤ 40 := by rw [strOf_size, ltrs_len, List.length_take]; omega
          have hsz2 : (strOf [y]).size = 1 := rfl
          have hqs2 : q < (strOf (ltrs sg)).size := by rw [HSSZ.out]; exact hqs
          have hqs3 : ((q : Nat) : Int) + 1 ≤ (strOf (ltrs sg)).size := by omega
          have hqr : q < (rws sg).length := by rw [HRWL.out]; exact hqs
          have hrk : (rws (LR.take k)).length ≤ 40 := by rw [rws_len, List.length_take]; omega
          have hsz3 := HB2.out.size
          have HO3 := hid hown
          have hs3 := hb3.size
          clear hcc1 hcc0 he1 he2 hlet hmm hg hkM hkL hq hr hy hown
          go_wp2_with (at_builtin; refine wpList_append_own _ rfl _ _ 22 rfl w2.heap.size 3 i0 (.int .i64 0) 1 8 Try.underlying22 hi hz0 hz1 hz2 rfl (by decide) _ _ _ rfl (HO3.out.alloc _) ⟨wr.heap.size, 0, none⟩ 1 1 [.int .i64 (r : Int)] rfl rfl one_at (one_cell _) (by unfold maxLen; omega) (by omega) (by simp; omega) ?_)
          intro v' w1 hown' hgrow _
          have hb4 : Below w2.heap.size w2 w1 := (hb3.alloc hb3.size _).grown hgrow (by simp; omega) (fun q hq => (HO3.out.lt q hq).1)
          have hown2 := own_snoc HE1.out hown'
          obtain ⟨A', c', rfl, ho⟩ := own_form hown2 rfl
          have HO4 := hid ho
          clear hown' hgrow hown2 ho hck1 hck0
          go_wp2_with fail
          go_roundw
          case rel => exact ⟨k + 1, A', c', by omega, by go_num, rfl, by rw [← HE2.out], HO4.out, hb4⟩
          case measure => simp [intOf]; omega
        · have hkm : k = m := by omega
          have hLe : LR.take k = LR := List.take_of_length_le (by rw [hkm, HM.out, HML.out]; exact Nat.le_refl _)
          have hown2 := hown
          rw [hLe] at hown2
          have hE : rws LR = rws (red (sig xs t i)) ∧ ltrs LR = ltrs (red (sig xs t i)) := by rw [HLRE.out, HSGE.out]; exact ⟨rfl, rfl⟩
          rw [hLe]
          have HO5 := hid hown2
          have HEE := hid hE
          have HB5 := hid (Below.next HB2.out hb3)
          have HBZ := hid HB2.out.size
          clear hown hown2 hE hLe
          go_wp2_with fail
          go_ret2
          exact ⟨A3, c3, by rw [HEE.out.1, HEE.out.2]; rfl, by rw [← HEE.out.1]; exact HO5.out.more HBZ.out, HB5.out⟩
end Go.Proofs.Ytkbdlhmkiolegaa
/-
  Contracts: the arrows of the model.
-/
namespace Go.Proofs.Ytkbdlhmkiolegaa
open Go.RowKit

theorem ltrs_at (L : List (Nat × Nat)) (k : Nat) (h : k < L.length) (hs : k < (strOf (ltrs L)).size) (hm : (L.getD k (0, 0)).1 < 256) : ((strOf (ltrs L))[k]).toNat = (L.getD k (0, 0)).1 := by
  have e := bl_at (strOf (ltrs L)) k hs
  rw [bl_strOf] at e
  rw [← e]
  simp only [ltrs, List.getD_eq_getElem?_getD, List.getElem?_map, List.getElem?_eq_getElem h, Option.map_some, Option.getD_some] at hm ⊢
  simp [Nat.mod_eq_of_lt hm]
theorem inc_new {xs : List Int} : (xs ++ [0]).set xs.length 1 = incL xs xs.length := by simp [incL]
theorem inc_old {xs : List Int} {r : Nat} (h : r ≠ xs.length) : xs.set r (xs.getD r 0 + 1) = incL xs r := by simp [incL, h]

set_option maxRecDepth 100000 in
set_option maxHeartbeats 4000000 in
theorem arUp_any (A : Option Addr) (c : Nat) (xs : List Int) (t : Nat) (i : Int) (w : World) (G : Good xs) (ht : 2 ≤ t ∧ t ≤ 6) (hno : A = none → xs.length = 0 ∧ c = 0) (hc : Cells w A xs) :
    Calls Try.prog 51 #[.slice A xs.length c, .int .i64 t, .int .i64 i] w fun e w' => ∃ A' c', e = .returned (.tuple #[.slice A' (auL xs t i).length c', .bool (auB xs t i)]) ∧ Own w' w.heap.size A' c' (auL xs t i) ∧ Below w.heap.size w w' := by
  obtain ⟨i0, hi, hz0, hz1, hz2⟩ := info_parts Try.infoInt
  have hlen := G.len
  have hAR := arRows_any A c xs t i w G ht hc
  have hmem : ∀ m ∈ red (sig xs t i), m.2 ≤ xs.length ∧ (m.1 = 65 ∨ m.1 = 82) := fun m hm => by
    have := sig_mem (red_mem _ m hm); exact ⟨this.1, this.2.1⟩
  have hLl : (red (sig xs t i)).length ≤ 31 := by have := red_len (sig xs t i); have := sig_len (xs := xs) t i; omega
  have HPB := hid G.part
  have hup : ∀ r, upR (red (sig xs t i)) = some r → auL xs t i = incL xs r ∧ auB xs t i = true := fun r => au_some
  have hun : upR (red (sig xs t i)) = none → auL xs t i = [] ∧ auB xs t i = false := au_none
  obtain ⟨R, hR⟩ : ∃ R, R = auL xs t i := ⟨_, rfl⟩
  obtain ⟨S, hS⟩ : ∃ S, S = auB xs t i := ⟨_, rfl⟩
  rw [← hR, ← hS] at hup hun
  rw [← hR, ← hS]
  obtain ⟨L, hL⟩ : ∃ L, L = red (sig xs t i) := ⟨_, rfl⟩
  rw [← hL] at hAR hmem hLl hup hun
  have HAR := hid hAR
  have HM := hid hmem
  have HUP := hid hup
  have HUN := hid hun
  have HC := hid hc
  have HNO := hid hno
  clear hAR hmem hL hup hun hc hno G hR hS
  go_enter Try.func51, Try.ntmps51
  go_wp2_with (go_at_call 58; refine HAR.out.mono ?_; rintro e w1 ⟨A1, c1, rfl, o1, b1⟩)
  have HO1 := hid o1
  have HB1 := hid b1
  have HC1 := hid (HC.out.later b1)
  have hrl := rws_len L
  rw [hrl]
  have HRL := hid hrl
  have hs1 := b1.size
  obtain ⟨n, hn⟩ : ∃ n, n = L.length := ⟨_, rfl⟩
  rw [← hn]
  rw [← hn] at hLl
  have HN := hid hn
  clear o1 b1 hrl hn
  go_loop [22] (fun kv => ∃ k : Nat, k ≤ n ∧ kv = .int .i64 k ∧ Hid (∀ j, j < k → (L.getD j (0, 0)).1 ≠ 65)) (fun kv => n - (intOf kv).toNat)
  case atStart => exact ⟨0, Nat.zero_le _, rfl, hid fun j hj => absurd hj (by omega)⟩
  case round =>
    obtain ⟨k, hk, rfl, HB⟩ := hrel
    by_cases hlt : k < n
    · have hkL : k < L.length := by rw [← HN.out]; exact hlt
      obtain ⟨b, o, rfl, hcc⟩ := HO1.out.cells (by rw [rws_len]; omega)
      have hck := hcc k (by rw [rws_len]; omega)
      rw [rws_get L k hkL] at hck
      have hmm := HM.out _ (memD_ar (d := (0, 0)) hkL)
      have hsz : k < (strOf (ltrs L)).size := by rw [strOf_size, ltrs_len]; exact hkL
      have hat := ltrs_at L k hkL hsz (by omega)
      by_cases h65 : (L.getD k (0, 0)).1 = 65
      · have hsk : (strOf (ltrs L))[k] = 65 := u8_eq (n := 65) (by decide) (by rw [hat]; exact h65)
        obtain ⟨e1, e2⟩ := HUP.out _ (upR_hit hkL h65 HB.out)
        obtain ⟨r, hr⟩ : ∃ r, r = (L.getD k (0, 0)).2 := ⟨_, rfl⟩
        rw [← hr] at hck hmm e1
        have hrl := hmm.1
        have HE1 := hid e1
        have HE2 := hid e2
        clear hcc hkL hmm hat h65 hr e1 e2
        have HLO := hid (l1OwnC_any A c xs w1 (by omega) HNO.out HC1.out)
        by_cases hre : r = xs.length
        · have HRE := hid hre
          have hri : ((r : Nat) : Int) = (xs.length : Int) := by omega
          clear hre
          go_wp2_with (first | (go_at_call 59; refine HLO.out.mono ?_; rintro e w2 ⟨A2, c2, rfl, o2, b2⟩) | (at_builtin; refine wpList_append_own _ rfl _ _ 22 rfl w1.heap.size 3 i0 (.int .i64 0) 1 8 Try.underlying22 hi hz0 hz1 hz2 rfl (by decide) _ _ _ rfl (o2.alloc _) ⟨w2.heap.size, 0, none⟩ 1 1 [.int .i64 0] rfl rfl one_at (one_cell _) (by unfold maxLen; omega) (by omega) (by have := b2.size; simp; omega) ?_))
          intro v' w3 hown' hgrow _
          have hb3 : Below w1.heap.size w1 w3 := (b2.alloc b2.size _).grown hgrow (by have := b2.size; simp; omega) (fun q hq => (o2.lt q hq).1)
          have hown2 := own_snoc (rfl : xs ++ [0] = xs ++ [0]) hown'
          obtain ⟨A3, c3, rfl, ho3⟩ := own_form hown2 rfl
          have hl3 : (xs ++ [(0 : Int)]).length = xs.length + 1 := by simp
          obtain ⟨g, rfl, hg1, -⟩ := ho3.at_ (by omega)
          have hck3 := own_get ho3 (k := xs.length) (by omega)
          rw [show (xs ++ [(0 : Int)]).getD xs.length 0 = 0 by simp [List.getD]] at hck3
          have hfz := own_froz ho3 xs.length
          have hst := own_set ho3 xs.length 1
          rw [inc_new] at hst
          have HST := hid hst
          have HB3 := hid hb3
          have hl4 : xs.length < (xs ++ [(0 : Int)]).length := by omega
          have HL3 := hid hl3
          obtain ⟨n3, hn3⟩ : ∃ n3, n3 = (xs ++ [(0 : Int)]).length := ⟨_, rfl⟩
          rw [← hn3] at hl4 ⊢
          have HN3 := hid hn3
          have HG1 := hid hg1
          have hsz2 := HB1.out.size
          clear hown' hgrow hown2 ho3 hst hl3 hn3 o2 b2 hg1
          go_wp2_with fail
          go_ret2
          refine ⟨some ⟨g, 0, none⟩, c3, ?_, ?_, ?_⟩
          · rw [HE1.out, HE2.out, HRE.out, HN3.out]; simp [inc_len]
          · rw [HE1.out, HRE.out]; exact HST.out.more HB1.out.size
          · exact (Below.next HB1.out HB3.out).setCell (Nat.le_trans HB1.out.size HG1.out) _
        · have hri : ¬ ((r : Nat) : Int) = (xs.length : Int) := by omega
          have hlt2 : r < xs.length := by omega
          have HRE := hid hre
          clear hre
          go_wp2_with (first | (go_at_call 59; refine HLO.out.mono ?_; rintro e w2 ⟨A2, c2, rfl, o2, b2⟩; obtain ⟨g, rfl, hg1, -⟩ := o2.at_ (by omega); have hck2 := own_get o2 hlt2; have hfz := own_froz o2 r; have hst := own_set o2 r (xs.getD r 0 + 1); have HST := hid hst; have HB2 := hid b2; have HG1 := hid hg1; have hxb := HPB.out r; have HX := hid (inc_old HRE.out); obtain ⟨x, hx⟩ : ∃ x, x = xs.getD r 0 := ⟨_, rfl⟩; rw [← hx] at hck2 hxb; have HXX := hid hx; clear hst hg1 o2 b2 hx))
          go_ret2
          refine ⟨some ⟨g, 0, none⟩, c2, ?_, ?_, ?_⟩
          · rw [HE1.out, HE2.out, ← HX.out, List.length_set]; rfl
          · rw [HE1.out, ← HX.out, HXX.out]; exact HST.out.more HB1.out.size
          · rw [HXX.out]; exact (Below.next HB1.out HB2.out).setCell (Nat.le_trans HB1.out.size HG1.out) _
      · have hsk : ¬ (((strOf (ltrs L))[k].toNat : Nat) : Int) = 65 := by rw [hat]; omega
        have HH := hid h65
        clear hcc hkL hmm hat h65
        go_wp2_with fail
        go_round
        case rel => exact ⟨k + 1, by omega, by go_num, hid fun j hj => by
          by_cases e : j = k
          · subst e; exact HH.out
          · exact HB.out j (by omega)⟩
        case measure => simp [intOf]; omega
    · have hE := HUN.out (upR_none fun j hj => HB.out j (by have := HN.out; omega))
      have HE := hid hE
      clear hE
      go_wp2_with fail
      go_ret2
      exact ⟨none, 0, by rw [HE.out.1, HE.out.2]; rfl, by rw [HE.out.1]; exact own_nil _ _, HB1.out⟩

theorem dec_one {p : List Int} {r : Nat} (h : p.getD r 0 = 1) : (p.set r (p.getD r 0 - 1)).take r = decL p r := by
  unfold decL
  rw [if_pos h]
  apply List.ext_getElem?
  intro j
  rw [List.getElem?_take, List.getElem?_take]
  split
  · rw [List.getElem?_set_ne (by omega)]
  · rfl
theorem dec_more {p : List Int} {r : Nat} (h : p.getD r 0 ≠ 1) : p.set r (p.getD r 0 - 1) = decL p r := by unfold decL; rw [if_neg h]
theorem cell_other {w1 w2 : World} {g r b k : Nat} {v : Value} (hb : Below w1.heap.size w1 w2) (hg : w1.heap.size ≤ g) (u : Value) (h : w1.cell? ⟨b, k, none⟩ = some v) : (w2.setCell ⟨g, r, none⟩ u).cell? ⟨b, k, none⟩ = some v := by
  rw [(hb.setCell (p := ⟨g, r, none⟩) hg u).cell (World.block_lt_of_cell? w1 _ h)]; exact h
theorem getD_set_eq {p : List Int} {r : Nat} (h : r < p.length) (x : Int) : (p.set r x).getD r 0 = x := by simp [List.getD, h]

set_option maxRecDepth 100000 in
set_option maxHeartbeats 4000000 in
theorem arDown_any (A : Option Addr) (c : Nat) (xs : List Int) (t : Nat) (i : Int) (w : World) (G : Good xs) (ht : 2 ≤ t ∧ t ≤ 6) (hno : A = none → xs.length = 0 ∧ c = 0) (hc : Cells w A xs) :
    Calls Try.prog 47 #[.slice A xs.length c, .int .i64 t, .int .i64 i] w fun e w' => ∃ A' c', e = .returned (.tuple #[.slice A' (adL xs t i).length c', .bool (adB xs t i)]) ∧ Own w' w.heap.size A' c' (adL xs t i) ∧ Below w.heap.size w w' := by
  have hlen := G.len
  have hAR := arRows_any A c xs t i w G ht hc
  have hmem : ∀ m ∈ red (sig xs t i), m.2 ≤ xs.length ∧ (m.1 = 65 ∨ m.1 = 82) := fun m hm => by
    have := sig_mem (red_mem _ m hm); exact ⟨this.1, this.2.1⟩
  have hLl : (red (sig xs t i)).length ≤ 31 := by have := red_len (sig xs t i); have := sig_len (xs := xs) t i; omega
  have HPB := hid G.part
  have hup : ∀ r, dnRr (red (sig xs t i)) = some r → (adL xs t i = decL xs r ∧ adB xs t i = true) ∧ r < xs.length ∧ 1 ≤ xs.getD r 0 := fun r h => by
    obtain ⟨k1, k2, _⟩ := dn_ok G h
    have := G.pos r k1
    exact ⟨ad_some h, k1, this⟩
  have hun : dnRr (red (sig xs t i)) = none → adL xs t i = [] ∧ adB xs t i = false := ad_none
  obtain ⟨R, hR⟩ : ∃ R, R = adL xs t i := ⟨_, rfl⟩
  obtain ⟨S, hS⟩ : ∃ S, S = adB xs t i := ⟨_, rfl⟩
  rw [← hR, ← hS] at hun
  simp only [← hR, ← hS] at hup
  rw [← hR, ← hS]
  obtain ⟨L, hL⟩ : ∃ L, L = red (sig xs t i) := ⟨_, rfl⟩
  rw [← hL] at hAR hmem hLl hun
  simp only [← hL] at hup
  have hRl : (rws L).length ≤ 31 := by rw [rws_len]; exact hLl
  have HAR := hid hAR
  have HM := hid hmem
  have HUP := hid hup
  have HUN := hid hun
  have HC := hid hc
  have HNO := hid hno
  clear hAR hmem hL hup hun hc hno G hR hS
  go_enter Try.func47, Try.ntmps47
  go_wp2_with (go_at_call 58; refine HAR.out.mono ?_; rintro e w1 ⟨A1, c1, rfl, o1, b1⟩)
  have HO1 := hid o1
  have HB1 := hid b1
  have HC1 := hid (HC.out.later b1)
  have hrl := rws_len L
  rw [hrl]
  have HRL := hid hrl
  have hs1 := b1.size
  obtain ⟨n, hn⟩ : ∃ n, n = L.length := ⟨_, rfl⟩
  rw [← hn]
  rw [← hn] at hLl
  have HN := hid hn
  clear o1 b1 hrl hn
  go_loop [10] (fun kv => ∃ k : Nat, k ≤ n ∧ kv = .int .i64 ((k : Int) - 1) ∧ Hid (∀ j, k ≤ j → j < n → (L.getD j (0, 0)).1 ≠ 82)) (fun kv => (intOf kv + 1).toNat)
  case atStart => exact ⟨n, Nat.le_refl _, by first | rfl | go_num, hid fun j hj hj2 => absurd hj (by omega)⟩
  case round =>
    obtain ⟨k1, hk, rfl, HB⟩ := hrel
    by_cases hlt : 0 < k1
    · obtain ⟨k, rfl⟩ : ∃ k, k1 = k + 1 := ⟨k1 - 1, by omega⟩
      have hki : ((k + 1 : Nat) : Int) - 1 = (k : Int) := by omega
      rw [hki]
      have hkL : k < L.length := by rw [← HN.out]; omega
      obtain ⟨b, o, rfl, hcc⟩ := HO1.out.cells (by rw [rws_len]; omega)
      have hck := hcc k (by rw [rws_len]; omega)
      rw [rws_get L k hkL] at hck
      have hmm := HM.out _ (memD_ar (d := (0, 0)) hkL)
      have hsz : k < (strOf (ltrs L)).size := by rw [strOf_size, ltrs_len]; exact hkL
      have hat := ltrs_at L k hkL hsz (by omega)
      have hk0 : (0 : Int) ≤ (k : Int) := by omega
      have hkn : k < n := by omega
      by_cases h82 : (L.getD k (0, 0)).1 = 82
      · have hsk : (strOf (ltrs L))[k] = 82 := u8_eq (n := 82) (by decide) (by rw [hat]; exact h82)
        obtain ⟨⟨e1, e2⟩, hrl, hpos⟩ := HUP.out _ (dnR_hit hkL h82 (fun j h1 h2 => HB.out j h1 (by rw [HN.out]; exact h2)))
        obtain ⟨r, hr⟩ : ∃ r, r = (L.getD k (0, 0)).2 := ⟨_, rfl⟩
        rw [← hr] at hck hrl e1 hpos
        have HE1 := hid e1
        have HE2 := hid e2
        have HBB := hid (HO1.out.block b rfl).2
        clear hcc hkL hmm hat h82 hr e1 e2 hki hlt
        have HLO := hid (l1OwnC_any A c xs w1 (by omega) HNO.out HC1.out)
        have hp30 := HPB.out r
        by_cases hone : xs.getD r 0 = 1
        · have HD := hid (dec_one hone)
          have HONE := hid hone
          clear hone hpos hp30
          go_wp2_with fail
          refine HLO.out.mono ?_
          rintro e w2 ⟨A2, c2, rfl, o2, b2⟩
          obtain ⟨g, rfl, hg1, -⟩ := o2.at_ (by omega)
          have hck2 := own_get o2 hrl
          rw [HONE.out] at hck2
          have hfz := own_froz o2 r
          have hst := own_set o2 r 0
          have hck3 := own_get hst (k := r) (by rw [List.length_set]; exact hrl)
          rw [getD_set_eq hrl] at hck3
          have hck4 := cell_other (r := r) b2 hg1 (.int .i64 0) hck
          have hck5 : w2.cell? ⟨b, o + k, none⟩ = some (.int .i64 (r : Int)) := by rw [b2.cell (World.block_lt_of_cell? w1 _ hck)]; exact hck
          have hcap := Own.cap o2
          have hcut := fun W => runI_cut_hi (some ⟨g, 0, none⟩) xs.length c2 r (by omega) W
          have ht := own_take hst r (by rw [List.length_set]; omega)
          have HT := hid ht
          have HB2 := hid b2
          have HG1 := hid hg1
          clear ht hst hg1 o2 b2 hcap
          go_wp2_with fail
          go_ret2
          refine ⟨some ⟨g, 0, none⟩, c2, ?_, ?_, ?_⟩
          · rw [HE1.out, HE2.out, ← HD.out, List.length_take, List.length_set, Nat.min_eq_left (by omega)]; rfl
          · rw [HE1.out, ← HD.out, HONE.out]; exact HT.out.more HB1.out.size
          · exact (Below.next HB1.out HB2.out).setCell (Nat.le_trans HB1.out.size HG1.out) _
        · have HD := hid (dec_more hone)
          have hx0 : ¬ (xs.getD r 0 - 1 = 0) := by omega
          obtain ⟨x, hx⟩ : ∃ x, x = xs.getD r 0 := ⟨_, rfl⟩
          rw [← hx] at hx0 hpos hp30 hone
          have HXX := hid hx
          have HX0 := hid hx0
          clear hx hx0 hone
          go_wp2_with fail
          refine HLO.out.mono ?_
          rintro e w2 ⟨A2, c2, rfl, o2, b2⟩
          obtain ⟨g, rfl, hg1, -⟩ := o2.at_ (by omega)
          have hck2 := own_get o2 hrl
          rw [← HXX.out] at hck2
          have hfz := own_froz o2 r
          have hst := own_set o2 r (x - 1)
          have hck3 := own_get hst (k := r) (by rw [List.length_set]; exact hrl)
          rw [getD_set_eq hrl] at hck3
          have hck4 := cell_other (r := r) b2 hg1 (.int .i64 (x - 1)) hck
          have hck5 : w2.cell? ⟨b, o + k, none⟩ = some (.int .i64 (r : Int)) := by rw [b2.cell (World.block_lt_of_cell? w1 _ hck)]; exact hck
          have HT := hid hst
          have HB2 := hid b2
          have HG1 := hid hg1
          have hx0 := HX0.out
          clear hst hg1 o2 b2
          go_wp2_with fail
          go_ret2
          refine ⟨some ⟨g, 0, none⟩, c2, ?_, ?_, ?_⟩
          · rw [HE1.out, HE2.out, ← HD.out, List.length_set]; rfl
          · rw [HE1.out, ← HD.out, ← HXX.out]; exact HT.out.more HB1.out.size
          · exact (Below.next HB1.out HB2.out).setCell (Nat.le_trans HB1.out.size HG1.out) _
      · have hsk : ¬ (((strOf (ltrs L))[k].toNat : Nat) : Int) = 82 := by rw [hat]; omega
        have HH := hid h82
        clear hcc hkL hmm hat h82 hki hlt
        go_wp2_with fail
        go_round
        case rel => exact ⟨k, by omega, by first | rfl | go_num, hid fun j hj hj2 => by
          by_cases e : j = k
          · subst e; exact HH.out
          · exact HB.out j (by omega) hj2⟩
        case measure => simp [intOf] <;> omega
    · have hk0 : k1 = 0 := by omega
      subst hk0
      have hE := HUN.out (dnR_none fun j hj => HB.out j (Nat.zero_le _) (by have := HN.out; omega))
      have HE := hid hE
      have hm1 : (((0 : Nat) : Int) - 1) = -1 := rfl
      rw [hm1]
      clear hE hm1
      go_wp2_with fail
      go_ret2
      exact ⟨none, 0, by rw [HE.out.1, HE.out.2]; rfl, by rw [HE.out.1]; exact own_nil _ _, HB1.out⟩
end Go.Proofs.Ytkbdlhmkiolegaa
/-
  Contracts: SignatureOf, ReducedSignature, ArrowUp, ArrowDown and ArrowCounts of the model.
-/
namespace Go.Proofs.Ytkbdlhmkiolegaa
open Go.RowKit

def sgF (xs : List Int) (t i : Int) : ByteArray := if asB xs t i then strOf (ltrs (sig xs t.toNat i)) else ByteArray.empty
end Go.Proofs.Ytkbdlhmkiolegaa
/-
  Contracts: ReducedSignature and ArrowCounts of the model.
-/
namespace Go.Proofs.Ytkbdlhmkiolegaa
open Go.RowKit

def rdOk (s : ByteArray) : Bool := decide (s.size ≤ 100) && (bl s).all fun c => c == 65 || c == 82
def rdF (s : ByteArray) : ByteArray := if rdOk s then strOf (ltrs (red (idx (bl s)))) else ByteArray.empty
theorem rd_no {s : ByteArray} {k : Nat} (h : k < s.size) (h1 : s[k] ≠ 65) (h2 : s[k] ≠ 82) : rdOk s = false := by
  have : ((bl s).all fun c => c == 65 || c == 82) = false := by
    rw [List.all_eq_false]
    refine ⟨s[k], by rw [← bl_get s k h]; exact List.getElem_mem _, by simp [h1, h2]⟩
  simp [rdOk, this]
theorem rd_yes {s : ByteArray} (h : s.size ≤ 100) (hk : ∀ k, (h : k < s.size) → s[k] = 65 ∨ s[k] = 82) : rdOk s = true := by
  have : ((bl s).all fun c => c == 65 || c == 82) = true := by
    rw [List.all_eq_true]
    intro c hc
    obtain ⟨k, hkl, rfl⟩ := List.getElem_of_mem hc
    rw [bl_len] at hkl
    rw [bl_get s k hkl]
    rcases hk k hkl with e | e <;> simp [e]
  simp [rdOk, this, h]

end Go.Proofs.Ytkbdlhmkiolegaa
