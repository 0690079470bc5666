/-
  Contracts: CoresBySeries of the program.
-/
import Derived.Test.YtabnhmjiegeldaaSer
namespace Go.Proofs.Ytabnhmjiegeldaa
open Go.RowKit

set_option maxRecDepth 100000 in
set_option maxHeartbeats 2000000 in
theorem impl_CoresBySeries (t0 n0 : Int) (w : World) (_ : I64 t0) (_ : I64 n0) :
    Calls Try.prog 48 #[.int .i64 t0, .int .i64 n0] w fun e w' => ∃ A' c', e = .returned (.tuple #[.slice A' (serF t0 n0).length c', .bool (askB t0 n0)]) ∧ Own w' w.heap.size A' c' (serF t0 n0) ∧ Below w.heap.size w w' := by
  obtain ⟨i0, hi, hz0, hz1, hz2⟩ := info_parts Try.infoInt
  cases ht : inB 2 6 t0
  · have hb : askB t0 n0 = false := by simp [askB, ht]
    rw [serF_f hb, hb]
    have HT := hid ht; clear ht hb
    go_enter Try.func48, Try.ntmps48
    go_wp2_with (go_at_call 87; refine (hasRunners_b _ _ _ HT.out).mono ?_; rintro e w' ⟨rfl, rfl⟩)
    go_ret2
    exact ⟨none, 0, rfl, own_nil _ _, Below.refl _ _⟩
  cases hn : okN n0
  · have hb : askB t0 n0 = false := by simp [askB, hn]
    rw [serF_f hb, hb]
    have HT := hid ht; have HN := hid hn; clear ht hb hn
    go_enter Try.func48, Try.ntmps48
    go_wp2_with (first | (go_at_call 87; refine (hasRunners_b _ _ _ HT.out).mono ?_; rintro e w' ⟨rfl, rfl⟩) | (go_at_call 103; refine (isCellNumber_b _ _ _ HN.out).mono ?_; rintro e w' ⟨rfl, rfl⟩))
    go_ret2
    exact ⟨none, 0, rfl, own_nil _ _, Below.refl _ _⟩
  have hb : askB t0 n0 = true := by simp [askB, ht, hn]
  obtain ⟨t, n, rfl, rfl, ht1, ht2, hn30⟩ := askB_iff hb
  rw [serF_t hb, hb]
  have HT := hid ht; have HN := hid hn; clear ht hb hn
  have HSL := hid (serI_len t)
  have o1 : Own (w.alloc (.cells #[.int .i64 1] 3)) w.heap.size (some ⟨w.heap.size, 0, none⟩) 1 [1] :=
    World.ownsRow_lit (base := w.heap.size) (e := 3) (size := 1) w #[.int .i64 1] 1 (Nat.le_refl _) (by unfold maxLen; omega) rfl
  go_enter Try.func48, Try.ntmps48
  go_wp2_with (first | (go_at_call 87; refine (hasRunners_b _ _ _ HT.out).mono ?_; rintro e w' ⟨rfl, rfl⟩) | (go_at_call 103; refine (isCellNumber_b _ _ _ HN.out).mono ?_; rintro e w' ⟨rfl, rfl⟩))
  go_loopw [6, 7] (fun v i wr => ∃ K : Nat, K ≤ n ∧ i = .int .i64 ((K : Int) + 1) ∧ wr.ownsRow w.heap.size 3 1 v (serI t K).length (IL (serI t K)) ∧ Below w.heap.size w wr) (fun _ i _ => n + 1 - (intOf i).toNat)
  case atStart => exact ⟨0, Nat.zero_le _, rfl, o1, (Below.refl _ _).alloc (Nat.le_refl _) _⟩
  case round =>
    obtain ⟨K, hK, rfl, hown, hbel⟩ := hrel
    by_cases hlt : K < n
    · have HE := hid (show serI t (K + 1) = serI t K ++ [IntKind.i64.wrap ((sumI (serI t K) t (K + 1) (K + 1)).tdiv (K + 1 : Nat))] from rfl)
      have hlen := HSL.out K
      obtain ⟨A1, c1, rfl, ho1⟩ := own_form hown rfl
      obtain ⟨S, hS⟩ : ∃ S, S = serI t K := ⟨_, rfl⟩
      rw [← hS] at HE hlen hown ho1
      have HO := hid hown
      have HL := hid hlen
      have HO1 := hid ho1
      obtain ⟨wo, rfl⟩ : ∃ wo : World, wo = wr := ⟨_, rfl⟩
      rw [← hS]
      clear hS hown ho1 o1
      rw [hlen]
      clear hlen
      go_wp2_with fail
      go_loopw [8, 9] (fun s j wi => ∃ d : Nat, d ≤ K + 1 ∧ j = .int .i64 ((d : Int) + 1) ∧ s = .int .i64 (sumI S t (K + 1) d) ∧ ∃ m, wi = wo.drewN m) (fun _ j _ => K + 2 - (intOf j).toNat)
      case atStart => exact ⟨0, Nat.zero_le _, rfl, rfl, 0, rfl⟩
      case round =>
        obtain ⟨d, hd, rfl, rfl, m, hwi⟩ := hrel
        by_cases hdl : d < K + 1
        · obtain ⟨b, o, rfl, hcc⟩ := (HO1.out.cells) (by rw [HL.out]; omega)
          have hck := hcc (K - d) (by rw [HL.out]; omega)
          have hck2 : wr.cell? ⟨b, o + (K - d), none⟩ = some (.int .i64 (S.getD (K - d) 0)) := by rw [hwi]; exact hck
          have HF := hid (show sumI S t (K + 1) (d + 1) = IntKind.i64.wrap (sumI S t (K + 1) d + IntKind.i64.wrap (lg t (d + 1) * S.getD (K + 1 - (d + 1)) 0)) from rfl)
          rw [show K + 1 - (d + 1) = K - d by omega] at HF
          have hlg := fun W => logarithmAt_any t (d + 1) W (by omega) (by omega)
          obtain ⟨s, hs⟩ : ∃ s, s = sumI S t (K + 1) d := ⟨_, rfl⟩
          obtain ⟨x, hx⟩ : ∃ x, x = S.getD (K - d) 0 := ⟨_, rfl⟩
          obtain ⟨y, hy⟩ : ∃ y, y = lg t (d + 1) := ⟨_, rfl⟩
          rw [← hs] at HF ⊢
          rw [← hx] at HF hck2
          rw [← hy] at HF hlg
          have HLG := hid hlg
          have HWI := hid hwi
          have hwp : IntKind.i64.wrap ((K : Int) + 1 - ((d : Int) + 1)) = ((K - d : Nat) : Int) := by rw [IntWalk.i64_in _ (by omega)]; omega
          have hlt1 : ((K - d : Nat) : Int) < (K : Int) + 1 := by omega
          clear hcc hck hs hx hy hlg hwi
          go_wp2_with fail
          go_quiet ((go_at_call 108; exact Calls.quiet_of_same (HLG.out _)))
          go_wp2_with fail
          go_roundw
          case rel => exact ⟨d + 1, by omega, by go_num, by rw [HF.out, IntWalk.i64_left, IntWalk.i64_left], by rw [HWI.out]; exact drew2 _ _⟩
          case measure => simp [intOf]; omega
        · have hdk : d = K + 1 := by omega
          subst hdk
          have hwo : wr.ownsRow w.heap.size 3 1 (.slice A1 S.length c1) S.length (IL S) := by rw [hwi]; exact HO.out
          have hbi : Below w.heap.size w wr := by rw [hwi]; exact below_drewN hbel _
          have hsz := hbi.size
          have hll : S.length ≤ 31 := by rw [HL.out]; omega
          obtain ⟨z, hz⟩ : ∃ z, z = sumI S t (K + 1) (K + 1) := ⟨_, rfl⟩
          rw [← hz, IntWalk.i64_left] at HE
          rw [← hz]
          have hne : ¬ ((K : Int) + 1 = 0) := by omega
          clear hz hwi
          rw [HL.out] at hwo hll
          go_wp2_with (at_builtin; refine wpList_append_own _ rfl _ _ 22 rfl w.heap.size 3 i0 (.int .i64 0) 1 8 Try.underlying22 hi hz0 hz1 hz2 rfl (by decide) _ _ _ rfl (hwo.alloc _) ⟨wr.heap.size, 0, none⟩ 1 1 [.int .i64 (wrap64 (z.tdiv ((K : Int) + 1)))] rfl rfl one_at (one_cell _) (by unfold maxLen; omega) (by omega) (by simp; omega) ?_)
          intro v' w1 hown' hgrow _
          have hb1 : Below w.heap.size w w1 := (hbi.alloc hsz _).grown hgrow (by simp; omega) (fun q hq => (hwo.lt q hq).1)
          rw [← HL.out] at hown'
          have hown2 := own_snoc HE.out hown'
          clear hgrow hown' hwo
          go_wp2_with fail
          go_roundw
          case rel => exact ⟨K + 1, by omega, by go_num, hown2, hb1⟩
          case measure => simp [intOf]; omega
    · have hkn : K = n := by omega
      subst hkn
      obtain ⟨A', c', rfl, ho⟩ := own_form hown rfl
      clear hown o1
      go_wp2_with fail
      go_ret2
      exact ⟨A', c', rfl, ho, hbel⟩
end Go.Proofs.Ytabnhmjiegeldaa
