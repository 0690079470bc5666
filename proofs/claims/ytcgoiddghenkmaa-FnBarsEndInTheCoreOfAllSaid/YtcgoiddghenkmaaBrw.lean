/-
  Contracts: BarCore and BarWeight on both sides.
-/
import Derived.Test.YtcgoiddghenkmaaBrc
import Derived.Test.YtcgoiddghenkmaaCopyC
import Derived.Test.YtcgoiddghenkmaaDblD
import Derived.Deep.LoopGhost
namespace Go.Proofs.Ytcgoiddghenkmaa
open Go.RowKit

/-- The first bar is taken as long as there is one. -/
theorem bcR_end {t : Int} {f : Nat} {xs : List Int} (h : (brs xs t xs.length).length = 0) : bcR t f xs = (xs, 0) := by
  cases f with
  | zero => rfl
  | succ f => rw [bcR, if_pos h]
theorem bcR_next {t : Int} {f : Nat} {xs : List Int} (h : ¬ (brs xs t xs.length).length = 0) : bcR t (f + 1) xs = ((bcR t f (tkL xs t ((brs xs t xs.length).getD 0 []))).1, (bcR t f (tkL xs t ((brs xs t xs.length).getD 0 []))).2 + 1) := by rw [bcR, if_neg h]
def bwF (xs : List Int) (t : Int) : Int := if brtB xs t then ((bcR t 31 xs).2 : Int) else 0
theorem take_first {xs : List Int} {t : Int} (hb : brtB xs t = true) (h : ¬ (brs xs t xs.length).length = 0) : brtB (tkL xs t ((brs xs t xs.length).getD 0 [])) t = true ∧ (tkL xs t ((brs xs t xs.length).getD 0 [])).sum < xs.sum := by
  have ht := brtB_t hb
  obtain ⟨_, h2, _, i, hi, hc⟩ := bar_ok (t := t) ht.2 (k := 0) (by omega)
  have h3 := tkL_str ht.2 (by omega) hi hc h2
  refine ⟨?_, h3.2⟩
  unfold brtB
  rw [h3.1, Bool.and_true]
  rcases ht.1 with h | h <;> simp [h]
theorem tb0 {xs : List Int} {t : Int} (hb : brtB xs t = true) : tbB xs t 0 = decide (¬ (brs xs t xs.length).length = 0) := by
  simp only [tbB, hb, Bool.true_and]
  rw [show decide ((0 : Int) ≤ 0) = true from rfl, Bool.true_and]
  exact decide_eq_decide.2 (by omega)
theorem bcR_ok {t : Int} : ∀ (f : Nat) (xs : List Int), brtB xs t = true → brtB (bcR t f xs).1 t = true
  | 0, _, h => h
  | f + 1, xs, h => by
    by_cases h0 : (brs xs t xs.length).length = 0
    · rw [bcR_end h0]; exact h
    · rw [bcR_next h0]; exact bcR_ok f _ (take_first h h0).1

set_option maxRecDepth 100000 in
set_option maxHeartbeats 2000000 in
theorem withoutBars_anyC (A : Option Addr) (c : Nat) (xs : List Int) (t : Int) (w : World) (hl : xs.length ≤ 1048576) (hno : A = none → xs.length = 0 ∧ c = 0) (hc : Cells w A xs) (h64 : I64 t) :
    Calls Try.prog 18 #[.slice A xs.length c, .int .i64 t] w fun e w' => ∃ A' c', e = .returned (.tuple #[.slice A' (bcF xs t).length c', .int .i64 (bwF xs t), .bool (brtB xs t)]) ∧ Own w' w.heap.size A' c' (bcF xs t) ∧ Below w.heap.size w w' := by
  have HC := hid hc
  cases hb : brtB xs t
  · rw [show bcF xs t = [] by simp [bcF, hb], show bwF xs t = 0 by simp [bwF, hb]]
    have HB := hid hb; clear hb
    go_enter Try.func18, Try.ntmps18
    go_wp2_with (go_at_call 21; refine (canHaveBars_b _ _ _ _ _ hl HC.out _ HB.out).mono ?_; rintro e w' ⟨rfl, rfl⟩)
    go_ret3
    exact ⟨none, 0, rfl, own_nil _ _, Below.refl _ _⟩
  have hsum := (strB_good (brtB_t hb).2).sum
  have HB := hid hb
  have HCL := hid (cloneC_any A c xs w hl hno hc)
  rw [show bcF xs t = (bcR t 31 xs).1 by simp [bcF, hb], show bwF xs t = ((bcR t 31 xs).2 : Int) by simp [bwF, hb]]
  obtain ⟨R, hR⟩ : ∃ R, R = (bcR t 31 xs).1 := ⟨_, rfl⟩
  obtain ⟨N, hN⟩ : ∃ N, N = (bcR t 31 xs).2 := ⟨_, rfl⟩
  rw [← hR, ← hN]
  have HR := hid hR; have HN := hid hN
  clear hb hR hN
  go_enter Try.func18, Try.ntmps18
  go_wp2_with (first | (go_at_call 21; refine (canHaveBars_b _ _ _ _ _ hl HC.out _ HB.out).mono ?_; rintro e w' ⟨rfl, rfl⟩) | (go_at_call 32; refine HCL.out.mono ?_; rintro e w1 ⟨A1, c1, rfl, o1, b1⟩))
  go_loopg [7, 8] 31 (fun g l nv wr => ∃ (n : Nat) (L : List Int) (AL : Option Addr) (cL : Nat), n + g = 31 ∧ nv = .int .i64 n ∧ l = .slice AL L.length cL ∧ Hid (Own wr w.heap.size AL cL L) ∧ Hid (brtB L t = true) ∧ L.sum + n ≤ 30 ∧ Hid ((bcR t g L).1 = R ∧ (bcR t g L).2 + n = N) ∧ Below w.heap.size w wr)
  case atStart => exact ⟨0, xs, A1, c1, rfl, rfl, rfl, hid o1, HB, by simpa using hsum, hid ⟨HR.out.symm, HN.out.symm⟩, b1⟩
  case round =>
    obtain ⟨n, L, AL, cL, hng, rfl, rfl, HO, HBL, hsn, HE, hbel⟩ := hrel
    have GL := strB_good (brtB_t HBL.out).2
    have hL30 := GL.len
    have hs0 := GL.sum0
    have HTB := hid (impl_TakeBar AL cL L t 0 wr (by omega) HO.out h64 (by unfold I64; omega))
    have htb := tb0 HBL.out
    have hsz := hbel.size
    clear GL
    by_cases h0 : (brs L t L.length).length = 0
    · have hf : tbB L t 0 = false := by rw [htb]; simpa using h0
      rw [hf, tbF_f hf] at HTB
      have he := HE.out
      rw [bcR_end h0] at he
      have HEE := hid he
      clear htb hf h0 he
      go_wp2_with (go_at_call 14; refine HTB.out.mono ?_; rintro e w3 ⟨A3, c3, rfl, o3, b3⟩)
      go_ret3
      have e1 : L = R := HEE.out.1
      have e2 : n = N := by have := HEE.out.2; simpa using this
      subst e1; subst e2
      exact ⟨AL, cL, rfl, HO.out.below b3, Below.next hbel b3⟩
    · have hf : tbB L t 0 = true := by rw [htb]; simpa using h0
      have hft := tbF_t hf
      rw [show (0 : Int).toNat = 0 from rfl] at hft
      rw [hf] at HTB
      have hnx := take_first HBL.out h0
      obtain ⟨g', rfl⟩ : ∃ g', gk = g' + 1 := ⟨gk - 1, by omega⟩
      have he := HE.out
      rw [bcR_next h0, ← hft] at he
      rw [← hft] at hnx
      obtain ⟨F, hF⟩ : ∃ F, F = tbF L t 0 := ⟨_, rfl⟩
      rw [← hF] at HTB he hnx
      have HEE := hid he
      have HNX := hid hnx
      have hs2 := hnx.2
      clear htb hf h0 he hft hnx hF
      go_wp2_with (go_at_call 14; refine HTB.out.mono ?_; rintro e w3 ⟨A3, c3, rfl, o3, b3⟩)
      go_roundg g'
      case measure => omega
      case rel => exact ⟨n + 1, F, A3, c3, by omega, by go_num, rfl, hid (o3.more hsz), hid HNX.out.1, by omega, hid ⟨HEE.out.1, by have : (bcR t g' F).2 + 1 + n = N := HEE.out.2; omega⟩, Below.next hbel b3⟩
theorem own_hnoW {w : World} {B c : Nat} {A : Option Addr} {xs : List Int} (h : Own w B A c xs) : A = none → xs.length = 0 ∧ c = 0 := by
  rintro rfl; exact own_none h
theorem withoutBars_any {B : Nat} (A : Option Addr) (c : Nat) (xs : List Int) (t : Int) (w : World) (hl : xs.length ≤ 1048576) (ho : Own w B A c xs) (h64 : I64 t) :
    Calls Try.prog 18 #[.slice A xs.length c, .int .i64 t] w fun e w' => ∃ A' c', e = .returned (.tuple #[.slice A' (bcF xs t).length c', .int .i64 (bwF xs t), .bool (brtB xs t)]) ∧ Own w' w.heap.size A' c' (bcF xs t) ∧ Below w.heap.size w w' := withoutBars_anyC A c xs t w hl (own_hnoW ho) ho.cells h64

set_option maxRecDepth 100000 in
set_option maxHeartbeats 2000000 in
theorem brCore_anyC (A : Option Addr) (c : Nat) (xs : List Int) (t : Int) (w : World) (hb : brtB xs t = true) (hno : A = none → xs.length = 0 ∧ c = 0) (hc : Cells w A xs) :
    Calls Try.prog 20 #[.slice A xs.length c, .int .i64 t] w fun e w' => ∃ A' c', e = .returned (.tuple #[.slice A' (bcR t 31 xs).1.length c', .int .i64 ((bcR t 31 xs).2 : Nat)]) ∧ Own w' w.heap.size A' c' (bcR t 31 xs).1 ∧ Below w.heap.size w w' := by
  obtain ⟨i1, hj, hy0, hy1, hy2⟩ := info_parts Try.infoInts
  have hsum := (strB_good (brtB_t hb).2).sum
  have hl := (strB_good (brtB_t hb).2).len
  have HB := hid hb
  have HCL := hid (l1OwnC_any A c xs w (by omega) hno hc)
  have HBR := hid fun B' AL cL (L : List Int) W (h : brtB L t = true) (h2 : Own W B' AL cL L) => brBars_any AL cL L t W (brtB_t h).2 (t_small (brtB_t h).1) h2.cap h2.cells
  have HTK := hid fun AL cL Ab cb (L bar : List Int) W (h : brtB L t = true) (h1 : bar.length = 1 ∨ bar.length = 2) (h2 : isB L t bar = true) h3 (h4 : Cells W AL L) (h5 : Cells W Ab bar) => brTake_any AL Ab cL cb L bar t W (strB_good (brtB_t h).2).len h1 h2 h3 (t_small (brtB_t h).1) h4 h5
  obtain ⟨R, hR⟩ : ∃ R, R = (bcR t 31 xs).1 := ⟨_, rfl⟩
  obtain ⟨N, hN⟩ : ∃ N, N = (bcR t 31 xs).2 := ⟨_, rfl⟩
  rw [← hR, ← hN]
  have HR := hid hR; have HN := hid hN
  clear hb hno hc hR hN hl
  go_enter Try.func20, Try.ntmps20
  go_wp2_with (first | (go_at_call 34; refine HCL.out.mono ?_; rintro e w1 ⟨A1, c1, rfl, o1, b1⟩) | (go_at_call 25; refine (HBR.out _ A1 c1 xs w1 HB.out o1).mono ?_; rintro e w2 ⟨A2, c2, rfl, o2, b2⟩))
  go_loopg [6, 7, 8] 31 (fun g nv l rv wr => ∃ (n : Nat) (L : List Int) (AL : Option Addr) (cL : Nat) (A2 : Option Addr) (c2 : Nat) (B2 S2 : Nat), n + g = 31 ∧ nv = .int .i64 n ∧ l = .slice AL L.length cL ∧ rv = .slice A2 (brs L t L.length).length c2 ∧ Hid (Own wr w.heap.size AL cL L) ∧ Hid (brtB L t = true) ∧ L.sum + n ≤ 30 ∧ Hid ((bcR t g L).1 = R ∧ (bcR t g L).2 + n = N) ∧ Hid (Own2 wr B2 S2 A2 c2 (brs L t L.length)) ∧ Below w.heap.size w wr)
  case atStart => exact ⟨0, xs, A1, c1, A2, c2, _, _, rfl, rfl, rfl, rfl, hid (o1.below b2), HB, by simpa using hsum, hid ⟨HR.out.symm, HN.out.symm⟩, hid o2, Below.next b1 b2⟩
  case round =>
    obtain ⟨n, L, AL, cL, A2, c2, B2, S2, hng, rfl, rfl, rfl, HO, HBL, hsn, HE, HO2, hbel⟩ := hrel
    have GL := strB_good (brtB_t HBL.out).2
    have hL30 := GL.len
    have hs0 := GL.sum0
    have hsz := hbel.size
    clear GL
    by_cases h0 : (brs L t L.length).length = 0
    · have he := HE.out
      rw [bcR_end h0] at he
      have HEE := hid he
      have hz : ¬ (0 : Int) < ((brs L t L.length).length : Int) := by omega
      obtain ⟨M, hM⟩ : ∃ M, M = (brs L t L.length).length := ⟨_, rfl⟩
      rw [← hM] at hz ⊢
      clear h0 he hM
      go_wp2_with fail
      go_ret2
      have e1 : L = R := HEE.out.1
      have e2 : n = N := by have := HEE.out.2; simpa using this
      subst e1; subst e2
      exact ⟨AL, cL, rfl, HO.out, hbel⟩
    · have hnx := take_first HBL.out h0
      obtain ⟨h1, h2, h3, _⟩ := bar_ok (t := t) (brtB_t HBL.out).2 (k := 0) (show 0 < (brs L t L.length).length by omega)
      obtain ⟨g', rfl⟩ : ∃ g', gk = g' + 1 := ⟨gk - 1, by omega⟩
      have he := HE.out
      rw [bcR_next h0] at he
      obtain ⟨P3, C3, o3⟩ := HO2.out
      obtain ⟨g3, rfl, hc3⟩ := o3.top1 (j := 0) (by omega)
      have hr3 := (o3.row 0 (by omega)).cells
      obtain ⟨bar, hbar⟩ : ∃ bar, bar = (brs L t L.length).getD 0 [] := ⟨_, rfl⟩
      rw [← hbar] at h1 h2 h3 he hnx hc3 hr3
      have HTKq := hid (HTK.out AL cL (P3 0) (C3 0) L bar wr HBL.out h1 h2 h3 HO.out.cells hr3)
      have hz : (0 : Int) < ((brs L t L.length).length : Int) := by omega
      obtain ⟨M, hM⟩ : ∃ M, M = (brs L t L.length).length := ⟨_, rfl⟩
      rw [← hM] at hz ⊢
      obtain ⟨F, hF⟩ : ∃ F, F = tkL L t bar := ⟨_, rfl⟩
      rw [← hF] at HTKq he hnx
      have HEE := hid he
      have HNX := hid hnx
      have hs2 := hnx.2
      clear h0 he hnx hF h1 h2 h3 hr3 o3 hbar hM
      go_wp2_with (first | (go_at_call 31; refine HTKq.out.mono ?_; rintro e w4 ⟨A4, c4, rfl, o4, b4⟩) | (go_at_call 25; refine (HBR.out _ A4 c4 F w4 HNX.out.1 o4).mono ?_; rintro e w5 ⟨A5, c5, rfl, o5, b5⟩))
      go_roundg g'
      case measure => omega
      case rel => exact ⟨n + 1, F, A4, c4, A5, c5, _, _, by omega, by go_num, rfl, rfl, hid ((o4.below b5).more hsz), hid HNX.out.1, by omega, hid ⟨HEE.out.1, by have : (bcR t g' F).2 + 1 + n = N := HEE.out.2; omega⟩, hid o5, Below.next (Below.next hbel b4) b5⟩

theorem brCore_any {B : Nat} (A : Option Addr) (c : Nat) (xs : List Int) (t : Int) (w : World) (hb : brtB xs t = true) (ho : Own w B A c xs) :
    Calls Try.prog 20 #[.slice A xs.length c, .int .i64 t] w fun e w' => ∃ A' c', e = .returned (.tuple #[.slice A' (bcR t 31 xs).1.length c', .int .i64 ((bcR t 31 xs).2 : Nat)]) ∧ Own w' w.heap.size A' c' (bcR t 31 xs).1 ∧ Below w.heap.size w w' := brCore_anyC A c xs t w hb (own_hnoW ho) ho.cells 

theorem impl_BarCoreC (A : Option Addr) (c : Nat) (xs : List Int) (t : Int) (w : World) (hl : xs.length ≤ 1048576) (hno : A = none → xs.length = 0 ∧ c = 0) (hc : Cells w A xs) (h64 : I64 t) :
    Calls Try.prog 4 #[.slice A xs.length c, .int .i64 t] w fun e w' => ∃ A' c', e = .returned (.tuple #[.slice A' (bcF xs t).length c', .bool (brtB xs t)]) ∧ Own w' w.heap.size A' c' (bcF xs t) ∧ Below w.heap.size w w' := by
  have H := hid (withoutBars_anyC A c xs t w hl hno hc h64)
  obtain ⟨F, hF⟩ : ∃ F, F = bcF xs t := ⟨_, rfl⟩
  obtain ⟨b, hb⟩ : ∃ b, b = brtB xs t := ⟨_, rfl⟩
  rw [← hF, ← hb] at H ⊢
  clear hF hb
  go_enter Try.func4, Try.ntmps4
  go_wp2_with (go_at_call 18; refine H.out.mono ?_; rintro e w3 ⟨A3, c3, rfl, o3, b3⟩)
  go_ret2
  exact ⟨A3, c3, rfl, o3, b3⟩
theorem impl_BarCore {B : Nat} (A : Option Addr) (c : Nat) (xs : List Int) (t : Int) (w : World) (hl : xs.length ≤ 1048576) (ho : Own w B A c xs) (h64 : I64 t) :
    Calls Try.prog 4 #[.slice A xs.length c, .int .i64 t] w fun e w' => ∃ A' c', e = .returned (.tuple #[.slice A' (bcF xs t).length c', .bool (brtB xs t)]) ∧ Own w' w.heap.size A' c' (bcF xs t) ∧ Below w.heap.size w w' := impl_BarCoreC A c xs t w hl (own_hnoW ho) ho.cells h64
theorem impl_BarWeightC (A : Option Addr) (c : Nat) (xs : List Int) (t : Int) (w : World) (hl : xs.length ≤ 1048576) (hno : A = none → xs.length = 0 ∧ c = 0) (hc : Cells w A xs) (h64 : I64 t) :
    Calls Try.prog 6 #[.slice A xs.length c, .int .i64 t] w fun e w' => e = .returned (.tuple #[.int .i64 (bwF xs t), .bool (brtB xs t)]) ∧ Below w.heap.size w w' := by
  have H := hid (withoutBars_anyC A c xs t w hl hno hc h64)
  obtain ⟨F, hF⟩ : ∃ F, F = bcF xs t := ⟨_, rfl⟩
  obtain ⟨b, hb⟩ : ∃ b, b = brtB xs t := ⟨_, rfl⟩
  obtain ⟨n, hn⟩ : ∃ n, n = bwF xs t := ⟨_, rfl⟩
  rw [← hF, ← hb, ← hn] at H
  rw [← hb, ← hn]
  clear hF hb hn hno hc
  go_enter Try.func6, Try.ntmps6
  go_wp2_with (go_at_call 18; refine H.out.mono ?_; rintro e w3 ⟨A3, c3, rfl, o3, b3⟩)
  go_ret2
  exact ⟨rfl, b3⟩
theorem impl_BarWeight {B : Nat} (A : Option Addr) (c : Nat) (xs : List Int) (t : Int) (w : World) (hl : xs.length ≤ 1048576) (ho : Own w B A c xs) (h61 : I64 t) :
    Calls Try.prog 6 #[.slice A xs.length c, .int .i64 t] w fun e w' => e = .returned (.tuple #[.int .i64 (bwF xs t), .bool (brtB xs t)]) ∧ Below w.heap.size w w' := impl_BarWeightC A c xs t w hl (own_hnoW ho) ho.cells h61

theorem spec_BarCoreC (A : Option Addr) (c : Nat) (xs : List Int) (t : Int) (w : World) (hl : xs.length ≤ 1048576) (hno : A = none → xs.length = 0 ∧ c = 0) (hc : Cells w A xs) (_ : I64 t) :
    Calls Try.prog 5 #[.slice A xs.length c, .int .i64 t] w fun e w' => ∃ A' c', e = .returned (.tuple #[.slice A' (bcF xs t).length c', .bool (brtB xs t)]) ∧ Own w' w.heap.size A' c' (bcF xs t) ∧ Below w.heap.size w w' := by
  have HC := hid hc
  cases hb : brtB xs t
  · rw [show bcF xs t = [] by simp [bcF, hb]]
    have HB := hid hb; clear hb hno hc
    go_enter Try.func5, Try.ntmps5
    go_wp2_with (go_at_call 19; refine (brT_b _ _ _ _ _ hl HC.out _ HB.out).mono ?_; rintro e w' ⟨rfl, n, rfl⟩)
    go_ret2
    exact ⟨none, 0, rfl, own_nil _ _, below_drew' _ _⟩
  rw [show bcF xs t = (bcR t 31 xs).1 by simp [bcF, hb]]
  have H := hid fun n => brCore_anyC A c xs t (w.drewN n) hb hno (hc.later (below_drew' w n))
  have HB := hid hb
  obtain ⟨R, hR⟩ : ∃ R, R = (bcR t 31 xs).1 := ⟨_, rfl⟩
  obtain ⟨N, hN⟩ : ∃ N, N = (bcR t 31 xs).2 := ⟨_, rfl⟩
  rw [← hR, ← hN] at H
  rw [← hR]
  clear hb hno hc hR hN
  go_enter Try.func5, Try.ntmps5
  go_wp2_with (first | (go_at_call 19; refine (brT_b _ _ _ _ _ hl HC.out _ HB.out).mono ?_; rintro e w' ⟨rfl, n, rfl⟩) | (go_at_call 20; refine (H.out n).mono ?_; rintro e w3 ⟨A3, c3, rfl, o3, b3⟩))
  go_ret2
  exact ⟨A3, c3, rfl, o3, Below.next (below_drew' w n) b3⟩
theorem spec_BarCore {B : Nat} (A : Option Addr) (c : Nat) (xs : List Int) (t : Int) (w : World) (hl : xs.length ≤ 1048576) (ho : Own w B A c xs) (h61 : I64 t) :
    Calls Try.prog 5 #[.slice A xs.length c, .int .i64 t] w fun e w' => ∃ A' c', e = .returned (.tuple #[.slice A' (bcF xs t).length c', .bool (brtB xs t)]) ∧ Own w' w.heap.size A' c' (bcF xs t) ∧ Below w.heap.size w w' := spec_BarCoreC A c xs t w hl (own_hnoW ho) ho.cells h61

theorem spec_BarWeightC (A : Option Addr) (c : Nat) (xs : List Int) (t : Int) (w : World) (hl : xs.length ≤ 1048576) (hno : A = none → xs.length = 0 ∧ c = 0) (hc : Cells w A xs) (_ : I64 t) :
    Calls Try.prog 7 #[.slice A xs.length c, .int .i64 t] w fun e w' => e = .returned (.tuple #[.int .i64 (bwF xs t), .bool (brtB xs t)]) ∧ Below w.heap.size w w' := by
  have HC := hid hc
  cases hb : brtB xs t
  · rw [show bwF xs t = 0 by simp [bwF, hb]]
    have HB := hid hb; clear hb hno hc
    go_enter Try.func7, Try.ntmps7
    go_wp2_with (go_at_call 19; refine (brT_b _ _ _ _ _ hl HC.out _ HB.out).mono ?_; rintro e w' ⟨rfl, n, rfl⟩)
    go_ret2
    exact ⟨rfl, below_drew' _ _⟩
  rw [show bwF xs t = ((bcR t 31 xs).2 : Int) by simp [bwF, hb]]
  have H := hid fun n => brCore_anyC A c xs t (w.drewN n) hb hno (hc.later (below_drew' w n))
  have HB := hid hb
  obtain ⟨R, hR⟩ : ∃ R, R = (bcR t 31 xs).1 := ⟨_, rfl⟩
  obtain ⟨N, hN⟩ : ∃ N, N = (bcR t 31 xs).2 := ⟨_, rfl⟩
  rw [← hR, ← hN] at H
  rw [← hN]
  clear hb hno hc hR hN
  go_enter Try.func7, Try.ntmps7
  go_wp2_with (first | (go_at_call 19; refine (brT_b _ _ _ _ _ hl HC.out _ HB.out).mono ?_; rintro e w' ⟨rfl, n, rfl⟩) | (go_at_call 20; refine (H.out n).mono ?_; rintro e w3 ⟨A3, c3, rfl, o3, b3⟩))
  go_ret2
  exact ⟨rfl, Below.next (below_drew' w n) b3⟩
theorem spec_BarWeight {B : Nat} (A : Option Addr) (c : Nat) (xs : List Int) (t : Int) (w : World) (hl : xs.length ≤ 1048576) (ho : Own w B A c xs) (h61 : I64 t) :
    Calls Try.prog 7 #[.slice A xs.length c, .int .i64 t] w fun e w' => e = .returned (.tuple #[.int .i64 (bwF xs t), .bool (brtB xs t)]) ∧ Below w.heap.size w w' := spec_BarWeightC A c xs t w hl (own_hnoW ho) ho.cells h61

theorem bound_BarCore (xs : List Int) (t : Int) : (bcF xs t).length ≤ 1048576 := by
  unfold bcF
  split
  · rename_i h
    have := (strB_good (brtB_t (bcR_ok 31 xs h)).2).len
    omega
  · simp
end Go.Proofs.Ytcgoiddghenkmaa
