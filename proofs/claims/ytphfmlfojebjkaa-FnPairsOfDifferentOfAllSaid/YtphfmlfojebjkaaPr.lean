/-
  Contracts: slopes and parts changed, of the program.
-/
import Derived.Test.YtphfmlfojebjkaaPrMath
import Derived.Test.YtphfmlfojebjkaaBr
import Derived.Test.YtphfmlfojebjkaaCopyC
import Derived.Test.YtphfmlfojebjkaaCutI
namespace Go.Proofs.Ytphfmlfojebjkaa
open Go.RowKit

set_option maxHeartbeats 1000000 in
theorem slopeOf_any (A : Option Addr) (xs : List Int) (c : Nat) (w : World) (G : Good xs) (h0 : 0 < xs.length) (hc : Cells w A xs) :
    Calls Try.prog 13 #[.slice A xs.length c] w fun e w' => e = .returned (.int .i64 (slN xs)) ∧ ∃ n, w' = w.drewN n := by
  have hlen := G.len
  have HG := hid G; clear G
  have h1l : 1 ≤ xs.length := h0
  go_enter Try.func13, Try.ntmps13
  go_wp2_with fail
  go_loopw [3] (fun i wr => ∃ k : Nat, 1 ≤ k ∧ k ≤ xs.length ∧ i = .int .i64 k ∧ Hid (slG xs (xs.length - k) k = slN xs) ∧ ∃ n, wr = w.drewN n) (fun i _ => xs.length - (intOf i).toNat)
  case atStart => exact ⟨1, Nat.le_refl _, h1l, rfl, hid rfl, 0, rfl⟩
  case round =>
    obtain ⟨k, hk1, hk, rfl, HS, n, rfl⟩ := hrel
    by_cases hlt : k < xs.length
    · obtain ⟨b, o, rfl, hcc⟩ := hc (by omega)
      have hck := hcc k hlt
      have hck1 := hcc (k - 1) (by omega)
      have hxb := HG.out.le (k - 1) (by omega)
      have hxp := HG.out.pos (k - 1) (by omega)
      have HY := hid (slG_yes (xs := xs) (f := xs.length - (k + 1)) (k := k) hlt)
      have HN := hid (slG_no (xs := xs) (f := xs.length - k) (k := k))
      obtain ⟨p, rfl⟩ : ∃ p, k = p + 1 := ⟨k - 1, by omega⟩
      rw [show p + 1 - 1 = p by omega] at hck1 hxb hxp HY HN
      have hw : IntKind.i64.wrap (((p + 1 : Nat) : Int) - 1) = (p : Int) := by rw [IntWalk.i64_in _ (by omega)]; omega
      clear hcc
      obtain ⟨x, hx⟩ : ∃ x, x = xs.getD (p + 1) 0 := ⟨_, rfl⟩
      obtain ⟨y, hy⟩ : ∃ y, y = xs.getD p 0 := ⟨_, rfl⟩
      rw [← hx] at hck HY HN
      rw [← hy] at hck1 hxb hxp HY HN
      clear hx hy
      obtain ⟨m, hm⟩ : ∃ m, m = p + 1 := ⟨_, rfl⟩
      rw [← hm] at hck hw HY HN hlt HS hk ⊢
      have HM := hid hm
      have hll : (m : Int) < (xs.length : Int) := by omega
      have hdec : decide ((m : Int) < (xs.length : Int)) = true := decide_eq_true hll
      have hpl : (p : Int) < (xs.length : Int) := by omega
      clear hm
      by_cases he : x = y - 1
      · have hs := HY.out he
        rw [show xs.length - (m + 1) + 1 = xs.length - m by omega, HS.out] at hs
        have HE := hid hs.symm
        clear hs HY HN
        go_wp2_with fail
        go_quiet (fail)
        go_wp2_with fail
        go_roundw
        case rel => exact ⟨m + 1, by omega, by omega, by go_num, HE, _, rfl⟩
        case measure => simp [intOf]; omega
      · have hs := HN.out (fun h => he h.2)
        have HE := hid (hs.symm.trans HS.out)
        clear hs HY HN
        go_wp2_with fail
        go_quiet (fail)
        go_wp2_with fail
        go_ret
        exact ⟨ret_int (by rw [← HE.out]), drew2 _ _⟩
    · have hke : k = xs.length := by omega
      have hs := slG_no (xs := xs) (f := xs.length - k) (k := k) (fun h => hlt h.1)
      have HE := hid (hs.symm.trans HS.out)
      clear hs
      have hll : ¬ ((k : Int) < (xs.length : Int)) := by omega
      have hdec : decide ((k : Int) < (xs.length : Int)) = false := decide_eq_false hll
      clear hke
      go_wp2_with fail
      go_quiet (fail)
      go_wp2_with fail
      go_ret
      exact ⟨ret_int (by rw [← HE.out]), drew2 _ _⟩

set_option maxRecDepth 100000 in
set_option maxHeartbeats 1000000 in
theorem withFirstParts_any (A : Option Addr) (c : Nat) (xs : List Int) (m : Nat) (v : Int) (w : World) (hl : xs.length ≤ 30) (hno : A = none → xs.length = 0 ∧ c = 0) (hc : Cells w A xs) (hm : m ≤ xs.length) (hv : v = 1 ∨ v = -1)
    (hb : ∀ j, j < xs.length → 1 ≤ xs.getD j 0 ∧ xs.getD j 0 ≤ 30) :
    Calls Try.prog 14 #[.slice A xs.length c, .int .i64 m, .int .i64 v] w fun e w' => ∃ A' c', e = .returned (.slice A' xs.length c') ∧ Own w' w.heap.size A' c' (bmp xs v m) ∧ Below w.heap.size w w' := by
  have HC := hid (cloneC_any A c xs w (by omega) hno hc)
  have HB := hid hb
  have hvb : -1 ≤ v ∧ v ≤ 1 := by rcases hv with rfl | rfl <;> omega
  obtain ⟨L, hL⟩ : ∃ L, L = xs.length := ⟨_, rfl⟩
  rw [← hL] at hl hm HC ⊢
  have HL := hid hL
  clear hno hc hb hv hL
  go_enter Try.func14, Try.ntmps14
  go_wp2_with fail
  go_at_call 26
  refine HC.out.mono ?_
  rintro e w2 ⟨A2, c2, rfl, o2, b2⟩
  have HO := hid o2
  have HB2 := hid b2
  clear o2 b2
  go_wp2_with fail
  go_loopw [12] (fun i wr => ∃ k : Nat, k ≤ m ∧ i = .int .i64 k ∧ Hid (Own wr w.heap.size A2 c2 (bmp xs v k)) ∧ Hid (Below w.heap.size w wr)) (fun i _ => m - (intOf i).toNat)
  case atStart => exact ⟨0, Nat.zero_le _, rfl, hid HO.out, HB2⟩
  case round =>
    obtain ⟨k, hk, rfl, HW, HBL⟩ := hrel
    by_cases hlt : k < m
    · obtain ⟨g, rfl, hg1, hg2⟩ := HW.out.at_ (by rw [bmp_len, ← HL.out]; omega)
      have hck := own_get HW.out (k := k) (by rw [bmp_len, ← HL.out]; omega)
      have hfz := own_froz HW.out k
      have hst := own_set HW.out k ((bmp xs v k).getD k 0 + v)
      rw [bmp_succ] at hst
      have hgt := bmp_get xs v k (by rw [← HL.out]; omega) k
      rw [if_neg (Nat.lt_irrefl _)] at hgt
      have hxb := HB.out k (by rw [← HL.out]; omega)
      rw [hgt] at hck hst
      obtain ⟨x, hx⟩ : ∃ x, x = xs.getD k 0 := ⟨_, rfl⟩
      rw [← hx] at hck hst hxb
      have hkL : (k : Int) < (L : Int) := by omega
      have HST := hid hst
      have HBS := hid (HBL.out.setCell hg1 (p := ⟨g, k, none⟩) (.int .i64 (x + v)))
      clear hst hgt hx HW
      go_wp2_with fail
      go_roundw
      case rel => exact ⟨k + 1, by omega, by go_num, HST, HBS⟩
      case measure => simp [intOf]; omega
    · have hke : k = m := by omega
      subst hke
      go_wp2_with fail
      go_ret
      exact ⟨A2, c2, rfl, HW.out, HBL.out⟩
end Go.Proofs.Ytphfmlfojebjkaa
