/-
  Contracts: lists of cycles on both sides: their check, weight, size and sign.
-/
import Derived.Test.YtmbfobcbnnalbaaCycMath
import Derived.Test.YtmbfobcbnnalbaaFac
import Derived.Test.YtmbfobcbnnalbaaCE
import Derived.Test.YtmbfobcbnnalbaaCB
import Derived.Test.YtmbfobcbnnalbaaSgn
namespace Go.Proofs.Ytmbfobcbnnalbaa
open Go.RowKit

theorem cyc_prefix {xs : List Int} {k : Nat} (h : ∀ j, j < k → 1 ≤ xs.getD j 0) (x : Int) (hx : xs.getD k 0 = x) (h1 : 1 ≤ x) : ∀ j, j < k + 1 → 1 ≤ xs.getD j 0 := fun j hj => by
  by_cases e : j = k
  · subst e; omega
  · exact h j (by omega)

set_option maxRecDepth 100000 in
set_option maxHeartbeats 1000000 in
theorem sumOfCycles_any (A : Option Addr) (c : Nat) (xs : List Int) (w : World) (hl : xs.length ≤ 1048576) (hc : Cells w A xs) :
    Calls Try.prog 118 #[.slice A xs.length c] w fun e w' => e = .returned (.tuple #[.int .i64 (cycS xs), .bool (cycB xs)]) ∧ w = w' := by
  have HN := hid (show cycB xs = false → cycS xs = 0 from fun h => by simp [cycS, h])
  have HY := hid (show cycB xs = true → cycS xs = xs.sum from fun h => by simp [cycS, h])
  obtain ⟨S, hS⟩ : ∃ S, S = cycS xs := ⟨_, rfl⟩
  obtain ⟨sb, hsb⟩ : ∃ sb, sb = cycB xs := ⟨_, rfl⟩
  rw [← hS, ← hsb] at HN HY ⊢
  have HSB := hid hsb
  clear hS hsb
  go_enter Try.func118, Try.ntmps118
  go_wp2_with fail
  go_loop [4, 9] (fun s i => ∃ k : Nat, k ≤ xs.length ∧ i = .int .i64 k ∧ s = .int .i64 (xs.take k).sum ∧ Hid (∀ j, j < k → 1 ≤ xs.getD j 0) ∧ 0 ≤ (xs.take k).sum ∧ (xs.take k).sum ≤ 12) (fun _ i => xs.length - (intOf i).toNat)
  case atStart => exact ⟨0, Nat.zero_le _, rfl, rfl, hid fun j h => by omega, by simp, by simp⟩
  case round =>
    obtain ⟨k, hk, rfl, rfl, HP, hs0, hs1⟩ := hrel
    by_cases hlt : k < xs.length
    · obtain ⟨b, o, rfl, hcc⟩ := hc (by omega)
      have hck := hcc k hlt
      have HNO := hid fun h => cyc_no hlt h
      have HTS := hid (sum_take_succ xs k hlt)
      have HPF := hid fun x hx h1 => cyc_prefix HP.out x hx h1
      obtain ⟨s, hs⟩ : ∃ s, s = (xs.take k).sum := ⟨_, rfl⟩
      rw [← hs] at HNO HTS hs0 hs1 ⊢
      obtain ⟨x, hx⟩ : ∃ x, x = xs.getD k 0 := ⟨_, rfl⟩
      rw [← hx] at hck HNO HTS
      have HX := hid hx
      clear hcc hx hs
      by_cases h1 : x < 1
      · have HF := hid (HSB.out.trans (HNO.out (.inl h1)))
        clear HNO
        go_wp2_with fail
        go_ret2
        exact ⟨by rw [HF.out, HN.out HF.out]; rfl, rfl⟩
      · by_cases h2 : 12 - s < x
        · have HF := hid (HSB.out.trans (HNO.out (.inr h2)))
          clear HNO
          go_wp2_with fail
          go_ret2
          exact ⟨by rw [HF.out, HN.out HF.out]; rfl, rfl⟩
        · clear HNO
          go_wp2_with fail
          go_round
          case rel => exact ⟨k + 1, by omega, by go_num, by rw [HTS.out], hid (HPF.out x HX.out.symm (by omega)), by rw [HTS.out]; omega, by rw [HTS.out]; omega⟩
          case measure => simp [intOf]; omega
    · have hkl : k = xs.length := by omega
      subst hkl
      have HT := hid (show xs.take xs.length = xs from List.take_of_length_le (Nat.le_refl _))
      rw [HT.out] at hs0 hs1 ⊢
      have HF := hid (HSB.out.trans (cyc_yes HP.out hs1))
      go_wp2_with fail
      go_ret2
      exact ⟨by rw [HF.out, HY.out HF.out]; rfl, rfl⟩

theorem own_cap {w : World} {B c : Nat} {A : Option Addr} {xs : List Int} (h : Own w B A c xs) : xs.length ≤ c := by
  rcases h.2 with ⟨_, h0⟩ | ⟨g', cap, cur, hv, _, _, hn, _⟩
  · omega
  · have : c = cap := by injection hv
    omega
theorem bd12 {m : Nat} {xs : List Int} (hm : m ≤ 30) (h : cycM m xs = true) : xs.length ≤ 30 ∧ ∀ j, j < xs.length → 0 ≤ xs.getD j 0 ∧ xs.getD j 0 ≤ 1000 := by
  obtain ⟨h1, _, _, h4, _⟩ := cyc_len h
  exact ⟨by omega, fun j hj => by have := h4 j hj; omega⟩

set_option maxRecDepth 100000 in
set_option maxHeartbeats 1000000 in
theorem cnCycles_any (A : Option Addr) (c : Nat) (xs : List Int) (m : Nat) (w : World) (hm : m ≤ 30) (hl : xs.length ≤ 1048576) (hc : Cells w A xs) :
    Calls Try.prog 115 #[.slice A xs.length c, .int .i64 m] w fun e w' => e = .returned (.bool (cycM m xs)) ∧ ∃ n, w' = w.drewN n := by
  by_cases h1 : xs.length ≤ m
  · have e1 : cycM m xs = (xs.all (inB 1 m) && decide (xs.sum ≤ (m : Int))) := by simp [cycM, h1]
    rw [e1]
    clear e1
    cases ha : xs.all (inB 1 m)
    · have HA := hid ha
      clear ha
      go_enter Try.func115, Try.ntmps115
      go_wp2_with (go_at_call 102; refine (l1All_b _ _ _ _ _ _ hl hc _ HA.out).mono ?_; rintro e w' ⟨rfl, rfl⟩)
      go_ret
      exact ⟨rfl, by first | exact ⟨0, rfl⟩ | exact ⟨_, rfl⟩⟩
    · have hb : ∀ j, j < xs.length → 0 ≤ xs.getD j 0 ∧ xs.getD j 0 ≤ 1000 := fun j hj => by
        have := List.all_eq_true.1 ha xs[j] (List.getElem_mem hj)
        have := inB_iff.1 this
        rw [List.getD_eq_getElem?_getD, List.getElem?_eq_getElem hj]
        simp only [Option.getD_some]; omega
      have HA := hid ha
      have HS := hid fun W (h : Cells W A xs) => ptSum_any A xs c W (by omega) hb h
      obtain ⟨s, hs⟩ : ∃ s, s = xs.sum := ⟨_, rfl⟩
      rw [← hs] at HS ⊢
      clear ha hb hs
      go_enter Try.func115, Try.ntmps115
      go_wp2_with (first | (go_at_call 102; refine (l1All_b _ _ _ _ _ _ hl hc _ HA.out).mono ?_; rintro e w' ⟨rfl, rfl⟩) | (go_at_call 91; refine (HS.out _ (by exact hc)).mono ?_; rintro e w' ⟨rfl, rfl⟩))
      go_ret
      exact ⟨by simp, by first | exact ⟨0, rfl⟩ | exact ⟨_, rfl⟩⟩
  · rw [show cycM m xs = false by simp [cycM, h1]]
    have h2 : ¬ (xs.length : Int) ≤ (m : Int) := by omega
    go_enter Try.func115, Try.ntmps115
    go_wp2_with fail
    go_ret
    exact ⟨rfl, by first | exact ⟨0, rfl⟩ | exact ⟨_, rfl⟩⟩
theorem cnCycles_b (A : Option Addr) (c : Nat) (xs : List Int) (m : Nat) (w : World) (hm : m ≤ 30) (hl : xs.length ≤ 1048576) (hc : Cells w A xs) (b : Bool) (h : cycM m xs = b) :
    Calls Try.prog 115 #[.slice A xs.length c, .int .i64 m] w fun e w' => e = .returned (.bool b) ∧ ∃ n, w' = w.drewN n := by
  subst h; exact cnCycles_any A c xs m w hm hl hc

def seenC (xs : List Int) (k : Nat) (j : Nat) : Value := .int .i64 (cntX xs k (j : Int) : Nat)
theorem seen_upd (xs : List Int) (k m : Nat) (h : k < xs.length) (hm : xs.getD k 0 = (m : Int)) (j : Nat) : updV (seenC xs k) m (.int .i64 ((cntX xs k (m : Int) : Int) + 1)) j = seenC xs (k + 1) j := by
  unfold updV seenC
  rw [cntX_succ xs k h, hm]
  by_cases e : j = m
  · subst e; simp
  · rw [if_neg e, if_neg (by omega)]; simp
theorem seen_nil (xs : List Int) : ca 13 (seenC xs 0) = #[.int .i64 0, .int .i64 0, .int .i64 0, .int .i64 0, .int .i64 0, .int .i64 0, .int .i64 0, .int .i64 0, .int .i64 0, .int .i64 0, .int .i64 0, .int .i64 0, .int .i64 0] := by
  rw [ca_ext (d := fun _ => .int .i64 0) (fun k _ => by simp [seenC, cntX])]; rfl
theorem sumOfCycles_f (A : Option Addr) (c : Nat) (xs : List Int) (w : World) (hl : xs.length ≤ 1048576) (hc : Cells w A xs) (h : cycB xs = false) :
    Calls Try.prog 118 #[.slice A xs.length c] w fun e w' => e = .returned (.tuple #[.int .i64 0, .bool false]) ∧ w = w' := by
  have := sumOfCycles_any A c xs w hl hc
  rw [h, show cycS xs = 0 by simp [cycS, h]] at this; exact this
theorem sumOfCycles_t (A : Option Addr) (c : Nat) (xs : List Int) (w : World) (hl : xs.length ≤ 1048576) (hc : Cells w A xs) (h : cycB xs = true) :
    Calls Try.prog 118 #[.slice A xs.length c] w fun e w' => e = .returned (.tuple #[.int .i64 xs.sum, .bool true]) ∧ w = w' := by
  have := sumOfCycles_any A c xs w hl hc
  rw [h, show cycS xs = xs.sum by simp [cycS, h]] at this; exact this

set_option maxRecDepth 100000 in
set_option maxHeartbeats 2000000 in
theorem impl_ClassWeight' (A : Option Addr) (c : Nat) (xs : List Int) (w : World) (hl : xs.length ≤ 1048576) (hc : Cells w A xs) :
    Calls Try.prog 59 #[.slice A xs.length c] w fun e w' => e = .returned (.tuple #[.int .i64 (wgtF xs), .bool (cycB xs)]) ∧ Below w.heap.size w w' := by
  cases hb : cycB xs
  · rw [show wgtF xs = 0 by simp [wgtF, hb]]
    have HS := hid (sumOfCycles_f A c xs w hl hc hb)
    clear hb
    go_enter Try.func59, Try.ntmps59
    go_wp2_with (go_at_call 118; refine HS.out.mono ?_; rintro e w' ⟨rfl, rfl⟩)
    go_ret2
    exact ⟨rfl, Below.refl _ _⟩
  · rw [show wgtF xs = wgt xs xs.length by simp [wgtF, hb]]
    have HS := hid (sumOfCycles_t A c xs w hl hc hb)
    obtain ⟨h12, _, _, h4, _⟩ := cyc_len hb
    have HB := hid h4
    have HWF := hid fun k (h : k < xs.length) => wgt_fac hb h
    have HWL := hid fun k (h : k ≤ xs.length) => wgt_le hb k h
    have HWS := hid fun k => (show wgt xs (k + 1) = wgt xs k * (xs.getD k 0 * (1 + (cntX xs k (xs.getD k 0) : Int))) by rw [wgt, Int.mul_assoc])
    have HCB := hid fun k x => (show cntX xs k x ≤ 12 by
      have := List.count_le_length (a := x) (l := xs.take k); rw [List.length_take] at this; unfold cntX; omega)
    obtain ⟨s, hs⟩ : ∃ s, s = xs.sum := ⟨_, rfl⟩
    rw [← hs] at HS
    clear hb h4 hs
    go_enter Try.func59, Try.ntmps59
    go_wp2_with (go_at_call 118; refine HS.out.mono ?_; rintro e w' ⟨rfl, rfl⟩)
    obtain ⟨w3, hw3⟩ : ∃ w3, w3 = w.alloc (.cells #[.int .i64 0, .int .i64 0, .int .i64 0, .int .i64 0, .int .i64 0, .int .i64 0, .int .i64 0, .int .i64 0, .int .i64 0, .int .i64 0, .int .i64 0, .int .i64 0, .int .i64 0] 70) := ⟨_, rfl⟩
    have y3 : Blk w3 w.heap.size 70 13 (seenC xs 0) := by rw [hw3, ← seen_nil xs]; exact Blk.new _ _ _ _
    have b3 : Below w.heap.size w w3 := by rw [hw3]; exact (Below.refl _ _).alloc (Nat.le_refl _) _
    rw [← hw3]
    clear hw3
    go_loopw [7, 19] (fun v i wr => ∃ k : Nat, k ≤ xs.length ∧ i = .int .i64 k ∧ v = .int .i64 (wgt xs k) ∧ Blk wr w.heap.size 70 13 (seenC xs k) ∧ Below w.heap.size w wr) (fun _ i _ => xs.length - (intOf i).toNat)
    case atStart => exact ⟨0, Nat.zero_le _, rfl, rfl, y3, b3⟩
    case round =>
      obtain ⟨k, hk, rfl, rfl, hy, hbel⟩ := hrel
      by_cases hlt : k < xs.length
      · have hcr : Cells wr A xs := hc.later hbel
        obtain ⟨b, o, rfl, hcc⟩ := hcr (by omega)
        have hck := hcc k hlt
        obtain ⟨m, hm⟩ : ∃ m : Nat, xs.getD k 0 = m := ⟨(xs.getD k 0).toNat, by have := HB.out k hlt; omega⟩
        have hmb := HB.out k hlt
        have hwf := HWF.out k hlt
        have hws := HWS.out k
        have hwl := HWL.out k hk
        have hwl2 := HWL.out (k + 1) hlt
        rw [hm] at hck hwf hws hmb
        have hcur := hy.cell (k := m) (by omega)
        have hfz := hy.froz m
        have hny := (hy.set m (.int .i64 ((cntX xs k (m : Int) : Int) + 1))).to (fun j _ => seen_upd xs k m hlt hm j)
        unfold seenC at hcur
        have hcb := HCB.out k (m : Int)
        obtain ⟨u, hu⟩ : ∃ u, u = cntX xs k (m : Int) := ⟨_, rfl⟩
        rw [← hu] at hcur hny hcb hwf hws
        have hcur2 := hny.cell (k := m) (by omega)
        have hsv : seenC xs (k + 1) m = .int .i64 ((u : Int) + 1) := by unfold seenC; rw [cntX_succ xs k hlt, hm, if_pos rfl, ← hu]; simp
        rw [hsv] at hcur2
        obtain ⟨g, hg⟩ : ∃ g, g = wgt xs k := ⟨_, rfl⟩
        rw [← hg] at hws hwl ⊢
        rw [hws] at hwl2
        obtain ⟨f, hf⟩ : ∃ f, f = (m : Int) * (1 + (u : Int)) := ⟨_, rfl⟩
        rw [← hf] at hwf hws hwl2
        have hf2 : (m : Int) * ((u : Int) + 1) = f := by rw [hf, Int.add_comm]
        have hw1 : IntKind.i64.wrap ((m : Int) * ((u : Int) + 1)) = f := by rw [hf2]; exact IntWalk.i64_in _ (by omega)
        have hw2 : IntKind.i64.wrap (g * f) = g * f := IntWalk.i64_in _ (by omega)
        have HNY := hid hny
        have HWS2 := hid hws
        have HF := hid hf
        have hm13 : m < 13 := by omega
        clear hcc hm hy hny hu hsv hg hf hf2 hws
        go_wp2_with fail
        go_roundw
        case rel => exact ⟨k + 1, by omega, by go_num, by rw [HWS2.out], HNY.out, hbel.setCell (Nat.le_refl _) _⟩
        case measure => simp [intOf]; omega
      · have hkl : k = xs.length := by omega
        subst hkl
        go_wp2_with fail
        go_ret2
        exact ⟨rfl, hbel⟩

theorem cnt_take_succ (xs : List Int) (k : Nat) (x : Int) (m : Nat) (h : m < k) (hk : k ≤ xs.length) : ((xs.take (m + 1)).count x : Int) = ((xs.take m).count x : Int) + if xs.getD m 0 = x then 1 else 0 := by
  have := cntX_succ xs m (by omega) x
  unfold cntX at this
  rw [this]; split <;> simp

set_option maxRecDepth 100000 in
set_option maxHeartbeats 2000000 in
theorem cnWeight_any (A : Option Addr) (c : Nat) (xs : List Int) (w : World) (hl : xs.length ≤ 1048576) (hcap : xs.length ≤ c) (hc : Cells w A xs) (hb : cycB xs = true) :
    Calls Try.prog 122 #[.slice A xs.length c] w fun e w' => e = .returned (.int .i64 (wgt xs xs.length)) ∧ w = w' := by
  obtain ⟨h12, _, _, h4, _⟩ := cyc_len hb
  have HB := hid h4
  have HWF := hid fun k (h : k < xs.length) => wgt_fac hb h
  have HWL := hid fun k (h : k ≤ xs.length) => wgt_le hb k h
  have HWH := hid fun k (h : k < xs.length) => wgt_half hb k h
  have HWS := hid fun k => (show wgt xs (k + 1) = wgt xs k * xs.getD k 0 * (1 + (cntX xs k (xs.getD k 0) : Int)) from rfl)
  have HCB := hid fun k x => (show (xs.take k).count x ≤ 12 by
    have := List.count_le_length (a := x) (l := xs.take k); rw [List.length_take] at this; omega)
  clear hb h4
  go_enter Try.func122, Try.ntmps122
  go_wp2_with fail
  go_loop [3, 11] (fun v i => ∃ k : Nat, k ≤ xs.length ∧ i = .int .i64 k ∧ v = .int .i64 (wgt xs k)) (fun _ i => xs.length - (intOf i).toNat)
  case atStart => exact ⟨0, Nat.zero_le _, rfl, rfl⟩
  case round =>
    obtain ⟨k, hk, rfl, rfl⟩ := hrel
    by_cases hlt : k < xs.length
    · obtain ⟨b, o, rfl, hcc⟩ := hc (by omega)
      have HCC := hid hcc
      have hck := hcc k hlt
      have hwh := HWH.out k hlt
      have hws := HWS.out k
      have hwl := HWL.out k hk
      have hwl2 := HWL.out (k + 1) hlt
      have hxb := HB.out k hlt
      have HX0 := hid (show ∀ m, m < k → ((xs.take (m + 1)).count (xs.getD k 0) : Int) = ((xs.take m).count (xs.getD k 0) : Int) + if xs.getD m 0 = xs.getD k 0 then 1 else 0 from fun m hm => cnt_take_succ xs k _ m hm (by omega))
      have hc0 : (cntX xs k (xs.getD k 0) : Int) = ((xs.take k).count (xs.getD k 0) : Int) := rfl
      rw [hc0] at hws
      obtain ⟨x, hx⟩ : ∃ x, x = xs.getD k 0 := ⟨_, rfl⟩
      rw [← hx] at hck hwh hws hxb HX0
      have HCN := hid fun m => HCB.out m x
      obtain ⟨N, hN⟩ : ∃ N : Nat → Nat, N = fun m => (xs.take m).count x := ⟨_, rfl⟩
      have hN0 : N 0 = 0 := by rw [hN]; simp
      have HN := hid (show ∀ m, m < k → (N (m + 1) : Int) = (N m : Int) + if xs.getD m 0 = x then 1 else 0 by rw [hN]; exact HX0.out)
      have HNB := hid (show ∀ m, N m ≤ 12 by rw [hN]; exact HCN.out)
      rw [show ((xs.take k).count x : Int) = (N k : Int) by rw [hN]] at hws
      obtain ⟨g, hg⟩ : ∃ g, g = wgt xs k := ⟨_, rfl⟩
      rw [← hg] at hwh hws hwl ⊢
      obtain ⟨g2, hg2⟩ : ∃ g2, g2 = g * x := ⟨_, rfl⟩
      rw [← hg2] at hwh hws
      rw [hws] at hwl2
      have hw1 : IntKind.i64.wrap (g * x) = g2 := by rw [hg2]; exact IntWalk.i64_in _ (by omega)
      have HWS2 := hid hws
      have HWL2 := hid hwl2
      have HN0 := hid hN0
      clear hcc hx HX0 HCN hN hg hg2 hws hwl2 hc0 hN0
      go_wp2_with fail
      go_loop [6, 23] (fun s j => ∃ m : Nat, m ≤ k ∧ j = .int .i64 m ∧ s = .int .i64 (1 + (N m : Int))) (fun _ j => k - (intOf j).toNat)
      case atStart => exact ⟨0, Nat.zero_le _, rfl, by rw [HN0.out]; rfl⟩
      case round =>
        obtain ⟨m, hm, rfl, rfl⟩ := hrel
        by_cases hml : m < k
        · have hcm := HCC.out m (by omega)
          have hns := HN.out m hml
          have hnb := HNB.out m
          obtain ⟨y, hy⟩ : ∃ y, y = xs.getD m 0 := ⟨_, rfl⟩
          rw [← hy] at hcm hns
          obtain ⟨n, hn⟩ : ∃ n, n = N m := ⟨_, rfl⟩
          rw [← hn] at hns hnb ⊢
          by_cases hxy : x = y
          · rw [if_pos hxy.symm] at hns
            have HNS := hid hns
            have hxy2 : (x == y) = true := beq_iff_eq.2 hxy
            clear hy hn hns
            go_wp2_with fail
            go_round
            case rel => exact ⟨m + 1, by omega, by go_num, by rw [HNS.out, ← Int.add_assoc]⟩
            case measure => simp [intOf]; omega
          · rw [if_neg (Ne.symm hxy)] at hns
            have HNS := hid hns
            have hxy2 : (x == y) = false := beq_eq_false_iff_ne.2 hxy
            clear hy hn hns
            go_wp2_with fail
            go_round
            case rel => exact ⟨m + 1, by omega, by go_num, by rw [HNS.out]; simp⟩
            case measure => simp [intOf]; omega
        · have hmk : m = k := by omega
          subst hmk
          have hnb := HNB.out m
          have hwl2 := HWL2.out
          have HWS3 := hid HWS2.out
          obtain ⟨n, hn⟩ : ∃ n, n = N m := ⟨_, rfl⟩
          rw [← hn] at hnb hwl2 HWS3 ⊢
          clear hn
          have hw2 : IntKind.i64.wrap (g2 * (1 + (n : Int))) = g2 * (1 + (n : Int)) := IntWalk.i64_in _ (by omega)
          go_wp2_with fail
          go_round
          case rel => exact ⟨m + 1, by omega, by go_num, by rw [HWS3.out]⟩
          case measure => simp [intOf]; omega
    · have hkl : k = xs.length := by omega
      subst hkl
      go_wp2_with fail
      go_ret
      exact ⟨rfl, rfl⟩

set_option maxRecDepth 100000 in
set_option maxHeartbeats 1000000 in
theorem spec_ClassWeight {B : Nat} (A : Option Addr) (c : Nat) (xs : List Int) (w : World) (hl : xs.length ≤ 1048576) (ho : Own w B A c xs) :
    Calls Try.prog 58 #[.slice A xs.length c] w fun e w' => e = .returned (.tuple #[.int .i64 (wgtF xs), .bool (cycB xs)]) ∧ Below w.heap.size w w' := by
  have hc := ho.cells
  have hcap := own_cap ho
  cases hb : cycB xs
  · rw [show wgtF xs = 0 by simp [wgtF, hb]]
    have HB := hid hb
    clear hb
    go_enter Try.func58, Try.ntmps58
    go_wp2_with (go_at_call 115; refine (cnCycles_b _ _ _ 12 _ (by decide) hl hc _ HB.out).mono ?_; rintro e w' ⟨rfl, n, rfl⟩)
    go_ret2
    exact ⟨rfl, below_drew' _ _⟩
  · rw [show wgtF xs = wgt xs xs.length by simp [wgtF, hb]]
    have HB := hid hb
    have HW := hid fun W (h : Cells W A xs) => cnWeight_any A c xs W hl hcap h hb
    obtain ⟨g, hg⟩ : ∃ g, g = wgt xs xs.length := ⟨_, rfl⟩
    rw [← hg] at HW ⊢
    clear hb hg
    go_enter Try.func58, Try.ntmps58
    go_wp2_with (first | (go_at_call 115; refine (cnCycles_b _ _ _ 12 _ (by decide) hl hc _ HB.out).mono ?_; rintro e w' ⟨rfl, n, rfl⟩) | (go_at_call 122; refine (HW.out _ (by exact hc)).mono ?_; rintro e w' ⟨rfl, rfl⟩))
    go_ret2
    exact ⟨rfl, below_drew' _ _⟩
theorem impl_ClassWeight {B : Nat} (A : Option Addr) (c : Nat) (xs : List Int) (w : World) (hl : xs.length ≤ 1048576) (ho : Own w B A c xs) :
    Calls Try.prog 59 #[.slice A xs.length c] w fun e w' => e = .returned (.tuple #[.int .i64 (wgtF xs), .bool (cycB xs)]) ∧ Below w.heap.size w w' := impl_ClassWeight' A c xs w hl ho.cells
end Go.Proofs.Ytmbfobcbnnalbaa
