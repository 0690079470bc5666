/-
  Contracts: the number of ways from one partition to another, by the model.
-/
import Derived.Test.YtmbfobcbnnalbaaNbMath
import Derived.Test.YtmbfobcbnnalbaaChn
import Derived.Test.YtmbfobcbnnalbaaSame
namespace Go.Proofs.Ytmbfobcbnnalbaa
open Go.RowKit

set_option maxHeartbeats 1000000 in
theorem cnInside_any (A : Option Addr) (c : Nat) (xs : List Int) (B : Option Addr) (d : Nat) (ys : List Int) (w : World) (hl : xs.length ≤ 1048576) (hc : Cells w A xs) (hl2 : ys.length ≤ 1048576) (hd : Cells w B ys) :
    Calls Try.prog 171 #[.slice A xs.length c, .slice B ys.length d] w fun e w' => e = .returned (.bool (insideB xs ys)) ∧ w = w' := by
  by_cases hlen : ys.length < xs.length
  · rw [inside_no_len hlen]
    go_enter Try.func171, Try.ntmps171
    go_wp2_with fail
    go_ret
    exact ⟨rfl, rfl⟩
  go_enter Try.func171, Try.ntmps171
  go_wp2_with fail
  go_loop [14] (fun i => ∃ k : Nat, k ≤ xs.length ∧ i = .int .i64 k ∧ Hid (∀ j, j < k → xs.getD j 0 ≤ ys.getD j 0)) (fun i => xs.length - (intOf i).toNat)
  case atStart => exact ⟨0, Nat.zero_le _, rfl, hid fun j hj => absurd hj (by omega)⟩
  case round =>
    obtain ⟨k, hk, rfl, HK⟩ := hrel
    by_cases hlt : k < xs.length
    · obtain ⟨b, o, rfl, hcc⟩ := hc (by omega)
      obtain ⟨b2, o2, rfl, hdd⟩ := hd (by omega)
      have hck := hcc k hlt
      have hdk := hdd k (by omega)
      clear hcc hdd
      obtain ⟨x, hx⟩ : ∃ x, x = xs.getD k 0 := ⟨_, rfl⟩
      obtain ⟨y, hy⟩ : ∃ y, y = ys.getD k 0 := ⟨_, rfl⟩
      rw [← hx] at hck
      rw [← hy] at hdk
      have HX := hid hx; clear hx
      have HY := hid hy; clear hy
      have hk2 : (k : Int) < ys.length := by omega
      by_cases hxy : x ≤ y
      · go_wp2_with fail
        go_round
        case rel =>
          refine ⟨k + 1, by omega, by go_num, hid fun j hj => ?_⟩
          by_cases hjk : j < k
          · exact HK.out j hjk
          · have : j = k := by omega
            subst this; rw [← HX.out, ← HY.out]; exact hxy
        case measure => simp [intOf]; omega
      · go_wp2_with fail
        go_ret
        exact ⟨by rw [inside_no hlt (by rw [← HX.out, ← HY.out]; omega)]; rfl, rfl⟩
    · go_wp2_with fail
      go_ret
      exact ⟨by rw [inside_yes (by omega) fun j hj => HK.out j (by omega)]; rfl, rfl⟩
theorem cnInside_b (A : Option Addr) (c : Nat) (xs : List Int) (B : Option Addr) (d : Nat) (ys : List Int) (w : World) (hl : xs.length ≤ 1048576) (hc : Cells w A xs) (hl2 : ys.length ≤ 1048576) (hd : Cells w B ys) (b : Bool) (h : insideB xs ys = b) :
    Calls Try.prog 171 #[.slice A xs.length c, .slice B ys.length d] w fun e w' => e = .returned (.bool b) ∧ w = w' := by
  subst h; exact cnInside_any A c xs B d ys w hl hc hl2 hd

set_option maxRecDepth 100000 in
set_option maxHeartbeats 4000000 in
theorem cnBetween_any (A2 : Option Addr) (c2 : Nat) (q : List Int) (Gq : Good q) (h12 : q.sum ≤ 12) : ∀ (f : Nat) {B : Nat} (A : Option Addr) (c : Nat) (p : List Int) (w : World), (q.sum - p.sum).toNat < f → Good p → Own w B A c p → Cells w A2 q →
    Calls Try.prog 97 #[.slice A p.length c, .slice A2 q.length c2] w fun e w' => e = .returned (.int .i64 (nbF p q)) ∧ Below w.heap.size w w'
  | 0, _, _, _, _, _, h, _, _, _ => absurd h (by omega)
  | f + 1, B, A, c, p, w, hf, G, ho, hc2 => by
    have hc := ho.cells
    have hll := G.len
    have hll2 := Gq.len
    cases hi : insideB p q
    · rw [nbF_out G Gq h12 fun h => by rw [ins_iff.2 h] at hi; cases hi]
      have HI := hid (cnInside_b A c p A2 c2 q w (by omega) hc (by omega) hc2 _ hi)
      clear hi
      go_enter Try.func97, Try.ntmps97
      go_wp2_with (go_at_call 171; refine HI.out.mono ?_; rintro e w' ⟨rfl, rfl⟩)
      go_ret
      exact ⟨rfl, Below.refl _ _⟩
    have hin := ins_iff.1 hi
    have HI := hid (cnInside_b A c p A2 c2 q w (by omega) hc (by omega) hc2 _ hi)
    by_cases hpq : p = q
    · have HS := hid (l1Same_b A A2 c c2 p q w (by omega) (by omega) hc hc2 true (by simp [hpq]))
      rw [show nbF p q = 1 by rw [hpq]; exact nbF_self q]
      clear hi hin hpq
      go_enter Try.func97, Try.ntmps97
      go_wp2_with (first | (go_at_call 171; refine HI.out.mono ?_; rintro e w' ⟨rfl, rfl⟩) | (go_at_call 110; refine HS.out.mono ?_; rintro e w' ⟨rfl, n, rfl⟩))
      go_ret
      exact ⟨rfl, below_drew' _ _⟩
    · have HS := hid (l1Same_b A A2 c c2 p q w (by omega) (by omega) hc hc2 false (by simp [hpq]))
      obtain ⟨h1, h2⟩ := ins_sum p q hin Gq.pos
      have hlt : p.sum < q.sum := by
        rcases Int.lt_or_eq_of_le h1 with h | h
        · exact h
        · exact absurd (h2 h) hpq
      have hps := G.sum0
      rw [nbF_in G Gq h12 hin hpq]
      have HAD := hid fun W (h : Cells W A p) => ptAddable_any A c p W hll h
      have hfl := filt_len (addB p) (p.length + 1)
      have HST := hid fun k (hk : k < (filt (addB p) (p.length + 1)).length) => (show ∃ z : List Int, z = incL p ((filt (addB p) (p.length + 1)).getD k 0).toNat ∧ stepB p ((filt (addB p) (p.length + 1)).getD k 0) = true ∧ Good z ∧ (q.sum - z.sum).toNat < f by
        have hm : (filt (addB p) (p.length + 1)).getD k 0 ∈ filt (addB p) (p.length + 1) := by
          rw [List.getD_eq_getElem?_getD, List.getElem?_eq_getElem hk]; exact List.getElem_mem hk
        obtain ⟨r, e, hr, hb⟩ := add_at hm
        rw [e, Int.toNat_natCast]
        refine ⟨_, rfl, stepB_iff.2 ⟨r, rfl, hr, hb⟩, inc_Good G (by omega) hr hb, ?_⟩
        rw [inc_sum p r hr]; omega)
      have HCA := hid fun (r : Int) W (h : Own W B A c p) => cnAdd_any A c p r W hll G.bd h
      have HSW := hid fun k => (show swI (fun r => nbF (incL p r.toNat) q) (filt (addB p) (p.length + 1)) (k + 1) = wrap64 (swI (fun r => nbF (incL p r.toNat) q) (filt (addB p) (p.length + 1)) k + nbF (incL p ((filt (addB p) (p.length + 1)).getD k 0).toNat) q) from rfl)
      obtain ⟨L, hL⟩ : ∃ L, L = filt (addB p) (p.length + 1) := ⟨_, rfl⟩
      rw [← hL] at HAD hfl HST HSW ⊢
      obtain ⟨S, hS⟩ : ∃ S, S = swI (fun r => nbF (incL p r.toNat) q) L := ⟨_, rfl⟩
      have HS0 := hid (show S 0 = 0 by rw [hS]; rfl)
      rw [← hS] at HSW ⊢
      have HIH := hid fun A' c' z W B' (h1 : (q.sum - z.sum).toNat < f) (h2 : Good z) (h3 : Own W B' A' c' z) (h4 : Cells W A2 q) => cnBetween_any A2 c2 q Gq h12 f A' c' z W h1 h2 h3 h4
      have HO := hid ho
      clear hi hin hpq hL hS h1 h2 hlt hps G Gq ho hf
      go_enter Try.func97, Try.ntmps97
      go_wp2_with (first | (go_at_call 171; refine HI.out.mono ?_; rintro e w' ⟨rfl, rfl⟩) | (go_at_call 110; refine HS.out.mono ?_; rintro e w' ⟨rfl, n, rfl⟩) | (go_at_call 106; refine (HAD.out _ (by exact hc)).mono ?_; rintro e w3 ⟨A3, c3, rfl, o3, b3⟩))
      have HB3 := hid (Below.next (below_drew' w n) b3)
      have HC3 := hid o3.cells
      have hs3 := HB3.out.size
      clear b3 o3
      go_loopw [5, 20] (fun v i wr => ∃ k : Nat, k ≤ L.length ∧ i = .int .i64 k ∧ v = .int .i64 (S k) ∧ Hid (Below w3.heap.size w3 wr)) (fun _ i _ => L.length - (intOf i).toNat)
      case atStart => exact ⟨0, Nat.zero_le _, rfl, by rw [HS0.out], hid (Below.refl _ _)⟩
      case round =>
        obtain ⟨k, hk, rfl, rfl, HB⟩ := hrel
        by_cases hlt : k < L.length
        · obtain ⟨b, o, rfl, hcc⟩ := (HC3.out.later HB.out) (by omega)
          have hck := hcc k hlt
          obtain ⟨z, hz, hst, Gz, hzs⟩ := HST.out k hlt
          have HSW' := hid (HSW.out k)
          have hbw := HB3.out.trans (HB.out.mono hs3)
          have HOW := hid (HO.out.below hbw)
          have HQ := hid (hc2.later hbw)
          obtain ⟨r, hr⟩ : ∃ r, r = L.getD k 0 := ⟨_, rfl⟩
          rw [← hr] at hck hz hst HSW'
          rw [← hz] at HSW'
          have HCA' := HCA.out r wr HOW.out
          rw [hst, if_pos rfl, ← hz] at HCA'
          have HCA2 := hid HCA'
          have HIH' := hid fun A' c' W B' (h3 : Own W B' A' c' z) (h4 : Cells W A2 q) => HIH.out A' c' z W B' hzs Gz h3 h4
          obtain ⟨v, hv⟩ : ∃ v, v = nbF z q := ⟨_, rfl⟩
          rw [← hv] at HIH' HSW'
          have hsum : IntKind.i64.wrap (S k + v) = S (k + 1) := by rw [HSW'.out]; exact IntWalk.i64_left _
          clear hcc hz hst Gz hzs hr hv HCA' hbw
          go_wp2_with fail
          refine HCA2.out.mono ?_
          rintro e w5 ⟨A5, c5, rfl, o5, b5⟩
          go_wp2_with fail
          refine (HIH'.out A5 c5 w5 _ o5 (HQ.out.later b5)).mono ?_
          rintro e w6 ⟨rfl, b6⟩
          have HB6 := hid (HB.out.trans (Below.mono (Below.next b5 b6) HB.out.size))
          clear o5 b5 b6
          go_wp2_with fail
          go_roundw
          case rel => exact ⟨k + 1, by omega, by go_num, by first | rw [HSW'.out] | rw [hsum], HB6.out⟩
          case measure => simp [intOf]; omega
        · have hkl : k = L.length := by omega
          subst hkl
          have hbe := HB3.out.trans (HB.out.mono HB3.out.size)
          go_wp2_with fail
          go_ret
          exact ⟨rfl, hbe⟩
end Go.Proofs.Ytmbfobcbnnalbaa
