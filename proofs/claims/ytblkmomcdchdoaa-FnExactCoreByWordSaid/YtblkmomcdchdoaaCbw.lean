/-
  Contracts: CoreByWord on both sides.
-/
import Derived.Test.YtblkmomcdchdoaaRfDn
import Derived.Test.YtblkmomcdchdoaaIns
import Derived.Test.YtblkmomcdchdoaaRfT
import Derived.Test.YtblkmomcdchdoaaRfC
import Derived.Test.YtblkmomcdchdoaaChnMath
namespace Go.Proofs.Ytblkmomcdchdoaa
open Go.RowKit

theorem core_nil {t : Int} (h : inB 2 6 t = true) : isCoreF [] t = true := by
  refine Dn_core (by unfold crB; rw [h, (good_iff []).2 good_nil]; rfl) fun r => ?_
  have ht := inB_iff.1 h
  refine ⟨r + t.toNat, ?_⟩
  unfold num
  simp; omega
/-- What the letters make of a core. -/
def cbw (t : Int) : List Int → List Int → Option (List Int)
  | p, [] => some p
  | p, i :: u => if rsB t i && good (rfL p t.toNat i) then cbw t (rfL p t.toNat i) u else none
theorem cbw_drop (t : Int) (p word : List Int) (k : Nat) (h : k < word.length) : cbw t p (word.drop k) = if rsB t (word.getD k 0) && good (rfL p t.toNat (word.getD k 0)) then cbw t (rfL p t.toNat (word.getD k 0)) (word.drop (k + 1)) else none := by
  rw [drop_cons word k h, cbw]
theorem cbw_all {t : Int} : ∀ (word p q : List Int), cbw t p word = some q → word.all (rsB t) = true
  | [], _, _, _ => rfl
  | i :: u, p, q, h => by
    rw [cbw] at h
    split at h
    · rename_i hh
      rw [Bool.and_eq_true] at hh
      rw [List.all_cons, hh.1, cbw_all u _ q h]; rfl
    · cases h
theorem rsB_in (t i : Int) : rsB t i = inB 0 (t - 1) i := by
  unfold rsB inB
  congr 1
  exact decide_eq_decide.2 (by omega)
def cbO (t : Int) (word : List Int) : Option (List Int) := if inB 2 6 t && decide (word.length ≤ 40) then cbw t [] word else none
def cbwL (t : Int) (word : List Int) : List Int := (cbO t word).getD []
def cbwB (t : Int) (word : List Int) : Bool := (cbO t word).isSome
theorem cbO_yes {t : Int} {word : List Int} (h1 : inB 2 6 t = true) (h2 : word.length ≤ 40) {o : Option (List Int)} (h : cbw t [] word = o) : cbwL t word = o.getD [] ∧ cbwB t word = o.isSome := by
  have : cbO t word = o := by unfold cbO; rw [h1, decide_eq_true h2]; exact h
  exact ⟨by unfold cbwL; rw [this], by unfold cbwB; rw [this]⟩
theorem cbO_no {t : Int} {word : List Int} (h : (inB 2 6 t && decide (word.length ≤ 40)) = false) : cbwL t word = [] ∧ cbwB t word = false := by
  have : cbO t word = none := by unfold cbO; rw [h]; rfl
  exact ⟨by unfold cbwL; rw [this]; rfl, by unfold cbwB; rw [this]; rfl⟩
theorem cbw_len {t : Int} : ∀ (word p q : List Int), p.length ≤ 30 → cbw t p word = some q → q.length ≤ 30
  | [], p, q, hp, h => by simp [cbw] at h; subst h; exact hp
  | i :: u, p, q, _, h => by
    rw [cbw] at h
    split at h
    · rename_i hh
      rw [Bool.and_eq_true] at hh
      exact cbw_len u _ q ((good_iff _).1 hh.2).len h
    · cases h
theorem bound_CoreByWord (t : Int) (word : List Int) : (cbwL t word).length ≤ 1048576 := by
  unfold cbwL cbO
  split
  · cases h : cbw t [] word with
    | none => simp
    | some q => have := cbw_len _ _ _ (by simp) h; simp only [Option.getD_some]; omega
  · simp

set_option maxRecDepth 100000 in
set_option maxHeartbeats 4000000 in
theorem impl_CoreByWord (t : Int) (A : Option Addr) (c : Nat) (xs : List Int) (w : World) (h64 : I64 t) (hl : xs.length ≤ 1048576) (hc : Cells w A xs) :
    Calls Try.prog 57 #[.int .i64 t, .slice A xs.length c] w fun e w' => ∃ A' c', e = .returned (.tuple #[.slice A' (cbwL t xs).length c', .bool (cbwB t xs)]) ∧ Own w' w.heap.size A' c' (cbwL t xs) ∧ Below w.heap.size w w' := by
  cases ht : inB 2 6 t
  · obtain ⟨e1, e2⟩ := cbO_no (t := t) (word := xs) (by rw [ht]; rfl)
    rw [e1, e2]
    have HT := hid ht
    clear ht e1 e2
    go_enter Try.func57, Try.ntmps57
    go_wp2_with (go_at_call 82; refine (hasRunners_b _ _ _ HT.out).mono ?_; rintro e w' ⟨rfl, rfl⟩)
    go_ret2
    exact ⟨none, 0, rfl, own_nil _ _, Below.refl _ _⟩
  have HT := hid ht
  by_cases h40 : xs.length ≤ 40
  · have HY := hid fun o (h : cbw t [] xs = o) => cbO_yes ht h40 h
    obtain ⟨S, hS⟩ : ∃ S, S = cbwL t xs := ⟨_, rfl⟩
    obtain ⟨sb, hsb⟩ : ∃ sb, sb = cbwB t xs := ⟨_, rfl⟩
    rw [← hS, ← hsb] at HY ⊢
    have HNIL := hid (core_nil ht)
    have htt : ((t.toNat : Nat) : Int) = t := by have := inB_iff.1 ht; omega
    have HTT := hid htt
    clear hS hsb ht htt
    go_enter Try.func57, Try.ntmps57
    go_wp2_with (go_at_call 82; refine (hasRunners_b _ _ _ HT.out).mono ?_; rintro e w' ⟨rfl, rfl⟩)
    go_loopw [6, 21] (fun v i wr => ∃ (k : Nat) (p : List Int) (A' : Option Addr) (c' : Nat), k ≤ xs.length ∧ i = .int .i64 k ∧ v = .slice A' p.length c' ∧ Hid (p.length ≤ 30) ∧ Hid (isCoreF p t = true) ∧ Hid (cbw t [] xs = cbw t p (xs.drop k)) ∧ Hid (Own wr w.heap.size A' c' p) ∧ Below w.heap.size w wr) (fun _ i _ => xs.length - (intOf i).toNat)
    case atStart => exact ⟨0, [], none, 0, Nat.zero_le _, rfl, rfl, hid (by simp), HNIL, hid rfl, hid (own_nil _ _), Below.refl _ _⟩
    case round =>
      obtain ⟨k, p, A', c', hk, rfl, rfl, HPL, HCO, HS, HO, hbel⟩ := hrel
      by_cases hlt : k < xs.length
      · obtain ⟨b, o, rfl, hcc⟩ := (hc.later hbel) (by omega)
        have hck := hcc k hlt
        have hsd := cbw_drop t p xs k hlt
        rw [← HS.out] at hsd
        obtain ⟨x, hx⟩ : ∃ x, x = xs.getD k 0 := ⟨_, rfl⟩
        rw [← hx] at hck hsd
        have HRC := hid (impl_ReflectCore' A' c' p t x wr (by have := HPL.out; omega) HO.out h64)
        have hro : rfOk p t x = (rsB t x && good (rfL p t.toNat x)) := by unfold rfOk; rw [HCO.out, Bool.true_and]
        have HSD := hid hsd
        clear hcc hx hsd
        cases ho : rfOk p t x
        · rw [ho] at HRC hro
          obtain ⟨e1, e2⟩ := HY.out none (by rw [HSD.out, ← hro]; rfl)
          have E1 := hid e1; have E2 := hid e2
          obtain ⟨z, hz⟩ : ∃ z, z = rfF p t x := ⟨_, rfl⟩
          rw [← hz] at HRC
          clear ho hro e1 e2 hz
          go_wp2_with (go_at_call 53; refine HRC.out.mono ?_; rintro e w2 ⟨A2, c2, rfl, o2, b2⟩)
          go_ret2
          exact ⟨none, 0, by rw [E1.out, E2.out]; rfl, by rw [E1.out]; exact own_nil _ _, hbel.trans (b2.mono hbel.size)⟩
        · rw [rf_yes ho] at HRC
          rw [ho] at HRC hro
          have hgd : good (rfL p t.toNat x) = true := by
            have := hro.symm
            rw [Bool.and_eq_true] at this; exact this.2
          have HLZ := hid ((good_iff _).1 hgd).len
          have hcz := rf_core (p := p) (t := t.toNat) (i := x) (by rw [HTT.out]; exact HCO.out) hgd
          rw [HTT.out] at hcz
          have HCZ := hid hcz
          have HSZ := hid (show cbw t [] xs = cbw t (rfL p t.toNat x) (xs.drop (k + 1)) by rw [HSD.out, ← hro]; rfl)
          obtain ⟨z, hz⟩ : ∃ z, z = rfL p t.toNat x := ⟨_, rfl⟩
          rw [← hz] at HRC HLZ HCZ HSZ
          clear ho hro hgd hcz hz HSD
          go_wp2_with (go_at_call 53; refine HRC.out.mono ?_; rintro e w2 ⟨A2, c2, rfl, o2, b2⟩)
          go_roundw
          case rel => exact ⟨k + 1, z, A2, c2, by omega, by go_num, rfl, HLZ, HCZ, HSZ, hid (o2.more hbel.size), hbel.trans (b2.mono hbel.size)⟩
          case measure => simp [intOf]; omega
      · have hkl : k = xs.length := by omega
        subst hkl
        obtain ⟨e1, e2⟩ := HY.out (some p) (by rw [HS.out, List.drop_length]; rfl)
        have E1 := hid e1; have E2 := hid e2
        clear e1 e2
        go_wp2_with fail
        go_ret2
        exact ⟨A', c', by rw [E1.out, E2.out]; rfl, by rw [E1.out]; exact HO.out, hbel⟩
  · obtain ⟨e1, e2⟩ := cbO_no (t := t) (word := xs) (by rw [decide_eq_false h40, Bool.and_false])
    rw [e1, e2]
    have h40' : 40 < xs.length := by omega
    clear ht e1 e2
    go_enter Try.func57, Try.ntmps57
    go_wp2_with (go_at_call 82; refine (hasRunners_b _ _ _ HT.out).mono ?_; rintro e w' ⟨rfl, rfl⟩)
    go_ret2
    exact ⟨none, 0, rfl, own_nil _ _, Below.refl _ _⟩

set_option maxRecDepth 100000 in
set_option maxHeartbeats 4000000 in
theorem spec_CoreByWord (t : Int) (A : Option Addr) (c : Nat) (xs : List Int) (w : World) (_ : I64 t) (hl : xs.length ≤ 1048576) (hc : Cells w A xs) :
    Calls Try.prog 56 #[.int .i64 t, .slice A xs.length c] w fun e w' => ∃ A' c', e = .returned (.tuple #[.slice A' (cbwL t xs).length c', .bool (cbwB t xs)]) ∧ Own w' w.heap.size A' c' (cbwL t xs) ∧ Below w.heap.size w w' := by
  cases ht : inB 2 6 t
  · obtain ⟨e1, e2⟩ := cbO_no (t := t) (word := xs) (by rw [ht]; rfl)
    rw [e1, e2]
    have HT := hid ht
    clear ht e1 e2
    go_enter Try.func56, Try.ntmps56
    go_wp2_with (go_at_call 97; refine (chRunners_b _ _ _ HT.out).mono ?_; rintro e w' ⟨rfl, rfl⟩)
    go_ret2
    exact ⟨none, 0, rfl, own_nil _ _, Below.refl _ _⟩
  have HT := hid ht
  by_cases h40 : xs.length ≤ 40
  · have HY := hid fun o (h : cbw t [] xs = o) => cbO_yes ht h40 h
    obtain ⟨S, hS⟩ : ∃ S, S = cbwL t xs := ⟨_, rfl⟩
    obtain ⟨sb, hsb⟩ : ∃ sb, sb = cbwB t xs := ⟨_, rfl⟩
    rw [← hS, ← hsb] at HY ⊢
    have htb := inB_iff.1 ht
    clear hS hsb
    cases ha : xs.all (inB 0 (t - 1))
    · obtain ⟨e1, e2⟩ := HY.out none (by
        cases hw : cbw t [] xs with
        | none => rfl
        | some q =>
          exfalso
          have h1 := cbw_all _ _ _ hw
          rw [show rsB t = inB 0 (t - 1) from funext fun i => rsB_in t i, ha] at h1
          cases h1)
      have E1 := hid e1; have E2 := hid e2
      have HA := hid ha
      clear ha e1 e2 ht
      go_enter Try.func56, Try.ntmps56
      go_wp2_with (first | (go_at_call 97; refine (chRunners_b _ _ _ HT.out).mono ?_; rintro e w' ⟨rfl, rfl⟩) | (go_at_call 98; refine (l1All_b _ _ _ _ _ _ hl hc _ HA.out).mono ?_; rintro e w' ⟨rfl, rfl⟩))
      go_ret2
      exact ⟨none, 0, by rw [E1.out, E2.out]; rfl, by rw [E1.out]; exact own_nil _ _, Below.refl _ _⟩
    · have HA := hid ha
      have HIN := hid fun k (hk : k < xs.length) => (show rsB t (xs.getD k 0) = true by
        rw [rsB_in, List.getD_eq_getElem?_getD, List.getElem?_eq_getElem hk]
        exact List.all_eq_true.1 ha _ (List.getElem_mem hk))
      obtain ⟨T, hT⟩ : ∃ T : Nat, t = T := ⟨t.toNat, by omega⟩
      subst hT
      have hT26 : 2 ≤ T ∧ T ≤ 6 := by omega
      clear ha ht htb
      go_enter Try.func56, Try.ntmps56
      go_wp2_with (first | (go_at_call 97; refine (chRunners_b _ _ _ HT.out).mono ?_; rintro e w' ⟨rfl, rfl⟩) | (go_at_call 98; refine (l1All_b _ _ _ _ _ _ hl hc _ HA.out).mono ?_; rintro e w' ⟨rfl, rfl⟩))
      go_loopw [6, 26] (fun v i wr => ∃ (k : Nat) (p : List Int) (A' : Option Addr) (c' : Nat), k ≤ xs.length ∧ i = .int .i64 k ∧ v = .slice A' p.length c' ∧ Hid (Good p) ∧ Hid (cbw T [] xs = cbw T p (xs.drop k)) ∧ Hid (Own wr w.heap.size A' c' p) ∧ Below w.heap.size w wr) (fun _ i _ => xs.length - (intOf i).toNat)
      case atStart => exact ⟨0, [], none, 0, Nat.zero_le _, rfl, rfl, hid good_nil, hid rfl, hid (own_nil _ _), Below.refl _ _⟩
      case round =>
        obtain ⟨k, p, A', c', hk, rfl, rfl, HG, HS, HO, hbel⟩ := hrel
        by_cases hlt : k < xs.length
        · obtain ⟨b, o, rfl, hcc⟩ := (hc.later hbel) (by omega)
          have hck := hcc k hlt
          have hsd := cbw_drop T p xs k hlt
          rw [← HS.out, HIN.out k hlt, Bool.true_and, Int.toNat_natCast] at hsd
          have hin := HIN.out k hlt
          obtain ⟨x, hx⟩ : ∃ x, x = xs.getD k 0 := ⟨_, rfl⟩
          rw [← hx] at hck hsd hin
          have hxb : 0 ≤ x ∧ x ≤ 5 := by rw [rsB_in] at hin; have := inB_iff.1 hin; omega
          have HRC := hid (chReflect_any T x A' c' p wr HG.out hT26 hxb HO.out)
          have HSD := hid hsd
          have hrl := rfK_le p T x
          have hzl : (rfL p T x).length ≤ 31 := by unfold rfL; rw [fnRow_len]; have := HG.out.len; omega
          obtain ⟨z, hz⟩ : ∃ z, z = rfL p T x := ⟨_, rfl⟩
          rw [← hz] at HRC HSD hzl
          obtain ⟨gb, hgb⟩ : ∃ gb, gb = grw p T x := ⟨_, rfl⟩
          rw [← hgb] at HRC
          clear hcc hx hsd hin hxb hz hgb hrl
          cases hg : good z
          · have HGZ := hid fun W A2 c2 (h : Cells W A2 z) => ptGood_b A2 z c2 W (by omega) h _ hg
            obtain ⟨e1, e2⟩ := HY.out none (by rw [HSD.out, hg]; rfl)
            have E1 := hid e1; have E2 := hid e2
            clear hg e1 e2
            go_wp2_with (first | (go_at_call 92; refine HRC.out.mono ?_; rintro e w2 ⟨A2, c2, rfl, o2, b2⟩) | (go_at_call 64; refine (HGZ.out _ _ _ o2.cells).mono ?_; rintro e w' ⟨rfl, nd, rfl⟩))
            go_ret2
            exact ⟨none, 0, by rw [E1.out, E2.out]; rfl, by rw [E1.out]; exact own_nil _ _, (hbel.trans (b2.mono hbel.size)).trans (Below.mono (below_drew' _ nd) (hbel.trans (b2.mono hbel.size)).size)⟩
          · have HGZ := hid fun W A2 c2 (h : Cells W A2 z) => ptGood_b A2 z c2 W (by omega) h _ hg
            have HGz := hid ((good_iff z).1 hg)
            have HSZ := hid (show cbw T [] xs = cbw T z (xs.drop (k + 1)) by rw [HSD.out, hg]; rfl)
            clear hg HSD
            go_wp2_with (first | (go_at_call 92; refine HRC.out.mono ?_; rintro e w2 ⟨A2, c2, rfl, o2, b2⟩) | (go_at_call 64; refine (HGZ.out _ _ _ o2.cells).mono ?_; rintro e w' ⟨rfl, nd, rfl⟩))
            go_roundw
            case rel => exact ⟨k + 1, z, A2, c2, by omega, by go_num, rfl, HGz, HSZ, hid ((o2.more hbel.size).below (below_drew' _ nd)), (hbel.trans (b2.mono hbel.size)).trans (Below.mono (below_drew' _ nd) (hbel.trans (b2.mono hbel.size)).size)⟩
            case measure => simp [intOf]; omega
        · have hkl : k = xs.length := by omega
          subst hkl
          obtain ⟨e1, e2⟩ := HY.out (some p) (by rw [HS.out, List.drop_length]; rfl)
          have E1 := hid e1; have E2 := hid e2
          clear e1 e2
          go_wp2_with fail
          go_ret2
          exact ⟨A', c', by rw [E1.out, E2.out]; rfl, by rw [E1.out]; exact HO.out, hbel⟩
  · obtain ⟨e1, e2⟩ := cbO_no (t := t) (word := xs) (by rw [decide_eq_false h40, Bool.and_false])
    rw [e1, e2]
    have h40' : 40 < xs.length := by omega
    clear ht e1 e2
    go_enter Try.func56, Try.ntmps56
    go_wp2_with (go_at_call 97; refine (chRunners_b _ _ _ HT.out).mono ?_; rintro e w' ⟨rfl, rfl⟩)
    go_ret2
    exact ⟨none, 0, rfl, own_nil _ _, Below.refl _ _⟩
end Go.Proofs.Ytblkmomcdchdoaa
