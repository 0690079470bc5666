/-
  Several texts in one.
-/
import Derived.Test.YthkkiakfmbnfeaaR18
import Derived.Test.YthkkiakfmbnfeaaR11
import Derived.Test.YthkkiakfmbnfeaaR38
import Derived.Test.YthkkiakfmbnfeaaR20
import Derived.Test.YthkkiakfmbnfeaaR34
import Derived.Test.YthkkiakfmbnfeaaR41
import Derived.Test.YthkkiakfmbnfeaaR39
/-
  Contracts: CoreByWord on both sides.
-/
namespace Go.Proofs.Ythkkiakfmbnfeaa
open Go.RowKit

theorem core_nil {t : Int} (h : inB 2 6 t = true) : isCoreF [] t = true := by
  refine Dn_core (by unfold crB; rw [h, (good_iff []).2 good_nil]; rfl) fun r => ?_
  have ht := inB_iff.1 h
  refine ⟨r + t.toNat, ?_⟩
  unfold num
  simp; omega
/-- What the letters make of a core. -/
def cbw (t : Int) : List Int → List Int → Option (List Int)
  | p, [] => some p
  | p, i :: u => if rsB t i && good (rfL p t.toNat i) then cbw t (rfL p t.toNat i) u else none
theorem cbw_drop (t : Int) (p word : List Int) (k : Nat) (h : k < word.length) : cbw t p (word.drop k) = if rsB t (word.getD k 0) && good (rfL p t.toNat (word.getD k 0)) then cbw t (rfL p t.toNat (word.getD k 0)) (word.drop (k + 1)) else none := by
  rw [drop_cons word k h, cbw]
theorem cbw_all {t : Int} : ∀ (word p q : List Int), cbw t p word = some q → word.all (rsB t) = true
  | [], _, _, _ => rfl
  | i :: u, p, q, h => by
    rw [cbw] at h
    split at h
    · rename_i hh
      rw [Bool.and_eq_true] at hh
      rw [List.all_cons, hh.1, cbw_all u _ q h]; rfl
    · cases h
theorem rsB_in (t i : Int) : rsB t i = inB 0 (t - 1) i := by
  unfold rsB inB
  congr 1
  exact decide_eq_decide.2 (by omega)
def cbO (t : Int) (word : List Int) : Option (List Int) := if inB 2 6 t && decide (word.length ≤ 40) then cbw t [] word else none
def cbwL (t : Int) (word : List Int) : List Int := (cbO t word).getD []
def cbwB (t : Int) (word : List Int) : Bool := (cbO t word).isSome
theorem cbO_yes {t : Int} {word : List Int} (h1 : inB 2 6 t = true) (h2 : word.length ≤ 40) {o : Option (List Int)} (h : cbw t [] word = o) : cbwL t word = o.getD [] ∧ cbwB t word = o.isSome := by
  have : cbO t word = o := by unfold cbO; rw [h1, decide_eq_true h2]; exact h
  exact ⟨by unfold cbwL; rw [this], by unfold cbwB; rw [this]⟩
theorem cbO_no {t : Int} {word : List Int} (h : (inB 2 6 t && decide (word.length ≤ 40)) = false) : cbwL t word = [] ∧ cbwB t word = false := by
  have : cbO t word = none := by unfold cbO; rw [h]; rfl
  exact ⟨by unfold cbwL; rw [this]; rfl, by unfold cbwB; rw [this]; rfl⟩
theorem cbw_len {t : Int} : ∀ (word p q : List Int), p.length ≤ 30 → cbw t p word = some q → q.length ≤ 30
  | [], p, q, hp, h => by simp [cbw] at h; subst h; exact hp
  | i :: u, p, q, _, h => by
    rw [cbw] at h
    split at h
    · rename_i hh
      rw [Bool.and_eq_true] at hh
      exact cbw_len u _ q ((good_iff _).1 hh.2).len h
    · cases h
theorem bound_CoreByWord (t : Int) (word : List Int) : (cbwL t word).length ≤ 1048576 := by
  unfold cbwL cbO
  split
  · cases h : cbw t [] word with
    | none => simp
    | some q => have := cbw_len _ _ _ (by simp) h; simp only [Option.getD_some]; omega
  · simp

set_option maxRecDepth 100000 in
set_option maxHeartbeats 4000000 in
theorem impl_CoreByWord (t : Int) (A : Option Addr) (c : Nat) (xs : List Int) (w : World) (h64 : I64 t) (hl : xs.length ≤ 1048576) (hc : Cells w A xs) :
    Calls Try.prog 19 #[.int .i64 t, .slice A xs.length c] w fun e w' => ∃ A' c', e = .returned (.tuple #[.slice A' (cbwL t xs).length c', .bool (cbwB t xs)]) ∧ Own w' w.heap.size A' c' (cbwL t xs) ∧ Below w.heap.size w w' := by
  cases ht : inB 2 6 t
  · obtain ⟨e1, e2⟩ := cbO_no (t := t) (word := xs) (by rw [ht]; rfl)
    rw [e1, e2]
    have HT := hid ht
    clear ht e1 e2
    go_enter Try.func19, Try.ntmps19
    go_wp2_with (go_at_call 29; refine (hasRunners_b _ _ _ HT.out).mono ?_; rintro e w' ⟨rfl, rfl⟩)
    go_ret2
    exact ⟨none, 0, rfl, own_nil _ _, Below.refl _ _⟩
  have HT := hid ht
  by_cases h40 : xs.length ≤ 40
  · have HY := hid fun o (h : cbw t [] xs = o) => cbO_yes ht h40 h
    obtain ⟨S, hS⟩ : ∃ S, S = cbwL t xs := ⟨_, rfl⟩
    obtain ⟨sb, hsb⟩ : ∃ sb, sb = cbwB t xs := ⟨_, rfl⟩
    rw [← hS, ← hsb] at HY ⊢
    have HNIL := hid (core_nil ht)
    have htt : ((t.toNat : Nat) : Int) = t := by have := inB_iff.1 ht; omega
    have HTT := hid htt
    clear hS hsb ht htt
    go_enter Try.func19, Try.ntmps19
    go_wp2_with (go_at_call 29; refine (hasRunners_b _ _ _ HT.out).mono ?_; rintro e w' ⟨rfl, rfl⟩)
    go_loopw [6, 21] (fun v i wr => ∃ (k : Nat) (p : List Int) (A' : Option Addr) (c' : Nat), k ≤ xs.length ∧ i = .int .i64 k ∧ v = .slice A' p.length c' ∧ Hid (p.length ≤ 30) ∧ Hid (isCoreF p t = true) ∧ Hid (cbw t [] xs = cbw t p (xs.drop k)) ∧ Hid (Own wr w.heap.size A' c' p) ∧ Below w.heap.size w wr) (fun _ i _ => xs.length - (intOf i).toNat)
    case atStart => exact ⟨0, [], none, 0, Nat.zero_le _, rfl, rfl, hid (by simp), HNIL, hid rfl, hid (own_nil _ _), Below.refl _ _⟩
    case round =>
      obtain ⟨k, p, A', c', hk, rfl, rfl, HPL, HCO, HS, HO, hbel⟩ := hrel
      by_cases hlt : k < xs.length
      · obtain ⟨b, o, rfl, hcc⟩ := (hc.later hbel) (by omega)
        have hck := hcc k hlt
        have hsd := cbw_drop t p xs k hlt
        rw [← HS.out] at hsd
        obtain ⟨x, hx⟩ : ∃ x, x = xs.getD k 0 := ⟨_, rfl⟩
        rw [← hx] at hck hsd
        have HRC := hid (impl_ReflectCore' A' c' p t x wr (by have := HPL.out; omega) HO.out h64)
        have hro : rfOk p t x = (rsB t x && good (rfL p t.toNat x)) := by unfold rfOk; rw [HCO.out, Bool.true_and]
        have HSD := hid hsd
        clear hcc hx hsd
        cases ho : rfOk p t x
        · rw [ho] at HRC hro
          obtain ⟨e1, e2⟩ := HY.out none (by rw [HSD.out, ← hro]; rfl)
          have E1 := hid e1; have E2 := hid e2
          obtain ⟨z, hz⟩ : ∃ z, z = rfF p t x := ⟨_, rfl⟩
          rw [← hz] at HRC
          clear ho hro e1 e2 hz
          go_wp2_with (go_at_call 9; refine HRC.out.mono ?_; rintro e w2 ⟨A2, c2, rfl, o2, b2⟩)
          go_ret2
          exact ⟨none, 0, by rw [E1.out, E2.out]; rfl, by rw [E1.out]; exact own_nil _ _, hbel.trans (b2.mono hbel.size)⟩
        · rw [rf_yes ho] at HRC
          rw [ho] at HRC hro
          have hgd : good (rfL p t.toNat x) = true := by
            have := hro.symm
            rw [Bool.and_eq_true] at this; exact this.2
          have HLZ := hid ((good_iff _).1 hgd).len
          have hcz := rf_core (p := p) (t := t.toNat) (i := x) (by rw [HTT.out]; exact HCO.out) hgd
          rw [HTT.out] at hcz
          have HCZ := hid hcz
          have HSZ := hid (show cbw t [] xs = cbw t (rfL p t.toNat x) (xs.drop (k + 1)) by rw [HSD.out, ← hro]; rfl)
          obtain ⟨z, hz⟩ : ∃ z, z = rfL p t.toNat x := ⟨_, rfl⟩
          rw [← hz] at HRC HLZ HCZ HSZ
          clear ho hro hgd hcz hz HSD
          go_wp2_with (go_at_call 9; refine HRC.out.mono ?_; rintro e w2 ⟨A2, c2, rfl, o2, b2⟩)
          go_roundw
          case rel => exact ⟨k + 1, z, A2, c2, by omega, by go_num, rfl, HLZ, HCZ, HSZ, hid (o2.more hbel.size), hbel.trans (b2.mono hbel.size)⟩
          case measure => simp [intOf]; omega
      · have hkl : k = xs.length := by omega
        subst hkl
        obtain ⟨e1, e2⟩ := HY.out (some p) (by rw [HS.out, List.drop_length]; rfl)
        have E1 := hid e1; have E2 := hid e2
        clear e1 e2
        go_wp2_with fail
        go_ret2
        exact ⟨A', c', by rw [E1.out, E2.out]; rfl, by rw [E1.out]; exact HO.out, hbel⟩
  · obtain ⟨e1, e2⟩ := cbO_no (t := t) (word := xs) (by rw [decide_eq_false h40, Bool.and_false])
    rw [e1, e2]
    have h40' : 40 < xs.length := by omega
    clear ht e1 e2
    go_enter Try.func19, Try.ntmps19
    go_wp2_with (go_at_call 29; refine (hasRunners_b _ _ _ HT.out).mono ?_; rintro e w' ⟨rfl, rfl⟩)
    go_ret2
    exact ⟨none, 0, rfl, own_nil _ _, Below.refl _ _⟩

set_option maxRecDepth 100000 in
set_option maxHeartbeats 4000000 in
theorem spec_CoreByWord (t : Int) (A : Option Addr) (c : Nat) (xs : List Int) (w : World) (_ : I64 t) (hl : xs.length ≤ 1048576) (hc : Cells w A xs) :
    Calls Try.prog 20 #[.int .i64 t, .slice A xs.length c] w fun e w' => ∃ A' c', e = .returned (.tuple #[.slice A' (cbwL t xs).length c', .bool (cbwB t xs)]) ∧ Own w' w.heap.size A' c' (cbwL t xs) ∧ Below w.heap.size w w' := by
  cases ht : inB 2 6 t
  · obtain ⟨e1, e2⟩ := cbO_no (t := t) (word := xs) (by rw [ht]; rfl)
    rw [e1, e2]
    have HT := hid ht
    clear ht e1 e2
    go_enter Try.func20, Try.ntmps20
    go_wp2_with (go_at_call 46; refine (chRunners_b _ _ _ HT.out).mono ?_; rintro e w' ⟨rfl, rfl⟩)
    go_ret2
    exact ⟨none, 0, rfl, own_nil _ _, Below.refl _ _⟩
  have HT := hid ht
  by_cases h40 : xs.length ≤ 40
  · have HY := hid fun o (h : cbw t [] xs = o) => cbO_yes ht h40 h
    obtain ⟨S, hS⟩ : ∃ S, S = cbwL t xs := ⟨_, rfl⟩
    obtain ⟨sb, hsb⟩ : ∃ sb, sb = cbwB t xs := ⟨_, rfl⟩
    rw [← hS, ← hsb] at HY ⊢
    have htb := inB_iff.1 ht
    clear hS hsb
    cases ha : xs.all (inB 0 (t - 1))
    · obtain ⟨e1, e2⟩ := HY.out none (by
        cases hw : cbw t [] xs with
        | none => rfl
        | some q =>
          exfalso
          have h1 := cbw_all _ _ _ hw
          rw [show rsB t = inB 0 (t - 1) from funext fun i => rsB_in t i, ha] at h1
          cases h1)
      have E1 := hid e1; have E2 := hid e2
      have HA := hid ha
      clear ha e1 e2 ht
      go_enter Try.func20, Try.ntmps20
      go_wp2_with (first | (go_at_call 46; refine (chRunners_b _ _ _ HT.out).mono ?_; rintro e w' ⟨rfl, rfl⟩) | (go_at_call 47; refine (l1All_b _ _ _ _ _ _ hl hc _ HA.out).mono ?_; rintro e w' ⟨rfl, rfl⟩))
      go_ret2
      exact ⟨none, 0, by rw [E1.out, E2.out]; rfl, by rw [E1.out]; exact own_nil _ _, Below.refl _ _⟩
    · have HA := hid ha
      have HIN := hid fun k (hk : k < xs.length) => (show rsB t (xs.getD k 0) = true by
        rw [rsB_in, List.getD_eq_getElem?_getD, List.getElem?_eq_getElem hk]
        exact List.all_eq_true.1 ha _ (List.getElem_mem hk))
      obtain ⟨T, hT⟩ : ∃ T : Nat, t = T := ⟨t.toNat, by omega⟩
      subst hT
      have hT26 : 2 ≤ T ∧ T ≤ 6 := by omega
      clear ha ht htb
      go_enter Try.func20, Try.ntmps20
      go_wp2_with (first | (go_at_call 46; refine (chRunners_b _ _ _ HT.out).mono ?_; rintro e w' ⟨rfl, rfl⟩) | (go_at_call 47; refine (l1All_b _ _ _ _ _ _ hl hc _ HA.out).mono ?_; rintro e w' ⟨rfl, rfl⟩))
      go_loopw [6, 26] (fun v i wr => ∃ (k : Nat) (p : List Int) (A' : Option Addr) (c' : Nat), k ≤ xs.length ∧ i = .int .i64 k ∧ v = .slice A' p.length c' ∧ Hid (Good p) ∧ Hid (cbw T [] xs = cbw T p (xs.drop k)) ∧ Hid (Own wr w.heap.size A' c' p) ∧ Below w.heap.size w wr) (fun _ i _ => xs.length - (intOf i).toNat)
      case atStart => exact ⟨0, [], none, 0, Nat.zero_le _, rfl, rfl, hid good_nil, hid rfl, hid (own_nil _ _), Below.refl _ _⟩
      case round =>
        obtain ⟨k, p, A', c', hk, rfl, rfl, HG, HS, HO, hbel⟩ := hrel
        by_cases hlt : k < xs.length
        · obtain ⟨b, o, rfl, hcc⟩ := (hc.later hbel) (by omega)
          have hck := hcc k hlt
          have hsd := cbw_drop T p xs k hlt
          rw [← HS.out, HIN.out k hlt, Bool.true_and, Int.toNat_natCast] at hsd
          have hin := HIN.out k hlt
          obtain ⟨x, hx⟩ : ∃ x, x = xs.getD k 0 := ⟨_, rfl⟩
          rw [← hx] at hck hsd hin
          have hxb : 0 ≤ x ∧ x ≤ 5 := by rw [rsB_in] at hin; have := inB_iff.1 hin; omega
          have HRC := hid (chReflect_any T x A' c' p wr HG.out hT26 hxb HO.out)
          have HSD := hid hsd
          have hrl := rfK_le p T x
          have hzl : (rfL p T x).length ≤ 31 := by unfold rfL; rw [fnRow_len]; have := HG.out.len; omega
          obtain ⟨z, hz⟩ : ∃ z, z = rfL p T x := ⟨_, rfl⟩
          rw [← hz] at HRC HSD hzl
          obtain ⟨gb, hgb⟩ : ∃ gb, gb = grw p T x := ⟨_, rfl⟩
          rw [← hgb] at HRC
          clear hcc hx hsd hin hxb hz hgb hrl
          cases hg : good z
          · have HGZ := hid fun W A2 c2 (h : Cells W A2 z) => ptGood_b A2 z c2 W (by omega) h _ hg
            obtain ⟨e1, e2⟩ := HY.out none (by rw [HSD.out, hg]; rfl)
            have E1 := hid e1; have E2 := hid e2
            clear hg e1 e2
            go_wp2_with (first | (go_at_call 33; refine HRC.out.mono ?_; rintro e w2 ⟨A2, c2, rfl, o2, b2⟩) | (go_at_call 34; refine (HGZ.out _ _ _ o2.cells).mono ?_; rintro e w' ⟨rfl, nd, rfl⟩))
            go_ret2
            exact ⟨none, 0, by rw [E1.out, E2.out]; rfl, by rw [E1.out]; exact own_nil _ _, (hbel.trans (b2.mono hbel.size)).trans (Below.mono (below_drew' _ nd) (hbel.trans (b2.mono hbel.size)).size)⟩
          · have HGZ := hid fun W A2 c2 (h : Cells W A2 z) => ptGood_b A2 z c2 W (by omega) h _ hg
            have HGz := hid ((good_iff z).1 hg)
            have HSZ := hid (show cbw T [] xs = cbw T z (xs.drop (k + 1)) by rw [HSD.out, hg]; rfl)
            clear hg HSD
            go_wp2_with (first | (go_at_call 33; refine HRC.out.mono ?_; rintro e w2 ⟨A2, c2, rfl, o2, b2⟩) | (go_at_call 34; refine (HGZ.out _ _ _ o2.cells).mono ?_; rintro e w' ⟨rfl, nd, rfl⟩))
            go_roundw
            case rel => exact ⟨k + 1, z, A2, c2, by omega, by go_num, rfl, HGz, HSZ, hid ((o2.more hbel.size).below (below_drew' _ nd)), (hbel.trans (b2.mono hbel.size)).trans (Below.mono (below_drew' _ nd) (hbel.trans (b2.mono hbel.size)).size)⟩
            case measure => simp [intOf]; omega
        · have hkl : k = xs.length := by omega
          subst hkl
          obtain ⟨e1, e2⟩ := HY.out (some p) (by rw [HS.out, List.drop_length]; rfl)
          have E1 := hid e1; have E2 := hid e2
          clear e1 e2
          go_wp2_with fail
          go_ret2
          exact ⟨A', c', by rw [E1.out, E2.out]; rfl, by rw [E1.out]; exact HO.out, hbel⟩
  · obtain ⟨e1, e2⟩ := cbO_no (t := t) (word := xs) (by rw [decide_eq_false h40, Bool.and_false])
    rw [e1, e2]
    have h40' : 40 < xs.length := by omega
    clear ht e1 e2
    go_enter Try.func20, Try.ntmps20
    go_wp2_with (go_at_call 46; refine (chRunners_b _ _ _ HT.out).mono ?_; rintro e w' ⟨rfl, rfl⟩)
    go_ret2
    exact ⟨none, 0, rfl, own_nil _ _, Below.refl _ _⟩
end Go.Proofs.Ythkkiakfmbnfeaa
/-
  Contracts: CoreWord of the program.
-/
namespace Go.Proofs.Ythkkiakfmbnfeaa
open Go.RowKit

theorem own_apart {w w1 : World} {A : Option Addr} {B c : Nat} {xs : List Int} {row : Option Nat} (h : Own w B A c xs) (hg : w.grownBy w1 row) (hne : ∀ b, row = some b → b < B) : Own w1 B A c xs :=
  h.keep fun b hb hlt => hg.block b hlt (fun e => by have := (h.block b hb).1; have := hne b e.symm; omega)

set_option maxRecDepth 100000 in
set_option maxHeartbeats 4000000 in
theorem firstDescent_anyR (A : Option Addr) (c : Nat) (p : List Int) (t : Nat) (w : World) (hcr : isCoreF p t = true) (h0 : 0 < p.length) (ho : Rd w A c p) :
    Calls Try.prog 44 #[.slice A p.length c, .int .i64 t] w fun e w' => ∃ A' c', e = .returned (.tuple #[.int .i64 (firstC p t : Nat), .slice A' (nextC t p).length c']) ∧ Own w' w.heap.size A' c' (nextC t p) ∧ Below w.heap.size w w' := by
  obtain ⟨G, ht2, ht6, hD⟩ := core_good hcr
  have htn : 2 ≤ t ∧ t ≤ 6 := by omega
  have HX := hid (ds_ex G h0 htn.1 hD)
  have HF := hid fun k (hk : k < t) (hb : ∀ j, j < k → dsB p t (j : Nat) = false) (h : dsB p t (k : Nat) = true) => firstC_eq hk hb h
  have HRA := hid fun (i : Int) W => reflectionAt_any t i W
  have HRF := hid fun (i : Int) T I H W h1 h2 h3 (h : Rd W A c p) => reflect_anyR T I H t i A c p W G htn h1 h2 h3 h
  have HIM := hid fun i => ds_impl G t i
  have HCN := hid fun W (h : Cells W A p) => cellCount_any A p c W G.len (fun j hj => by have := G.pos j hj; have := G.le j hj; omega) h
  have HCR := hid fun W (R : List Int) A3 c3 (g : Good R) (h : Cells W A3 R) => cellCount_any A3 R c3 W g.len (fun j hj => by have := g.pos j hj; have := g.le j hj; omega) h
  have HO := hid ho
  obtain ⟨s, hs⟩ : ∃ s, s = p.sum := ⟨_, rfl⟩
  rw [← hs] at HCN HIM
  clear hcr G hD h0 ho hs
  go_enter Try.func44, Try.ntmps44
  go_wp2_with fail
  go_loopw [10] (fun kv wr => ∃ k : Nat, k ≤ t ∧ kv = .int .i64 k ∧ Hid (∀ j, j < k → dsB p t (j : Nat) = false) ∧ Below w.heap.size w wr) (fun kv _ => t - (intOf kv).toNat)
  case atStart => exact ⟨0, Nat.zero_le _, rfl, hid fun j hj => absurd hj (by omega), Below.refl _ _⟩
  case round =>
    obtain ⟨k, hk, rfl, HB, hbel⟩ := hrel
    by_cases hlt : k < t
    · have him := HIM.out (k : Int)
      have hrf := HRF.out (k : Int)
      cases hgd : good (rfL p t (k : Int))
      · rw [hgd] at him hrf
        have HRK := hid hrf
        have HN := hid (show ∀ j, j < k + 1 → dsB p t (j : Nat) = false from fun j hj => by
          by_cases e : j = k
          · subst e; rw [← him]; rfl
          · exact HB.out j (by omega))
        clear him hrf hgd
        go_wp2_with (first | (go_at_call 31; refine (HRA.out _ _).mono ?_; rintro e w2 ⟨T, I, H, rfl, c1, c2, c3, b2⟩; have B2 := hid (Below.next hbel b2); have HO2 := hid ((HO.out.below hbel).below b2)) | (go_at_call 55; refine (HRK.out T I H _ c1 c2 c3 HO2.out).mono ?_; rintro e w3 ⟨A3, c3', rfl, o3, b3⟩; have B3 := hid (Below.next B2.out b3)))
        go_roundw
        case rel => exact ⟨k + 1, by omega, by go_num, HN, B3.out⟩
        case measure => simp [intOf]; omega
      · rw [hgd] at him
        rw [show (if good (rfL p t (k : Int)) = true then rfL p t (k : Int) else []) = rfL p t (k : Int) by rw [if_pos hgd], hgd] at hrf
        have HRK := hid hrf
        have HG3 := hid ((good_iff _).1 hgd)
        have HNX := hid (show firstC p t = k → nextC t p = rfL p t (k : Int) from fun e => by unfold nextC; rw [e])
        obtain ⟨R, hR⟩ : ∃ R, R = rfL p t (k : Int) := ⟨_, rfl⟩
        rw [← hR] at HRK HG3 HNX him
        obtain ⟨s2, hs2⟩ : ∃ s2, s2 = R.sum := ⟨_, rfl⟩
        have HS2 := hid hs2
        have hcr3 := HCR.out
        have HC3 := hid fun W A3 c3 (h : Cells W A3 R) => (by have := HCR.out W R A3 c3 HG3.out h; rw [← HS2.out] at this; exact this : Calls Try.prog 69 #[.slice A3 R.length c3] W fun e w' => e = .returned (.int .i64 s2) ∧ W = w')
        rw [← hs2] at him
        clear hrf hgd hR hs2 hcr3
        by_cases hless : s2 < s
        · have hd : dsB p t (k : Int) = true := by rw [← him, decide_eq_true hless]; rfl
          have hfe := HF.out k hlt HB.out hd
          have HFE := hid hfe
          have HNE := hid (HNX.out hfe)
          clear him hd hfe
          go_wp2_with fail
          refine (HRA.out _ _).mono ?_
          rintro e w2 ⟨T, I, H, rfl, c1, c2, c3, b2⟩
          have B2 := hid (Below.next hbel b2)
          have HO2 := hid ((HO.out.below hbel).below b2)
          have HK2 := hid (HRK.out T I H _ c1 c2 c3 HO2.out)
          clear b2
          go_wp2_with fail
          refine HK2.out.mono ?_
          rintro e w3 ⟨A3, c3', rfl, o3, b3⟩
          have B3 := hid (Below.next B2.out b3)
          have HO3 := hid o3
          have HC4 := hid (HC3.out _ A3 c3' o3.cells)
          have HC5 := hid (HCN.out _ (HO2.out.below b3).cells)
          clear o3 b3 c1 c2 c3
          go_wp2_with fail
          refine HC4.out.mono ?_
          rintro e w4 ⟨rfl, rfl⟩
          go_wp2_with fail
          refine HC5.out.mono ?_
          rintro e w4 ⟨rfl, rfl⟩
          go_wp2_with fail
          go_ret2
          exact ⟨A3, c3', by rw [HFE.out, HNE.out]; rfl, by rw [HNE.out]; exact HO3.out.more B2.out.size, B3.out⟩
        · have HN := hid (show ∀ j, j < k + 1 → dsB p t (j : Nat) = false from fun j hj => by
            by_cases e : j = k
            · subst e; rw [← him, decide_eq_false hless]; rfl
            · exact HB.out j (by omega))
          clear him
          go_wp2_with fail
          refine (HRA.out _ _).mono ?_
          rintro e w2 ⟨T, I, H, rfl, c1, c2, c3, b2⟩
          have B2 := hid (Below.next hbel b2)
          have HO2 := hid ((HO.out.below hbel).below b2)
          have HK2 := hid (HRK.out T I H _ c1 c2 c3 HO2.out)
          clear b2
          go_wp2_with fail
          refine HK2.out.mono ?_
          rintro e w3 ⟨A3, c3', rfl, o3, b3⟩
          have B3 := hid (Below.next B2.out b3)
          have HO3 := hid o3
          have HC4 := hid (HC3.out _ A3 c3' o3.cells)
          have HC5 := hid (HCN.out _ (HO2.out.below b3).cells)
          clear o3 b3 c1 c2 c3
          go_wp2_with fail
          refine HC4.out.mono ?_
          rintro e w4 ⟨rfl, rfl⟩
          go_wp2_with fail
          refine HC5.out.mono ?_
          rintro e w4 ⟨rfl, rfl⟩
          go_wp2_with fail
          go_roundw
          case rel => exact ⟨k + 1, by omega, by go_num, HN, B3.out⟩
          case measure => simp [intOf]; omega
    · exfalso
      obtain ⟨i, h1, h2⟩ := HX.out
      rw [HB.out i (by omega)] at h2
      cases h2
theorem firstDescent_any {B : Nat} (A : Option Addr) (c : Nat) (p : List Int) (t : Nat) (w : World) (hcr : isCoreF p t = true) (h0 : 0 < p.length) (ho : Own w B A c p) :
    Calls Try.prog 44 #[.slice A p.length c, .int .i64 t] w fun e w' => ∃ A' c', e = .returned (.tuple #[.int .i64 (firstC p t : Nat), .slice A' (nextC t p).length c']) ∧ Own w' w.heap.size A' c' (nextC t p) ∧ Below w.heap.size w w' :=
  firstDescent_anyR A c p t w hcr h0 (own_rd ho)

set_option maxRecDepth 100000 in
set_option maxHeartbeats 4000000 in
theorem impl_CoreWordR (A : Option Addr) (c : Nat) (xs : List Int) (t : Int) (w : World) (hl : xs.length ≤ 1048576) (ho : Rd w A c xs) (h64 : I64 t) :
    Calls Try.prog 17 #[.slice A xs.length c, .int .i64 t] w fun e w' => ∃ A' c', e = .returned (.tuple #[.slice A' (cwoF xs t).length c', .bool (isCoreF xs t)]) ∧ Own w' w.heap.size A' c' (cwoF xs t) ∧ Below w.heap.size w w' := by
  obtain ⟨i0, hi, hz0, hz1, hz2⟩ := info_parts Try.infoInt
  have HR := hid (impl_IsCore A c xs t w hl ho.cells h64)
  cases hg : isCoreF xs t
  · rw [show cwoF xs t = [] by simp [cwoF, hg]]
    rw [hg] at HR
    obtain ⟨b, hb⟩ : ∃ b, b = crB xs t := ⟨_, rfl⟩
    rw [← hb] at HR
    clear hg hb
    go_enter Try.func17, Try.ntmps17
    go_wp2_with fail
    refine HR.out.mono ?_
    rintro e w1 ⟨rfl, b1⟩
    go_wp2_with fail
    go_ret2
    exact ⟨none, 0, rfl, own_nil _ _, b1⟩
  · rw [show cwoF xs t = cwoL t.toNat xs by simp [cwoF, hg]]
    rw [hg, core_cr hg] at HR
    obtain ⟨G, ht2, ht6, _⟩ := core_good hg
    obtain ⟨n, rfl⟩ : ∃ n : Nat, t = n := ⟨t.toNat, by omega⟩
    rw [Int.toNat_natCast]
    obtain ⟨hK30, hKe, hKs⟩ := cwoK_ok hg
    have HEND := hid (show cwoL n xs = cwo n xs (cwoK n xs) from rfl)
    obtain ⟨K, hK⟩ : ∃ K, K = cwoK n xs := ⟨_, rfl⟩
    rw [← hK] at hK30 hKe hKs HEND
    have HD := hid hKs
    have HKE := hid hKe
    have HOO := hid ho
    clear hg G hK hKe hKs ho
    go_enter Try.func17, Try.ntmps17
    go_wp2_with fail
    refine HR.out.mono ?_
    rintro e w1 ⟨rfl, b1⟩
    have HO1 := hid (HOO.out.below b1)
    have hbs1 := b1.size
    go_wp2_with fail
    go_loopw [8, 9] (fun wv lv wr => ∃ (k : Nat) (Aw : Option Addr) (cw : Nat) (Al : Option Addr) (cl : Nat), k ≤ K ∧ wv = .slice Aw k cw ∧ lv = .slice Al (dwc n xs k).length cl ∧ Hid (Own wr w1.heap.size Aw cw (cwo n xs k)) ∧ Hid (Rd wr Al cl (dwc n xs k)) ∧ Below w1.heap.size w1 wr) (fun wv _ _ => 31 - (match wv with | .slice _ m _ => m | _ => 0))
    case atStart => exact ⟨0, none, 0, A, c, Nat.zero_le _, rfl, rfl, hid (own_nil _ _), hid HO1.out, Below.refl _ _⟩
    case round =>
      obtain ⟨k, Aw, cw, Al, cl, hk, rfl, rfl, HO, HCL, hbel⟩ := hrel
      obtain ⟨hcr, hpos⟩ := HD.out k hk
      by_cases hlt : k < K
      · have hp := hpos hlt
        have HFA := hid (firstDescent_anyR Al cl (dwc n xs k) n wr hcr hp HCL.out)
        obtain ⟨g, _, _, hDn⟩ := core_good hcr
        have hdl := g.len
        have hfd : firstC (dwc n xs k) n < n := (firstC_lt (ds_ex g hp (by omega) hDn)).1
        have HAW := hid (cwo_succ n xs k)
        have HAL := hid (cwo_len n xs k)
        have HAL2 := hid (cwo_len n xs (k + 1))
        have HNX := hid (show nextC n (dwc n xs k) = dwc n xs (k + 1) from rfl)
        rw [HNX.out] at HFA
        obtain ⟨L, hL⟩ : ∃ L, L = dwc n xs k := ⟨_, rfl⟩
        obtain ⟨R, hR⟩ : ∃ R, R = dwc n xs (k + 1) := ⟨_, rfl⟩
        obtain ⟨f, hf⟩ : ∃ f, f = firstC (dwc n xs k) n := ⟨_, rfl⟩
        rw [← hf] at HFA hfd HAW
        rw [← hL, ← hR] at HFA
        rw [← hL] at hp hdl ⊢
        have HRE := hid hR
        clear g hDn hcr hpos hL hf hR
        have hl0 : (0 : Int) < (L.length : Int) := by omega
        go_wp2_with fail
        refine HFA.out.mono ?_
        rintro e w2 ⟨A2, c2, rfl, o2, b2⟩
        have HO2 := hid o2
        have HB2 := hid (Below.next hbel b2)
        have hown0 := HO.out.below b2
        unfold Own at hown0
        rw [HAL.out] at hown0
        have HOW := hid hown0
        have hblk := hid (show ∀ b, (Value.slice Aw k cw).ownBlock = some b → b < wr.heap.size from fun b hb => by
          have h1 := HO.out
          unfold Own at h1
          rw [HAL.out] at h1
          exact (World.ownsRow.lt h1 b hb).2)
        have hsz2 := HB2.out.size
        clear o2 b2 hown0
        go_wp2_with (at_builtin; refine wpList_append_own _ rfl _ _ 22 rfl w1.heap.size 3 i0 (.int .i64 0) 1 8 Try.underlying22 hi hz0 hz1 hz2 rfl (by decide) _ _ _ rfl (HOW.out.alloc _) ⟨w2.heap.size, 0, none⟩ 1 1 [.int .i64 (f : Nat)] rfl rfl one_at (one_cell _) (by unfold maxLen; omega) (by omega) (by simp; omega) ?_)
        intro v3 w3 hown3 hgrow3 _
        have hb3 : Below w1.heap.size w1 w3 := (HB2.out.alloc HB2.out.size _).grown hgrow3 (by simp; omega) (fun q hq => (HOW.out.lt q hq).1)
        have hown4 : w3.ownsRow w1.heap.size 3 1 v3 (cwo n xs (k + 1)).length (IL (cwo n xs (k + 1))) := own_snoc HAW.out (by rw [HAL.out]; exact hown3)
        obtain ⟨A3, c3, e3, o3⟩ := own_form hown4 rfl
        rw [HAL2.out] at e3
        subst e3
        have hcl : Own w3 wr.heap.size A2 c2 R := by
          have ho2 := HO2.out.below ((Below.refl _ _).alloc (Nat.le_refl _) (.cells #[.int .i64 (f : Nat)] 3) : Below w2.heap.size w2 (w2.alloc _))
          exact own_apart ho2 hgrow3 hblk.out
        have HO3 := hid o3
        have HB3 := hid hb3
        have HC3 := hid (own_rd hcl)
        clear hown3 hgrow3 hown4 o3 hb3 hcl
        go_wp2_with fail
        go_roundw
        case rel => exact ⟨k + 1, A3, c3, A2, c2, by omega, rfl, by rw [HRE.out], HO3, by rw [← HRE.out]; exact HC3, HB3.out⟩
        case measure => show 31 - (k + 1) < 31 - k; omega
      · have hkK : k = K := by omega
        have hz : (dwc n xs k).length = 0 := by rw [hkK]; exact HKE.out
        have hO := HO.out
        rw [hkK, ← HEND.out] at hO
        have HO5 := hid (hO.more hbs1)
        have HAL := hid (show (cwoL n xs).length = k by rw [HEND.out, cwo_len, hkK])
        rw [hz]
        have HBB := hid (Below.next b1 hbel)
        clear hkK hcr hpos hO hz
        go_wp2_with fail
        go_ret2
        exact ⟨Aw, cw, by rw [HAL.out]; rfl, HO5.out, HBB.out⟩
theorem impl_CoreWord {B : Nat} (A : Option Addr) (c : Nat) (xs : List Int) (t : Int) (w : World) (hl : xs.length ≤ 1048576) (ho : Own w B A c xs) (h64 : I64 t) :
    Calls Try.prog 17 #[.slice A xs.length c, .int .i64 t] w fun e w' => ∃ A' c', e = .returned (.tuple #[.slice A' (cwoF xs t).length c', .bool (isCoreF xs t)]) ∧ Own w' w.heap.size A' c' (cwoF xs t) ∧ Below w.heap.size w w' :=
  impl_CoreWordR A c xs t w hl (own_rd ho) h64

end Go.Proofs.Ythkkiakfmbnfeaa
/-
  Contracts: CoreWord of the model.
-/
namespace Go.Proofs.Ythkkiakfmbnfeaa
open Go.RowKit

set_option maxRecDepth 100000 in
set_option maxHeartbeats 4000000 in
theorem spec_CoreWordR (A : Option Addr) (c : Nat) (xs : List Int) (t : Int) (w : World) (hl : xs.length ≤ 1048576) (ho : Rd w A c xs) (_ : I64 t) :
    Calls Try.prog 18 #[.slice A xs.length c, .int .i64 t] w fun e w' => ∃ A' c', e = .returned (.tuple #[.slice A' (cwoF xs t).length c', .bool (isCoreF xs t)]) ∧ Own w' w.heap.size A' c' (cwoF xs t) ∧ Below w.heap.size w w' := by
  obtain ⟨i0, hi, hz0, hz1, hz2⟩ := info_parts Try.infoInt
  have HR := hid (chCoreOf_any A c xs t w hl ho.cells)
  cases hg : isCoreF xs t
  · rw [show cwoF xs t = [] by simp [cwoF, hg]]
    rw [hg] at HR
    clear hg
    go_enter Try.func18, Try.ntmps18
    go_wp2_with fail
    refine HR.out.mono ?_
    rintro e w1 ⟨rfl, b1⟩
    go_wp2_with fail
    go_ret2
    exact ⟨none, 0, rfl, own_nil _ _, b1⟩
  · rw [show cwoF xs t = cwoL t.toNat xs by simp [cwoF, hg]]
    rw [hg] at HR
    obtain ⟨G, ht2, ht6, _⟩ := core_good hg
    obtain ⟨n, rfl⟩ : ∃ n : Nat, t = n := ⟨t.toNat, by omega⟩
    rw [Int.toNat_natCast]
    obtain ⟨hK30, hKe, hKs⟩ := cwoK_ok hg
    have HEND := hid (show cwoL n xs = cwo n xs (cwoK n xs) from rfl)
    obtain ⟨K, hK⟩ : ∃ K, K = cwoK n xs := ⟨_, rfl⟩
    rw [← hK] at hK30 hKe hKs HEND
    have HD := hid hKs
    have HKE := hid hKe
    have HOO := hid ho
    clear hg G hK hKe hKs ho
    go_enter Try.func18, Try.ntmps18
    go_wp2_with fail
    refine HR.out.mono ?_
    rintro e w1 ⟨rfl, b1⟩
    have HO1 := hid (HOO.out.below b1)
    have hbs1 := b1.size
    go_wp2_with fail
    go_loopw [6, 7] (fun wv lv wr => ∃ (k : Nat) (Aw : Option Addr) (cw : Nat) (Al : Option Addr) (cl : Nat), k ≤ K ∧ wv = .slice Aw k cw ∧ lv = .slice Al (dwc n xs k).length cl ∧ Hid (Own wr w1.heap.size Aw cw (cwo n xs k)) ∧ Hid (Rd wr Al cl (dwc n xs k)) ∧ Below w1.heap.size w1 wr) (fun wv _ _ => 31 - (match wv with | .slice _ m _ => m | _ => 0))
    case atStart => exact ⟨0, none, 0, A, c, Nat.zero_le _, rfl, rfl, hid (own_nil _ _), hid HO1.out, Below.refl _ _⟩
    case round =>
      obtain ⟨k, Aw, cw, Al, cl, hk, rfl, rfl, HO, HCL, hbel⟩ := hrel
      obtain ⟨wo, rfl⟩ : ∃ wo : World, wo = wr := ⟨_, rfl⟩
      obtain ⟨hcr, hpos⟩ := HD.out k hk
      by_cases hlt : k < K
      · have hp := hpos hlt
        obtain ⟨g, _, _, hDn⟩ := core_good hcr
        have hdl := g.len
        have HCALL := hid fun W (h : Rd W Al cl (dwc n xs k)) (i : Nat) (hi : i < n) => (chReflect_anyR n (i : Int) Al cl (dwc n xs k) W g (by omega) (by omega) h : Calls Try.prog 33 _ W _)
        have HLEN := hid fun (i : Nat) => (by have := rfK_le (dwc n xs k) n i; rw [show (rfL (dwc n xs k) n i).length = rfK (dwc n xs k) n i from fnRow_len _ _]; omega : (rfL (dwc n xs k) n i).length ≤ 1048576)
        have HSM := hid fun (i : Nat) W A2 c2 (h : Cells W A2 (rfL (dwc n xs k) n i)) (h2 : Cells W Al (dwc n xs k)) b hb => l1Same_b A2 Al c2 cl (rfL (dwc n xs k) n i) (dwc n xs k) W (HLEN.out i) (by omega) h h2 b hb
        have HEX := hid (ds_ex g hp (by omega) hDn)
        have HF := hid fun j (hj : j < n) (hb : ∀ i, i < j → dsB (dwc n xs k) n (i : Nat) = false) (h : dsB (dwc n xs k) n (j : Nat) = true) => firstC_eq hj hb h
        have HDS := hid fun (i : Nat) => (show dsB (dwc n xs k) n i = (!grw (dwc n xs k) n i && decide (¬ rfL (dwc n xs k) n i = dwc n xs k)) from rfl)
        have HAW := hid (cwo_succ n xs k)
        have HAL := hid (cwo_len n xs k)
        have HAL2 := hid (cwo_len n xs (k + 1))
        have HNX := hid (show dwc n xs (k + 1) = rfL (dwc n xs k) n (firstC (dwc n xs k) n : Nat) from rfl)
        obtain ⟨L, hL⟩ : ∃ L, L = dwc n xs k := ⟨_, rfl⟩
        rw [← hL] at HCALL HEX HF HAW HNX HDS HSM HLEN HCL hp hdl ⊢
        obtain ⟨f, hf⟩ : ∃ f, f = firstC L n := ⟨_, rfl⟩
        rw [← hf] at HF HAW HNX
        obtain ⟨rf, hrf⟩ : ∃ rf : Nat → List Int, rf = fun i => rfL L n (i : Nat) := ⟨_, rfl⟩
        obtain ⟨gr, hgr⟩ : ∃ gr : Nat → Bool, gr = fun i => grw L n (i : Nat) := ⟨_, rfl⟩
        obtain ⟨ds, hds⟩ : ∃ ds : Nat → Bool, ds = fun i => dsB L n (i : Nat) := ⟨_, rfl⟩
        have HCA := hid fun W (h : Rd W Al cl L) (i : Nat) (hi : i < n) => (by have := HCALL.out W h i hi; rw [hrf, hgr]; exact this : Calls Try.prog 33 #[.slice Al L.length cl, .int .i64 n, .int .i64 i] W fun e w' => ∃ A' c', e = .returned (.tuple #[.slice A' (rf i).length c', .bool (gr i)]) ∧ Own w' W.heap.size A' c' (rf i) ∧ Below W.heap.size W w')
        have HSA := hid fun (i : Nat) W A2 c2 (h : Cells W A2 (rf i)) (h2 : Cells W Al L) b (hb : decide (rf i = L) = b) => (by subst hrf; exact HSM.out i W A2 c2 h h2 b hb : Calls Try.prog 45 #[.slice A2 (rf i).length c2, .slice Al L.length cl] W fun e w' => e = .returned (.bool b) ∧ ∃ n, w' = W.drewN n)
        have HDD := hid fun (i : Nat) => (by rw [hds, hgr, hrf]; exact HDS.out i : ds i = (!gr i && decide (¬ rf i = L)))
        have HE2 := hid (by obtain ⟨i, h1, h2⟩ := HEX.out; exact ⟨i, h1, by rw [hds]; exact h2⟩ : ∃ i, i < n ∧ ds i = true)
        have HF2 := hid fun j (hj : j < n) (hb : ∀ i, i < j → ds i = false) (h : ds j = true) => (by subst hds; exact HF.out j hj hb h : f = j)
        have HN2 := hid (by rw [hrf]; exact HNX.out : dwc n xs (k + 1) = rf f)
        clear g hDn hcr hpos hL hf hrf hgr hds HCALL HSM HLEN HDS HEX HF HNX
        have hl0 : (0 : Int) < (L.length : Int) := by omega
        have h0n : 0 < n := by omega
        have hown0 := HO.out
        unfold Own at hown0
        rw [HAL.out] at hown0
        have HOW0 := hid hown0
        have HC00 := hid (HCA.out wo HCL.out 0 h0n)
        clear hown0
        go_wp2_with fail
        refine HC00.out.mono ?_
        rintro e w2 ⟨A2, c2, rfl, o2, b2⟩
        have HO2 := hid o2
        have HB2 := hid b2
        clear o2 b2
        go_wp2_with fail
        go_loopw [8, 9, 10] (fun iv nv gv wr => ∃ (i : Nat) (A2 : Option Addr) (c2 : Nat), i < n ∧ iv = .int .i64 i ∧ nv = .slice A2 (rf i).length c2 ∧ gv = .bool (gr i) ∧ Hid (Own wr wo.heap.size A2 c2 (rf i)) ∧ Hid (∀ j, j < i → ds j = false) ∧ Below wo.heap.size wo wr) (fun iv _ _ _ => n - (intOf iv).toNat)
        case atStart => exact ⟨0, A2, c2, h0n, rfl, rfl, rfl, hid HO2.out, hid fun j hj => absurd hj (by omega), HB2.out⟩
        case round =>
          obtain ⟨i, A3, c3, hin, rfl, rfl, rfl, HO3, HBF, hbel2⟩ := hrel
          have hdi := HDD.out i
          cases hds : ds i
          · have HNB := hid (show ∀ j, j < i + 1 → ds j = false from fun j hj => by
              by_cases e : j = i
              · subst e; exact hds
              · exact HBF.out j (by omega))
            have hi1 : i + 1 < n := by
              apply Classical.byContradiction
              intro hh
              obtain ⟨j, h1, h2⟩ := HE2.out
              rw [HNB.out j (by omega)] at h2
              cases h2
            rw [hds] at hdi
            cases hgi : gr i
            · have hsm : decide (rf i = L) = true := by
                rw [hgi] at hdi
                apply decide_eq_true
                apply Classical.byContradiction
                intro hne
                rw [decide_eq_true hne] at hdi; cases hdi
              have HSS := hid (HSA.out i wr A3 c3 HO3.out.cells (HCL.out.below hbel2).cells true hsm)
              have HCB := hid fun W h => HCA.out W h (i + 1) hi1
              clear hsm hdi hds hgi
              go_wp2_with fail
              refine HSS.out.mono ?_
              rintro e w4 ⟨rfl, q, rfl⟩
              obtain ⟨w4, hw4⟩ : ∃ w4, w4 = wr.drewN q := ⟨_, rfl⟩
              have HB4 := hid (show Below wo.heap.size wo w4 by rw [hw4]; exact below_drewN hbel2 _)
              rw [← hw4]
              clear hw4
              go_wp2_with fail
              refine (HCB.out _ (HCL.out.below HB4.out)).mono ?_
              rintro e w5 ⟨A5, c5, rfl, o5, b5⟩
              have HO5 := hid (o5.more HB4.out.size)
              have HB5 := hid (Below.next HB4.out b5)
              clear o5 b5
              go_wp2_with fail
              go_roundw
              case rel => exact ⟨i + 1, A5, c5, hi1, by go_num, rfl, rfl, HO5, HNB, HB5.out⟩
              case measure => simp [intOf]; omega
            · have HCB := hid (HCA.out wr (HCL.out.below hbel2) (i + 1) hi1)
              clear hdi hds hgi
              go_wp2_with fail
              refine HCB.out.mono ?_
              rintro e w5 ⟨A5, c5, rfl, o5, b5⟩
              have HO5 := hid (o5.more hbel2.size)
              have HB5 := hid (Below.next hbel2 b5)
              clear o5 b5
              go_wp2_with fail
              go_roundw
              case rel => exact ⟨i + 1, A5, c5, hi1, by go_num, rfl, rfl, HO5, HNB, HB5.out⟩
              case measure => simp [intOf]; omega
          · have hfi := HF2.out i hin HBF.out hds
            rw [hds] at hdi
            have hgi : gr i = false := by
              cases h : gr i
              · rfl
              · rw [h] at hdi; cases hdi
            have hsm : decide (rf i = L) = false := by
              rw [hgi] at hdi
              apply decide_eq_false
              intro e
              rw [decide_eq_false (fun h => h e)] at hdi; cases hdi
            have HSS := hid (HSA.out i wr A3 c3 HO3.out.cells (HCL.out.below hbel2).cells false hsm)
            have hn2 := HN2.out
            rw [hfi] at hn2
            have HNE := hid hn2
            have haw := HAW.out
            rw [hfi] at haw
            have HAW2 := hid haw
            obtain ⟨R, hR⟩ : ∃ R, R = rf i := ⟨_, rfl⟩
            rw [← hR] at HO3 HNE HSS ⊢
            rw [hgi]
            clear hsm hdi hds hgi hR hn2 haw hfi
            go_wp2_with fail
            refine HSS.out.mono ?_
            rintro e w4 ⟨rfl, q, rfl⟩
            obtain ⟨w4, hw4⟩ : ∃ w4, w4 = wr.drewN q := ⟨_, rfl⟩
            have HB04 := hid (show Below wo.heap.size wo w4 by rw [hw4]; exact below_drewN hbel2 _)
            have HO4 := hid (show Own w4 wo.heap.size A3 c3 R by rw [hw4]; exact own_drewN' HO3.out q)
            rw [← hw4]
            clear hw4
            have HB4 := hid (Below.next hbel HB04.out)
            have hown1 := HO.out.below HB04.out
            unfold Own at hown1
            rw [HAL.out] at hown1
            have HOW := hid hown1
            have hblk := hid (show ∀ b, (Value.slice Aw k cw).ownBlock = some b → b < wo.heap.size from fun b hb => (World.ownsRow.lt HOW0.out b hb).2)
            have hsz4 := HB4.out.size
            clear hown1
            go_wp2_with (at_builtin; refine wpList_append_own _ rfl _ _ 22 rfl w1.heap.size 3 i0 (.int .i64 0) 1 8 Try.underlying22 hi hz0 hz1 hz2 rfl (by decide) _ _ _ rfl (HOW.out.alloc _) ⟨w4.heap.size, 0, none⟩ 1 1 [.int .i64 (i : Nat)] rfl rfl one_at (one_cell _) (by unfold maxLen; omega) (by omega) (by simp; omega) ?_)
            intro v3 w3 hown3 hgrow3 _
            have hb3 : Below w1.heap.size w1 w3 := (HB4.out.alloc HB4.out.size _).grown hgrow3 (by simp; omega) (fun q hq => (HOW.out.lt q hq).1)
            have hown4 : w3.ownsRow w1.heap.size 3 1 v3 (cwo n xs (k + 1)).length (IL (cwo n xs (k + 1))) := own_snoc HAW2.out (by rw [HAL.out]; exact hown3)
            obtain ⟨A6, c6, e6, o6⟩ := own_form hown4 rfl
            rw [HAL2.out] at e6
            subst e6
            have hcl : Own w3 wo.heap.size A3 c3 R := by
              have ho2 := HO4.out.below ((Below.refl _ _).alloc (Nat.le_refl _) (.cells #[.int .i64 (i : Nat)] 3) : Below w4.heap.size w4 (w4.alloc _))
              exact own_apart ho2 hgrow3 hblk.out
            have HO6 := hid o6
            have HB6 := hid hb3
            have HC6 := hid (own_rd hcl)
            clear hown3 hgrow3 hown4 o6 hb3 hcl
            go_wp2_with fail
            go_roundw
            case rel => exact ⟨k + 1, A6, c6, A3, c3, by omega, rfl, by rw [HNE.out], HO6, by rw [HNE.out]; exact HC6, HB6.out⟩
            case measure => show 31 - (k + 1) < 31 - k; omega
      · have hkK : k = K := by omega
        have hz : (dwc n xs k).length = 0 := by rw [hkK]; exact HKE.out
        have hO := HO.out
        rw [hkK, ← HEND.out] at hO
        have HO5 := hid (hO.more hbs1)
        have HAL := hid (show (cwoL n xs).length = k by rw [HEND.out, cwo_len, hkK])
        rw [hz]
        have HBB := hid (Below.next b1 hbel)
        clear hkK hcr hpos hO hz
        go_wp2_with fail
        go_ret2
        exact ⟨Aw, cw, by rw [HAL.out]; rfl, HO5.out, HBB.out⟩
theorem spec_CoreWord {B : Nat} (A : Option Addr) (c : Nat) (xs : List Int) (t : Int) (w : World) (hl : xs.length ≤ 1048576) (ho : Own w B A c xs) (h64 : I64 t) :
    Calls Try.prog 18 #[.slice A xs.length c, .int .i64 t] w fun e w' => ∃ A' c', e = .returned (.tuple #[.slice A' (cwoF xs t).length c', .bool (isCoreF xs t)]) ∧ Own w' w.heap.size A' c' (cwoF xs t) ∧ Below w.heap.size w w' :=
  spec_CoreWordR A c xs t w hl (own_rd ho) h64

end Go.Proofs.Ythkkiakfmbnfeaa
/-
  The word of a core: each letter is undone by itself, and changes the number of cells of its own residue alone. No walk in this text.
-/
namespace Go.Proofs.Ythkkiakfmbnfeaa
open Go.RowKit

theorem cnt_rows {p : List Int} (h : p.length ≤ 31) (t k : Nat) : cnt t (contL p p.length) k = smr 31 fun r => cnt t (rowF contN r (p.getD r 0).toNat) k := by
  have key : ∀ n : Nat, cnt t (contL p n) k = smr n fun r => cnt t (rowF contN r (p.getD r 0).toNat) k := by
    intro n
    induction n with
    | zero => rfl
    | succ n ih => rw [contL_succ, cnt_app, ih, smr_succ]
  rw [key, smr_top h fun r hr => by rw [getD_out' hr]; rfl]
/-- A reflection changes the number of cells of one residue alone. -/
theorem res_same {p : List Int} (G : Good p) {t I : Nat} (Gq : Good (rfL p t I)) {k : Nat} (hk : k ≠ I) : cnt t (contL (rfL p t I) (rfL p t I).length) k = cnt t (contL p p.length) k := by
  rw [cnt_rows (by have := Gq.len; omega), cnt_rows (by have := G.len; omega)]
  refine smr_congr _ fun r _ => ?_
  have hn : ∀ q : List Int, q.getD r 0 = num q r + r + 1 := fun q => by unfold num; omega
  have nn : ∀ {q : List Int}, Good q → 0 ≤ q.getD r 0 := fun {q} g => by
    rcases Nat.lt_or_ge r q.length with h | h
    · have := g.pos r h; omega
    · rw [getD_out' h]; exact Int.le_refl 0
  have key : ∀ m : Nat, ((m : Int) - r) % (t : Int) = I → cnt t (rowF contN r (m + 1)) k = cnt t (rowF contN r m) k := fun m hm => by
    rw [rowF_succ, cnt_snoc t _ _ I (by unfold contN; exact hm), if_neg hk]
  cases hg : grw p t (I : Int)
  · by_cases C : ¬ Bd p (num p r - 1) ∧ num p r % (t : Int) = I
    · have e := rf_dn_y G hg C.1 C.2
      have h1 := nn Gq
      have h2 : p.getD r 0 = (rfL p t I).getD r 0 + 1 := by rw [hn, hn, e]; omega
      rw [show (p.getD r 0).toNat = ((rfL p t I).getD r 0).toNat + 1 by omega, key]
      rw [show ((((rfL p t I).getD r 0).toNat : Nat) : Int) - r = num p r by rw [Int.toNat_of_nonneg h1, hn, e]; omega]
      exact C.2
    · rw [show (rfL p t I).getD r 0 = p.getD r 0 by rw [hn, hn, rf_dn_n G hg C]]
  · by_cases C : ¬ Bd p (num p r + 1) ∧ (num p r + 1) % (t : Int) = I
    · have e := rf_up_y G hg C.1 C.2
      have h1 := nn G
      have h2 : (rfL p t I).getD r 0 = p.getD r 0 + 1 := by rw [hn, hn, e]; omega
      rw [show ((rfL p t I).getD r 0).toNat = (p.getD r 0).toNat + 1 by omega, key]
      rw [show (((p.getD r 0).toNat : Nat) : Int) - r = num p r + 1 by rw [Int.toNat_of_nonneg h1, hn]; omega]
      exact C.2
    · rw [show (rfL p t I).getD r 0 = p.getD r 0 by rw [hn, hn, rf_up_n G hg C]]
theorem resF_get {p : List Int} {t : Nat} (h : resB p (t : Int) = true) {k : Nat} (hk : k < t) : (resF p (t : Int)).getD k 0 = cnt t (contL p p.length) k := by
  rw [resF_t h]
  unfold cntL
  exact fnRow_get _ _ _ hk
/-- One step down by the word. -/
theorem wrd_step {p : List Int} {t : Nat} (hc : isCoreF p (t : Int) = true) {j : Nat} (hj : j < cwoK t p) :
    Good (dwc t p j) ∧ Good (dwc t p (j + 1)) ∧ rfOk (dwc t p j) t (firstC (dwc t p j) t : Nat) = true ∧ rfF (dwc t p j) t (firstC (dwc t p j) t : Nat) = dwc t p (j + 1) ∧ (dwc t p (j + 1)).sum < (dwc t p j).sum ∧
    firstC (dwc t p j) t < t ∧ resB (dwc t p j) t = true ∧ resB (dwc t p (j + 1)) t = true ∧
    (∀ k, k < t → k ≠ firstC (dwc t p j) t → (resF (dwc t p j) t).getD k 0 = (resF (dwc t p (j + 1)) t).getD k 0) ∧ rfL (dwc t p (j + 1)) t (firstC (dwc t p j) t : Nat) = dwc t p j := by
  obtain ⟨_, _, hst⟩ := cwoK_ok hc
  obtain ⟨hcj, hpos⟩ := hst j (by omega)
  have hp := hpos hj
  obtain ⟨hcn, hs⟩ := nextC_ok hcj hp
  obtain ⟨G, h2, h6, D⟩ := core_good hcj
  obtain ⟨Gq, _⟩ := core_good hcn
  have ht : 2 ≤ t ∧ t ≤ 6 := by omega
  obtain ⟨hf, _⟩ := firstC_lt (ds_ex G hp ht.1 D)
  have hgq := (good_iff _).2 Gq
  have hok : rfOk (dwc t p j) t (firstC (dwc t p j) t : Nat) = true := by
    unfold rfOk rsB
    rw [hcj, Int.toNat_natCast, show rfL (dwc t p j) t (firstC (dwc t p j) t : Nat) = nextC t (dwc t p j) from rfl, hgq, decide_eq_true (by omega), decide_eq_true (by omega)]; rfl
  have r1 : resB (dwc t p j) t = true := core_cr hcj
  have r2 : resB (dwc t p (j + 1)) t = true := core_cr hcn
  refine ⟨G, Gq, hok, by rw [rf_yes hok, Int.toNat_natCast]; rfl, hs, hf, r1, r2, fun k hk hne => ?_, rf_undo G ht.1 D Gq⟩
  rw [resF_get r1 hk, resF_get r2 hk]
  exact (res_same G Gq hne).symm
theorem cwo_take (t : Nat) (p : List Int) (j : Nat) : cwo t p (j + 1) = cwo t p j ++ [((firstC (dwc t p j) t : Nat) : Int)] := cwo_succ t p j
/-- The word backwards leads up to the core again. -/
theorem wrd_back {p : List Int} {t : Nat} (hc : isCoreF p (t : Int) = true) : ∀ j, j ≤ cwoK t p → cbw t (dwc t p j) (cwo t p j).reverse = some p
  | 0, _ => rfl
  | j + 1, hj => by
    obtain ⟨G, _, _, _, _, hf, _, _, _, hu⟩ := wrd_step hc (j := j) (by omega)
    rw [cwo_succ, List.reverse_append, List.reverse_singleton, List.singleton_append, cbw, Int.toNat_natCast, hu, (good_iff _).2 G]
    have : rsB t (firstC (dwc t p j) t : Nat) = true := by unfold rsB; rw [decide_eq_true (by omega), decide_eq_true (by omega)]; rfl
    rw [this]
    exact wrd_back hc j (by omega)
theorem wrd_all {p : List Int} {t : Int} (hc : isCoreF p t = true) : ∃ T : Nat, t = (T : Int) ∧ (2 ≤ T ∧ T ≤ 6) ∧ cwoF p t = cwo T p (cwoK T p) ∧ cwoK T p ≤ 30 ∧ (dwc T p (cwoK T p)).length = 0 ∧
    cbwL t (cwo T p (cwoK T p)).reverse = p ∧ cbwB t (cwo T p (cwoK T p)).reverse = true ∧ isCoreF p (T : Int) = true := by
  obtain ⟨G, h2, h6, D⟩ := core_good hc
  obtain ⟨T, rfl⟩ : ∃ T : Nat, t = (T : Int) := ⟨t.toNat, by omega⟩
  obtain ⟨a, b, _⟩ := cwoK_ok hc
  have hb := wrd_back hc (cwoK T p) (Nat.le_refl _)
  rw [show dwc T p (cwoK T p) = [] from List.eq_nil_of_length_eq_zero b] at hb
  obtain ⟨e1, e2⟩ := cbO_yes (t := (T : Int)) (inB_iff.2 (by omega)) (by rw [List.length_reverse, cwo_len]; omega) hb
  exact ⟨T, rfl, by omega, by unfold cwoF; rw [hc, if_pos rfl]; rfl, a, b, e1, e2, hc⟩
theorem cbw_core {t : Int} (ht : inB 2 6 t = true) : ∀ (word p q : List Int), isCoreF p t = true → cbw t p word = some q → isCoreF q t = true
  | [], p, q, hp, h => by simp [cbw] at h; subst h; exact hp
  | i :: u, p, q, hp, h => by
    rw [cbw] at h
    split at h
    · rename_i hh
      rw [Bool.and_eq_true] at hh
      have hin := inB_iff.1 ht
      obtain ⟨T, rfl⟩ : ∃ T : Nat, t = (T : Int) := ⟨t.toNat, by omega⟩
      rw [Int.toNat_natCast] at hh h
      exact cbw_core ht u _ q (rf_core hp hh.2) h
    · cases h
theorem made_core {t : Int} {word : List Int} (h : cbwB t word = true) : isCoreF (cbwL t word) t = true := by
  unfold cbwB at h
  unfold cbwL
  have e : cbO t word = if inB 2 6 t && decide (word.length ≤ 40) then cbw t [] word else none := rfl
  rw [e] at h ⊢
  by_cases hc : (inB 2 6 t && decide (word.length ≤ 40)) = true
  · rw [if_pos hc] at h ⊢
    rw [Bool.and_eq_true] at hc
    cases hq : cbw t [] word with
    | none => rw [hq] at h; cases h
    | some q => exact cbw_core hc.1 word [] q (core_nil hc.1) hq
  · rw [if_neg hc] at h; cases h
end Go.Proofs.Ythkkiakfmbnfeaa
