/-
  AllBoth on both sides.
-/
import Derived.Test.YtnjhjdidohdkmaaBothOrd
import Derived.Test.YtnjhjdidohdkmaaLaySort
namespace Go.Proofs.Ytnjhjdidohdkmaa
open Go.RowKit Go.Shelf Go.Sort

def abF (a b : Int) : List (List Int) := if sz a b then boL a b else []
theorem ab_no {a b : Int} (h : sz a b = false) : abF a b = [] := by simp [abF, h]
theorem ab_yes {a b : Int} (h : sz a b = true) : abF a b = boL a b := by simp [abF, h]
def totChk (a b : Int) : Bool := decide ((boL a b).length ≤ 100 ∧ tot (boL a b) ≤ 10000)
theorem totChk_t {a b : Int} (hs : sz a b = true) : totChk a b = true := sz_nat (p := fun a b => totChk a b = true) (by decide +kernel) hs
theorem bound_AllBoth (a b : Int) : (abF a b).length ≤ 1048576 ∧ tot (abF a b) ≤ 1048576 := by
  cases h : sz a b
  · rw [ab_no h]; simp [tot]
  · rw [ab_yes h]
    have := totChk_t h
    simp only [totChk, decide_eq_true_eq] at this
    omega

set_option maxRecDepth 100000 in
set_option maxHeartbeats 2000000 in
theorem spec_AllBoth (a b : Int) (w : World) (_ : I64 a) (_ : I64 b) :
    Calls Try.prog 5 #[.int .i64 a, .int .i64 b] w fun e w' => ∃ A' c', e = .returned (.tuple #[.slice A' (abF a b).length c', .bool (sz a b)]) ∧ Own2 w' w.heap.size w'.heap.size A' c' (abF a b) ∧ Below w.heap.size w w' := by
  cases ht : sz a b
  · rw [ab_no ht]
    have HT := hid ht
    clear ht
    go_enter Try.func5, Try.ntmps5
    go_wp2_with (go_at_call 28; refine (boSizes_b _ _ _ _ HT.out).mono ?_; rintro e w1 ⟨rfl, rfl⟩)
    go_ret2
    exact ⟨none, 0, rfl, own2_nil _ _ _, Below.refl _ _⟩
  · rw [ab_yes ht]
    have HT := hid ht
    have HB := hid fun W => boAll_any a b W ht
    obtain ⟨L, hL⟩ : ∃ L, L = boL a b := ⟨_, rfl⟩
    rw [← hL] at HB ⊢
    clear ht hL
    go_enter Try.func5, Try.ntmps5
    go_wp2_with (first | (go_at_call 28; refine (boSizes_b _ _ _ _ HT.out).mono ?_; rintro e w1 ⟨rfl, rfl⟩) | (go_at_call 29; refine (HB.out _).mono ?_; rintro e w2 ⟨A2, c2, rfl, o2, b2⟩))
    go_ret2
    exact ⟨A2, c2, rfl, o2, b2⟩

theorem take_getD {L : List (List Int)} {k : Nat} (h : k < L.length) : L.take (k + 1) = L.take k ++ [L.getD k []] := by
  rw [List.take_succ_eq_append_getElem h, List.getD_eq_getElem?_getD, List.getElem?_eq_getElem h]; rfl
theorem coP_get {a b : Int} {k : Nat} (h : k < (coL a b).length) : (coP a b).getD k [] = partsL ((coL a b).getD k []) := by
  unfold coP
  rw [List.getD_eq_getElem?_getD, List.getElem?_map, List.getElem?_eq_getElem h, List.getD_eq_getElem?_getD, List.getElem?_eq_getElem h]; rfl
theorem push_form {w : World} {B : Nat} {v : Value} {rows : List (List Int)} {P : Nat → Option Addr} {C : Nat → Nat} (h : Push w B v rows P C) (h0 : 0 < rows.length) : ∃ g c, v = .slice (some ⟨g, 0, none⟩) rows.length c := by
  rcases h.out.2 with ⟨-, h1⟩ | ⟨g, cap, cur, hv, -⟩
  · omega
  · exact ⟨g, cap, hv⟩

set_option maxRecDepth 100000 in
set_option maxHeartbeats 2000000 in
theorem sortBoth_any (w : World) (B g c : Nat) (rows : List (List Int)) (P : Nat → Option Addr) (C : Nat → Nat) (hgood : ∀ r ∈ rows, good r = true) (hlen : rows.length < 1000000) (hp : Push w B (.slice (some ⟨g, 0, none⟩) rows.length c) rows P C)
    (L : List (List Int)) (h1 : rows.Perm L) (h2 : L.Pairwise fun x y => ¬ fcf y x < 0) :
    Calls Try.prog 26 #[.slice (some ⟨g, 0, none⟩) rows.length c, .func (.func 27) #[] #[]] w fun e w' => e = .returned (.tuple #[]) ∧ ∃ P' C', Push w' B (.slice (some ⟨g, 0, none⟩) rows.length c) L P' C' ∧ B ≤ g ∧ ∀ B0 w0, B0 ≤ g → Below B0 w0 w → Below B0 w0 w' := by
  have eg : ∀ args w, (callFunc 27 args).run Try.prog w = .ok (.enter 27 args) w := enters_of Try.func27 (by kernel_rfl) rfl
  have hcall := sortRows_any sortFLays 27 eg fcf fcf_swo (fun W A B c d xs ys hx hy hA hB => (fewest_any A B c d xs ys W hx hy hA hB).mono (by
    rintro e w' ⟨rfl, x, y, rfl⟩
    exact ⟨rfl, 0, #[Obj.cells #[.int .i64 x, .int .i64 y] 3], by unfold World.alloc grow; simp [World.drewN]⟩)) w B g c rows P C hgood hlen hp
  change Calls Try.prog 26 _ w _ at hcall
  refine hcall.mono ?_
  rintro e w' ⟨rfl, rows', P', C', hperm, hs, hpush, hBg, hbel⟩
  have he : rows' = L := rows_eq (hperm.trans h1) (pairs_of fun i j hij hj => hs i j hij (by rw [hperm.length_eq] at hj; exact hj)) h2
  rw [he] at hpush
  exact ⟨rfl, P', C', hpush, hBg, hbel⟩

set_option maxRecDepth 100000 in
set_option maxHeartbeats 4000000 in
theorem impl_AllBoth (a b : Int) (w : World) (_ : I64 a) (_ : I64 b) :
    Calls Try.prog 4 #[.int .i64 a, .int .i64 b] w fun e w' => ∃ A' c', e = .returned (.tuple #[.slice A' (abF a b).length c', .bool (sz a b)]) ∧ Own2 w' w.heap.size w'.heap.size A' c' (abF a b) ∧ Below w.heap.size w w' := by
  cases ht : sz a b
  · rw [ab_no ht]
    have HT := hid ht
    clear ht
    go_enter Try.func4, Try.ntmps4
    go_wp2_with (go_at_call 18; refine (AreSizes_b _ _ _ _ HT.out).mono ?_; rintro e w1 ⟨rfl, b1⟩)
    go_ret2
    exact ⟨none, 0, rfl, own2_nil _ _ _, b1⟩
  · rw [ab_yes ht]
    obtain ⟨i1, hj, hy0, hy1, hy2⟩ := info_parts Try.infoInts
    obtain ⟨⟨hperm, hpw⟩, ⟨hgood, hn100, hn0⟩, hcs⟩ := ab_parts ht
    have HT := hid ht
    have HCO := hid fun W => cores_any a b W ht
    have HSO := hid fun w B g c P C hp => sortBoth_any w B g c (coP a b) P C hgood (by omega) hp (boL a b) hperm hpw
    have HGET := hid fun k (h : k < (coL a b).length) => coP_get h
    have HCL := hid (show (coP a b).length = (coL a b).length by unfold coP; simp)
    have HPL := hid hperm.length_eq
    have HCS := hid hcs
    obtain ⟨L, hL⟩ : ∃ L, L = boL a b := ⟨_, rfl⟩
    obtain ⟨S, hS⟩ : ∃ S, S = coL a b := ⟨_, rfl⟩
    obtain ⟨Q, hQ⟩ : ∃ Q, Q = coP a b := ⟨_, rfl⟩
    rw [← hL] at HSO HPL ⊢
    rw [← hS] at HCO HCL HCS HGET
    rw [← hQ] at HSO HGET HCL HPL hn100 hn0
    have HTK := hid fun k (h : k < Q.length) => take_getD h
    have hS100 : S.length ≤ 100 := by rw [← HCL.out]; exact hn100
    have hS0 : 0 < S.length := by rw [← HCL.out]; exact hn0
    clear ht hperm hpw hgood hcs hL hS hQ hn100 hn0
    go_enter Try.func4, Try.ntmps4
    go_wp2_with (first | (go_at_call 18; refine (AreSizes_b _ _ _ _ HT.out).mono ?_; rintro e w1 ⟨rfl, b1⟩) | (go_at_call 24; refine (HCO.out _).mono ?_; rintro e w3 ⟨v, Pc, Cc, rfl, hcos, b3⟩; obtain ⟨gc, cc, rfl⟩ := cos_form hcos hS0))
    have B3 := Below.next b1 b3
    have HC := hid hcos
    clear hcos b1 b3
    go_loopw [6, 8, 18] (fun v _ i wr => ∃ k : Nat, k ≤ S.length ∧ i = .int .i64 k ∧ (∃ P C, Hid (Push wr w3.heap.size v (Q.take k) P C)) ∧ Below w3.heap.size w3 wr) (fun _ _ i _ => S.length - (intOf i).toNat)
    case atStart => exact ⟨0, Nat.zero_le _, rfl, ⟨_, _, hid (push_nil _ _)⟩, Below.refl _ _⟩
    case round =>
      obtain ⟨k, hk, rfl, ⟨P, C, HP⟩, hbel⟩ := hrel
      have HLT := hid (show (Q.take k).length = k by rw [List.length_take, HCL.out]; omega)
      by_cases hlt : k < S.length
      · have HCk := hid (HC.out.below hbel)
        have sn := Snap.of HCk.out.out
        have d0 := sn.2 (k * 3) _ (CB_at (t := 0) hlt (by omega))
        have d1 := sn.2 (k * 3 + 1) _ (CB_at (t := 1) hlt (by omega))
        have d2 := sn.2 (k * 3 + 2) _ (CB_at (t := 2) hlt (by omega))
        have HOM := hid (HCk.out.row k hlt)
        obtain ⟨hr20, hrb⟩ := HCS.out k hlt
        have HG := hid (HGET.out k hlt)
        have HK := hid (HTK.out k (by rw [HCL.out]; exact hlt))
        rw [HG.out] at HK
        obtain ⟨r, hr⟩ : ∃ r, r = S.getD k [] := ⟨_, rfl⟩
        obtain ⟨Am, hAm⟩ : ∃ Am, Am = Pc k := ⟨_, rfl⟩
        obtain ⟨cm, hcm⟩ : ∃ cm, cm = Cc k := ⟨_, rfl⟩
        rw [← hr] at d0 HOM hr20 hrb HK
        rw [← hAm] at d0 HOM
        rw [← hcm] at d0 HOM
        have HRB := hid hrb
        obtain ⟨p, hp⟩ : ∃ p, p = partsL r := ⟨_, rfl⟩
        have HPA := hid fun W (h : Cells W Am r) => parts_any Am cm r W (by omega) HRB.out h
        rw [← hp] at HPA HK
        obtain ⟨T, hT⟩ : ∃ T, T = Q.take k := ⟨_, rfl⟩
        rw [← hT] at HP HK HLT
        have hTl : T.length ≤ 100 := by have := HLT.out; omega
        clear sn hr hAm hcm hrb HG hp hT
        have bz : Below wr.heap.size wr (wr.alloc (.cells #[.slice Am r.length cm, .int .i64 a, .int .i64 b] 44)) := (Below.refl _ _).alloc (Nat.le_refl _) _
        have Z := hid (Box3.new wr 44 (.slice Am r.length cm) (.int .i64 a) (.int .i64 b))
        have HOA := hid (HOM.out.below bz)
        have z0 := Z.out.cell0
        have z1 := Z.out.cell1
        have z2 := Z.out.cell2
        have hsz := hbel.size
        clear HOM
        go_wp2_with (first | (go_at_call 25; refine (HPA.out _ HOA.out.cells).mono ?_; rintro e w5 ⟨A5, c5, rfl, o5, b5⟩; have B5 := hid (Below.next bz b5); have HP5 := hid (HP.out.below B5.out); have hs5 := B5.out.size) | (at_builtin; refine wpList_append_own _ rfl _ _ 22 rfl w3.heap.size 27 i1 (.slice none 0 0) 1 24 Try.underlying22 hj hy0 hy1 hy2 rfl (by decide) _ _ _ rfl (HP5.out.out.alloc _) ⟨w5.heap.size, 0, none⟩ 1 1 [.slice A5 p.length c5] rfl rfl one_at (one_cellS _ _ _) (by unfold maxLen; omega) (by omega) (by simp; omega) ?_))
        intro v' w6 ho6 hg6 _
        have HP6 := hid (HP.out.push B5.out (o5.more (by simp)) hsz ho6 hg6)
        have B6 : Below w3.heap.size w3 w6 := ((Below.next hbel B5.out).alloc (by omega) _).grown hg6 (by simp; omega) (fun q hq => (HP5.out.out.lt q hq).1)
        clear ho6 hg6
        go_wp2_with fail
        go_roundw
        case rel => exact ⟨k + 1, by omega, by go_num, ⟨_, _, by rw [HK.out]; exact HP6⟩, B6⟩
        case measure => simp [intOf]; omega
      · have HE := hid (show Q.take k = Q from List.take_of_length_le (by rw [HCL.out]; omega))
        rw [HE.out] at HP
        obtain ⟨g, cq, rfl⟩ := push_form HP.out (by rw [HCL.out]; omega)
        have hgl := HP.out.out.lt g rfl
        have HS2 := hid (HSO.out wr w3.heap.size g cq P C HP.out)
        have HPL2 := hid (show Q.length = L.length from HPL.out)
        clear HLT
        go_wp2_with (go_at_call 26; refine HS2.out.mono ?_; rintro e w7 ⟨rfl, P', C', hpush, hBg, hb7⟩)
        have HP7 := hid hpush
        clear hpush
        go_ret2
        rw [HPL2.out] at HP7
        obtain ⟨A8, c8, hv8, o8⟩ := HP7.out.own2
        injection hv8 with e1 _ e3
        subst e1; subst e3
        exact ⟨_, _, by rw [HPL2.out]; rfl, o8.more B3.size, Below.next B3 (hb7 _ _ hgl.1 hbel)⟩
end Go.Proofs.Ytnjhjdidohdkmaa
