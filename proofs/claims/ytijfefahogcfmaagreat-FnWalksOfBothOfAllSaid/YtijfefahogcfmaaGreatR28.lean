/-
  Several texts in one.
-/
import Derived.Shelf.SlSortCmp.Whole1
import Derived.Shelf.SlGeneric
import Derived.Test.YtijfefahogcfmaaGreatCB
import Derived.Test.YtijfefahogcfmaaGreatR27
/-
  The library's contract laid at this program: sortF.
-/
namespace Go.Proofs.YtijfefahogcfmaaGreat
open Go.RowKit Go.Shelf Go.Sort

def sortFRen : Go.Shelf.Ren := ⟨fun | 6 => 44 | 15 => 68 | 14 => 67 | 28 => 91 | 29 => 92 | 20 => 83 | 21 => 84 | 22 => 85 | 23 => 86 | 24 => 87 | 25 => 88 | 26 => 89 | 27 => 90 | 46 => 107 | 47 => 108 | 48 => 109 | 49 => 110 | 50 => 111 | 57 => 115 | n => n, fun | 22 => 43 | 24 => 22 | 25 => 61 | 3 => 3 | 39 => 72 | 0 => 0 | 53 => 90 | 55 => 92 | 4 => 4 | 46 => 84 | 45 => 83 | 50 => 25 | 5 => 5 | 9 => 9 | 66 => 98 | 70 => 102 | 76 => 106 | 77 => 107 | n => n, fun | n => n⟩
theorem sortFLays : Go.Proofs.SlLaysF.n6 Tryz.prog sortFRen := {
  mixed := by kernel_rfl
  f6 := ⟨Tryz.f44.name, by decide, Tryz.func44.trans (congrArg some (by kernel_rfl))⟩
  f14 := ⟨Tryz.f67.name, by decide, Tryz.func67.trans (congrArg some (by kernel_rfl))⟩
  f15 := Tryz.func68.trans (congrArg some (by kernel_rfl))
  f20 := ⟨Tryz.f83.name, by decide, Tryz.func83.trans (congrArg some (by kernel_rfl))⟩
  f21 := ⟨Tryz.f84.name, by decide, Tryz.func84.trans (congrArg some (by kernel_rfl))⟩
  f22 := ⟨Tryz.f85.name, by decide, Tryz.func85.trans (congrArg some (by kernel_rfl))⟩
  f23 := ⟨Tryz.f86.name, by decide, Tryz.func86.trans (congrArg some (by kernel_rfl))⟩
  f24 := ⟨Tryz.f87.name, by decide, Tryz.func87.trans (congrArg some (by kernel_rfl))⟩
  f25 := ⟨Tryz.f88.name, by decide, Tryz.func88.trans (congrArg some (by kernel_rfl))⟩
  f26 := ⟨Tryz.f89.name, by decide, Tryz.func89.trans (congrArg some (by kernel_rfl))⟩
  f27 := ⟨Tryz.f90.name, by decide, Tryz.func90.trans (congrArg some (by kernel_rfl))⟩
  f28 := Tryz.func91.trans (congrArg some (by kernel_rfl))
  f29 := Tryz.func92.trans (congrArg some (by kernel_rfl))
  f46 := ⟨Tryz.f107.name, by decide, Tryz.func107.trans (congrArg some (by kernel_rfl))⟩
  f47 := Tryz.func108.trans (congrArg some (by kernel_rfl))
  f48 := Tryz.func109.trans (congrArg some (by kernel_rfl))
  f49 := ⟨Tryz.f110.name, by decide, Tryz.func110.trans (congrArg some (by kernel_rfl))⟩
  f50 := ⟨Tryz.f111.name, by decide, Tryz.func111.trans (congrArg some (by kernel_rfl))⟩
  f57 := ⟨Tryz.f115.name, by decide, Tryz.func115.trans (congrArg some (by kernel_rfl))⟩
  t0 := Tryz.underlying0
  a0 := Tryz.isAgg0
  z0 := Tryz.sizeOf0
  v0 := Tryz.zeroValue0
  t3 := Tryz.underlying3
  a3 := Tryz.isAgg3
  z3 := Tryz.sizeOf3
  v3 := Tryz.zeroValue3
  t4 := Tryz.underlying4
  a4 := Tryz.isAgg4
  z4 := Tryz.sizeOf4
  v4 := Tryz.zeroValue4
  t5 := Tryz.underlying5
  a5 := Tryz.isAgg5
  z5 := Tryz.sizeOf5
  v5 := Tryz.zeroValue5
  t9 := Tryz.underlying9
  a9 := Tryz.isAgg9
  z9 := Tryz.sizeOf9
  v9 := Tryz.zeroValue9
  t22 := Tryz.underlying43
  a22 := Tryz.isAgg43
  z22 := Tryz.sizeOf43
  v22 := Tryz.zeroValue43
  a24 := Tryz.isAgg22
  z24 := Tryz.sizeOf22
  t25 := Tryz.underlying61
  a25 := Tryz.isAgg61
  z25 := Tryz.sizeOf61
  v25 := Tryz.zeroValue61
  t39 := Tryz.underlying72
  a39 := Tryz.isAgg72
  z39 := Tryz.sizeOf72
  v39 := Tryz.zeroValue72
  t45 := Tryz.underlying83
  a45 := Tryz.isAgg83
  z45 := Tryz.sizeOf83
  v45 := Tryz.zeroValue83
  t46 := Tryz.underlying84
  a46 := Tryz.isAgg84
  z46 := Tryz.sizeOf84
  v46 := Tryz.zeroValue84
  t50 := Tryz.underlying25
  a50 := Tryz.isAgg25
  z50 := Tryz.sizeOf25
  v50 := Tryz.zeroValue25
  t53 := Tryz.underlying90
  a53 := Tryz.isAgg90
  z53 := Tryz.sizeOf90
  v53 := Tryz.zeroValue90
  t55 := Tryz.underlying92
  a55 := Tryz.isAgg92
  z55 := Tryz.sizeOf92
  v55 := Tryz.zeroValue92
  t66 := Tryz.underlying98
  a66 := Tryz.isAgg98
  z66 := Tryz.sizeOf98
  v66 := Tryz.zeroValue98
  t70 := Tryz.underlying102
  a70 := Tryz.isAgg102
  z70 := Tryz.sizeOf102
  v70 := Tryz.zeroValue102
  t76 := Tryz.underlying106
  a76 := Tryz.isAgg106
  z76 := Tryz.sizeOf106
  v76 := Tryz.zeroValue106
  t77 := Tryz.underlying107
  a77 := Tryz.isAgg107
  z77 := Tryz.sizeOf107
  v77 := Tryz.zeroValue107 }
end Go.Proofs.YtijfefahogcfmaaGreat
/-
  AllBoth on both sides.
-/
namespace Go.Proofs.YtijfefahogcfmaaGreat
open Go.RowKit Go.Shelf Go.Sort

def abF (a b : Int) : List (List Int) := if sz a b then boL a b else []
theorem ab_no {a b : Int} (h : sz a b = false) : abF a b = [] := by simp [abF, h]
theorem ab_yes {a b : Int} (h : sz a b = true) : abF a b = boL a b := by simp [abF, h]
def totChk (a b : Int) : Bool := decide ((boL a b).length ≤ 100 ∧ tot (boL a b) ≤ 10000)
theorem totChk_t {a b : Int} (hs : sz a b = true) : totChk a b = true := sz_nat (p := fun a b => totChk a b = true) (by decide +kernel) hs
theorem bound_AllBoth (a b : Int) : (abF a b).length ≤ 1048576 ∧ tot (abF a b) ≤ 1048576 := by
  cases h : sz a b
  · rw [ab_no h]; simp [tot]
  · rw [ab_yes h]
    have := totChk_t h
    simp only [totChk, decide_eq_true_eq] at this
    omega

theorem take_getD {L : List (List Int)} {k : Nat} (h : k < L.length) : L.take (k + 1) = L.take k ++ [L.getD k []] := by
  rw [List.take_succ_eq_append_getElem h, List.getD_eq_getElem?_getD, List.getElem?_eq_getElem h]; rfl
theorem coP_get {a b : Int} {k : Nat} (h : k < (coL a b).length) : (coP a b).getD k [] = partsL ((coL a b).getD k []) := by
  unfold coP
  rw [List.getD_eq_getElem?_getD, List.getElem?_map, List.getElem?_eq_getElem h, List.getD_eq_getElem?_getD, List.getElem?_eq_getElem h]; rfl
theorem push_form {w : World} {B : Nat} {v : Value} {rows : List (List Int)} {P : Nat → Option Addr} {C : Nat → Nat} (h : Push w B v rows P C) (h0 : 0 < rows.length) : ∃ g c, v = .slice (some ⟨g, 0, none⟩) rows.length c := by
  rcases h.out.2 with ⟨-, h1⟩ | ⟨g, cap, cur, hv, -⟩
  · omega
  · exact ⟨g, cap, hv⟩

set_option maxRecDepth 100000 in
set_option maxHeartbeats 2000000 in
theorem sortBoth_any (w : World) (B g c : Nat) (rows : List (List Int)) (P : Nat → Option Addr) (C : Nat → Nat) (hgood : ∀ r ∈ rows, good r = true) (hlen : rows.length < 1000000) (hp : Push w B (.slice (some ⟨g, 0, none⟩) rows.length c) rows P C)
    (L : List (List Int)) (h1 : rows.Perm L) (h2 : L.Pairwise fun x y => ¬ fcf y x < 0) :
    Calls Tryz.prog 44 #[.slice (some ⟨g, 0, none⟩) rows.length c, .func (.func 45) #[] #[]] w fun e w' => e = .returned (.tuple #[]) ∧ ∃ P' C', Push w' B (.slice (some ⟨g, 0, none⟩) rows.length c) L P' C' ∧ B ≤ g ∧ ∀ B0 w0, B0 ≤ g → Below B0 w0 w → Below B0 w0 w' := by
  have eg : ∀ args w, (callFunc 45 args).run Tryz.prog w = .ok (.enter 45 args) w := enters_of Tryz.func45 (by kernel_rfl) rfl
  have hcall := sortRows_any sortFLays 45 eg fcf fcf_swo (fun W A B c d xs ys hx hy hA hB => (fewest_any A B c d xs ys W hx hy hA hB).mono (by
    rintro e w' ⟨rfl, x, y, rfl⟩
    exact ⟨rfl, 0, #[Obj.cells #[.int .i64 x, .int .i64 y] 3], by unfold World.alloc grow; simp [World.drewN]⟩)) w B g c rows P C hgood hlen hp
  change Calls Tryz.prog 44 _ w _ at hcall
  refine hcall.mono ?_
  rintro e w' ⟨rfl, rows', P', C', hperm, hs, hpush, hBg, hbel⟩
  have he : rows' = L := rows_eq (hperm.trans h1) (pairs_of fun i j hij hj => hs i j hij (by rw [hperm.length_eq] at hj; exact hj)) h2
  rw [he] at hpush
  exact ⟨rfl, P', C', hpush, hBg, hbel⟩

set_option maxRecDepth 100000 in
set_option maxHeartbeats 4000000 in
theorem impl_AllBoth (a b : Int) (w : World) (_ : I64 a) (_ : I64 b) :
    Calls Tryz.prog 20 #[.int .i64 a, .int .i64 b] w fun e w' => ∃ A' c', e = .returned (.tuple #[.slice A' (abF a b).length c', .bool (sz a b)]) ∧ Own2 w' w.heap.size w'.heap.size A' c' (abF a b) ∧ Below w.heap.size w w' := by
  cases ht : sz a b
  · rw [ab_no ht]
    have HT := hid ht
    clear ht
    go_enter Tryz.func20, Tryz.ntmps20
    go_wp2_with (go_at_call 26; refine (AreSizes_b _ _ _ _ HT.out).mono ?_; rintro e w1 ⟨rfl, b1⟩)
    go_ret2
    exact ⟨none, 0, rfl, own2_nil _ _ _, b1⟩
  · rw [ab_yes ht]
    obtain ⟨i1, hj, hy0, hy1, hy2⟩ := info_parts Tryz.infoInts
    obtain ⟨⟨hperm, hpw⟩, ⟨hgood, hn100, hn0⟩, hcs⟩ := ab_parts ht
    have HT := hid ht
    have HCO := hid fun W => cores_any a b W ht
    have HSO := hid fun w B g c P C hp => sortBoth_any w B g c (coP a b) P C hgood (by omega) hp (boL a b) hperm hpw
    have HGET := hid fun k (h : k < (coL a b).length) => coP_get h
    have HCL := hid (show (coP a b).length = (coL a b).length by unfold coP; simp)
    have HPL := hid hperm.length_eq
    have HCS := hid hcs
    obtain ⟨L, hL⟩ : ∃ L, L = boL a b := ⟨_, rfl⟩
    obtain ⟨S, hS⟩ : ∃ S, S = coL a b := ⟨_, rfl⟩
    obtain ⟨Q, hQ⟩ : ∃ Q, Q = coP a b := ⟨_, rfl⟩
    rw [← hL] at HSO HPL ⊢
    rw [← hS] at HCO HCL HCS HGET
    rw [← hQ] at HSO HGET HCL HPL hn100 hn0
    have HTK := hid fun k (h : k < Q.length) => take_getD h
    have hS100 : S.length ≤ 100 := by rw [← HCL.out]; exact hn100
    have hS0 : 0 < S.length := by rw [← HCL.out]; exact hn0
    clear ht hperm hpw hgood hcs hL hS hQ hn100 hn0
    go_enter Tryz.func20, Tryz.ntmps20
    go_wp2_with (first | (go_at_call 26; refine (AreSizes_b _ _ _ _ HT.out).mono ?_; rintro e w1 ⟨rfl, b1⟩) | (go_at_call 43; refine (HCO.out _).mono ?_; rintro e w3 ⟨v, Pc, Cc, rfl, hcos, b3⟩; obtain ⟨gc, cc, rfl⟩ := cos_form hcos hS0))
    have B3 := Below.next b1 b3
    have HC := hid hcos
    clear hcos b1 b3
    go_loopw [6, 8, 18] (fun v _ i wr => ∃ k : Nat, k ≤ S.length ∧ i = .int .i64 k ∧ (∃ P C, Hid (Push wr w3.heap.size v (Q.take k) P C)) ∧ Below w3.heap.size w3 wr) (fun _ _ i _ => S.length - (intOf i).toNat)
    case atStart => exact ⟨0, Nat.zero_le _, rfl, ⟨_, _, hid (push_nil _ _)⟩, Below.refl _ _⟩
    case round =>
      obtain ⟨k, hk, rfl, ⟨P, C, HP⟩, hbel⟩ := hrel
      have HLT := hid (show (Q.take k).length = k by rw [List.length_take, HCL.out]; omega)
      by_cases hlt : k < S.length
      · have HCk := hid (HC.out.below hbel)
        have sn := Snap.of HCk.out.out
        have d0 := sn.2 (k * 3) _ (CB_at (t := 0) hlt (by omega))
        have d1 := sn.2 (k * 3 + 1) _ (CB_at (t := 1) hlt (by omega))
        have d2 := sn.2 (k * 3 + 2) _ (CB_at (t := 2) hlt (by omega))
        have HOM := hid (HCk.out.row k hlt)
        obtain ⟨hr20, hrb⟩ := HCS.out k hlt
        have HG := hid (HGET.out k hlt)
        have HK := hid (HTK.out k (by rw [HCL.out]; exact hlt))
        rw [HG.out] at HK
        obtain ⟨r, hr⟩ : ∃ r, r = S.getD k [] := ⟨_, rfl⟩
        obtain ⟨Am, hAm⟩ : ∃ Am, Am = Pc k := ⟨_, rfl⟩
        obtain ⟨cm, hcm⟩ : ∃ cm, cm = Cc k := ⟨_, rfl⟩
        rw [← hr] at d0 HOM hr20 hrb HK
        rw [← hAm] at d0 HOM
        rw [← hcm] at d0 HOM
        have HRB := hid hrb
        obtain ⟨p, hp⟩ : ∃ p, p = partsL r := ⟨_, rfl⟩
        have HPA := hid fun W (h : Cells W Am r) => parts_any Am cm r W (by omega) HRB.out h
        rw [← hp] at HPA HK
        obtain ⟨T, hT⟩ : ∃ T, T = Q.take k := ⟨_, rfl⟩
        rw [← hT] at HP HK HLT
        have hTl : T.length ≤ 100 := by have := HLT.out; omega
        clear sn hr hAm hcm hrb HG hp hT
        have bz : Below wr.heap.size wr (wr.alloc (.cells #[.slice Am r.length cm, .int .i64 a, .int .i64 b] 35)) := (Below.refl _ _).alloc (Nat.le_refl _) _
        have Z := hid (Box3.new wr 35 (.slice Am r.length cm) (.int .i64 a) (.int .i64 b))
        have HOA := hid (HOM.out.below bz)
        have z0 := Z.out.cell0
        have z1 := Z.out.cell1
        have z2 := Z.out.cell2
        have hsz := hbel.size
        clear HOM
        go_wp2_with (first | (go_at_call 29; refine (HPA.out _ HOA.out.cells).mono ?_; rintro e w5 ⟨A5, c5, rfl, o5, b5⟩; have B5 := hid (Below.next bz b5); have HP5 := hid (HP.out.below B5.out); have hs5 := B5.out.size) | (at_builtin; refine wpList_append_own _ rfl _ _ 43 rfl w3.heap.size 22 i1 (.slice none 0 0) 1 24 Tryz.underlying43 hj hy0 hy1 hy2 rfl (by decide) _ _ _ rfl (HP5.out.out.alloc _) ⟨w5.heap.size, 0, none⟩ 1 1 [.slice A5 p.length c5] rfl rfl one_at (one_cellS _ _ _) (by unfold maxLen; omega) (by omega) (by simp; omega) ?_))
        intro v' w6 ho6 hg6 _
        have HP6 := hid (HP.out.push B5.out (o5.more (by simp)) hsz ho6 hg6)
        have B6 : Below w3.heap.size w3 w6 := ((Below.next hbel B5.out).alloc (by omega) _).grown hg6 (by simp; omega) (fun q hq => (HP5.out.out.lt q hq).1)
        clear ho6 hg6
        go_wp2_with fail
        go_roundw
        case rel => exact ⟨k + 1, by omega, by go_num, ⟨_, _, by rw [HK.out]; exact HP6⟩, B6⟩
        case measure => simp [intOf]; omega
      · have HE := hid (show Q.take k = Q from List.take_of_length_le (by rw [HCL.out]; omega))
        rw [HE.out] at HP
        obtain ⟨g, cq, rfl⟩ := push_form HP.out (by rw [HCL.out]; omega)
        have hgl := HP.out.out.lt g rfl
        have HS2 := hid (HSO.out wr w3.heap.size g cq P C HP.out)
        have HPL2 := hid (show Q.length = L.length from HPL.out)
        clear HLT
        go_wp2_with (go_at_call 44; refine HS2.out.mono ?_; rintro e w7 ⟨rfl, P', C', hpush, hBg, hb7⟩)
        have HP7 := hid hpush
        clear hpush
        go_ret2
        rw [HPL2.out] at HP7
        obtain ⟨A8, c8, hv8, o8⟩ := HP7.out.own2
        injection hv8 with e1 _ e3
        subst e1; subst e3
        exact ⟨_, _, by rw [HPL2.out]; rfl, o8.more B3.size, Below.next B3 (hb7 _ _ hgl.1 hbel)⟩
end Go.Proofs.YtijfefahogcfmaaGreat
