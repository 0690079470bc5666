/-
  Several texts in one.
-/
import Derived.Test.YtiebnnchaopbkaaR29
import Derived.Test.YtiebnnchaopbkaaCI
import Derived.Shelf.SlSortCmp.NoneTotal
import Derived.Test.YtiebnnchaopbkaaCA
import Derived.IntWalk
import Derived.KernelRfl
import Derived.Test.YtiebnnchaopbkaaR08
import Derived.RegionTactic
import Derived.ChangeAlike
/-
  CoresWith on both sides.
-/
namespace Go.Proofs.Ytiebnnchaopbkaa
open Go.RowKit Go.Shelf Go.Sort

theorem cl_facts {t n : Int} {v : List Int} (h : v ∈ lwF t n) : (Lev v ∧ clF v = partsL (kL 11 v) ∧ clOk v = true) ∧ good (clF v) = true ∧ (clF v).sum = n := by
  obtain ⟨L, hs, hn⟩ := lwF_lev h
  have hk : clOk v = true := by simp [clOk, levB_iff.2 L]; omega
  have h2 := L.lo
  have h3 := L.hi
  have e : clF v = partsL (kL 5 v) := by rw [cl_yes hk, cl_at L (by omega) (by omega)]
  have hg := goodB_iff.1 (kL_good (q := 5) L (by omega) (by omega) (by omega))
  have hq0 : ∀ i, i < v.length → 0 ≤ ((5 : Nat) : Int) + v.getD i 0 := fun i hi => by have := lev_small L (by omega) i hi; omega
  refine ⟨⟨L, cl_yes hk, hk⟩, by rw [e]; exact (good_iff _).2 hg.parts, ?_⟩
  have hl : (kL 5 v).length = v.length * 5 := by have := kL_len L hq0; omega
  rw [e, beads_sum hg.rise, kL_sum L hq0, hl]
  omega
def cwF (t n : Int) : List (List Int) := cwK (lwF t n) (lwF t n).length
theorem cwK_rows {t n : Int} {m : Nat} (hm : m ≤ (lwF t n).length) : ∀ r ∈ cwK (lwF t n) m, good r = true ∧ r.sum = n := by
  intro r hr
  have h1 := (cwK_perm m hm).mem_iff.1 hr
  obtain ⟨v, hv, rfl⟩ := List.mem_map.1 h1
  exact (cl_facts (List.mem_of_mem_take hv)).2
theorem good_pos {r : List Int} (h : good r = true) : ∀ x ∈ r, 1 ≤ x := by
  intro x hx
  obtain ⟨j, hj, e⟩ := List.getElem_of_mem hx
  have := ((good_iff r).1 h).pos j hj
  rw [List.getD_eq_getElem?_getD, List.getElem?_eq_getElem hj] at this
  rw [← e]; exact this
theorem mem_getL {L : List (List Int)} {j : Nat} (h : j < L.length) : L.getD j [] ∈ L := by
  rw [List.getD_eq_getElem?_getD, List.getElem?_eq_getElem h]; exact List.getElem_mem h
theorem cwK_sorted {t n : Int} : ∀ m, m ≤ (lwF t n).length → (cwK (lwF t n) m).Pairwise (fun x y => ¬ gcf y x < 0)
  | 0, _ => by simp [cwK]
  | m + 1, h => by
    rw [cwK_succ h]
    refine insC_sorted n _ _ (fun r hr => ?_) (cwK_sorted m (by omega))
    rcases List.mem_cons.1 hr with e | e
    · obtain ⟨-, h1, h2⟩ := cl_facts (mem_getL (show m < (lwF t n).length by omega))
      rw [e]; exact ⟨good_pos h1, h2⟩
    · obtain ⟨h1, h2⟩ := cwK_rows (by omega) r e
      exact ⟨good_pos h1, h2⟩
theorem cwK_len {L : List (List Int)} {m : Nat} (h : m ≤ L.length) : (cwK L m).length = m := by
  rw [(cwK_perm m h).length_eq, List.length_map, List.length_take]; omega
theorem tot_le30 : ∀ rows : List (List Int), (∀ r ∈ rows, r.length ≤ 30) → tot rows ≤ 30 * rows.length
  | [], _ => by simp [tot]
  | r :: rs, h => by
    have h1 := h r (List.mem_cons_self ..)
    have h2 := tot_le30 rs fun x hx => h x (List.mem_cons_of_mem _ hx)
    rw [tot, List.length_cons]; omega
theorem bound_CoresWith (t n : Int) : (cwF t n).length ≤ 1048576 ∧ tot (cwF t n) ≤ 1048576 := by
  have h1 := lwF_len t n
  have h2 : (cwF t n).length = (lwF t n).length := cwK_len (Nat.le_refl _)
  have h3 := tot_le30 (cwF t n) fun r hr => ((good_iff r).1 (cwK_rows (Nat.le_refl _) r hr).1).len
  omega
theorem cw_no {t n : Int} (h : lwOk t n = false) : cwF t n = [] := by unfold cwF; rw [lw_no h]; rfl

set_option maxRecDepth 100000 in
set_option maxHeartbeats 2000000 in
theorem sortGreat_any (w : World) (B g c : Nat) (rows : List (List Int)) (P : Nat → Option Addr) (C : Nat → Nat) (hgood : ∀ r ∈ rows, good r = true) (hlen : rows.length < 1000000) (hp : Push w B (.slice (some ⟨g, 0, none⟩) rows.length c) rows P C)
    (L : List (List Int)) (h1 : rows.Perm L) (h2 : L.Pairwise fun x y => ¬ gcf y x < 0) :
    Calls Try.prog 20 #[.slice (some ⟨g, 0, none⟩) rows.length c, .func (.func 21) #[] #[]] w fun e w' => e = .returned (.tuple #[]) ∧ ∃ P' C', Push w' B (.slice (some ⟨g, 0, none⟩) rows.length c) L P' C' ∧ B ≤ g ∧ ∀ B0 w0, B0 ≤ g → Below B0 w0 w → Below B0 w0 w' := by
  have eg : ∀ args w, (callFunc 21 args).run Try.prog w = .ok (.enter 21 args) w := enters_of Try.func21 (by kernel_rfl) rfl
  have hcall := sortRows_any sortFLays 21 eg gcf gcf_swo (fun W A B c d xs ys hx hy hA hB => (greatest_any A B c d xs ys W (by have := ((good_iff xs).1 hx).len; omega) (by have := ((good_iff ys).1 hy).len; omega) hA hB).mono (by
    rintro e w' ⟨rfl, rfl⟩
    exact ⟨rfl, 0, #[], by unfold grow; simp [World.drewN]⟩)) w B g c rows P C hgood hlen hp
  change Calls Try.prog 20 _ w _ at hcall
  refine hcall.mono ?_
  rintro e w' ⟨rfl, rows', P', C', hperm, hs, hpush, hBg, hbel⟩
  have he : rows' = L := rows_eqG (hperm.trans h1) (pairs_ofG fun i j hij hj => hs i j hij (by rw [hperm.length_eq] at hj; exact hj)) h2
  rw [he] at hpush
  exact ⟨rfl, P', C', hpush, hBg, hbel⟩

set_option maxRecDepth 100000 in
set_option maxHeartbeats 4000000 in
theorem spec_CoresWith (t n : Int) (w : World) (_ht : I64 t) (_hn : I64 n) :
    Calls Try.prog 5 #[.int .i64 t, .int .i64 n] w fun e w' => ∃ A' c', e = .returned (.tuple #[.slice A' (cwF t n).length c', .bool (lwOk t n)]) ∧ Own2 w' w.heap.size w'.heap.size A' c' (cwF t n) ∧ Below w.heap.size w w' := by
  cases h : lwOk t n
  · rw [cw_no h]
    have H := hid h; clear h
    go_enter Try.func5, Try.ntmps5
    go_wp2_with (go_at_call 22; refine (chAsked_b _ _ _ _ H.out).mono ?_; rintro e w' ⟨rfl, rfl⟩)
    go_ret2
    exact ⟨none, 0, rfl, own2_nil _ _ _, Below.refl _ _⟩
  have h' := h
  simp only [lwOk, Bool.and_eq_true] at h'
  have i1 := inB_iff.1 h'.1
  obtain ⟨t, rfl⟩ : ∃ m : Nat, t = m := ⟨t.toNat, by omega⟩
  have HCA := hid fun W => chAll_any t n (by omega) (t - 1) W.heap.size none 0 [] W (by simp; omega) (fun y hy => by cases hy) (own_nil _ _)
  rw [show ([] : List Int).length = 0 from rfl] at HCA
  have hLe : lwF t n = chL n (t - 1) [] := by rw [lw_yes h, Int.toNat_natCast]
  have hl2 := lwF_len t n
  have HFA := hid fun v (hv : v ∈ lwF t n) => cl_facts hv
  have HKR := hid fun m (hm : m ≤ (lwF t n).length) => cwK_rows hm
  have HKS := hid fun m (hm : m < (lwF t n).length) => cwK_succ hm
  have HKL := hid fun m (hm : m ≤ (lwF t n).length) => cwK_len hm
  have HRES := hid (show cwF t n = cwK (lwF t n) (lwF t n).length from rfl)
  rw [← hLe] at HCA
  obtain ⟨RES, hRES⟩ : ∃ RES, RES = cwF t n := ⟨_, rfl⟩
  rw [← hRES] at HRES ⊢
  obtain ⟨L, hL⟩ : ∃ L, L = lwF t n := ⟨_, rfl⟩
  rw [← hL] at HCA hl2 HFA HKR HKS HKL HRES
  have H := hid h; clear h h' hL hLe hRES i1
  go_enter Try.func5, Try.ntmps5
  go_wp2_with (first | (go_at_call 22; refine (chAsked_b _ _ _ _ H.out).mono ?_; rintro e w' ⟨rfl, rfl⟩) | (go_at_call 23; refine (HCA.out _).mono ?_; rintro e wt ⟨At, ct, rfl, ot, bt⟩))
  have OT := hid ot
  have Bt := bt
  have hst := Bt.size
  clear ot bt HCA
  go_loopw [6, 8, 17] (fun v _ i wr => ∃ m : Nat, m ≤ L.length ∧ i = .int .i64 m ∧ (∃ P C, Hid (Push wr wt.heap.size v (cwK L m) P C)) ∧ Below wt.heap.size wt wr) (fun _ _ i _ => L.length - (intOf i).toNat)
  case atStart => exact ⟨0, Nat.zero_le _, rfl, ⟨_, _, hid (push_nil _ _)⟩, Below.refl _ _⟩
  case round =>
    obtain ⟨m, hm, rfl, ⟨P, C, HP⟩, hbel⟩ := hrel
    by_cases hlt : m < L.length
    · obtain ⟨Pt, Ct, hA1, hA2⟩ := (OT.out.below hbel).cells
      obtain ⟨b0, o, rfl, hcc⟩ := hA1 (by omega)
      have hck := hcc m hlt
      have HR0 := hid (hA2 m hlt)
      have HN := hid (HKS.out m hlt)
      obtain ⟨⟨hLev, hce, -⟩, hcg, -⟩ := HFA.out (L.getD m []) (mem_getL hlt)
      obtain ⟨xs, hxs⟩ : ∃ xs, xs = L.getD m [] := ⟨_, rfl⟩
      obtain ⟨Ar, hAr⟩ : ∃ Ar, Ar = Pt m := ⟨_, rfl⟩
      obtain ⟨Cr, hCr⟩ : ∃ Cr, Cr = Ct m := ⟨_, rfl⟩
      rw [← hxs] at hck HR0 HN hLev hce hcg
      rw [← hAr, ← hCr] at hck
      rw [← hAr] at HR0
      have HCC := hid (chCore_any Ar Cr xs wr hLev HR0.out)
      rw [← hce] at HCC
      obtain ⟨p, hp⟩ : ∃ p, p = clF xs := ⟨_, rfl⟩
      rw [← hp] at HCC HN hcg
      have hpl := ((good_iff p).1 hcg).len
      have hrl := HKL.out m hm
      have hrg := HKR.out m hm
      obtain ⟨rows, hrows⟩ : ∃ rows, rows = cwK L m := ⟨_, rfl⟩
      rw [← hrows] at HP HN hrl hrg
      have hpp := HP.out
      obtain ⟨A, c, rfl, -⟩ := hpp.own2
      have hrl2 : rows.length ≤ 100000 := by omega
      have HPUT := hid fun w1 Ap cp (b1 : Below wr.heap.size wr w1) (o1 : Own w1 wr.heap.size Ap cp p) => chPut_any A Ap c cp rows p P C w1 hrl2 (fun j hj => by have := ((good_iff _).1 (hrg (rows.getD j []) (mem_getL hj)).1).len; omega) (by omega) HP.out b1 o1 hbel.size
      have HN2 := hid (show cwK L (m + 1) = insR rows (kC rows p) p from HN.out)
      clear hcc hA1 hA2 hxs hAr hCr hp hrows hpp hrl hrg hLev hce hcg HN HFA HKR HKS HKL
      go_wp2_with (first | (go_at_call 25; refine HCC.out.mono ?_; rintro e w1 ⟨Ap, cp, rfl, o1, b1⟩; have O1 := hid o1; have B1 := hid b1) | (go_at_call 24; refine (HPUT.out _ _ _ B1.out O1.out).mono ?_; rintro e w2 ⟨v2, P2, C2, rfl, hp2, b2⟩; have HP2 := hid hp2; have B2 := hid b2; clear hp2 b2))
      go_roundw
      case rel => exact ⟨m + 1, by omega, by go_num, ⟨P2, C2, by rw [HN2.out]; exact HP2⟩, Below.next hbel (Below.next B1.out B2.out)⟩
      case measure => simp [intOf]; omega
    · have HE := hid (show m = L.length by omega)
      have HP2 := HP
      rw [HE.out, ← HRES.out] at HP2
      obtain ⟨A8, c8, rfl, o8⟩ := HP2.out.own2
      have O8 := hid o8
      clear o8 HP
      go_wp2_with fail
      go_ret2
      exact ⟨A8, c8, rfl, O8.out.more hst, Below.next Bt hbel⟩

theorem sortNone_any (p : Option Addr) (c gf : Nat) (w : World) : Calls Try.prog 20 #[.slice p 0 c, .func (.func gf) #[] #[]] w fun e w' => e = .returned (.tuple #[]) ∧ w' = w :=
  AnyF.slices_SortFunc_none { sortFLays with } p c (.func (.func gf) #[] #[]) w
theorem pushC_form {w : World} {B : Nat} {v : Value} {rows : List (List Int)} {P : Nat → Option Addr} {C : Nat → Nat} (h : Push w B v rows P C) (h0 : 0 < rows.length) : ∃ g c, v = .slice (some ⟨g, 0, none⟩) rows.length c := by
  rcases h.out.2 with ⟨-, h1⟩ | ⟨g, cap, cur, hv, -⟩
  · omega
  · exact ⟨g, cap, hv⟩
theorem takeC_getD {L : List (List Int)} {k : Nat} (h : k < L.length) : L.take (k + 1) = L.take k ++ [L.getD k []] := by
  rw [List.take_succ_eq_append_getElem h, List.getD_eq_getElem?_getD, List.getElem?_eq_getElem h]; rfl
theorem mapC_get {L : List (List Int)} {k : Nat} (h : k < L.length) : (L.map clF).getD k [] = clF (L.getD k []) := by
  rw [List.getD_eq_getElem?_getD, List.getElem?_map, List.getElem?_eq_getElem h, List.getD_eq_getElem?_getD, List.getElem?_eq_getElem h]; rfl

set_option maxRecDepth 100000 in
set_option maxHeartbeats 4000000 in
theorem impl_CoresWith (t n : Int) (w : World) (ht : I64 t) (hn : I64 n) :
    Calls Try.prog 4 #[.int .i64 t, .int .i64 n] w fun e w' => ∃ A' c', e = .returned (.tuple #[.slice A' (cwF t n).length c', .bool (lwOk t n)]) ∧ Own2 w' w.heap.size w'.heap.size A' c' (cwF t n) ∧ Below w.heap.size w w' := by
  have HLW := hid fun W => impl_LevelsWith t n W ht hn
  cases h : lwOk t n
  · rw [cw_no h]
    rw [h] at HLW
    obtain ⟨L, hL⟩ : ∃ L, L = lwF t n := ⟨_, rfl⟩
    rw [← hL] at HLW
    clear h hL
    go_enter Try.func4, Try.ntmps4
    go_wp2_with (go_at_call 6; refine (HLW.out _).mono ?_; rintro e w1 ⟨A1, c1, rfl, o1, b1⟩)
    go_ret2
    exact ⟨none, 0, rfl, own2_nil _ _ _, b1⟩
  rw [h] at HLW
  obtain ⟨i1, hj, hy0, hy1, hy2⟩ := info_parts Try.infoInts
  have hl2 := lwF_len t n
  have HFA := hid fun v (hv : v ∈ lwF t n) => cl_facts hv
  have hgood : ∀ r ∈ (lwF t n).map clF, good r = true := fun r hr => by
    obtain ⟨v, hv, rfl⟩ := List.mem_map.1 hr
    exact (cl_facts hv).2.1
  have hperm : ((lwF t n).map clF).Perm (cwF t n) := by
    have := cwK_perm (L := lwF t n) _ (Nat.le_refl _)
    rw [List.take_length] at this
    exact this.symm
  have hsrt := cwK_sorted (t := t) (n := n) _ (Nat.le_refl _)
  have HSO := hid fun w B g c P C hp => sortGreat_any w B g c ((lwF t n).map clF) P C hgood (by rw [List.length_map]; omega) hp (cwF t n) hperm hsrt
  have HPL := hid hperm.length_eq
  have HCLN := hid (show ((lwF t n).map clF).length = (lwF t n).length by simp)
  have HGET := hid fun k (h : k < (lwF t n).length) => mapC_get h
  obtain ⟨RES, hRES⟩ : ∃ RES, RES = cwF t n := ⟨_, rfl⟩
  rw [← hRES] at HSO HPL ⊢
  obtain ⟨L, hL⟩ : ∃ L, L = lwF t n := ⟨_, rfl⟩
  rw [← hL] at HLW hl2 HFA HSO HPL HCLN HGET
  obtain ⟨Q, hQ⟩ : ∃ Q, Q = L.map clF := ⟨_, rfl⟩
  rw [← hQ] at HSO HPL HCLN HGET
  have HTK := hid fun k (h : k < Q.length) => takeC_getD h
  clear h hgood hperm hsrt hRES hL hQ
  go_enter Try.func4, Try.ntmps4
  go_wp2_with (go_at_call 6; refine (HLW.out _).mono ?_; rintro e wt ⟨At, ct, rfl, ot, bt⟩)
  have OT := hid ot
  have hst := bt.size
  clear ot
  go_loopw [8, 10, 11, 12, 23] (fun v _ _ _ i wr => ∃ k : Nat, k ≤ L.length ∧ i = .int .i64 k ∧ (∃ P C, Hid (Push wr wt.heap.size v (Q.take k) P C)) ∧ Below wt.heap.size wt wr) (fun _ _ _ _ i _ => L.length - (intOf i).toNat)
  case atStart => exact ⟨0, Nat.zero_le _, rfl, ⟨_, _, hid (push_nil _ _)⟩, Below.refl _ _⟩
  case round =>
    obtain ⟨k, hk, rfl, ⟨P, C, HP⟩, hbel⟩ := hrel
    have HLT := hid (show (Q.take k).length = k by rw [List.length_take, HCLN.out]; omega)
    by_cases hlt : k < L.length
    · obtain ⟨Pt, Ct, hA1, hA2⟩ := (OT.out.below hbel).cells
      obtain ⟨b0, o, rfl, hcc⟩ := hA1 (by omega)
      have hck := hcc k hlt
      have HR0 := hid (hA2 k hlt)
      obtain ⟨⟨hLev, -, hok⟩, -, -⟩ := HFA.out (L.getD k []) (mem_getL hlt)
      have HG := hid (HGET.out k hlt)
      have HK := hid (HTK.out k (by rw [HCLN.out]; exact hlt))
      rw [HG.out] at HK
      obtain ⟨r, hr⟩ : ∃ r, r = L.getD k [] := ⟨_, rfl⟩
      obtain ⟨Am, hAm⟩ : ∃ Am, Am = Pt k := ⟨_, rfl⟩
      obtain ⟨cm, hcm⟩ : ∃ cm, cm = Ct k := ⟨_, rfl⟩
      rw [← hr] at hck HR0 hLev hok HK
      rw [← hAm] at hck HR0
      rw [← hcm] at hck
      have hr6 := hLev.hi
      have HCO := hid (impl_CoreOfLevels Am cm r wr (by omega) HR0.out)
      rw [hok] at HCO
      obtain ⟨p, hp⟩ : ∃ p, p = clF r := ⟨_, rfl⟩
      rw [← hp] at HCO HK
      obtain ⟨T, hT⟩ : ∃ T, T = Q.take k := ⟨_, rfl⟩
      rw [← hT] at HP HK HLT
      have hTl : T.length ≤ 2000 := by have := HLT.out; omega
      have hsz := hbel.size
      clear hcc hA1 hA2 hr hAm hcm hp hT HG hLev hok
      go_wp2_with (first | (go_at_call 19; refine HCO.out.mono ?_; rintro e w5 ⟨A5, c5, rfl, o5, b5⟩; have B5 := hid b5; have HP5 := hid (HP.out.below b5); have hs5 := b5.size) | (at_builtin; refine wpList_append_own _ rfl _ _ 22 rfl wt.heap.size 28 i1 (.slice none 0 0) 1 24 Try.underlying22 hj hy0 hy1 hy2 rfl (by decide) _ _ _ rfl (HP5.out.out.alloc _) ⟨w5.heap.size, 0, none⟩ 1 1 [.slice A5 p.length c5] rfl rfl one_at (one_cellS _ _ _) (by unfold maxLen; omega) (by omega) (by simp; omega) ?_))
      intro v' w6 ho6 hg6 _
      have HP6 := hid (HP.out.push B5.out o5 hsz ho6 hg6)
      have B6 : Below wt.heap.size wt w6 := ((Below.next hbel B5.out).alloc (by omega) _).grown hg6 (by simp; omega) (fun q hq => (HP5.out.out.lt q hq).1)
      clear ho6 hg6
      go_wp2_with fail
      go_roundw
      case rel => exact ⟨k + 1, by omega, by go_num, ⟨_, _, by rw [HK.out]; exact HP6⟩, B6⟩
      case measure => simp [intOf]; omega
    · have HE := hid (show Q.take k = Q from List.take_of_length_le (by rw [HCLN.out]; omega))
      rw [HE.out] at HP
      have HPL2 := hid (show Q.length = RES.length from HPL.out)
      by_cases h0 : Q.length = 0
      · have hQ0 : Q = [] := List.eq_nil_of_length_eq_zero h0
        have hR0 : RES = [] := List.eq_nil_of_length_eq_zero (by have := HPL2.out; omega)
        subst hQ0
        obtain ⟨A8, c8, rfl, o8⟩ := HP.out.own2
        have O8 := hid o8
        have HR0 := hid hR0
        have HNO := hid fun W => sortNone_any A8 c8 21 W
        clear o8 HP hR0 HLT h0 HPL2 HPL HSO
        go_wp2_with (go_at_call 20; refine (HNO.out _).mono ?_; rintro e w7 ⟨rfl, rfl⟩)
        go_ret2
        exact ⟨A8, c8, by rw [HR0.out]; rfl, by rw [HR0.out]; exact O8.out.more hst, Below.next bt hbel⟩
      · obtain ⟨g, cq, rfl⟩ := pushC_form HP.out (by omega)
        have hgl := HP.out.out.lt g rfl
        have HS2 := hid (HSO.out wr wt.heap.size g cq P C HP.out)
        clear HLT
        go_wp2_with (go_at_call 20; refine HS2.out.mono ?_; rintro e w7 ⟨rfl, P', C', hpush, hBg, hb7⟩)
        have HP7 := hid hpush
        clear hpush
        go_ret2
        rw [HPL2.out] at HP7
        obtain ⟨A8, c8, hv8, o8⟩ := HP7.out.own2
        injection hv8 with e1 _ e3
        subst e1; subst e3
        exact ⟨_, _, by rw [HPL2.out]; rfl, o8.more hst, Below.next bt (hb7 _ _ hgl.1 hbel)⟩
end Go.Proofs.Ytiebnnchaopbkaa
/-
  Plain facts: the numbers of cores as a series, as the program makes them and as the model makes them, step by step with the machine's own sums; both agree for all runners and sizes.
-/
namespace Go.Proofs.Ytiebnnchaopbkaa
open Go.RowKit

def addP (S : List Int) (k : Nat) : Nat → List Int
  | 0 => S
  | c + 1 => let R := addP S k c; R.set (k + c) (IntKind.i64.wrap (R.getD (k + c) 0 + R.getD c 0))
def subP (S : List Int) (d n : Nat) : Nat → List Int
  | 0 => S
  | c + 1 => let R := subP S d n c; R.set (n - c) (IntKind.i64.wrap (R.getD (n - c) 0 - R.getD (n - c - d) 0))
def subT (S : List Int) (d n : Nat) : Nat → List Int
  | 0 => S
  | j + 1 => subP (subT S d n j) d n (n + 1 - d)
def serS (t n : Nat) : Nat → List Int
  | 0 => (fnRow (n + 1) (fun _ => 0)).set 0 1
  | K + 1 => subT (addP (serS t n K) (K + 1) (n - K)) (t * (K + 1)) n t
theorem addP_len (S : List Int) (k c : Nat) : (addP S k c).length = S.length := by
  induction c with
  | zero => rfl
  | succ c ih => simp only [addP, List.length_set, ih]
theorem subP_len (S : List Int) (d n c : Nat) : (subP S d n c).length = S.length := by
  induction c with
  | zero => rfl
  | succ c ih => simp only [subP, List.length_set, ih]
theorem subT_len (S : List Int) (d n j : Nat) : (subT S d n j).length = S.length := by
  induction j with
  | zero => rfl
  | succ j ih => simp only [subT, subP_len, ih]
theorem serS_len (t n K : Nat) : (serS t n K).length = n + 1 := by
  induction K with
  | zero => simp [serS, fnRow]
  | succ K ih => simp only [serS, subT_len, addP_len, ih]
theorem addP_succ (S : List Int) (k c : Nat) : addP S k (c + 1) = (addP S k c).set (k + c) (IntKind.i64.wrap ((addP S k c).getD (k + c) 0 + (addP S k c).getD c 0)) := rfl
theorem subP_succ (S : List Int) (d n c : Nat) : subP S d n (c + 1) = (subP S d n c).set (n - c) (IntKind.i64.wrap ((subP S d n c).getD (n - c) 0 - (subP S d n c).getD (n - c - d) 0)) := rfl

def lgD (t k : Nat) : Nat → Int
  | 0 => 0
  | d + 1 => if k % (d + 1) = 0 then (if (d + 1) % t = 0 then IntKind.i64.wrap (IntKind.i64.wrap (lgD t k d + (d + 1 : Nat)) - IntKind.i64.wrap ((t : Int) * (d + 1 : Nat))) else IntKind.i64.wrap (lgD t k d + (d + 1 : Nat))) else lgD t k d
def lg (t k : Nat) : Int := lgD t k k
def sumI (S : List Int) (t z : Nat) : Nat → Int
  | 0 => 0
  | c + 1 => IntKind.i64.wrap (sumI S t z c + IntKind.i64.wrap (lg t (c + 1) * S.getD (z - (c + 1)) 0))
def serI (t : Nat) : Nat → List Int
  | 0 => [1]
  | K + 1 => let S := serI t K; S ++ [IntKind.i64.wrap ((sumI S t (K + 1) (K + 1)).tdiv (K + 1 : Nat))]
theorem serI_len (t K : Nat) : (serI t K).length = K + 1 := by
  induction K with
  | zero => rfl
  | succ K ih => simp only [serI, List.length_append, ih, List.length_singleton]

def serAll (t : Nat) : Bool := (List.range 31).all fun n => serI t n == serS t n n
theorem serAll2 : serAll 2 = true := by kernel_rfl
theorem serAll3 : serAll 3 = true := by kernel_rfl
theorem serAll4 : serAll 4 = true := by kernel_rfl
theorem serAll5 : serAll 5 = true := by kernel_rfl
theorem serAll6 : serAll 6 = true := by kernel_rfl
theorem ser_same {t n : Nat} (ht : 2 ≤ t ∧ t ≤ 6) (hn : n ≤ 30) : serI t n = serS t n n := by
  have key : ∀ t, serAll t = true → serI t n = serS t n n := fun t h => by
    unfold serAll at h
    rw [List.all_eq_true] at h
    exact eq_of_beq (h n (List.mem_range.2 (by omega)))
  have : t = 2 ∨ t = 3 ∨ t = 4 ∨ t = 5 ∨ t = 6 := by omega
  rcases this with rfl | rfl | rfl | rfl | rfl
  · exact key _ serAll2
  · exact key _ serAll3
  · exact key _ serAll4
  · exact key _ serAll5
  · exact key _ serAll6
end Go.Proofs.Ytiebnnchaopbkaa
/-
  Contracts: CoresBySeries of the program and of the model.
-/
namespace Go.Proofs.Ytiebnnchaopbkaa
open Go.RowKit

theorem chAskedS_any (t n : Int) (w : World) : Calls Try.prog 22 #[.int .i64 t, .int .i64 n] w fun e w' => e = .returned (.bool (inB 2 6 t && okN n)) ∧ w = w' := by
  cases ht : inB 2 6 t
  · have HT := hid ht; clear ht
    go_enter Try.func22, Try.ntmps22
    go_wp2_with (go_at_call 44; refine (chRunners_b _ _ _ HT.out).mono ?_; rintro e w' ⟨rfl, rfl⟩)
    go_ret
    exact ⟨rfl, rfl⟩
  · have HT := hid ht; clear ht
    go_enter Try.func22, Try.ntmps22
    go_wp2_with (first | (go_at_call 44; refine (chRunners_b _ _ _ HT.out).mono ?_; rintro e w' ⟨rfl, rfl⟩) | (go_at_call 45; refine (ptCells_any _ _).mono ?_; rintro e w' ⟨rfl, rfl⟩))
    go_ret
    exact ⟨rfl, rfl⟩
def askB (t n : Int) : Bool := inB 2 6 t && okN n
theorem chAskedS_b (t n : Int) (w : World) (b : Bool) (h : askB t n = b) : Calls Try.prog 22 #[.int .i64 t, .int .i64 n] w fun e w' => e = .returned (.bool b) ∧ w = w' := by
  subst h; exact chAskedS_any t n w
theorem askB_iff {t n : Int} (h : askB t n = true) : ∃ a b : Nat, t = a ∧ n = b ∧ 2 ≤ a ∧ a ≤ 6 ∧ b ≤ 30 := by
  simp only [askB, Bool.and_eq_true] at h
  have h1 := inB_iff.1 h.1
  have h2 := inB_iff.1 h.2
  exact ⟨t.toNat, n.toNat, by omega, by omega, by omega, by omega, by omega⟩
def serF (t n : Int) : List Int := if askB t n then serI t.toNat n.toNat else []
theorem serF_f {t n : Int} (h : askB t n = false) : serF t n = [] := by simp [serF, h]
theorem serF_t {t n : Nat} (h : askB t n = true) : serF t n = serI t n := by simp [serF, h]
theorem bound_CoresBySeries (t n : Int) : (serF t n).length ≤ 1048576 := by
  cases h : askB t n
  · rw [serF_f h]; simp
  · obtain ⟨a, b, rfl, rfl, _, _, hb⟩ := askB_iff h
    rw [serF_t h, serI_len]; omega

set_option maxHeartbeats 1000000 in
theorem logarithmAt_any (t k : Nat) (w : World) (ht : 2 ≤ t ∧ t ≤ 6) (hk : k ≤ 30) :
    Calls Try.prog 29 #[.int .i64 t, .int .i64 k] w fun e w' => e = .returned (.int .i64 (lg t k)) ∧ w' = w := by
  go_enter Try.func29, Try.ntmps29
  go_wp2
  go_loop [5, 6] (fun s i => ∃ d : Nat, d ≤ k ∧ i = .int .i64 ((d : Int) + 1) ∧ s = .int .i64 (lgD t k d)) (fun _ i => k + 1 - (intOf i).toNat)
  case atStart => exact ⟨0, Nat.zero_le _, rfl, rfl⟩
  case round =>
    obtain ⟨d, hd, rfl, rfl⟩ := hrel
    by_cases hlt : d < k
    · have h1 : Int.tmod (k : Int) ((d : Int) + 1) = ((k % (d + 1) : Nat) : Int) := by rfl
      have h2 : Int.tmod ((d : Int) + 1) (t : Int) = (((d + 1) % t : Nat) : Int) := by rfl
      have hne : ¬ ((t : Int) = 0) := by omega
      have hne2 : ¬ ((d : Int) + 1 = 0) := by omega
      have HE := hid (show lgD t k (d + 1) = if k % (d + 1) = 0 then (if (d + 1) % t = 0 then IntKind.i64.wrap (IntKind.i64.wrap (lgD t k d + (d + 1 : Nat)) - IntKind.i64.wrap ((t : Int) * (d + 1 : Nat))) else IntKind.i64.wrap (lgD t k d + (d + 1 : Nat))) else lgD t k d from rfl)
      obtain ⟨s, hs⟩ : ∃ s, s = lgD t k d := ⟨_, rfl⟩
      rw [← hs] at HE ⊢
      obtain ⟨p, hp⟩ : ∃ p, p = k % (d + 1) := ⟨_, rfl⟩
      obtain ⟨q, hq⟩ : ∃ q, q = (d + 1) % t := ⟨_, rfl⟩
      rw [← hp] at HE h1
      rw [← hq] at HE h2
      clear hs hp hq
      by_cases hp0 : p = 0
      · have hpi : (p : Int) = 0 := by omega
        by_cases hq0 : q = 0
        · have hqi : (q : Int) = 0 := by omega
          rw [if_pos hp0, if_pos hq0, IntWalk.i64_left, IntWalk.i64_left, IntWalk.i64_left] at HE
          clear hp0 hq0
          go_wp2
          go_round
          case rel => exact ⟨d + 1, by omega, by go_num, by rw [HE.out]; go_num⟩
          case measure => simp [intOf]; omega
        · have hqi : ¬ ((q : Int) = 0) := by omega
          rw [if_pos hp0, if_neg hq0, IntWalk.i64_left] at HE
          clear hp0 hq0
          go_wp2
          go_round
          case rel => exact ⟨d + 1, by omega, by go_num, by rw [HE.out]; go_num⟩
          case measure => simp [intOf]; omega
      · have hpi : ¬ ((p : Int) = 0) := by omega
        rw [if_neg hp0] at HE
        clear hp0
        go_wp2
        go_round
        case rel => exact ⟨d + 1, by omega, by go_num, by rw [HE.out]⟩
        case measure => simp [intOf]; omega
    · have hkd : d = k := by omega
      subst hkd
      go_wp2
      go_ret
      exact ⟨rfl, rfl⟩
end Go.Proofs.Ytiebnnchaopbkaa
