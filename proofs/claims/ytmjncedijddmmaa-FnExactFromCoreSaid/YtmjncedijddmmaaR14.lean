/-
  Several texts in one.
-/
import Derived.Test.YtmjncedijddmmaaR13
import Derived.Lib.AppendZerosOnto
import Derived.Test.YtmjncedijddmmaaCC
import Derived.Test.YtmjncedijddmmaaR07
/-
  Contracts: slices.Grow of nil and slices.Concat at rows of ints, none of them empty.
-/
namespace Go.Proofs.Ytmjncedijddmmaa
open Go.RowKit

set_option maxRecDepth 100000 in
set_option maxHeartbeats 1000000 in
theorem grow0_any (n : Nat) (w : World) (hn : n ≤ 1048576) :
    Calls Try.prog 104 #[.slice none 0 0, .int .i64 n] w fun e w' => ∃ v, e = .returned v ∧ w'.ownsRow w.heap.size 3 1 v 0 [] ∧ Below w.heap.size w w' := by
  obtain ⟨i0, hi, hz0, hz1, hz2⟩ := info_parts Try.infoInt
  by_cases h0 : n = 0
  · subst h0
    go_enter Try.func104, Try.ntmps104
    go_wp2_with fail
    go_ret
    exact ⟨_, rfl, World.ownsRow_nil _ _ _ _, Below.refl _ _⟩
  · have hold : (Builtin.firstCells i0.size 0 (.slice none 0 0)).run Try.prog w.drew = .ok ([] : List Value).toArray w.drew := run_firstCells_none w.drew i0.size 0 0 0
    have h := fun ty => Lib.run_append_grow_zeros w 22 3 ty 3 i0 (.int .i64 0) .i64 .i64 Try.underlying22 Try.underlying3 hi hz0 none 0 0 [] hold n (by omega) (by omega) (by omega) (by omega) (by rw [hz2]; omega) (growslice_fits (by omega) (by rw [hz2]; omega))
    have hge := grownCap_ge w (0 + n) 0 3
    have hle := grownCap_le_maxLen w (0 + n) 0 3 (by unfold maxLen; omega)
    obtain ⟨G, hG⟩ : ∃ G, G = grownCap w (0 + n) 0 3 := ⟨_, rfl⟩
    rw [← hG] at h hge hle
    have hm := World.ownsRow_made (base := w.heap.size) (e := 3) (size := 1) w.drew (([] : List Value).toArray ++ Builtin.zeroCells (Value.int .i64 0).cells n ++ Builtin.zeroCells (Value.int .i64 0).cells (G - (0 + n))) G (Nat.le_refl _) hle (by simp [Builtin.zeroCells, Value.cells]; omega)
    have hb : Below w.heap.size w (w.drew.alloc (.cells (([] : List Value).toArray ++ Builtin.zeroCells (Value.int .i64 0).cells n ++ Builtin.zeroCells (Value.int .i64 0).cells (G - (0 + n))) 3)) := (below_drewN (Below.refl _ _) 1).alloc (Nat.le_refl _) _
    obtain ⟨W2, hW2⟩ : ∃ W2, W2 = w.drew.alloc (.cells (([] : List Value).toArray ++ Builtin.zeroCells (Value.int .i64 0).cells n ++ Builtin.zeroCells (Value.int .i64 0).cells (G - (0 + n))) 3) := ⟨_, rfl⟩
    rw [← hW2] at h hm hb
    have hsz : (w.drew).heap.size = w.heap.size := rfl
    rw [hsz] at hm
    have HM := hid hm
    have hz : 0 + n = n := by omega
    rw [hz] at h hge
    have hn0 : (0 : Int) < (n : Int) := by omega
    have hG63 : G ≤ 9223372036854775807 := by unfold maxLen at hle; omega
    have HH := hid h
    clear hG hW2 hm hold h
    go_enter Try.func104, Try.ntmps104
    go_wp2_with (at_builtin; refine Lib.wpList_append_run _ rfl _ _ _ _ rfl _ _ rfl rfl _ _ (HH.out _) ?_)
    go_ret
    exact ⟨_, rfl, HM.out, hb⟩

theorem flat_succ (rows : List (List Int)) (k : Nat) (h : k < rows.length) : (rows.take (k + 1)).flatten = (rows.take k).flatten ++ rows.getD k [] := by
  rw [List.take_succ_eq_append_getElem h, List.flatten_append]; simp [List.getD, h]
theorem flat_len (rows : List (List Int)) : rows.flatten.length = tot rows := by
  induction rows with
  | nil => rfl
  | cons r t ih => simp only [List.flatten_cons, List.length_append, tot, ih]
theorem IL_app (xs ys : List Int) : IL (xs ++ ys) = IL xs ++ IL ys := by simp [IL]

set_option maxRecDepth 100000 in
set_option maxHeartbeats 2000000 in
theorem concat_any (A : Option Addr) (c : Nat) (rows : List (List Int)) (w : World) (hr : rows.length ≤ 1000) (ht : tot rows ≤ 1000) (hp : ∀ j, j < rows.length → 0 < (rows.getD j []).length) (hA : Cells2 w A rows) :
    Calls Try.prog 80 #[.slice A rows.length c] w fun e w' => ∃ A' c', e = .returned (.slice A' rows.flatten.length c') ∧ Own w' w.heap.size A' c' rows.flatten ∧ Below w.heap.size w w' := by
  obtain ⟨i0, hi, hz0, hz1, hz2⟩ := info_parts Try.infoInt
  obtain ⟨P, C, hA1, hA2⟩ := hA
  have HP := hid hp; have HA1 := hid hA1; have HA2 := hid hA2
  clear hp hA1 hA2
  go_enter Try.func80, Try.ntmps80
  go_wp2_with fail
  go_loop [3, 11] (fun s i => ∃ k : Nat, k ≤ rows.length ∧ i = .int .i64 k ∧ s = .int .i64 (tot (rows.take k) : Int)) (fun _ i => rows.length - (intOf i).toNat)
  case atStart => exact ⟨0, Nat.zero_le _, rfl, by simp [tot]⟩
  case round =>
    obtain ⟨k, hk, rfl, rfl⟩ := hrel
    by_cases hlt : k < rows.length
    · obtain ⟨b, o, rfl, hcc⟩ := HA1.out (by omega)
      have hck := hcc k hlt
      have hts := tot_take_succ rows k hlt
      have htl := tot_take_le rows (k + 1)
      obtain ⟨m, hm⟩ : ∃ m, m = (rows.getD k []).length := ⟨_, rfl⟩
      obtain ⟨s, hs⟩ : ∃ s, s = tot (rows.take k) := ⟨_, rfl⟩
      rw [← hm] at hck hts
      rw [← hs] at hts ⊢
      have HTS := hid hts
      have hmb : s + m ≤ 1000 := by omega
      clear hcc hm hs htl hts
      go_wp2_with fail
      go_round
      case rel => exact ⟨k + 1, by omega, by go_num, by rw [HTS.out]; go_num⟩
      case measure => simp [intOf]; omega
    · have hkn : k = rows.length := by omega
      subst hkn
      have e : rows.take rows.length = rows := List.take_of_length_le (Nat.le_refl _)
      rw [e]
      clear e
      obtain ⟨T, hT⟩ : ∃ T, T = tot rows := ⟨_, rfl⟩
      rw [← hT] at ht ⊢
      have HT := hid hT
      clear hT
      go_wp2_with (go_at_call 104; refine (grow0_any T _ (by omega)).mono ?_; rintro e w1 ⟨v1, rfl, o1, b1⟩)
      go_loopw [6, 27] (fun v i wr => ∃ k : Nat, k ≤ rows.length ∧ i = .int .i64 k ∧ wr.ownsRow w.heap.size 3 1 v (rows.take k).flatten.length (IL (rows.take k).flatten) ∧ Below w.heap.size w wr) (fun _ i _ => rows.length - (intOf i).toNat)
      case atStart => exact ⟨0, Nat.zero_le _, rfl, by simpa [IL] using o1, b1⟩
      case round =>
        obtain ⟨k, hk, rfl, hown, hbel⟩ := hrel
        by_cases hlt : k < rows.length
        · obtain ⟨b, o, rfl, hcc⟩ := HA1.out (by omega)
          have hck0 := hcc k hlt
          have hck := (hbel.cell (World.block_lt_of_cell? w _ hck0)).trans hck0
          have hpk := HP.out k hlt
          obtain ⟨b3, o3, hP3, hr3⟩ := HA2.out k hlt hpk
          rw [hP3] at hck
          have hfs := flat_succ rows k hlt
          have hfl := flat_len (rows.take k)
          have hts := tot_take_succ rows k hlt
          have htl := tot_take_le rows (k + 1)
          obtain ⟨r, hre⟩ : ∃ r, r = rows.getD k [] := ⟨_, rfl⟩
          rw [← hre] at hck hfs hr3 hpk hts
          have hrl : (rows.take k).flatten.length + r.length ≤ 1000 := by have := HT.out; omega
          have HFS := hid hfs
          have hnews : ∀ W, Below w.heap.size w W → ∀ j u, (IL r)[j]? = some u → W.cell? ((⟨b3, o3, none⟩ : Addr).add j) = some u := by
            intro W hW j u hu
            have hj : j < r.length := by
              have := (List.getElem?_eq_some_iff.1 hu).1
              simpa [IL] using this
            have h := hr3 j hj
            rw [IL_get r j hj] at hu
            have e : (⟨b3, o3, none⟩ : Addr).add j = ⟨b3, o3 + j, none⟩ := by unfold Addr.add; split <;> simp_all
            rw [e, hW.cell (World.block_lt_of_cell? w _ h), h, ← hu]
          have HN := hid hnews
          have HOW := hid hown
          have hrn : (IL r).length = r.length * 1 := by simp [IL]
          have HRN := hid hrn
          clear hcc hck0 hP3 hr3 hre hfs hfl hts htl hnews hown hrn
          obtain ⟨f, hf⟩ : ∃ f, f = (rows.take k).flatten := ⟨_, rfl⟩
          rw [← hf] at HOW HFS hrl
          have HF := hid hf
          clear hf
          go_wp2_with (at_builtin; refine wpList_append_own _ rfl _ _ 22 rfl w.heap.size 3 i0 (.int .i64 0) 1 8 Try.underlying22 hi hz0 hz1 hz2 rfl (by decide) _ _ _ rfl HOW.out ⟨b3, o3, none⟩ r.length (C k) (IL r) rfl HRN.out (HN.out _ hbel) (IL_oneC r) (by unfold maxLen; omega) (by omega) hbel.size ?_)
          intro v' w2 hown' hgrow _
          have hb1 : Below w.heap.size w w2 := hbel.grown hgrow hbel.size (fun q hq => (HOW.out.lt q hq).1)
          have hown2 : w2.ownsRow w.heap.size 3 1 v' (f ++ r).length (IL (f ++ r)) := by rw [IL_app, List.length_append]; exact hown'
          rw [← HFS.out] at hown2
          have HO2 := hid hown2
          clear hown' hgrow hown2
          go_wp2_with fail
          go_roundw
          case rel => exact ⟨k + 1, by omega, by go_num, HO2.out, hb1⟩
          case measure => simp [intOf]; omega
        · have hkn : k = rows.length := by omega
          subst hkn
          rw [List.take_of_length_le (Nat.le_refl _)] at hown
          obtain ⟨A', c', rfl, ho'⟩ := own_form hown rfl
          clear hown
          go_wp2_with fail
          go_ret
          exact ⟨A', c', rfl, ho', hbel⟩
end Go.Proofs.Ytmjncedijddmmaa
/-
  Contracts: HooksDivisible of the program and of the model.
-/
namespace Go.Proofs.Ytmjncedijddmmaa
open Go.RowKit

def dvB (t h : Int) : Bool := h.tmod t == 0
def divL (xs : List Int) (t : Int) : List Int := (hooksR xs).flatten.filter (dvB t)
def quoL (t : Int) (hs : List Int) : List Int := hs.map fun h => h.tdiv t
def divF (xs : List Int) (t : Int) : List Int := if crB xs t then quoL t (divL xs t) else []
theorem getD_get (F : List Int) {k : Nat} (h : k < F.length) : F.getD k 0 = F[k] := by rw [List.getD_eq_getElem?_getD, List.getElem?_eq_getElem h]; rfl
theorem quoL_len (t : Int) (hs : List Int) : (quoL t hs).length = hs.length := by simp [quoL]
theorem quoL_snoc (t : Int) {hs fs : List Int} {x : Int} (h : hs = fs ++ [x]) : quoL t hs = quoL t fs ++ [x.tdiv t] := by subst h; simp [quoL]
def divN (xs : List Int) (t : Int) : Int := ((divF xs t).length : Int)
theorem divL_len {xs : List Int} (G : Good xs) (t : Int) : (divL xs t).length ≤ 900 := by
  have h := List.length_filter_le (dvB t) (hooksR xs).flatten
  rw [flat_len] at h
  have := hooksR_tot G
  unfold divL; omega
theorem filter_snoc_t {p : Int → Bool} (xs : List Int) (k : Nat) (h : k < xs.length) (hp : p (xs.getD k 0) = true) : (xs.take (k + 1)).filter p = (xs.take k).filter p ++ [xs.getD k 0] := by
  have e : xs.getD k 0 = xs[k] := by rw [List.getD_eq_getElem?_getD, List.getElem?_eq_getElem h]; rfl
  rw [List.take_succ_eq_append_getElem h, List.filter_append, ← e, List.filter_cons_of_pos (by simpa using hp), List.filter_nil]
theorem filter_snoc_f {p : Int → Bool} (xs : List Int) (k : Nat) (h : k < xs.length) (hp : p (xs.getD k 0) = false) : (xs.take (k + 1)).filter p = (xs.take k).filter p := by
  have e : xs.getD k 0 = xs[k] := by rw [List.getD_eq_getElem?_getD, List.getElem?_eq_getElem h]; rfl
  rw [List.take_succ_eq_append_getElem h, List.filter_append, ← e, List.filter_cons_of_neg (by rw [hp]; exact Bool.false_ne_true), List.filter_nil, List.append_nil]
theorem hooksR_pos {xs : List Int} (G : Good xs) : ∀ j, j < (hooksR xs).length → 0 < ((hooksR xs).getD j []).length := by
  intro j hj
  rw [hooksR_len] at hj
  unfold hooksR
  rw [rowsF_get xs _ _ _ hj, rowF_len]
  have := G.pos j hj
  omega
theorem hooksR_bd {xs : List Int} (G : Good xs) : ∀ h ∈ (hooksR xs).flatten, 1 ≤ h ∧ h ≤ 60 := by
  intro h hh
  obtain ⟨row, hr, hm⟩ := List.mem_flatten.1 hh
  simp only [hooksR, rowsF, List.mem_map, List.mem_range] at hr
  obtain ⟨r, hrl, rfl⟩ := hr
  simp only [rowF, List.mem_map, List.mem_range] at hm
  obtain ⟨c, hc, rfl⟩ := hm
  have hx := G.le r hrl
  have hx1 := G.pos r hrl
  have hcx : (c : Int) < xs.getD r 0 := by omega
  have h1 := (colH_iff G (c : Int) (by omega) r).2 hcx
  have h0 : c < (xs.getD 0 0).toNat := by have := down_le xs G.down 0 r (by omega); rw [Nat.zero_add] at this; omega
  have h2 := cols_get xs c h0
  have h3 : colH xs (c : Int) ≤ 30 := by have := (colH_bound xs (c : Int)).2; have := G.len; omega
  unfold hookN
  rw [h2]; omega
theorem quo_ok {x t : Int} (h : 1 ≤ x ∧ x ≤ 60) (ht : 2 ≤ t ∧ t ≤ 6) : IntKind.i64.wrap (x.tdiv t) = x.tdiv t := by
  have : x.tdiv t = x / t := Int.tdiv_eq_ediv_of_nonneg (by omega)
  rw [this]
  have h1 : 0 ≤ x / t := Int.ediv_nonneg (by omega) (by omega)
  have h2 : x / t ≤ x := Int.ediv_le_self _ (by omega)
  exact IntWalk.i64_in _ (by omega)
theorem inB26 {t : Int} (h : inB 2 6 t = true) : 2 ≤ t ∧ t ≤ 6 := inB_iff.1 h

set_option maxRecDepth 100000 in
set_option maxHeartbeats 2000000 in
theorem quotientHooks_any (A : Option Addr) (c : Nat) (xs : List Int) (t : Int) (w : World) (hl : xs.length ≤ 1048576) (hc : Cells w A xs) :
    Calls Try.prog 52 #[.slice A xs.length c, .int .i64 t] w fun e w' => ∃ A' c', e = .returned (.tuple #[.slice A' (divF xs t).length c', .bool (crB xs t)]) ∧ Own w' w.heap.size A' c' (divF xs t) ∧ Below w.heap.size w w' := by
  obtain ⟨i0, hi, hz0, hz1, hz2⟩ := info_parts Try.infoInt
  have HH := hid (impl_HooksOf A c xs w hl hc)
  cases hgg : good xs
  · have hg : crB xs t = false := by simp [crB, hgg]
    rw [show divF xs t = [] by simp [divF, hg], hg]
    rw [hgg] at HH
    clear hg hgg
    go_enter Try.func52, Try.ntmps52
    go_wp2_with (go_at_call 79; refine (HH.out).mono ?_; rintro e w2 ⟨A2, c2, rfl, o2, b2⟩)
    go_ret2
    exact ⟨none, 0, rfl, own_nil _ _, b2⟩
  cases ht : inB 2 6 t
  · have hg : crB xs t = false := by simp [crB, ht]
    rw [show divF xs t = [] by simp [divF, hg], hg]
    rw [hgg] at HH
    have HT := hid ht
    clear hg hgg ht
    go_enter Try.func52, Try.ntmps52
    go_wp2_with (first | (go_at_call 79; refine (HH.out).mono ?_; rintro e w2 ⟨A2, c2, rfl, o2, b2⟩) | (go_at_call 38; refine (hasRunners_b _ _ _ HT.out).mono ?_; rintro e w' ⟨rfl, rfl⟩))
    go_ret2
    exact ⟨none, 0, rfl, own_nil _ _, b2⟩
  have hg : crB xs t = true := by simp [crB, hgg, ht]
  have G := (good_iff xs).1 hgg
  rw [show divF xs t = quoL t (divL xs t) by simp [divF, hg], hg]
  have hhf : hooksF xs = hooksR xs := hooksF_t hgg
  rw [hgg, hhf] at HH
  have HT := hid ht
  have ht2 := inB26 ht
  have hRl := hooksR_len xs
  have HTT := hid (hooksR_tot G)
  have HPP := hid (hooksR_pos G)
  have h30 := G.len
  have hfl := flat_len (hooksR xs)
  unfold divL
  obtain ⟨R, hR⟩ : ∃ R, R = hooksR xs := ⟨_, rfl⟩
  rw [← hR] at HH HTT HPP hRl hfl ⊢
  have hR30 : R.length ≤ 30 := by omega
  have HCO := hid fun Ax cx W (h : Cells2 W Ax R) => concat_any Ax cx R W (by omega) (by have := HTT.out; omega) HPP.out h
  have HBD := hid (show ∀ h ∈ R.flatten, 1 ≤ h ∧ h ≤ 60 by rw [hR]; exact hooksR_bd G)
  obtain ⟨F, hF⟩ : ∃ F, F = R.flatten := ⟨_, rfl⟩
  rw [← hF] at HCO hfl HBD ⊢
  have hF9 : F.length ≤ 900 := by have := HTT.out; omega
  have hne : ¬ t = 0 := by omega
  clear hR hRl hF hfl hhf hg hgg ht G
  go_enter Try.func52, Try.ntmps52
  go_wp2_with (first | (go_at_call 79; refine (HH.out).mono ?_; rintro e w2 ⟨A2, c2, rfl, o2, b2⟩) | (go_at_call 38; refine (hasRunners_b _ _ _ HT.out).mono ?_; rintro e w' ⟨rfl, rfl⟩) | (go_at_call 80; refine (HCO.out _ _ _ o2.cells).mono ?_; rintro e w3 ⟨A3, c3, rfl, o3, b3⟩))
  have B3 : Below w.heap.size w w3 := Below.next b2 b3
  have hz3 := B3.size
  go_loopw [8, 26] (fun v i wr => ∃ k : Nat, k ≤ F.length ∧ i = .int .i64 k ∧ wr.ownsRow w3.heap.size 3 1 v (quoL t ((F.take k).filter (dvB t))).length (IL (quoL t ((F.take k).filter (dvB t)))) ∧ Below w3.heap.size w3 wr) (fun _ i _ => F.length - (intOf i).toNat)
  case atStart => exact ⟨0, Nat.zero_le _, rfl, World.ownsRow_nil _ _ _ _, Below.refl _ _⟩
  case round =>
    obtain ⟨k, hk, rfl, hown, hbel⟩ := hrel
    by_cases hlt : k < F.length
    · obtain ⟨b, o, rfl, hck⟩ := (o3.below hbel).cells.get hlt
      have hfll := List.length_filter_le (dvB t) (F.take k)
      rw [List.length_take] at hfll
      have hfl9 : ((F.take k).filter (dvB t)).length ≤ 900 := by omega
      have hst := filter_snoc_t (p := dvB t) F k hlt
      have hsf := filter_snoc_f (p := dvB t) F k hlt
      have hxb := HBD.out _ (List.getElem_mem hlt)
      rw [← getD_get F hlt] at hxb
      obtain ⟨x, hx⟩ : ∃ x, x = F.getD k 0 := ⟨_, rfl⟩
      rw [← hx] at hck hst hsf hxb
      have HXB := hid hxb; clear hxb
      have HST := hid hst; have HSF := hid hsf; have HFL := hid hfl9; have HOW := hid hown
      clear hx hst hsf hfll hfl9 hown
      cases hd : dvB t x
      · have hm : ¬ x.tmod t = 0 := by simpa [dvB] using hd
        have hs := HSF.out hd
        have ho := HOW.out
        rw [← hs] at ho
        have HO := hid ho
        clear hs ho hd
        go_wp2_with fail
        go_roundw
        case rel => exact ⟨k + 1, by omega, by go_num, HO.out, hbel⟩
        case measure => simp [intOf]; omega
      · have hm : x.tmod t = 0 := by simpa [dvB] using hd
        have HS := hid (quoL_snoc t (HST.out hd))
        rw [← quoL_len t] at HFL
        obtain ⟨f, hf⟩ : ∃ f, f = quoL t ((F.take k).filter (dvB t)) := ⟨_, rfl⟩
        rw [← hf] at HOW HFL HS
        have HW := hid (quo_ok HXB.out ht2)
        obtain ⟨y, hy⟩ : ∃ y, y = x.tdiv t := ⟨_, rfl⟩
        rw [← hy] at HS HW
        have HY := hid hy
        have hwy : IntKind.i64.wrap (x.tdiv t) = y := by rw [← HY.out]; exact HW.out
        clear hd hf hy
        go_wp2_with (at_builtin; refine wpList_append_own _ rfl _ _ 22 rfl w3.heap.size 3 i0 (.int .i64 0) 1 8 Try.underlying22 hi hz0 hz1 hz2 rfl (by decide) _ _ _ rfl (HOW.out.alloc _) ⟨wr.heap.size, 0, none⟩ 1 1 [.int .i64 y] rfl rfl one_at (one_cell _) (by have := HFL.out; unfold maxLen; omega) (by have := HFL.out; omega) (by have := hbel.size; simp; omega) ?_)
        intro v' w4 hown' hgrow _
        have hb1 : Below w3.heap.size w3 w4 := (hbel.alloc hbel.size _).grown hgrow (by have := hbel.size; simp; omega) (fun q hq => (HOW.out.lt q hq).1)
        have hown2 := own_snoc HS.out hown'
        have HO2 := hid hown2
        clear hgrow hown' hown2
        go_wp2_with fail
        go_roundw
        case rel => exact ⟨k + 1, by omega, by go_num, HO2.out, hb1⟩
        case measure => simp [intOf]; omega
    · have hkn : k = F.length := by omega
      subst hkn
      rw [List.take_of_length_le (Nat.le_refl _)] at hown
      obtain ⟨A', c', rfl, ho'⟩ := own_form hown rfl
      clear hown
      go_wp2_with fail
      go_ret2
      exact ⟨A', c', rfl, ho'.more hz3, Below.next B3 hbel⟩
def cntD (t : Int) (R : List (List Int)) (k : Nat) : Nat := ((R.take k).flatten.filter (dvB t)).length
theorem cntD_succ (t : Int) (R : List (List Int)) (k : Nat) (h : k < R.length) : cntD t R (k + 1) = cntD t R k + ((R.getD k []).filter (dvB t)).length := by
  unfold cntD; rw [flat_succ R k h, List.filter_append, List.length_append]
theorem cntD_le (t : Int) (R : List (List Int)) (k : Nat) : cntD t R k ≤ tot R := by
  have h := List.length_filter_le (dvB t) (R.take k).flatten
  rw [flat_len] at h
  have := tot_take_le R k
  unfold cntD; omega

end Go.Proofs.Ytmjncedijddmmaa
