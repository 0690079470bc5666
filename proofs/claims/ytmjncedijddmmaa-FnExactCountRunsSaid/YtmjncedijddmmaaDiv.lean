/-
  Contracts: HooksDivisible of the program and of the model.
-/
import Derived.Test.YtmjncedijddmmaaConcat
import Derived.Test.YtmjncedijddmmaaCC
import Derived.Test.YtmjncedijddmmaaHkMath
namespace Go.Proofs.Ytmjncedijddmmaa
open Go.RowKit

def dvB (t h : Int) : Bool := h.tmod t == 0
def divL (xs : List Int) (t : Int) : List Int := (hooksR xs).flatten.filter (dvB t)
def quoL (t : Int) (hs : List Int) : List Int := hs.map fun h => h.tdiv t
def divF (xs : List Int) (t : Int) : List Int := if crB xs t then quoL t (divL xs t) else []
theorem getD_get (F : List Int) {k : Nat} (h : k < F.length) : F.getD k 0 = F[k] := by rw [List.getD_eq_getElem?_getD, List.getElem?_eq_getElem h]; rfl
theorem quoL_len (t : Int) (hs : List Int) : (quoL t hs).length = hs.length := by simp [quoL]
theorem quoL_snoc (t : Int) {hs fs : List Int} {x : Int} (h : hs = fs ++ [x]) : quoL t hs = quoL t fs ++ [x.tdiv t] := by subst h; simp [quoL]
def divN (xs : List Int) (t : Int) : Int := ((divF xs t).length : Int)
theorem divL_len {xs : List Int} (G : Good xs) (t : Int) : (divL xs t).length ≤ 900 := by
  have h := List.length_filter_le (dvB t) (hooksR xs).flatten
  rw [flat_len] at h
  have := hooksR_tot G
  unfold divL; omega
theorem filter_snoc_t {p : Int → Bool} (xs : List Int) (k : Nat) (h : k < xs.length) (hp : p (xs.getD k 0) = true) : (xs.take (k + 1)).filter p = (xs.take k).filter p ++ [xs.getD k 0] := by
  have e : xs.getD k 0 = xs[k] := by rw [List.getD_eq_getElem?_getD, List.getElem?_eq_getElem h]; rfl
  rw [List.take_succ_eq_append_getElem h, List.filter_append, ← e, List.filter_cons_of_pos (by simpa using hp), List.filter_nil]
theorem filter_snoc_f {p : Int → Bool} (xs : List Int) (k : Nat) (h : k < xs.length) (hp : p (xs.getD k 0) = false) : (xs.take (k + 1)).filter p = (xs.take k).filter p := by
  have e : xs.getD k 0 = xs[k] := by rw [List.getD_eq_getElem?_getD, List.getElem?_eq_getElem h]; rfl
  rw [List.take_succ_eq_append_getElem h, List.filter_append, ← e, List.filter_cons_of_neg (by rw [hp]; exact Bool.false_ne_true), List.filter_nil, List.append_nil]
theorem hooksR_pos {xs : List Int} (G : Good xs) : ∀ j, j < (hooksR xs).length → 0 < ((hooksR xs).getD j []).length := by
  intro j hj
  rw [hooksR_len] at hj
  unfold hooksR
  rw [rowsF_get xs _ _ _ hj, rowF_len]
  have := G.pos j hj
  omega
theorem hooksR_bd {xs : List Int} (G : Good xs) : ∀ h ∈ (hooksR xs).flatten, 1 ≤ h ∧ h ≤ 60 := by
  intro h hh
  obtain ⟨row, hr, hm⟩ := List.mem_flatten.1 hh
  simp only [hooksR, rowsF, List.mem_map, List.mem_range] at hr
  obtain ⟨r, hrl, rfl⟩ := hr
  simp only [rowF, List.mem_map, List.mem_range] at hm
  obtain ⟨c, hc, rfl⟩ := hm
  have hx := G.le r hrl
  have hx1 := G.pos r hrl
  have hcx : (c : Int) < xs.getD r 0 := by omega
  have h1 := (colH_iff G (c : Int) (by omega) r).2 hcx
  have h0 : c < (xs.getD 0 0).toNat := by have := down_le xs G.down 0 r (by omega); rw [Nat.zero_add] at this; omega
  have h2 := cols_get xs c h0
  have h3 : colH xs (c : Int) ≤ 30 := by have := (colH_bound xs (c : Int)).2; have := G.len; omega
  unfold hookN
  rw [h2]; omega
theorem quo_ok {x t : Int} (h : 1 ≤ x ∧ x ≤ 60) (ht : 2 ≤ t ∧ t ≤ 6) : IntKind.i64.wrap (x.tdiv t) = x.tdiv t := by
  have : x.tdiv t = x / t := Int.tdiv_eq_ediv_of_nonneg (by omega)
  rw [this]
  have h1 : 0 ≤ x / t := Int.ediv_nonneg (by omega) (by omega)
  have h2 : x / t ≤ x := Int.ediv_le_self _ (by omega)
  exact IntWalk.i64_in _ (by omega)
theorem inB26 {t : Int} (h : inB 2 6 t = true) : 2 ≤ t ∧ t ≤ 6 := inB_iff.1 h

set_option maxRecDepth 100000 in
set_option maxHeartbeats 2000000 in
theorem quotientHooks_any (A : Option Addr) (c : Nat) (xs : List Int) (t : Int) (w : World) (hl : xs.length ≤ 1048576) (hc : Cells w A xs) :
    Calls Try.prog 52 #[.slice A xs.length c, .int .i64 t] w fun e w' => ∃ A' c', e = .returned (.tuple #[.slice A' (divF xs t).length c', .bool (crB xs t)]) ∧ Own w' w.heap.size A' c' (divF xs t) ∧ Below w.heap.size w w' := by
  obtain ⟨i0, hi, hz0, hz1, hz2⟩ := info_parts Try.infoInt
  have HH := hid (impl_HooksOf A c xs w hl hc)
  cases hgg : good xs
  · have hg : crB xs t = false := by simp [crB, hgg]
    rw [show divF xs t = [] by simp [divF, hg], hg]
    rw [hgg] at HH
    clear hg hgg
    go_enter Try.func52, Try.ntmps52
    go_wp2_with (go_at_call 79; refine (HH.out).mono ?_; rintro e w2 ⟨A2, c2, rfl, o2, b2⟩)
    go_ret2
    exact ⟨none, 0, rfl, own_nil _ _, b2⟩
  cases ht : inB 2 6 t
  · have hg : crB xs t = false := by simp [crB, ht]
    rw [show divF xs t = [] by simp [divF, hg], hg]
    rw [hgg] at HH
    have HT := hid ht
    clear hg hgg ht
    go_enter Try.func52, Try.ntmps52
    go_wp2_with (first | (go_at_call 79; refine (HH.out).mono ?_; rintro e w2 ⟨A2, c2, rfl, o2, b2⟩) | (go_at_call 38; refine (hasRunners_b _ _ _ HT.out).mono ?_; rintro e w' ⟨rfl, rfl⟩))
    go_ret2
    exact ⟨none, 0, rfl, own_nil _ _, b2⟩
  have hg : crB xs t = true := by simp [crB, hgg, ht]
  have G := (good_iff xs).1 hgg
  rw [show divF xs t = quoL t (divL xs t) by simp [divF, hg], hg]
  have hhf : hooksF xs = hooksR xs := hooksF_t hgg
  rw [hgg, hhf] at HH
  have HT := hid ht
  have ht2 := inB26 ht
  have hRl := hooksR_len xs
  have HTT := hid (hooksR_tot G)
  have HPP := hid (hooksR_pos G)
  have h30 := G.len
  have hfl := flat_len (hooksR xs)
  unfold divL
  obtain ⟨R, hR⟩ : ∃ R, R = hooksR xs := ⟨_, rfl⟩
  rw [← hR] at HH HTT HPP hRl hfl ⊢
  have hR30 : R.length ≤ 30 := by omega
  have HCO := hid fun Ax cx W (h : Cells2 W Ax R) => concat_any Ax cx R W (by omega) (by have := HTT.out; omega) HPP.out h
  have HBD := hid (show ∀ h ∈ R.flatten, 1 ≤ h ∧ h ≤ 60 by rw [hR]; exact hooksR_bd G)
  obtain ⟨F, hF⟩ : ∃ F, F = R.flatten := ⟨_, rfl⟩
  rw [← hF] at HCO hfl HBD ⊢
  have hF9 : F.length ≤ 900 := by have := HTT.out; omega
  have hne : ¬ t = 0 := by omega
  clear hR hRl hF hfl hhf hg hgg ht G
  go_enter Try.func52, Try.ntmps52
  go_wp2_with (first | (go_at_call 79; refine (HH.out).mono ?_; rintro e w2 ⟨A2, c2, rfl, o2, b2⟩) | (go_at_call 38; refine (hasRunners_b _ _ _ HT.out).mono ?_; rintro e w' ⟨rfl, rfl⟩) | (go_at_call 80; refine (HCO.out _ _ _ o2.cells).mono ?_; rintro e w3 ⟨A3, c3, rfl, o3, b3⟩))
  have B3 : Below w.heap.size w w3 := Below.next b2 b3
  have hz3 := B3.size
  go_loopw [8, 26] (fun v i wr => ∃ k : Nat, k ≤ F.length ∧ i = .int .i64 k ∧ wr.ownsRow w3.heap.size 3 1 v (quoL t ((F.take k).filter (dvB t))).length (IL (quoL t ((F.take k).filter (dvB t)))) ∧ Below w3.heap.size w3 wr) (fun _ i _ => F.length - (intOf i).toNat)
  case atStart => exact ⟨0, Nat.zero_le _, rfl, World.ownsRow_nil _ _ _ _, Below.refl _ _⟩
  case round =>
    obtain ⟨k, hk, rfl, hown, hbel⟩ := hrel
    by_cases hlt : k < F.length
    · obtain ⟨b, o, rfl, hck⟩ := (o3.below hbel).cells.get hlt
      have hfll := List.length_filter_le (dvB t) (F.take k)
      rw [List.length_take] at hfll
      have hfl9 : ((F.take k).filter (dvB t)).length ≤ 900 := by omega
      have hst := filter_snoc_t (p := dvB t) F k hlt
      have hsf := filter_snoc_f (p := dvB t) F k hlt
      have hxb := HBD.out _ (List.getElem_mem hlt)
      rw [← getD_get F hlt] at hxb
      obtain ⟨x, hx⟩ : ∃ x, x = F.getD k 0 := ⟨_, rfl⟩
      rw [← hx] at hck hst hsf hxb
      have HXB := hid hxb; clear hxb
      have HST := hid hst; have HSF := hid hsf; have HFL := hid hfl9; have HOW := hid hown
      clear hx hst hsf hfll hfl9 hown
      cases hd : dvB t x
      · have hm : ¬ x.tmod t = 0 := by simpa [dvB] using hd
        have hs := HSF.out hd
        have ho := HOW.out
        rw [← hs] at ho
        have HO := hid ho
        clear hs ho hd
        go_wp2_with fail
        go_roundw
        case rel => exact ⟨k + 1, by omega, by go_num, HO.out, hbel⟩
        case measure => simp [intOf]; omega
      · have hm : x.tmod t = 0 := by simpa [dvB] using hd
        have HS := hid (quoL_snoc t (HST.out hd))
        rw [← quoL_len t] at HFL
        obtain ⟨f, hf⟩ : ∃ f, f = quoL t ((F.take k).filter (dvB t)) := ⟨_, rfl⟩
        rw [← hf] at HOW HFL HS
        have HW := hid (quo_ok HXB.out ht2)
        obtain ⟨y, hy⟩ : ∃ y, y = x.tdiv t := ⟨_, rfl⟩
        rw [← hy] at HS HW
        have HY := hid hy
        have hwy : IntKind.i64.wrap (x.tdiv t) = y := by rw [← HY.out]; exact HW.out
        clear hd hf hy
        go_wp2_with (at_builtin; refine wpList_append_own _ rfl _ _ 22 rfl w3.heap.size 3 i0 (.int .i64 0) 1 8 Try.underlying22 hi hz0 hz1 hz2 rfl (by decide) _ _ _ rfl (HOW.out.alloc _) ⟨wr.heap.size, 0, none⟩ 1 1 [.int .i64 y] rfl rfl one_at (one_cell _) (by have := HFL.out; unfold maxLen; omega) (by have := HFL.out; omega) (by have := hbel.size; simp; omega) ?_)
        intro v' w4 hown' hgrow _
        have hb1 : Below w3.heap.size w3 w4 := (hbel.alloc hbel.size _).grown hgrow (by have := hbel.size; simp; omega) (fun q hq => (HOW.out.lt q hq).1)
        have hown2 := own_snoc HS.out hown'
        have HO2 := hid hown2
        clear hgrow hown' hown2
        go_wp2_with fail
        go_roundw
        case rel => exact ⟨k + 1, by omega, by go_num, HO2.out, hb1⟩
        case measure => simp [intOf]; omega
    · have hkn : k = F.length := by omega
      subst hkn
      rw [List.take_of_length_le (Nat.le_refl _)] at hown
      obtain ⟨A', c', rfl, ho'⟩ := own_form hown rfl
      clear hown
      go_wp2_with fail
      go_ret2
      exact ⟨A', c', rfl, ho'.more hz3, Below.next B3 hbel⟩
def cntD (t : Int) (R : List (List Int)) (k : Nat) : Nat := ((R.take k).flatten.filter (dvB t)).length
theorem cntD_succ (t : Int) (R : List (List Int)) (k : Nat) (h : k < R.length) : cntD t R (k + 1) = cntD t R k + ((R.getD k []).filter (dvB t)).length := by
  unfold cntD; rw [flat_succ R k h, List.filter_append, List.length_append]
theorem cntD_le (t : Int) (R : List (List Int)) (k : Nat) : cntD t R k ≤ tot R := by
  have h := List.length_filter_le (dvB t) (R.take k).flatten
  rw [flat_len] at h
  have := tot_take_le R k
  unfold cntD; omega

end Go.Proofs.Ytmjncedijddmmaa
