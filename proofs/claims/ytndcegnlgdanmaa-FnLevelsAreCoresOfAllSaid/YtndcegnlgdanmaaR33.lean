/-
  Several texts in one.
-/
import Derived.Test.YtndcegnlgdanmaaR09
import Derived.Test.YtndcegnlgdanmaaR03
import Derived.Test.YtndcegnlgdanmaaR08
import Derived.Test.YtndcegnlgdanmaaCC
import Derived.Test.YtndcegnlgdanmaaBlk
import Derived.Test.YtndcegnlgdanmaaR02
import Derived.Test.YtndcegnlgdanmaaR06
/-
  Contracts: LevelsOf of the program.
-/
namespace Go.Proofs.Ytndcegnlgdanmaa
open Go.RowKit

def qN (t n : Nat) : Nat := (n + t - 1) / t
theorem lvL_eq {xs : List Int} {t : Nat} (ht : 2 ≤ t ∧ t ≤ 6) (G : Good xs) : lvL xs t = fnRow t fun i => cnt t (beadsL xs (mulN t xs.length)) i - (qN t xs.length : Nat) := by
  have hb := mulN_bd (t := t) (n := xs.length) ht
  have := G.len
  unfold lvL lvK
  refine rowF_ext _ _ _ fun j hj => ?_
  exact lv_main G hj rfl hb.1 (by omega)
def midI (f g : Nat → Int) (t k : Nat) : List Int := fnRow t fun j => if j < k then f j else g j
theorem midI_len (f g : Nat → Int) (t k : Nat) : (midI f g t k).length = t := fnRow_len _ _
theorem midI_zero (f g : Nat → Int) (t : Nat) : midI f g t 0 = fnRow t g := rowF_ext _ _ _ fun j _ => by simp
theorem midI_all (f g : Nat → Int) (t : Nat) : midI f g t t = fnRow t f := rowF_ext _ _ _ fun j hj => by rw [if_pos hj]
theorem midI_get (f g : Nat → Int) (t k : Nat) (h : k < t) : (midI f g t k).getD k 0 = g k := by unfold midI; rw [fnRow_get _ _ _ h]; simp
theorem midI_set (f g : Nat → Int) (t k : Nat) : (midI f g t k).set k (f k) = midI f g t (k + 1) := by
  unfold midI
  rw [fnRow_set]
  refine rowF_ext _ _ _ fun j _ => ?_
  by_cases e : j = k
  · subst e; simp
  · rw [if_neg e]
    by_cases h : j < k
    · rw [if_pos h, if_pos (by omega)]
    · rw [if_neg h, if_neg (by omega)]

set_option maxRecDepth 100000 in
set_option maxHeartbeats 2000000 in
theorem impl_LevelsOf (A : Option Addr) (c : Nat) (xs : List Int) (t : Int) (w : World) (hl : xs.length ≤ 1048576) (hc : Cells w A xs) (h64 : I64 t) :
    Calls Try.prog 10 #[.slice A xs.length c, .int .i64 t] w fun e w' => ∃ A' c', e = .returned (.tuple #[.slice A' (lvF xs t).length c', .bool (lvOk xs t)]) ∧ Own w' w.heap.size A' c' (lvF xs t) ∧ Below w.heap.size w w' := by
  have HE := hid fun W (h : Cells W A xs) => evenAbacus_any A c xs t W hl h h64
  cases hcr : crB xs t
  · have hg := lvOk_cr hcr
    rw [lvF_f hg, hg]
    rw [hcr] at HE
    clear hcr hg
    go_enter Try.func10, Try.ntmps10
    go_wp2_with fail
    refine (HE.out _ hc).mono ?_
    rintro e w1 ⟨A1, c1, rfl, o1, b1⟩
    go_wp2_with fail
    go_ret2
    exact ⟨none, 0, rfl, own_nil _ _, b1.alloc b1.size _⟩
  obtain ⟨hg, ht⟩ := crB_good hcr
  have hin := inB_iff.1 ht
  obtain ⟨t, rfl⟩ : ∃ m : Nat, t = m := ⟨t.toNat, by omega⟩
  have ht2 : 2 ≤ t ∧ t ≤ 6 := by omega
  have G := (good_iff xs).1 hg
  have hmb := mulN_bd (t := t) (n := xs.length) ht2
  have h30 := G.len
  have heq : evF xs t = beadsL xs (mulN t xs.length) := by simp [evF, hcr, evN]
  have hev : goodB (evF xs t) = true := by rw [heq]; exact beadsL_goodB G hmb.1 (by omega)
  have GB := goodB_iff.1 hev
  have hab : isAba t (evF xs t) = true := by simp [isAba, ht, hev]
  have hR : evR xs t = t := by simp [evR, hcr]
  rw [hR, hcr] at HE
  have hlv := lvL_eq ht2 G
  rw [← heq] at hlv
  have hnl : (evF xs t).length = qN t xs.length * t := by rw [heq, beadsL_len]; rfl
  obtain ⟨q, hq⟩ : ∃ q, q = qN t xs.length := ⟨_, rfl⟩
  rw [← hq] at hlv hnl
  have hok := lvOk_lev hcr
  have hF : lvF xs t = if levB (lvL xs t) then lvL xs t else [] := by
    cases h : levB (lvL xs t)
    · rw [h] at hok; rw [lvF_f hok]; simp
    · rw [h] at hok; rw [lvF_t hok]; simp
  rw [hok, hF, hlv]
  clear hok hF hlv hR heq hev hcr hg
  obtain ⟨L, hL⟩ : ∃ L, L = evF xs t := ⟨_, rfl⟩
  rw [← hL] at HE GB hab hnl
  rw [show evF xs t = L from hL.symm]
  have hL40 := GB.len
  have hCF : countsF t L = cntL t L := by simp [countsF, hab]
  have HCO := hid fun A1 c1 W (h : Cells W A1 L) => impl_CountsOf t A1 c1 L W (by omega) h
  rw [hab, hCF, show (cntL t L).length = t from fnRow_len _ _] at HCO
  have HCB := hid fun (i : Nat) (hi : i < t) => (cnt_bd t L i : 0 ≤ cnt t L i ∧ cnt t L i ≤ L.length)
  have hqb : q ≤ 40 := by
    have : q * 2 ≤ q * t := Nat.mul_le_mul_left _ ht2.1
    omega
  have htd : Int.tdiv (L.length : Int) (t : Int) = (q : Int) := by
    rw [hnl]
    show (((q * t) / t : Nat) : Int) = q
    rw [Nat.mul_div_cancel _ (by omega)]
  have hne : ¬ ((t : Int) = 0) := by omega
  have HIF := hid fun A1 c1 W B (h : Own W B A1 c1 (fnRow t fun i => cnt t L i - (q : Nat))) => ifLevels_own A1 c1 (fnRow t fun i => cnt t L i - (q : Nat)) W (by rw [fnRow_len]; omega) h
  rw [fnRow_len] at HIF
  have HMZ := hid (midI_zero (fun i => cnt t L i - (q : Nat)) (cnt t L) t)
  have HMA := hid (midI_all (fun i => cnt t L i - (q : Nat)) (cnt t L) t)
  have HMG := hid (midI_get (fun i => cnt t L i - (q : Nat)) (cnt t L) t)
  have HMS := hid (midI_set (fun i => cnt t L i - (q : Nat)) (cnt t L) t)
  have HML := hid (midI_len (fun i => cnt t L i - (q : Nat)) (cnt t L) t)
  obtain ⟨M, hM⟩ : ∃ M, M = midI (fun i => cnt t L i - (q : Nat)) (cnt t L) t := ⟨_, rfl⟩
  rw [← hM] at HMZ HMA HMG HMS HML
  obtain ⟨R, hRd⟩ : ∃ R, R = fnRow t fun i => cnt t L i - (q : Nat) := ⟨_, rfl⟩
  rw [← hRd] at HIF HMA ⊢
  obtain ⟨r, hr⟩ : ∃ r, r = if levB R then R else [] := ⟨_, rfl⟩
  obtain ⟨b, hbq⟩ : ∃ b, b = levB R := ⟨_, rfl⟩
  rw [← hr, ← hbq] at HIF
  rw [← hr, ← hbq]
  clear hr hbq
  clear hM hRd hL hab GB hin ht G hnl hq hCF hmb
  go_enter Try.func10, Try.ntmps10
  go_wp2_with fail
  refine (HE.out _ hc).mono ?_
  rintro e w1 ⟨A1, c1, rfl, o1, b1⟩
  have y1 := Box2.new w1 37 (.int .i64 t) (.slice A1 L.length c1)
  have hb1 : Below w.heap.size w (w1.alloc (.cells #[.int .i64 t, .slice A1 L.length c1] 37)) := b1.alloc b1.size _
  have f1 := y1.cell0
  have f2 := y1.cell1
  have hsz := hb1.size
  have o2 := o1.cells.below (w' := w1.alloc (.cells #[.int .i64 t, .slice A1 L.length c1] 37)) ((Below.refl _ _).alloc (Nat.le_refl _) _)
  have O2 := hid o2
  clear o1 o2
  go_wp2_with fail
  refine (HCO.out _ _ _ O2.out).mono ?_
  rintro e w2 ⟨A2, c2, rfl, o3, b2⟩
  obtain ⟨g, hg, hg1, _⟩ := o3.at_ (by rw [show (cntL t L).length = t from fnRow_len _ _]; omega)
  subst hg
  have Y2 := hid (y1.next b2)
  have HB2 := hid (Below.next hb1 b2)
  have hs2 := b2.size
  have hgl : w.heap.size ≤ g := by omega
  have O3 := hid (show Own w2 w.heap.size (some ⟨g, 0, none⟩) c2 (M 0) by rw [HMZ.out]; exact o3.more hsz)
  have hgne : w1.heap.size ≠ g := by simp at hg1; omega
  clear o3 f1 f2 y1
  go_wp2_with fail
  go_loopw [26] (fun i wr => ∃ k : Nat, k ≤ t ∧ i = .int .i64 k ∧ Hid (Own wr w.heap.size (some ⟨g, 0, none⟩) c2 (M k)) ∧ Hid (Box2 wr w1.heap.size 37 (.int .i64 t) (.slice A1 L.length c1)) ∧ Below w.heap.size w wr) (fun i _ => t - (intOf i).toNat)
  case atStart => exact ⟨0, Nat.zero_le _, rfl, O3, Y2, HB2.out⟩
  case round =>
    obtain ⟨k, hk, rfl, HO, HY, hbel⟩ := hrel
    clear O3 Y2 HB2
    by_cases hlt : k < t
    · have hub := HCB.out k hlt
      have hcur : wr.drew.cell? ⟨g, k, none⟩ = some (.int .i64 ((M k).getD k 0)) := own_get HO.out (k := k) (by rw [HML.out]; exact hlt)
      rw [HMG.out k hlt] at hcur
      have hfz : wr.drew.frozen? ⟨g, k, none⟩ = false := own_froz HO.out k
      have hfb : wr.drew.cell? ⟨w1.heap.size, 1, none⟩ = some (.slice A1 L.length c1) := HY.out.cell1
      have hst : Own (wr.drew.setCell ⟨g, k, none⟩ (.int .i64 (cnt t L k - q))) w.heap.size (some ⟨g, 0, none⟩) c2 (M (k + 1)) := own_len (own_set (show Own wr.drew w.heap.size (some ⟨g, 0, none⟩) c2 (M k) from HO.out) k (cnt t L k - q)) (HMS.out k)
      obtain ⟨u, hu⟩ : ∃ u, u = cnt t L k := ⟨_, rfl⟩
      rw [← hu] at hcur hub hst
      have HS := hid hst
      have HYS := hid ((show Box2 wr.drew _ _ _ _ from HY.out).other (g' := g) (k := k) hgne (.int .i64 (u - q)))
      have hb5 : Below w.heap.size w (wr.drew.setCell ⟨g, k, none⟩ (.int .i64 (u - q))) := (below_drewN hbel 1).setCell (by simp; omega) _
      clear hst hu
      go_wp2_with fail
      go_region
      go_wp2_with fail
      go_roundw
      case rel => exact ⟨k + 1, by omega, by go_num, HS, HYS, hb5⟩
      case measure => simp [intOf]; omega
    · have hkl : k = t := by omega
      subst hkl
      have HO2 := hid (own_len HO.out HMA.out)
      have hi := hid (HIF.out _ _ _ _ HO2.out)
      clear HO
      go_wp2_with (go_at_call 31; refine hi.out.mono ?_; rintro e w' ⟨⟨A', c', rfl, ho⟩, rfl⟩)
      go_ret2
      exact ⟨A', c', rfl, ho, hbel⟩
end Go.Proofs.Ytndcegnlgdanmaa
/-
  Contracts: ResidueCounts of the program and of the model.
-/
namespace Go.Proofs.Ytndcegnlgdanmaa
open Go.RowKit

set_option maxHeartbeats 400000 in
theorem residueOf_any (x : Int) (t : Nat) (w : World) (ht : 2 ≤ t ∧ t ≤ 6) :
    Calls Try.prog 38 #[.int .i64 x, .int .i64 t] w fun e w' => e = .returned (.int .i64 (x % (t : Int))) ∧ w = w' := by
  obtain ⟨h1, h2, h3⟩ := tmod_resid (x := x) (t := (t : Int)) (by omega)
  obtain ⟨y, hy⟩ : ∃ y, y = Int.tmod x (t : Int) := ⟨_, rfl⟩
  rw [← hy] at h1 h2 h3
  have hyy : Int.tmod x (t : Int) = y := hy.symm
  have hne : ¬ ((t : Int) = 0) := by omega
  obtain ⟨z, hz⟩ : ∃ z, z = x % (t : Int) := ⟨_, rfl⟩
  rw [← hz] at h3 ⊢
  clear hy hz
  go_enter Try.func38, Try.ntmps38
  go_wp2
  go_ret
  exact ⟨rfl, rfl⟩

/-- A copy of what a slice shows that is not empty. -/
theorem at_news {w : World} {ad : Addr} {xs : List Int} (hc : Cells w (some ad) xs) (o : Obj) : ∀ k u, (IL xs)[k]? = some u → (w.alloc o).cell? (ad.add k) = some u := by
  intro k u hu
  have hk : k < xs.length := by
    have := (List.getElem?_eq_some_iff.1 hu).1
    simpa [IL] using this
  obtain ⟨b, o', he, hcc⟩ := hc (by omega)
  have h := hcc k hk
  rw [IL_get xs k hk] at hu
  injection he with he
  subst he
  have e : (⟨b, o', none⟩ : Addr).add k = ⟨b, o' + k, none⟩ := by unfold Addr.add; split <;> simp_all
  rw [e, World.cell?_of_block (w := w) (w' := w.alloc o) (Below.heap_alloc _ _ _ (World.block_lt_of_cell? w _ h)), h, hu]
set_option maxRecDepth 100000 in
set_option maxHeartbeats 1000000 in
theorem cloneCells_any (ad : Addr) (c : Nat) (xs : List Int) (w : World) (hl : xs.length ≤ 1048576) (hc : Cells w (some ad) xs) :
    Calls Try.prog 39 #[.slice (some ad) xs.length c] w fun e w' => ∃ A' c', e = .returned (.slice A' xs.length c') ∧ Own w' w.heap.size A' c' xs ∧ Below w.heap.size w w' := by
  obtain ⟨i0, hi, hz0, hz1, hz2⟩ := info_parts Try.infoInt
  have hm0 := World.ownsRow_made (base := w.heap.size) (e := 3) (size := 1) w #[] 0 (Nat.le_refl _) (by unfold maxLen; omega) rfl
  have hb0 : Below w.heap.size w (w.alloc (.cells #[] 3)) := (Below.refl _ _).alloc (Nat.le_refl _) _
  have hat := at_news hc (.cells #[] 3)
  have hnil := fun w => Lib.run_eql_slice_nil (P := Try.prog) w 22 3 (some ad) xs.length c 0 0 Try.underlying22
  go_enter Try.func39, Try.ntmps39
  go_wp2_with (at_builtin; refine wpList_append_own _ rfl _ _ 22 rfl w.heap.size 3 i0 (.int .i64 0) 1 8 Try.underlying22 hi hz0 hz1 hz2 rfl (by decide) _ 0 [] rfl hm0 ad xs.length c (IL xs) rfl (by simp [IL]) hat (IL_oneC xs) (by unfold maxLen; omega) (by omega) (by simp) ?_)
  intro v' w1 hown' hgrow _
  have hb1 : Below w.heap.size w w1 := hb0.grown hgrow (by simp) (fun q hq => (hm0.lt q hq).1)
  obtain ⟨A', c', rfl, ho'⟩ := own_form hown' rfl
  clear hown' hgrow
  go_wp2_with fail
  go_ret
  exact ⟨A', c', rfl, ho', hb1⟩

/-- The six counters of the program after a list of contents. -/
def arrC (t : Nat) (L : List Int) : Nat → Value := fun j => .int .i64 (if j < t then cnt t L j else 0)
theorem arrC_upd (t : Nat) (L : List Int) (x : Int) (m : Nat) (hm : x % (t : Int) = (m : Int)) (hmt : m < t) (k : Nat) : updV (arrC t L) m (.int .i64 (cnt t L m + 1)) k = arrC t (L ++ [x]) k := by
  unfold updV arrC
  rw [cnt_snoc t L x m hm]
  by_cases h : k = m
  · subst h; rw [if_pos rfl, if_pos hmt, if_pos rfl]
  · rw [if_neg h, if_neg h]

theorem arrC_nil (t : Nat) : ca 6 (arrC t []) = #[.int .i64 0, .int .i64 0, .int .i64 0, .int .i64 0, .int .i64 0, .int .i64 0] := by
  rw [ca_ext (d := fun _ => .int .i64 0) (fun k _ => by unfold arrC; congr 1; split <;> rfl)]; rfl
theorem arrC_at (t : Nat) (L : List Int) (m : Nat) (h : m < t) : arrC t L m = .int .i64 (cnt t L m) := by unfold arrC; rw [if_pos h]
theorem takeSnocR (ys : List Int) (k : Nat) (h : k < ys.length) : ys.take (k + 1) = ys.take k ++ [ys.getD k 0] := take_snoc ys k h _ rfl

set_option maxRecDepth 100000 in
set_option maxHeartbeats 2000000 in
theorem impl_ResidueCounts (A : Option Addr) (c : Nat) (xs : List Int) (t : Int) (w : World) (hl : xs.length ≤ 1048576) (hc : Cells w A xs) (_ : I64 t) :
    Calls Try.prog 14 #[.slice A xs.length c, .int .i64 t] w fun e w' => ∃ A' c', e = .returned (.tuple #[.slice A' (resF xs t).length c', .bool (resB xs t)]) ∧ Own w' w.heap.size A' c' (resF xs t) ∧ Below w.heap.size w w' := by
  have HH := hid (impl_ContentsOf A c xs w hl hc)
  cases hgg : good xs
  · have hg : resB xs t = false := by simp [resB, hgg]
    rw [resF_f hg, hg]
    rw [hgg] at HH
    clear hg hgg
    go_enter Try.func14, Try.ntmps14
    go_wp2_with (go_at_call 36; refine (HH.out).mono ?_; rintro e w2 ⟨A2, c2, rfl, o2, b2⟩)
    go_ret2
    exact ⟨none, 0, rfl, own_nil _ _, b2⟩
  cases ht : inB 2 6 t
  · have hg : resB xs t = false := by simp [resB, ht]
    rw [resF_f hg, hg]
    rw [hgg] at HH
    have HT := hid ht
    clear hg hgg ht
    go_enter Try.func14, Try.ntmps14
    go_wp2_with (first | (go_at_call 36; refine (HH.out).mono ?_; rintro e w2 ⟨A2, c2, rfl, o2, b2⟩) | (go_at_call 28; refine (hasRunners_b _ _ _ HT.out).mono ?_; rintro e w' ⟨rfl, rfl⟩))
    go_ret2
    exact ⟨none, 0, rfl, own_nil _ _, b2⟩
  have ht2 := inB_iff.1 ht
  obtain ⟨t, rfl⟩ : ∃ n : Nat, t = n := ⟨t.toNat, by omega⟩
  have hg : resB xs t = true := by simp [resB, hgg, ht]
  have G := (good_iff xs).1 hgg
  have hfin := resF_t hg
  rw [hfin, hg, cntL_len]
  rw [hgg, contF_t hgg] at HH
  have HT := hid ht
  have hRl := rowsF_len xs contN xs.length
  have HTT := hid (tot_rowsF xs contN G.le xs.length (Nat.le_refl _))
  have hpp : ∀ j, j < (rowsF xs contN xs.length).length → 0 < ((rowsF xs contN xs.length).getD j []).length := by
    intro j hj
    rw [rowsF_len] at hj
    rw [rowsF_get xs _ _ _ hj, rowF_len]
    have := G.pos j hj
    omega
  have HPP := hid hpp
  have h30 := G.len
  have hbd := contL_bd G xs.length (Nat.le_refl _)
  have hF9 := contL_len G xs.length (Nat.le_refl _)
  unfold contL at hbd hF9 ⊢
  obtain ⟨R, hR⟩ : ∃ R, R = rowsF xs contN xs.length := ⟨_, rfl⟩
  rw [← hR] at HH HTT HPP hRl hbd hF9 ⊢
  have HCO := hid fun Ax cx W (h : Cells2 W Ax R) => concat_any Ax cx R W (by omega) (by have := HTT.out; omega) HPP.out h
  obtain ⟨F, hF⟩ : ∃ F, F = R.flatten := ⟨_, rfl⟩
  rw [← hF] at HCO hbd hF9 ⊢
  have HBD := hid hbd
  clear hR hRl hF hpp hg hgg ht G hfin hbd
  go_enter Try.func14, Try.ntmps14
  go_wp2_with (first | (go_at_call 36; refine (HH.out).mono ?_; rintro e w2 ⟨A2, c2, rfl, o2, b2⟩) | (go_at_call 28; refine (hasRunners_b _ _ _ HT.out).mono ?_; rintro e w' ⟨rfl, rfl⟩) | (go_at_call 37; fail))
  obtain ⟨w3, hw3⟩ : ∃ w3, w3 = w2.alloc (.cells #[.int .i64 0, .int .i64 0, .int .i64 0, .int .i64 0, .int .i64 0, .int .i64 0] 51) := ⟨_, rfl⟩
  have y3 : Blk w3 w2.heap.size 51 6 (arrC t []) := by rw [hw3, ← arrC_nil t]; exact Blk.new _ _ _ _
  have b3 : Below w2.heap.size w2 w3 := by rw [hw3]; exact (Below.refl _ _).alloc (Nat.le_refl _) _
  have hs3 : w3.heap.size = w2.heap.size + 1 := by rw [hw3]; simp
  rw [← hw3]
  refine (HCO.out _ _ _ (o2.below b3).cells).mono ?_
  rintro e w4 ⟨A4, c4, rfl, o4, b4⟩
  have y4 := y3.next b4
  have B4 : Below w2.heap.size w2 w4 := Below.next b3 b4
  have hz2 := b2.size
  clear hw3 y3 b3 b4 o2
  go_wp2_with fail
  go_loopw [26] (fun i wr => ∃ k : Nat, k ≤ F.length ∧ i = .int .i64 k ∧ Blk wr w2.heap.size 51 6 (arrC t (F.take k)) ∧ Own wr w3.heap.size A4 c4 F ∧ Below w2.heap.size w2 wr) (fun i _ => F.length - (intOf i).toNat)
  case atStart => exact ⟨0, Nat.zero_le _, rfl, y4, o4, B4⟩
  case round =>
    obtain ⟨k, hk, rfl, hy, hown, hbel⟩ := hrel
    by_cases hlt : k < F.length
    · obtain ⟨b, o, rfl, hck⟩ := hown.cells.get hlt
      have hxm := HBD.out _ (getD_mem' hlt)
      have hts := takeSnocR F k hlt
      obtain ⟨x, hx⟩ : ∃ x, x = F.getD k 0 := ⟨_, rfl⟩
      rw [← hx] at hck hts hxm
      have hp1 := Int.emod_nonneg x (show (t : Int) ≠ 0 by omega)
      have hp2 := Int.emod_lt_of_pos x (show 0 < (t : Int) by omega)
      obtain ⟨m, hm⟩ : ∃ m : Nat, x % (t : Int) = m := ⟨(x % (t : Int)).toNat, by omega⟩
      have hmt : m < t := by omega
      have hcur := hy.cell (k := m) (by omega)
      rw [arrC_at t _ m hmt] at hcur
      have hfz := hy.froz m
      have hcb := cnt_bd t (F.take k) m
      rw [List.length_take] at hcb
      have hny := (hy.set m (.int .i64 (cnt t (F.take k) m + 1))).to (fun j _ => arrC_upd t (F.take k) x m hm hmt j)
      rw [← hts] at hny
      obtain ⟨u, hu⟩ : ∃ u, u = cnt t (F.take k) m := ⟨_, rfl⟩
      rw [← hu] at hcur hny hcb
      have hrs := fun W => residueOf_any x t W (by omega)
      rw [hm] at hrs
      have HRS := hid hrs
      have HNY := hid hny
      have HOW := hid hown
      have hm6 : m < 6 := by omega
      clear hx hts hp1 hp2 hm hu hrs hny hy hown o4 y4 B4
      go_wp2_with (go_at_call 38; refine (HRS.out _).mono ?_; rintro e w' ⟨rfl, rfl⟩)
      go_roundw
      case rel => exact ⟨k + 1, by omega, by go_num, HNY.out, HOW.out.keep (fun b' hb' _ => Below.heap_setCell _ _ _ b' (by have := (HOW.out.block b' hb').1; show b' ≠ w2.heap.size; omega)), hbel.setCell (Nat.le_refl _) _⟩
      case measure => simp [intOf]; omega
    · have hkn : k = F.length := by omega
      subst hkn
      rw [List.take_of_length_le (Nat.le_refl _)] at hy
      have hcl : Cells wr (some ⟨w2.heap.size, 0, none⟩) (cntL t F) := by
        intro _
        refine ⟨w2.heap.size, 0, rfl, fun j hj => ?_⟩
        rw [cntL_len] at hj
        rw [Nat.zero_add, hy.cell (by omega), arrC_at t F j hj]
        unfold cntL
        rw [fnRow_get _ _ _ hj]
      have hcq := cloneCells_any ⟨w2.heap.size, 0, none⟩ 6 (cntL t F) wr (by rw [cntL_len]; omega) hcl
      rw [cntL_len] at hcq
      have HCQ := hid hcq
      have hsz := hbel.size
      clear hy hown hcl hcq o4 y4 B4
      go_wp2_with (go_at_call 39; refine HCQ.out.mono ?_; rintro e w5 ⟨A5, c5, rfl, o5, b5⟩)
      go_ret2
      exact ⟨A5, c5, rfl, o5.more (by omega), Below.next (Below.next b2 hbel) b5⟩

set_option maxRecDepth 100000 in
set_option maxHeartbeats 2000000 in
theorem chCounts_any (A : Option Addr) (c : Nat) (xs : List Int) (t : Nat) (w : World) (G : Good xs) (ht : 2 ≤ t ∧ t ≤ 6) (hc : Cells w A xs) :
    Calls Try.prog 40 #[.slice A xs.length c, .int .i64 t] w fun e w' => ∃ A' c', e = .returned (.slice A' t c') ∧ Own w' w.heap.size A' c' (cntL t (contL xs xs.length)) ∧ Below w.heap.size w w' := by
  have h30 := G.len
  have HG := hid G; clear G
  have hmk := run_make_row' (P := Try.prog) 22 3 (.int .i64 0) 8 Try.underlying22 Try.infoInt rfl .i64 .i64 t (by omega) (by omega)
  obtain ⟨w2, hw2⟩ : ∃ w2, w2 = w.alloc (.cells (madeCells #[.int .i64 0] t) 3) := ⟨_, rfl⟩
  have o2 : Own w2 w.heap.size (some ⟨w.heap.size, 0, none⟩) t (cntL t []) := by rw [hw2, cntL_nil]; exact own_made w t (by omega)
  have b2 : Below w.heap.size w w2 := by rw [hw2]; exact (Below.refl _ _).alloc (Nat.le_refl _) _
  have hne : ¬ ((t : Int) = 0) := by omega
  go_enter Try.func40, Try.ntmps40
  go_wp2_with fail
  rw [← hw2]
  clear hw2
  go_loopw [13] (fun i wr => ∃ k : Nat, k ≤ xs.length ∧ i = .int .i64 k ∧ Own wr w.heap.size (some ⟨w.heap.size, 0, none⟩) t (cntL t (contL xs k)) ∧ Below w.heap.size w wr) (fun i _ => xs.length - (intOf i).toNat)
  case atStart => exact ⟨0, Nat.zero_le _, rfl, o2, b2⟩
  case round =>
    obtain ⟨k, hk, rfl, hown, hbel⟩ := hrel
    by_cases hlt : k < xs.length
    · have hx1 := HG.out.pos k hlt
      have hx2 := HG.out.le k hlt
      obtain ⟨b, o, rfl, hck⟩ := (hc.later hbel).get hlt
      obtain ⟨n, hn⟩ : ∃ n : Nat, (n : Int) = xs.getD k 0 := ⟨(xs.getD k 0).toNat, by omega⟩
      have hcs := contL_succ xs k
      rw [← hn] at hck hx1 hx2 hcs
      rw [Int.toNat_natCast] at hcs
      have hcl := contL_len HG.out k hk
      obtain ⟨L, hL⟩ : ∃ L, L = contL xs k := ⟨_, rfl⟩
      rw [← hL] at hcs hown hcl
      have HCS := hid hcs
      have HO := hid hown
      obtain ⟨wo, rfl⟩ : ∃ wo : World, wo = wr := ⟨_, rfl⟩
      clear hn hL hcs hown o2 b2
      go_wp2_with fail
      go_loopw [8] (fun j wi => ∃ m : Nat, m ≤ n ∧ j = .int .i64 m ∧ Own wi w.heap.size (some ⟨w.heap.size, 0, none⟩) t (cntL t (L ++ rowF contN k m)) ∧ Below w.heap.size w wi) (fun j _ => n - (intOf j).toNat)
      case atStart => exact ⟨0, Nat.zero_le _, rfl, by simpa [rowF] using HO.out, hbel⟩
      case round =>
        obtain ⟨m, hm, rfl, hown, hbi⟩ := hrel
        by_cases hml : m < n
        · have hfl := rowF_len contN k m
          obtain ⟨h1, h2, h3⟩ := tmod_resid (x := (m : Int) - (k : Int)) (t := (t : Int)) (by omega)
          have hp1 := Int.emod_nonneg ((m : Int) - (k : Int)) (show (t : Int) ≠ 0 by omega)
          have hp2 := Int.emod_lt_of_pos ((m : Int) - (k : Int)) (show 0 < (t : Int) by omega)
          obtain ⟨i, hi⟩ : ∃ i : Nat, ((m : Int) - (k : Int)) % (t : Int) = i := ⟨(((m : Int) - (k : Int)) % (t : Int)).toNat, by omega⟩
          have hit : i < t := by omega
          rw [hi] at h3
          have hcur := own_get hown (k := i) (by rw [cntL_len]; exact hit)
          have hfz := own_froz hown i
          have hst := own_len (own_set hown i ((cntL t (L ++ rowF contN k m)).getD i 0 + 1)) (cntL_snoc t (L ++ rowF contN k m) _ i hi hit)
          rw [List.append_assoc, show rowF contN k m ++ [(m : Int) - (k : Int)] = rowF contN k (m + 1) from (rowF_succ contN k m).symm] at hst
          have hcb := cnt_bd t (L ++ rowF contN k m) i
          rw [List.length_append, hfl] at hcb
          rw [show (cntL t (L ++ rowF contN k m)).getD i 0 = cnt t (L ++ rowF contN k m) i from fnRow_get _ _ _ hit] at hcur hst
          obtain ⟨u, hu⟩ : ∃ u, u = cnt t (L ++ rowF contN k m) i := ⟨_, rfl⟩
          rw [← hu] at hcur hst hcb
          obtain ⟨y, hy⟩ : ∃ y, y = Int.tmod ((m : Int) - (k : Int)) (t : Int) := ⟨_, rfl⟩
          rw [← hy] at h1 h2 h3
          have hyy : Int.tmod ((m : Int) - (k : Int)) (t : Int) = y := hy.symm
          have HS := hid hst
          clear hfl hp1 hp2 hi hst hu hown hy
          go_wp2_with fail
          go_roundw
          case rel => exact ⟨m + 1, by omega, by go_num, HS.out, hbi.setCell (Nat.le_refl _) _⟩
          case measure => simp [intOf]; omega
        · have hmn : m = n := by omega
          subst hmn
          rw [← HCS.out] at hown
          have HO2 := hid hown
          clear hown
          go_wp2_with fail
          go_roundw
          case rel => exact ⟨k + 1, by omega, by go_num, HO2.out, hbi⟩
          case measure => simp [intOf]; omega
    · have hkn : k = xs.length := by omega
      subst hkn
      have HO := hid hown
      clear hown
      go_wp2_with fail
      go_ret
      exact ⟨_, _, rfl, HO.out, hbel⟩

set_option maxRecDepth 100000 in
set_option maxHeartbeats 1000000 in
theorem spec_ResidueCounts (A : Option Addr) (c : Nat) (xs : List Int) (t : Int) (w : World) (hl : xs.length ≤ 1048576) (hc : Cells w A xs) (_ : I64 t) :
    Calls Try.prog 15 #[.slice A xs.length c, .int .i64 t] w fun e w' => ∃ A' c', e = .returned (.tuple #[.slice A' (resF xs t).length c', .bool (resB xs t)]) ∧ Own w' w.heap.size A' c' (resF xs t) ∧ Below w.heap.size w w' := by
  cases hgg : good xs
  · have hg : resB xs t = false := by simp [resB, hgg]
    rw [resF_f hg, hg]
    have HG := hid hgg
    clear hg hgg
    go_enter Try.func15, Try.ntmps15
    go_wp2_with (go_at_call 33; refine (ptGood_b _ _ _ _ hl hc _ HG.out).mono ?_; rintro e w' ⟨rfl, n, rfl⟩)
    go_ret2
    exact ⟨none, 0, rfl, own_nil _ _, below_drew' _ _⟩
  have HG := hid hgg
  cases ht : inB 2 6 t
  · have hg : resB xs t = false := by simp [resB, ht]
    rw [resF_f hg, hg]
    have HT := hid ht
    clear hg hgg ht
    go_enter Try.func15, Try.ntmps15
    go_wp2_with (first | (go_at_call 33; refine (ptGood_b _ _ _ _ hl hc _ HG.out).mono ?_; rintro e w' ⟨rfl, n, rfl⟩) | (go_at_call 34; refine (chRunners_b _ _ _ HT.out).mono ?_; rintro e w' ⟨rfl, rfl⟩))
    go_ret2
    exact ⟨none, 0, rfl, own_nil _ _, below_drew' _ _⟩
  have ht2 := inB_iff.1 ht
  obtain ⟨t, rfl⟩ : ∃ n : Nat, t = n := ⟨t.toNat, by omega⟩
  have hg : resB xs t = true := by simp [resB, hgg, ht]
  have hfin := resF_t hg
  rw [hfin, hg, cntL_len]
  have HT := hid ht
  have HCC := hid fun W (h : Cells W A xs) => chCounts_any A c xs t W ((good_iff xs).1 hgg) (by omega) h
  clear hg hgg ht hfin
  go_enter Try.func15, Try.ntmps15
  go_wp2_with (first | (go_at_call 33; refine (ptGood_b _ _ _ _ hl hc _ HG.out).mono ?_; rintro e w' ⟨rfl, n, rfl⟩) | (go_at_call 34; refine (chRunners_b _ _ _ HT.out).mono ?_; rintro e w' ⟨rfl, rfl⟩))
  refine (HCC.out _ (hc.below (below_drew' w n))).mono ?_
  rintro e w3 ⟨A3, c3, rfl, o3, b3⟩
  go_wp2_with fail
  go_ret2
  exact ⟨A3, c3, rfl, o3, Below.next (below_drew' w n) b3⟩
end Go.Proofs.Ytndcegnlgdanmaa
