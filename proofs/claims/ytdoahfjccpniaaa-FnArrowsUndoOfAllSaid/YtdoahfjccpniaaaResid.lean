/-
  Contracts: ResidueCounts of the program and of the model.
-/
import Derived.Test.YtdoahfjccpniaaaR05
import Derived.Test.YtdoahfjccpniaaaCC
import Derived.Test.YtdoahfjccpniaaaBlk
import Derived.Test.YtdoahfjccpniaaaR12
import Derived.Test.YtdoahfjccpniaaaR15
namespace Go.Proofs.Ytdoahfjccpniaaa
open Go.RowKit

set_option maxHeartbeats 400000 in
theorem residueOf_any (x : Int) (t : Nat) (w : World) (ht : 2 ≤ t ∧ t ≤ 6) :
    Calls Try.prog 32 #[.int .i64 x, .int .i64 t] w fun e w' => e = .returned (.int .i64 (x % (t : Int))) ∧ w = w' := by
  obtain ⟨h1, h2, h3⟩ := tmod_resid (x := x) (t := (t : Int)) (by omega)
  obtain ⟨y, hy⟩ : ∃ y, y = Int.tmod x (t : Int) := ⟨_, rfl⟩
  rw [← hy] at h1 h2 h3
  have hyy : Int.tmod x (t : Int) = y := hy.symm
  have hne : ¬ ((t : Int) = 0) := by omega
  obtain ⟨z, hz⟩ : ∃ z, z = x % (t : Int) := ⟨_, rfl⟩
  rw [← hz] at h3 ⊢
  clear hy hz
  go_enter Try.func32, Try.ntmps32
  go_wp2
  go_ret
  exact ⟨rfl, rfl⟩

/-- A copy of what a slice shows that is not empty. -/
theorem at_news {w : World} {ad : Addr} {xs : List Int} (hc : Cells w (some ad) xs) (o : Obj) : ∀ k u, (IL xs)[k]? = some u → (w.alloc o).cell? (ad.add k) = some u := by
  intro k u hu
  have hk : k < xs.length := by
    have := (List.getElem?_eq_some_iff.1 hu).1
    simpa [IL] using this
  obtain ⟨b, o', he, hcc⟩ := hc (by omega)
  have h := hcc k hk
  rw [IL_get xs k hk] at hu
  injection he with he
  subst he
  have e : (⟨b, o', none⟩ : Addr).add k = ⟨b, o' + k, none⟩ := by unfold Addr.add; split <;> simp_all
  rw [e, World.cell?_of_block (w := w) (w' := w.alloc o) (Below.heap_alloc _ _ _ (World.block_lt_of_cell? w _ h)), h, hu]
set_option maxRecDepth 100000 in
set_option maxHeartbeats 1000000 in
theorem cloneCells_any (ad : Addr) (c : Nat) (xs : List Int) (w : World) (hl : xs.length ≤ 1048576) (hc : Cells w (some ad) xs) :
    Calls Try.prog 33 #[.slice (some ad) xs.length c] w fun e w' => ∃ A' c', e = .returned (.slice A' xs.length c') ∧ Own w' w.heap.size A' c' xs ∧ Below w.heap.size w w' := by
  obtain ⟨i0, hi, hz0, hz1, hz2⟩ := info_parts Try.infoInt
  have hm0 := World.ownsRow_made (base := w.heap.size) (e := 3) (size := 1) w #[] 0 (Nat.le_refl _) (by unfold maxLen; omega) rfl
  have hb0 : Below w.heap.size w (w.alloc (.cells #[] 3)) := (Below.refl _ _).alloc (Nat.le_refl _) _
  have hat := at_news hc (.cells #[] 3)
  have hnil := fun w => Lib.run_eql_slice_nil (P := Try.prog) w 22 3 (some ad) xs.length c 0 0 Try.underlying22
  go_enter Try.func33, Try.ntmps33
  go_wp2_with (at_builtin; refine wpList_append_own _ rfl _ _ 22 rfl w.heap.size 3 i0 (.int .i64 0) 1 8 Try.underlying22 hi hz0 hz1 hz2 rfl (by decide) _ 0 [] rfl hm0 ad xs.length c (IL xs) rfl (by simp [IL]) hat (IL_oneC xs) (by unfold maxLen; omega) (by omega) (by simp) ?_)
  intro v' w1 hown' hgrow _
  have hb1 : Below w.heap.size w w1 := hb0.grown hgrow (by simp) (fun q hq => (hm0.lt q hq).1)
  obtain ⟨A', c', rfl, ho'⟩ := own_form hown' rfl
  clear hown' hgrow
  go_wp2_with fail
  go_ret
  exact ⟨A', c', rfl, ho', hb1⟩

/-- The six counters of the program after a list of contents. -/
def arrC (t : Nat) (L : List Int) : Nat → Value := fun j => .int .i64 (if j < t then cnt t L j else 0)
theorem arrC_upd (t : Nat) (L : List Int) (x : Int) (m : Nat) (hm : x % (t : Int) = (m : Int)) (hmt : m < t) (k : Nat) : updV (arrC t L) m (.int .i64 (cnt t L m + 1)) k = arrC t (L ++ [x]) k := by
  unfold updV arrC
  rw [cnt_snoc t L x m hm]
  by_cases h : k = m
  · subst h; rw [if_pos rfl, if_pos hmt, if_pos rfl]
  · rw [if_neg h, if_neg h]

theorem arrC_nil (t : Nat) : ca 6 (arrC t []) = #[.int .i64 0, .int .i64 0, .int .i64 0, .int .i64 0, .int .i64 0, .int .i64 0] := by
  rw [ca_ext (d := fun _ => .int .i64 0) (fun k _ => by unfold arrC; congr 1; split <;> rfl)]; rfl
theorem arrC_at (t : Nat) (L : List Int) (m : Nat) (h : m < t) : arrC t L m = .int .i64 (cnt t L m) := by unfold arrC; rw [if_pos h]
theorem takeSnocR (ys : List Int) (k : Nat) (h : k < ys.length) : ys.take (k + 1) = ys.take k ++ [ys.getD k 0] := take_snoc ys k h _ rfl

set_option maxRecDepth 100000 in
set_option maxHeartbeats 2000000 in
theorem impl_ResidueCounts (A : Option Addr) (c : Nat) (xs : List Int) (t : Int) (w : World) (hl : xs.length ≤ 1048576) (hc : Cells w A xs) (_ : I64 t) :
    Calls Try.prog 15 #[.slice A xs.length c, .int .i64 t] w fun e w' => ∃ A' c', e = .returned (.tuple #[.slice A' (resF xs t).length c', .bool (resB xs t)]) ∧ Own w' w.heap.size A' c' (resF xs t) ∧ Below w.heap.size w w' := by
  have HH := hid (impl_ContentsOf A c xs w hl hc)
  cases hgg : good xs
  · have hg : resB xs t = false := by simp [resB, hgg]
    rw [resF_f hg, hg]
    rw [hgg] at HH
    clear hg hgg
    go_enter Try.func15, Try.ntmps15
    go_wp2_with (go_at_call 29; refine (HH.out).mono ?_; rintro e w2 ⟨A2, c2, rfl, o2, b2⟩)
    go_ret2
    exact ⟨none, 0, rfl, own_nil _ _, b2⟩
  cases ht : inB 2 6 t
  · have hg : resB xs t = false := by simp [resB, ht]
    rw [resF_f hg, hg]
    rw [hgg] at HH
    have HT := hid ht
    clear hg hgg ht
    go_enter Try.func15, Try.ntmps15
    go_wp2_with (first | (go_at_call 29; refine (HH.out).mono ?_; rintro e w2 ⟨A2, c2, rfl, o2, b2⟩) | (go_at_call 30; refine (hasRunners_b _ _ _ HT.out).mono ?_; rintro e w' ⟨rfl, rfl⟩))
    go_ret2
    exact ⟨none, 0, rfl, own_nil _ _, b2⟩
  have ht2 := inB_iff.1 ht
  obtain ⟨t, rfl⟩ : ∃ n : Nat, t = n := ⟨t.toNat, by omega⟩
  have hg : resB xs t = true := by simp [resB, hgg, ht]
  have G := (good_iff xs).1 hgg
  have hfin := resF_t hg
  rw [hfin, hg, cntL_len]
  rw [hgg, contF_t hgg] at HH
  have HT := hid ht
  have hRl := rowsF_len xs contN xs.length
  have HTT := hid (tot_rowsF xs contN G.le xs.length (Nat.le_refl _))
  have hpp : ∀ j, j < (rowsF xs contN xs.length).length → 0 < ((rowsF xs contN xs.length).getD j []).length := by
    intro j hj
    rw [rowsF_len] at hj
    rw [rowsF_get xs _ _ _ hj, rowF_len]
    have := G.pos j hj
    omega
  have HPP := hid hpp
  have h30 := G.len
  have hbd := contL_bd G xs.length (Nat.le_refl _)
  have hF9 := contL_len G xs.length (Nat.le_refl _)
  unfold contL at hbd hF9 ⊢
  obtain ⟨R, hR⟩ : ∃ R, R = rowsF xs contN xs.length := ⟨_, rfl⟩
  rw [← hR] at HH HTT HPP hRl hbd hF9 ⊢
  have HCO := hid fun Ax cx W (h : Cells2 W Ax R) => concat_any Ax cx R W (by omega) (by have := HTT.out; omega) HPP.out h
  obtain ⟨F, hF⟩ : ∃ F, F = R.flatten := ⟨_, rfl⟩
  rw [← hF] at HCO hbd hF9 ⊢
  have HBD := hid hbd
  clear hR hRl hF hpp hg hgg ht G hfin hbd
  go_enter Try.func15, Try.ntmps15
  go_wp2_with (first | (go_at_call 29; refine (HH.out).mono ?_; rintro e w2 ⟨A2, c2, rfl, o2, b2⟩) | (go_at_call 30; refine (hasRunners_b _ _ _ HT.out).mono ?_; rintro e w' ⟨rfl, rfl⟩) | (go_at_call 31; fail))
  obtain ⟨w3, hw3⟩ : ∃ w3, w3 = w2.alloc (.cells #[.int .i64 0, .int .i64 0, .int .i64 0, .int .i64 0, .int .i64 0, .int .i64 0] 54) := ⟨_, rfl⟩
  have y3 : Blk w3 w2.heap.size 54 6 (arrC t []) := by rw [hw3, ← arrC_nil t]; exact Blk.new _ _ _ _
  have b3 : Below w2.heap.size w2 w3 := by rw [hw3]; exact (Below.refl _ _).alloc (Nat.le_refl _) _
  have hs3 : w3.heap.size = w2.heap.size + 1 := by rw [hw3]; simp
  rw [← hw3]
  refine (HCO.out _ _ _ (o2.below b3).cells).mono ?_
  rintro e w4 ⟨A4, c4, rfl, o4, b4⟩
  have y4 := y3.next b4
  have B4 : Below w2.heap.size w2 w4 := Below.next b3 b4
  have hz2 := b2.size
  clear hw3 y3 b3 b4 o2
  go_wp2_with fail
  go_loopw [26] (fun i wr => ∃ k : Nat, k ≤ F.length ∧ i = .int .i64 k ∧ Blk wr w2.heap.size 54 6 (arrC t (F.take k)) ∧ Own wr w3.heap.size A4 c4 F ∧ Below w2.heap.size w2 wr) (fun i _ => F.length - (intOf i).toNat)
  case atStart => exact ⟨0, Nat.zero_le _, rfl, y4, o4, B4⟩
  case round =>
    obtain ⟨k, hk, rfl, hy, hown, hbel⟩ := hrel
    by_cases hlt : k < F.length
    · obtain ⟨b, o, rfl, hck⟩ := hown.cells.get hlt
      have hxm := HBD.out _ (getD_mem' hlt)
      have hts := takeSnocR F k hlt
      obtain ⟨x, hx⟩ : ∃ x, x = F.getD k 0 := ⟨_, rfl⟩
      rw [← hx] at hck hts hxm
      have hp1 := Int.emod_nonneg x (show (t : Int) ≠ 0 by omega)
      have hp2 := Int.emod_lt_of_pos x (show 0 < (t : Int) by omega)
      obtain ⟨m, hm⟩ : ∃ m : Nat, x % (t : Int) = m := ⟨(x % (t : Int)).toNat, by omega⟩
      have hmt : m < t := by omega
      have hcur := hy.cell (k := m) (by omega)
      rw [arrC_at t _ m hmt] at hcur
      have hfz := hy.froz m
      have hcb := cnt_bd t (F.take k) m
      rw [List.length_take] at hcb
      have hny := (hy.set m (.int .i64 (cnt t (F.take k) m + 1))).to (fun j _ => arrC_upd t (F.take k) x m hm hmt j)
      rw [← hts] at hny
      obtain ⟨u, hu⟩ : ∃ u, u = cnt t (F.take k) m := ⟨_, rfl⟩
      rw [← hu] at hcur hny hcb
      have hrs := fun W => residueOf_any x t W (by omega)
      rw [hm] at hrs
      have HRS := hid hrs
      have HNY := hid hny
      have HOW := hid hown
      have hm6 : m < 6 := by omega
      clear hx hts hp1 hp2 hm hu hrs hny hy hown o4 y4 B4
      go_wp2_with (go_at_call 32; refine (HRS.out _).mono ?_; rintro e w' ⟨rfl, rfl⟩)
      go_roundw
      case rel => exact ⟨k + 1, by omega, by go_num, HNY.out, HOW.out.keep (fun b' hb' _ => Below.heap_setCell _ _ _ b' (by have := (HOW.out.block b' hb').1; show b' ≠ w2.heap.size; omega)), hbel.setCell (Nat.le_refl _) _⟩
      case measure => simp [intOf]; omega
    · have hkn : k = F.length := by omega
      subst hkn
      rw [List.take_of_length_le (Nat.le_refl _)] at hy
      have hcl : Cells wr (some ⟨w2.heap.size, 0, none⟩) (cntL t F) := by
        intro _
        refine ⟨w2.heap.size, 0, rfl, fun j hj => ?_⟩
        rw [cntL_len] at hj
        rw [Nat.zero_add, hy.cell (by omega), arrC_at t F j hj]
        unfold cntL
        rw [fnRow_get _ _ _ hj]
      have hcq := cloneCells_any ⟨w2.heap.size, 0, none⟩ 6 (cntL t F) wr (by rw [cntL_len]; omega) hcl
      rw [cntL_len] at hcq
      have HCQ := hid hcq
      have hsz := hbel.size
      clear hy hown hcl hcq o4 y4 B4
      go_wp2_with (go_at_call 33; refine HCQ.out.mono ?_; rintro e w5 ⟨A5, c5, rfl, o5, b5⟩)
      go_ret2
      exact ⟨A5, c5, rfl, o5.more (by omega), Below.next (Below.next b2 hbel) b5⟩

end Go.Proofs.Ytdoahfjccpniaaa
