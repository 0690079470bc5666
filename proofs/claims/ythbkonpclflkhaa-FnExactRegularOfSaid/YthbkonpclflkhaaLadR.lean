/-
  Contracts: RegularOf of the program.
-/
import Derived.Test.YthbkonpclflkhaaLad
namespace Go.Proofs.Ythbkonpclflkhaa
open Go.RowKit

/-- What is filled after j cells of the ladder l. -/
def lrJ (xs : List Int) (s l j r : Nat) : Nat := lr xs s l r + if r % s = l % s ∧ r / s < j then 1 else 0
theorem lrJ_zero (xs : List Int) (s l r : Nat) : lrJ xs s l 0 r = lr xs s l r := by
  unfold lrJ; rw [if_neg (fun h => absurd h.2 (Nat.not_lt_zero _))]; rfl
theorem lrJ_end (xs : List Int) (s l r : Nat) : lrJ xs s l (cnt8 xs s l) r = lr xs s (l + 1) r := by
  unfold lrJ
  simp only [lr, fitB, Bool.and_eq_true, decide_eq_true_eq]
theorem lrJ_step {xs : List Int} {s : Nat} (hs : 1 ≤ s) (l j r : Nat) : lrJ xs s l (j + 1) r = lrJ xs s l j r + if r = l % s + s * j then 1 else 0 := by
  unfold lrJ
  have hl := Nat.mod_lt l (show 0 < s by omega)
  have key : (r % s = l % s ∧ r / s < j + 1) ↔ ((r % s = l % s ∧ r / s < j) ∨ r = l % s + s * j) := by
    constructor
    · rintro ⟨h1, h2⟩
      by_cases h : r / s < j
      · exact .inl ⟨h1, h⟩
      · exact .inr (row_form hs h1 (by omega))
    · rintro (⟨h1, h2⟩ | h)
      · exact ⟨h1, by omega⟩
      · subst h
        rw [Nat.add_mul_mod_self_left, Nat.mod_mod, Nat.add_mul_div_left _ _ (by omega), Nat.div_eq_of_lt hl]
        exact ⟨rfl, by omega⟩
  have dis : ¬ ((r % s = l % s ∧ r / s < j) ∧ r = l % s + s * j) := by
    rintro ⟨⟨_, h2⟩, h⟩
    rw [h, Nat.add_mul_div_left _ _ (by omega), Nat.div_eq_of_lt hl] at h2
    omega
  by_cases h1 : r % s = l % s ∧ r / s < j
  · have h2 : ¬ r = l % s + s * j := fun e => dis ⟨h1, e⟩
    rw [if_pos (key.2 (.inl h1)), if_pos h1, if_neg h2]
  · by_cases h2 : r = l % s + s * j
    · rw [if_pos (key.2 (.inr h2)), if_neg h1, if_pos h2]
    · rw [if_neg (fun h => (key.1 h).elim h1 h2), if_neg h1, if_neg h2]
theorem reg_step {xs : List Int} {s : Nat} (hs : 1 ≤ s) (n l j : Nat) :
    (fnRow n fun r => ((lrJ xs s l j r : Nat) : Int)).set (l % s + s * j) (((lrJ xs s l j (l % s + s * j) : Nat) : Int) + 1) = fnRow n fun r => ((lrJ xs s l (j + 1) r : Nat) : Int) := by
  rw [fnRow_set]
  refine fnRow_ext n fun r _ => ?_
  have := lrJ_step (xs := xs) hs l j r
  by_cases e : r = l % s + s * j
  · rw [if_pos e, e]
    rw [e] at this
    rw [if_pos rfl] at this
    omega
  · rw [if_neg e]
    rw [if_neg e] at this
    omega
theorem lrJ_le (xs : List Int) (s l j r : Nat) : lrJ xs s l j r ≤ l + 1 := by
  have := lr_le xs s r l
  unfold lrJ; split <;> omega

theorem fnRow_cut (m k : Nat) (h : k ≤ m) (f : Nat → Int) : (fnRow m f).take k = fnRow k f := by
  unfold fnRow
  rw [← List.map_take, List.take_range, Nat.min_eq_left h]

set_option maxRecDepth 100000 in
set_option maxHeartbeats 8000000 in
theorem RegularOf_t (A : Option Addr) (c : Nat) (xs : List Int) (s : Nat) (w : World) (hgd : good xs = true) (hl : xs.length ≤ 1048576) (hs : 1 ≤ s ∧ s ≤ 5) (hc : Cells w A xs) :
    Calls Try.prog 54 #[.slice A xs.length c, .int .i64 ((s + 1 : Nat) : Int)] w fun e w' => ∃ A' c', e = .returned (.tuple #[.slice A' (lRow xs s (lK xs s)).length c', .bool true]) ∧ Own w' w.heap.size A' c' (lRow xs s (lK xs s)) ∧ Below w.heap.size w w' := by
  have G := (good_iff xs).1 hgd
  have hlen := G.len
  have HG := hid hgd
  have HT := hid (show inB 2 6 ((s + 1 : Nat) : Int) = true from inB_iff.2 (by omega))
  have hw30 := made_row w 30 (by omega)
  have hb30 : Below w.heap.size w (w.alloc (.cells (madeCells #[.int .i64 0] 30) 3)) := (Below.refl _ _).alloc (Nat.le_refl _) _
  have HLC := hid (ladderCounts_any A c xs s (w.alloc (.cells (madeCells #[.int .i64 0] 30) 3)) G hs (hc.later hb30))
  have hmk := run_make_row' (P := Try.prog) 22 3 (.int .i64 0) 8 Try.underlying22 Try.infoInt rfl .i64 .i64 30 (by omega) (by omega)
  have hmk2 : ∀ W, (Instr.makeSlice 22 (.int .i64 30) (.int .i64 30)).run Try.prog W = .ok (.slice (some ⟨W.heap.size, 0, none⟩) 30 30) (W.alloc (.cells (madeCells #[.int .i64 0] 30) 3)) := fun W => by exact hmk W
  have HLOW := hid fun l k (h : k < cnt8 xs s l) => cnt_low hlen hs l h
  have h0le : pt xs 0 ≤ 30 := by unfold pt; have := G.part 0; omega
  have hm150 := mul_5 hs.2 h0le
  obtain ⟨L, hL⟩ : ∃ L, L = 30 + s * 30 + 1 := ⟨_, rfl⟩
  have hL182 : L ≤ 182 := by have := mul_5 hs.2 (Nat.le_refl 30); omega
  have hLend : xs.length + s * pt xs 0 ≤ L := by have := Nat.mul_le_mul_left s h0le; omega
  have HFIN := hid (show (fnRow 30 fun r => ((lr xs s L r : Nat) : Int)) = lRow xs s 30 from fnRow_ext 30 fun r _ => by rw [lr_end G hs r hLend])
  obtain ⟨hK1, hK2, -⟩ := lK_eq G hs
  have HSTR := hid fun W g c2 B (h : Own W B (some ⟨g, 0, none⟩) c2 (lRow xs s 30)) => stripZ_any g c2 B (lRow xs s 30) (lK xs s) W (by unfold lRow; rw [fnRow_len]; omega) (by unfold lRow; rw [fnRow_len]; omega)
    (fun j h1 h2 => by
      unfold lRow at h2 ⊢
      rw [fnRow_len] at h2
      rw [fnRow_get _ _ _ h2]
      have := hK2 j
      omega)
    (fun h0 => by
      unfold lRow
      rw [fnRow_get _ _ _ (by omega)]
      have := (hK2 (lK xs s - 1)).2 (by omega)
      omega) h
  have HTK := hid (show (lRow xs s 30).take (lK xs s) = lRow xs s (lK xs s) from fnRow_cut 30 (lK xs s) (by omega) _)
  have HL30 := hid (show (lRow xs s 30).length = 30 by unfold lRow; exact fnRow_len _ _)
  rw [HL30.out] at HSTR
  have HLK := hid (show (lRow xs s (lK xs s)).length = lK xs s by unfold lRow; exact fnRow_len _ _)
  have HZR := hid (show (fnRow 30 fun _ => 0) = fnRow 30 fun r => ((lr xs s 0 r : Nat) : Int) from rfl)
  rw [← hL] at HLC
  obtain ⟨t, ht⟩ : ∃ t : Nat, t = s + 1 := ⟨_, rfl⟩
  rw [← ht] at HLC HT ⊢
  have hts : IntKind.i64.wrap ((t : Int) - 1) = (s : Int) := by rw [IntWalk.i64_in _ (by omega)]; omega
  have HTE := hid ht
  obtain ⟨w1, hw1⟩ : ∃ w1, w1 = w.alloc (.cells (madeCells #[.int .i64 0] 30) 3) := ⟨_, rfl⟩
  rw [← hw1] at hw30 hb30 HLC
  have HW1 := hid hw1
  have HO30 := hid hw30
  have HB30 := hid hb30
  have htlo : 2 ≤ t ∧ t ≤ 6 := by omega
  clear hw30 hb30 hw1 ht hL hLend hK1 hK2 hm150 h0le G hgd hmk
  go_enter Try.func54, Try.ntmps54
  go_wp2_with (first | (go_at_call 84; refine (IsPartition_b _ _ _ _ hl hc _ HG.out).mono ?_; rintro e w' ⟨rfl, rfl⟩) | (go_at_call 85; refine (hasRunners_b _ _ _ HT.out).mono ?_; rintro e w' ⟨rfl, rfl⟩))
  rw [← HW1.out]
  refine HLC.out.mono ?_
  rintro e w2 ⟨g2, c2, rfl, o2, b2⟩
  have HO2 := hid o2
  have HB2 := hid (Below.next HB30.out b2)
  have HG2 := hid (show g2 < w2.heap.size from (o2.block g2 rfl).2)
  have HGA := hid (show w1.heap.size ≤ g2 from (o2.block g2 rfl).1)
  have HO1 := hid (HO30.out.below b2)
  have HZ1 := hid (show w.heap.size < w1.heap.size by rw [HW1.out]; simp)
  obtain ⟨g1, hg1⟩ : ∃ g1, g1 = w.heap.size := ⟨_, rfl⟩
  rw [← hg1] at HO1 HZ1
  have HGE := hid hg1
  rw [← hg1]
  clear o2 b2 hg1
  go_wp2_with fail
  go_loopw [23] (fun kv wr => ∃ l : Nat, l ≤ L ∧ kv = .int .i64 l ∧ Hid (Own wr g1 (some ⟨g1, 0, none⟩) 30 (fnRow 30 fun r => ((lr xs s l r : Nat) : Int))) ∧ Hid (Own wr g1 (some ⟨g2, 0, none⟩) c2 (fnRow L fun l => ((cnt8 xs s l : Nat) : Int))) ∧ Hid (w2.heap.size ≤ wr.heap.size) ∧ Below g1 w wr) (fun kv _ => L - (intOf kv).toNat)
  case atStart => exact ⟨0, Nat.zero_le _, rfl, hid (by rw [← HZR.out]; exact HO1.out), hid (HO2.out.more (Nat.le_of_lt HZ1.out)), hid (Nat.le_refl _), by rw [HGE.out]; exact HB2.out⟩
  case round =>
    obtain ⟨l, hl1, rfl, HO, HC2, HSZ, hbel⟩ := hrel
    obtain ⟨wo, rfl⟩ : ∃ wo : World, wo = wr := ⟨_, rfl⟩
    by_cases hlt : l < L
    · have hck := own_get HC2.out (k := l) (by rw [fnRow_len]; exact hlt)
      rw [fnRow_get _ _ _ hlt] at hck
      have hcl : cnt8 xs s l ≤ 30 := by have := cntT_le xs s l xs.length; unfold cnt8; omega
      obtain ⟨n, hn⟩ : ∃ n, n = cnt8 xs s l := ⟨_, rfl⟩
      rw [← hn] at hck hcl
      have HN := hid hn
      have htm : Int.tmod (l : Int) (s : Int) = ((l % s : Nat) : Int) := rfl
      have htd : Int.tdiv (l : Int) (s : Int) = ((l / s : Nat) : Int) := rfl
      obtain ⟨a, ha⟩ : ∃ a, a = l % s := ⟨_, rfl⟩
      obtain ⟨d, hd⟩ : ∃ d, d = l / s := ⟨_, rfl⟩
      rw [← ha] at htm
      rw [← hd] at htd
      have hs0 : ¬ ((s : Int) = 0) := by omega
      have hal : a ≤ 5 := by rw [ha]; have := Nat.mod_lt l (show 0 < s by omega); omega
      have hdl : d ≤ 182 := by rw [hd]; exact Nat.le_trans (Nat.div_le_self _ _) (by omega)
      have HA := hid ha
      have HD := hid hd
      clear ha hd hn
      have hwa : IntKind.i64.wrap (a : Int) = (a : Int) := IntWalk.i64_in _ (by omega)
      have hwd : IntKind.i64.wrap (d : Int) = (d : Int) := IntWalk.i64_in _ (by omega)
      go_wp2_with fail
      go_cut [9] from 28 to 36 (fun av wx => av = .pointer (some ⟨wo.heap.size, 0, none⟩) ∧ wx = (wo.alloc (.cells #[.int .i64 (a : Int), .int .i64 (d : Int)] 87)).drew)
      case first =>
        go_region_with (fail)
        all_goals go_wp2_with fail
        all_goals go_meet
        all_goals exact ⟨rfl, rfl⟩
      case rest =>
        obtain ⟨rfl, hwx⟩ := hcut
        have hb0 : Below wo.heap.size wo wc := by rw [hwx]; exact below_drewN ((Below.refl _ _).alloc (Nat.le_refl _) _) 1
        have zb : Box2 wc wo.heap.size 87 (.int .i64 (a : Int)) (.int .i64 (d : Int)) := by rw [hwx]; exact Box2.new wo 87 _ _
        have HOB := hid (HO.out.below hb0)
        have HCB := hid (HC2.out.below hb0)
        have HBB := hid (hbel.trans (hb0.mono (by have := hbel.size; have := HGE.out; omega)))
        have HZB := hid zb
        have HSW := hid (Nat.le_trans HSZ.out hb0.size)
        have HWL := hid (show g1 < wo.heap.size by have := HGA.out; have := HG2.out; have := HSZ.out; have := HZ1.out; omega)
        clear hwx hb0 zb htm htd hwa hwd
        go_wp2_with fail
        go_loopw [38] (fun jv wr => ∃ j : Nat, j ≤ n ∧ jv = .int .i64 j ∧ Hid (Own wr g1 (some ⟨g1, 0, none⟩) 30 (fnRow 30 fun r => ((lrJ xs s l j r : Nat) : Int))) ∧ Hid (Own wr g1 (some ⟨g2, 0, none⟩) c2 (fnRow L fun l => ((cnt8 xs s l : Nat) : Int))) ∧ Box2 wr wo.heap.size 87 (.int .i64 ((a + s * j : Nat) : Int)) (.int .i64 ((d : Int) - j)) ∧ Hid (w2.heap.size ≤ wr.heap.size) ∧ Below g1 w wr) (fun jv _ => n - (intOf jv).toNat)
        case atStart => exact ⟨0, Nat.zero_le _, rfl, hid (by simp only [lrJ_zero]; exact HOB.out), HCB, by simpa using HZB.out, HSW, HBB.out⟩
        case round =>
          obtain ⟨j, hj, rfl, HOJ, HCJ, zj, HSJ, hbj⟩ := hrel
          by_cases hjn : j < n
          · have hlow := HLOW.out l j (by rw [← HN.out]; exact hjn)
            rw [← HA.out] at hlow
            have hq30 : a + s * j < 30 := by omega
            have hstep := reg_step (xs := xs) hs.1 30 l j
            rw [← HA.out] at hstep
            have hv := lrJ_le xs s l j (a + s * j)
            have hck1 := own_get HOJ.out (k := a + s * j) (by rw [fnRow_len]; exact hq30)
            rw [fnRow_get _ _ _ hq30] at hck1
            have hsucc : a + s * (j + 1) = a + s * j + s := by rw [Nat.mul_succ]; omega
            obtain ⟨q, hq⟩ : ∃ q, q = a + s * j := ⟨_, rfl⟩
            rw [← hq] at hq30 hstep hv hck1 zj hsucc
            obtain ⟨v, hve⟩ : ∃ v, v = lrJ xs s l j q := ⟨_, rfl⟩
            rw [← hve] at hstep hv hck1
            have hfz := own_froz HOJ.out q
            have hst := own_set HOJ.out q ((v : Int) + 1)
            rw [hstep] at hst
            have hzc0 := zj.cell0
            have hne : g1 ≠ wo.heap.size := by have := HWL.out; omega
            have zs := zj.other (g' := g1) (k := q) (Ne.symm hne) (.int .i64 ((v : Int) + 1))
            have hzs0 := zs.cell0
            have hzs1 := zs.cell1
            have hzf0 := zs.froz 0
            have hzf1 := zs.froz 1
            have HST := hid hst
            have HZS := hid zs
            have HSU := hid hsucc
            have HNE := hid hne
            have HG12 := hid (show g1 ≠ g2 ∧ g2 ≠ wo.heap.size by have := HGA.out; have := HG2.out; have := HSZ.out; have := HZ1.out; omega)
            have hqi : (q : Int) < 30 := by omega
            have hnq1 : IntKind.i64.wrap ((q : Int) + (t : Int)) = (q : Int) + t := IntWalk.i64_in _ (by omega)
            have hnq2 : IntKind.i64.wrap ((q : Int) + (t : Int) - 1) = ((q + s : Nat) : Int) := by rw [IntWalk.i64_in _ (by omega)]; have := HTE.out; omega
            have hdj : IntKind.i64.wrap ((d : Int) - j - 1) = (d : Int) - ((j + 1 : Nat) : Int) := by rw [IntWalk.i64_in _ (by omega)]; omega
            clear hstep hst zs hsucc hne hlow hq hve
            go_wp2_with fail
            go_roundw
            case rel =>
              refine ⟨j + 1, by omega, by go_num, hid ?_, hid ?_, ?_, hid ?_, ?_⟩
              · exact HST.out.keep (fun b hb _ => by
                  cases hb
                  exact (Below.heap_setCell _ _ _ g1 HNE.out).trans (Below.heap_setCell _ _ _ g1 HNE.out))
              · exact HCJ.out.keep (fun b hb _ => by
                  cases hb
                  exact ((Below.heap_setCell _ _ _ g2 HG12.out.2).trans (Below.heap_setCell _ _ _ g2 HG12.out.2)).trans (Below.heap_setCell _ _ _ g2 (Ne.symm HG12.out.1)))
              · rw [HSU.out]
                exact (HZS.out.set0 _).set1 _
              · simpa using HSJ.out
              · exact ((hbj.setCell (Nat.le_refl _) _).setCell (Nat.le_of_lt HWL.out) _).setCell (Nat.le_of_lt HWL.out) _
            case measure => simp [intOf]; omega
          · have hjn2 : j = n := by omega
            go_wp2_with fail
            go_roundw
            case rel =>
              refine ⟨l + 1, by omega, by go_num, hid ?_, HCJ, HSJ, hbj⟩
              have h := HOJ.out
              rw [hjn2, HN.out] at h
              simpa only [lrJ_end] using h
            case measure => simp [intOf]; omega
    · have hlL : l = L := by omega
      subst hlL
      have h := HO.out
      rw [HFIN.out] at h
      have HF := hid h
      clear h
      go_wp2_with fail
      refine (HSTR.out _ _ _ _ HF.out).mono ?_
      rintro e w' ⟨rfl, hox, rfl⟩
      rw [HTK.out] at hox
      go_wp2_with fail
      go_ret2
      exact ⟨some ⟨g1, 0, none⟩, 30, by rw [HLK.out]; rfl, by rw [← HGE.out]; exact hox, by rw [← HGE.out]; exact hbel⟩
end Go.Proofs.Ythbkonpclflkhaa
