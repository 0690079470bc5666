/-
  Contracts: the columns of a partition, of the program and of the model.
-/
import Derived.Test.YtbkcefpefgklpaaIsPart
import Derived.Test.YtbkcefpefgklpaaSmall
import Derived.Test.YtbkcefpefgklpaaConjMath
import Derived.Deep.RegionHeld3
namespace Go.Proofs.Ytbkcefpefgklpaa
open Go.RowKit




set_option maxRecDepth 100000 in
set_option maxHeartbeats 1000000 in
theorem ptTurn_any (A : Option Addr) (c : Nat) (xs : List Int) (w : World) (G : Good xs) (hc : Cells w A xs) :
    Calls Try.prog 97 #[.slice A xs.length c] w fun e w' => ∃ A' c', e = .returned (.slice A' (cols xs).length c') ∧ Own w' w.heap.size A' c' (cols xs) ∧ Below w.heap.size w w' := by
  obtain ⟨i0, hi, hz0, hz1, hz2⟩ := info_parts Try.infoInt
  have hlen := G.len
  have HG := hid G; clear G
  by_cases h0 : xs.length = 0
  · have hx : xs = [] := List.eq_nil_of_length_eq_zero h0
    subst hx
    go_enter Try.func97, Try.ntmps97
    go_wp2_with fail
    go_loop [3, 4] (fun v i => v = .slice none 0 0 ∧ i = .int .i64 0) (fun _ _ => 0)
    case atStart => exact ⟨rfl, rfl⟩
    case round =>
      obtain ⟨rfl, rfl⟩ := hrel
      go_wp2_with fail
      go_ret
      exact ⟨none, 0, rfl, own_nil _ _, Below.refl _ _⟩
  have hb0 := HG.out.le 0 (by omega)
  have hp0 := HG.out.pos 0 (by omega)
  obtain ⟨b, o, rfl, hcc⟩ := hc (by omega)
  have hc0 := hcc 0 (by omega)
  rw [Nat.add_zero] at hc0
  obtain ⟨p0, hp⟩ : ∃ p : Nat, xs.getD 0 0 = (p : Int) := ⟨(xs.getD 0 0).toNat, by omega⟩
  rw [hp] at hc0 hb0 hp0
  have hcl : (cols xs).length = p0 := by rw [cols_len, hp]; rfl
  have HCL := hid hcl; clear hcl
  have HP := hid hp; clear hp
  have HCC := hid hcc; clear hcc
  go_enter Try.func97, Try.ntmps97
  go_wp2_with fail
  go_loopw [3, 4, 5] (fun v i _ wr => ∃ k : Nat, k ≤ p0 ∧ i = .int .i64 k ∧ wr.ownsRow w.heap.size 3 1 v k (IL ((cols xs).take k)) ∧ Below w.heap.size w wr) (fun _ i _ _ => p0 - (intOf i).toNat)
  case atStart => exact ⟨0, Nat.zero_le _, rfl, World.ownsRow_nil _ _ _ _, Below.refl _ _⟩
  case round =>
    obtain ⟨k, hk, rfl, hown, hbel⟩ := hrel
    have hc0r : wr.cell? ⟨b, o, none⟩ = some (.int .i64 p0) := by rw [← hc0]; exact hbel.cell (World.block_lt_of_cell? w _ hc0)
    by_cases hlt : k < p0
    · go_wp2_with fail
      obtain ⟨wo, rfl⟩ : ∃ wo : World, wo = wr := ⟨_, rfl⟩
      go_loopw [5] (fun n wi => wo = wi ∧ ∃ m : Nat, m ≤ xs.length ∧ n = .int .i64 m ∧ Hid (∀ j, j < m → (k : Int) < xs.getD j 0)) (fun n _ => xs.length - (intOf n).toNat)
      case atStart => exact ⟨rfl, 0, Nat.zero_le _, rfl, hid fun j hj => absurd hj (by omega)⟩
      case round =>
        obtain ⟨rfl, m, hm, rfl, HM⟩ := hrel
        by_cases hgo : m < xs.length ∧ (k : Int) < xs.getD m 0
        · obtain ⟨hml, hkx⟩ := hgo
          have hcm := HCC.out m hml
          have hcmr : wo.cell? ⟨b, o + m, none⟩ = some (.int .i64 (xs.getD m 0)) := by rw [← hcm]; exact hbel.cell (World.block_lt_of_cell? w _ hcm)
          obtain ⟨x, hx⟩ : ∃ x, x = xs.getD m 0 := ⟨_, rfl⟩
          rw [← hx] at hcmr hkx
          have HX := hid hx; clear hx
          clear hcm
          go_wp2_with fail
          go_roundw
          case rel =>
            refine ⟨by trivial, m + 1, by omega, by go_num, hid fun j hj => ?_⟩
            by_cases hjm : j < m
            · exact HM.out j hjm
            · have : j = m := by omega
              subst this; rw [← HX.out]; exact hkx
          case measure => simp [intOf]; omega
        · have hn := colH_eq xs k m hm HM.out (fun h => by omega) HG.out.down
          have hs : IL ((cols xs).take k) ++ [Value.int .i64 (m : Int)] = IL ((cols xs).take (k + 1)) := by
            rw [← IL_snoc (cols xs) k (by rw [HCL.out]; exact hlt), cols_get xs k (by rw [HP.out]; exact hlt), hn]
          have HN := hid hs; clear hs hn
          by_cases hml : m < xs.length
          · have hcm := HCC.out m hml
            have hcmr : wo.cell? ⟨b, o + m, none⟩ = some (.int .i64 (xs.getD m 0)) := by rw [← hcm]; exact hbel.cell (World.block_lt_of_cell? w _ hcm)
            obtain ⟨x, hx⟩ : ∃ x, x = xs.getD m 0 := ⟨_, rfl⟩
            rw [← hx] at hcmr hgo
            have hxk : x ≤ (k : Int) := by omega
            clear hx hcm hgo
            go_wp2_with (at_builtin; refine wpList_append_own _ rfl _ _ 22 rfl w.heap.size 3 i0 (.int .i64 0) 1 8 Try.underlying22 hi hz0 hz1 hz2 rfl (by decide) _ _ _ rfl (hown.alloc _) ⟨wo.heap.size, 0, none⟩ 1 1 [.int .i64 (m : Int)] rfl rfl one_at (one_cell _) (by unfold maxLen; omega) (by omega) (by have := hbel.size; simp; omega) ?_)
            intro v' w1 hown' hgrow _
            have hb1 : Below w.heap.size w w1 := (hbel.alloc hbel.size _).grown hgrow (by have := hbel.size; simp; omega) (fun q hq => (hown.lt q hq).1)
            rw [HN.out] at hown'
            clear hgrow hown
            go_wp2_with fail
            go_roundw
            case rel => exact ⟨k + 1, by omega, by go_num, hown', hb1⟩
            case measure => simp [intOf]; omega
          · clear hgo
            go_wp2_with (at_builtin; refine wpList_append_own _ rfl _ _ 22 rfl w.heap.size 3 i0 (.int .i64 0) 1 8 Try.underlying22 hi hz0 hz1 hz2 rfl (by decide) _ _ _ rfl (hown.alloc _) ⟨wo.heap.size, 0, none⟩ 1 1 [.int .i64 (m : Int)] rfl rfl one_at (one_cell _) (by unfold maxLen; omega) (by omega) (by have := hbel.size; simp; omega) ?_)
            intro v' w1 hown' hgrow _
            have hb1 : Below w.heap.size w w1 := (hbel.alloc hbel.size _).grown hgrow (by have := hbel.size; simp; omega) (fun q hq => (hown.lt q hq).1)
            rw [HN.out] at hown'
            clear hgrow hown
            go_wp2_with fail
            go_roundw
            case rel => exact ⟨k + 1, by omega, by go_num, hown', hb1⟩
            case measure => simp [intOf]; omega
    · have hkp : k = p0 := by omega
      subst hkp
      have hown2 := hown
      rw [List.take_of_length_le (by rw [HCL.out]; exact Nat.le_refl _)] at hown2
      obtain ⟨A', c', rfl, ho⟩ := own_form hown2 HCL.out.symm
      clear hown hown2
      go_wp2_with fail
      go_ret
      exact ⟨A', c', rfl, ho, hbel⟩

def ind (c x : Int) : Int := if c < x then 1 else 0
theorem colH_ind (xs : List Int) (c : Int) : colH xs c = (xs.map (ind c)).sum := rfl

set_option maxHeartbeats 400000 in
theorem ind_any (x c : Int) (g : Nat) (w : World) (hg : w.cell? ⟨g, 0, none⟩ = some (.int .i64 c)) :
    Calls Try.prog 102 #[.int .i64 x, .pointer (some ⟨g, 0, none⟩)] w fun e w' => e = .returned (.int .i64 (ind c x)) ∧ w = w' := by
  by_cases h : c < x
  · have hi : ind c x = 1 := by simp [ind, h]
    rw [hi]; clear hi
    go_enter Try.func102, Try.ntmps102
    go_wp2
    go_ret
    exact ⟨rfl, rfl⟩
  · have hi : ind c x = 0 := by simp [ind, h]
    rw [hi]; clear hi
    go_enter Try.func102, Try.ntmps102
    go_wp2
    go_ret
    exact ⟨rfl, rfl⟩

theorem ind_bd (c x : Int) : 0 ≤ ind c x ∧ ind c x ≤ 1 := by unfold ind; split <;> omega
theorem map_get (xs : List Int) (f : Int → Int) (k : Nat) (h : k < xs.length) : (xs.map f).getD k 0 = f (xs.getD k 0) := by
  rw [List.getD_eq_getElem?_getD, List.getElem?_map, List.getD_eq_getElem?_getD, List.getElem?_eq_getElem h]; rfl

set_option maxHeartbeats 400000 in
theorem sumInd_any (A : Option Addr) (xs : List Int) (c : Nat) (cc : Int) (g : Nat) (w : World) (hl : xs.length ≤ 30) (hc : Cells w A xs) (hg : w.cell? ⟨g, 0, none⟩ = some (.int .i64 cc)) :
    Calls Try.prog 76 #[.slice A xs.length c, .func (.func 102) #[] #[.pointer (some ⟨g, 0, none⟩)]] w fun e w' => e = .returned (.int .i64 (colH xs cc)) ∧ w = w' := by
  go_enter Try.func76, Try.ntmps76
  go_wp2_with fail
  go_loop [5, 10] (fun s i => ∃ k : Nat, k ≤ xs.length ∧ i = .int .i64 k ∧ s = .int .i64 ((xs.map (ind cc)).take k).sum) (fun _ i => xs.length - (intOf i).toNat)
  case atStart => exact ⟨0, Nat.zero_le _, rfl, by simp⟩
  case round =>
    obtain ⟨k, hk, rfl, rfl⟩ := hrel
    have hsb := sum_take_bound (xs.map (ind cc)) 1000 (fun j hj => by
      rw [List.length_map] at hj
      rw [map_get xs (ind cc) j hj]
      have := ind_bd cc (xs.getD j 0); omega) (by omega) k
    rw [List.length_map] at hsb
    obtain ⟨s, hs⟩ : ∃ s, s = ((xs.map (ind cc)).take k).sum := ⟨_, rfl⟩
    rw [← hs] at hsb ⊢
    have HS := hid hs; clear hs
    by_cases hlt : k < xs.length
    · obtain ⟨b, o, rfl, hcc⟩ := hc (by omega)
      have hck := hcc k hlt
      have hxb := ind_bd cc (xs.getD k 0)
      clear hcc hc
      have HX := hid (map_get xs (ind cc) k hlt)
      obtain ⟨x, hx⟩ : ∃ x, x = xs.getD k 0 := ⟨_, rfl⟩
      rw [← hx] at hck hxb HX
      clear hx
      go_wp2_with (go_at_call 102; refine (ind_any _ _ _ _ hg).mono ?_; rintro e w' ⟨rfl, rfl⟩)
      go_round
      case rel => exact ⟨k + 1, by omega, by go_num, by rw [sum_take_succ (xs.map (ind cc)) k (by simpa using hlt), ← HS.out, HX.out]⟩
      case measure => simp [intOf]; omega
    · go_wp2_with fail
      go_ret
      exact ⟨ret_int (by rw [HS.out, List.take_of_length_le (by simp; omega), colH_ind]), rfl⟩

theorem repl_zero (n : Nat) : IL ([] : List Int) ++ List.replicate (n - 0) (Value.int .i64 0) = List.replicate n (Value.int .i64 0) := by simp [IL]

set_option maxRecDepth 100000 in
set_option maxHeartbeats 1000000 in
theorem columnsOf_any (A : Option Addr) (c : Nat) (xs : List Int) (w : World) (G : Good xs) (hc : Cells w A xs) :
    Calls Try.prog 98 #[.slice A xs.length c] w fun e w' => ∃ A' c', e = .returned (.slice A' (cols xs).length c') ∧ Own w' w.heap.size A' c' (cols xs) ∧ Below w.heap.size w w' := by
  have hlen := G.len
  have HG := hid G; clear G
  by_cases h0 : xs.length = 0
  · have hx : xs = [] := List.eq_nil_of_length_eq_zero h0
    subst hx
    go_enter Try.func98, Try.ntmps98
    go_wp2_with fail
    go_ret
    exact ⟨none, 0, rfl, own_nil _ _, Below.refl _ _⟩
  have hb0 := HG.out.le 0 (by omega)
  have hp0 := HG.out.pos 0 (by omega)
  obtain ⟨b, o, rfl, hcc⟩ := hc (by omega)
  have hc0 := hcc 0 (by omega)
  rw [Nat.add_zero] at hc0
  obtain ⟨p0, hp⟩ : ∃ p : Nat, xs.getD 0 0 = (p : Int) := ⟨(xs.getD 0 0).toNat, by omega⟩
  rw [hp] at hc0 hb0 hp0
  have hcl : (cols xs).length = p0 := by rw [cols_len, hp]; rfl
  have HCL := hid hcl; clear hcl
  have HP := hid hp; clear hp
  have HCC := hid hcc; clear hcc
  have hmk := run_make_row' (P := Try.prog) 22 3 (.int .i64 0) 8 Try.underlying22 Try.infoInt rfl .i64 .i64 p0 (by omega) (by omega)
  have hne : ((xs.length : Int) == 0) = false := beq_eq_false_iff_ne.2 (by omega)
  go_enter Try.func98, Try.ntmps98
  go_wp2_with fail
  go_loopw [4, 14] (fun _ i wr => ∃ k : Nat, k ≤ p0 ∧ i = .int .i64 k ∧ wr.ownsRow w.heap.size 3 1 (.slice (some ⟨w.heap.size, 0, none⟩) p0 p0) p0 (IL ((cols xs).take k) ++ List.replicate (p0 - k) (.int .i64 0)) ∧ Below w.heap.size w wr) (fun _ i _ => p0 - (intOf i).toNat)
  case atStart =>
    refine ⟨0, Nat.zero_le _, rfl, ?_, (Below.refl _ _).alloc (Nat.le_refl _) _⟩
    have h := World.ownsRow_lit (base := w.heap.size) (e := 3) (size := 1) w (madeCells #[.int .i64 0] p0) p0 (Nat.le_refl _) (by unfold maxLen; omega) (by rw [size_madeCells]; omega)
    rw [toList_madeCells_one] at h
    rw [List.take_zero, repl_zero]
    exact h
  case round =>
    obtain ⟨k, hk, rfl, hown, hbel⟩ := hrel
    by_cases hlt : k < p0
    · obtain ⟨wa, hwa⟩ : ∃ wa, wa = wr.alloc (.cells #[.int .i64 (k : Int)] 3) := ⟨_, rfl⟩
      have hba : Below w.heap.size w wa := by rw [hwa]; exact hbel.alloc hbel.size _
      have hgk : wa.cell? ⟨wr.heap.size, 0, none⟩ = some (.int .i64 (k : Int)) := by
        rw [hwa]; exact cell_one_new wr (.int .i64 (k : Int)) 3 0 (.int .i64 (k : Int)) rfl
      have howa : wa.ownsRow w.heap.size 3 1 (.slice (some ⟨w.heap.size, 0, none⟩) p0 p0) p0 (IL ((cols xs).take k) ++ List.replicate (p0 - k) (.int .i64 0)) := by rw [hwa]; exact hown.alloc _
      have hcol := cols_get xs k (by rw [HP.out]; exact hlt)
      have hst := toCopy (cols xs) k (by rw [HCL.out]; exact hlt) w.heap.size wa w.heap.size (by rw [HCL.out]; exact howa)
      rw [HCL.out, hcol] at hst
      have hcur := World.ownsRow.cellAt howa k (by omega)
      obtain ⟨u, hu⟩ : ∃ u, (IL ((cols xs).take k) ++ List.replicate (p0 - k) (Value.int .i64 0))[k]? = some u := by
        refine ⟨_, List.getElem?_eq_getElem (by have := howa.1; omega)⟩
      rw [hu] at hcur
      have hfz := World.ownsRow.frozenAt howa k
      obtain ⟨y, hy⟩ : ∃ y, y = colH xs k := ⟨_, rfl⟩
      have hcr := sumInd_any (some ⟨b, o, none⟩) xs c (k : Int) wr.heap.size wa.drew hlen (hc.later (below_drewN hba 1)) hgk
      rw [← hy] at hst hcr
      have hlt2 : w.heap.size < wr.heap.size := (hown.lt w.heap.size rfl).2
      have hkeep : ((wa.setCell ⟨w.heap.size, k, none⟩ (.int .i64 y)).drew).cell? ⟨wr.heap.size, 0, none⟩ = some (.int .i64 (k : Int)) := by
        rw [← hgk]; exact World.cell?_setCell_other wa _ _ _ (fun e => by injection e; omega)
      have HS := hid hst
      have HKP := hid hkeep; clear hkeep
      have HQ := hid hcr
      have HW := hid hwa
      clear hst hcr hy hcol hu howa hown
      go_wp2_with fail
      rw [← HW.out]
      clear hwa
      go_region_held3 (fun w' => w'.cell? ⟨wr.heap.size, 0, none⟩ = some (.int .i64 (k : Int))) (first | exact hgk | exact HKP.out) (first | (go_at_call 76; refine HQ.out.mono ?_; rintro e w' ⟨rfl, rfl⟩))
      go_wp2_with fail
      go_roundw
      case rel => exact ⟨k + 1, by omega, by go_num, HS.out, (hba.setCell (Nat.le_refl _) _).drew⟩
      case measure => simp [intOf]; omega
    · have hkp : k = p0 := by omega
      subst hkp
      have hown2 := hown
      rw [List.take_of_length_le (by rw [HCL.out]; exact Nat.le_refl _), Nat.sub_self, List.replicate_zero, List.append_nil] at hown2
      have ho : Own wr w.heap.size (some ⟨w.heap.size, 0, none⟩) k (cols xs) := by unfold Own; rw [HCL.out]; exact hown2
      have HO := hid ho
      clear hown hown2 ho
      go_wp2_with fail
      go_ret
      refine ⟨some ⟨w.heap.size, 0, none⟩, k, ?_, HO.out, hbel⟩
      rw [HCL.out]; rfl
end Go.Proofs.Ytbkcefpefgklpaa
