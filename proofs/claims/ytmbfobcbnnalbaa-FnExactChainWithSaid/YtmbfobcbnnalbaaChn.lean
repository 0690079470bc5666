/-
  Contracts: a partition with a cell more, and rows that are a chain: IsChain and ShapeOf of the program and of the model.
-/
import Derived.Test.YtmbfobcbnnalbaaStrip
import Derived.Test.YtmbfobcbnnalbaaChnMath
import Derived.Test.YtmbfobcbnnalbaaCB
import Derived.Test.YtmbfobcbnnalbaaHas
namespace Go.Proofs.Ytmbfobcbnnalbaa
open Go.RowKit

set_option maxRecDepth 100000 in
set_option maxHeartbeats 1000000 in
theorem withCell_any {B : Nat} (A : Option Addr) (c : Nat) (p : List Int) (r : Nat) (w : World) (hl : p.length ≤ 31) (hb : ∀ j, j < p.length → 1 ≤ p.getD j 0 ∧ p.getD j 0 ≤ 30) (hr : r ≤ p.length) (ho : Own w B A c p) :
    Calls Try.prog 108 #[.slice A p.length c, .int .i64 r] w fun e w' => ∃ A' c', e = .returned (.slice A' (incL p r).length c') ∧ Own w' w.heap.size A' c' (incL p r) ∧ Below w.heap.size w w' := by
  obtain ⟨i0, hi, hz0, hz1, hz2⟩ := info_parts Try.infoInt
  obtain ⟨hm1, hm2, hm3⟩ := inc_more p r hr
  have HCL := hid (cloneOwn_any A c p w (by omega) ho)
  have HEX := hid (show IL (p ++ [0]) = IL p ++ [.int .i64 0] by simp [IL])
  have HEL := hid (show p.length + 1 = (p ++ [0]).length by simp)
  have hxv : 0 ≤ (p ++ [0]).getD r 0 ∧ (p ++ [0]).getD r 0 ≤ 30 := by
    by_cases h : r < p.length
    · have := hb r h
      rw [List.getD_eq_getElem?_getD, List.getElem?_append_left h, ← List.getD_eq_getElem?_getD]; omega
    · have : r = p.length := by omega
      subst this; simp [List.getD]
  have hz : ∀ j, (incL p r).length ≤ j → j < p.length + 1 → ((p ++ [0]).set r ((p ++ [0]).getD r 0 + 1)).getD j 0 = 0 := by
    intro j h1 h2
    rw [inc_len] at h1
    split at h1
    · omega
    · have : j = p.length := by omega
      subst this
      simp [List.getD, show r ≠ p.length by omega]
  have hk0 : 0 < (incL p r).length → ((p ++ [0]).set r ((p ++ [0]).getD r 0 + 1)).getD ((incL p r).length - 1) 0 ≠ 0 := by
    intro _
    rw [inc_len]
    split
    · rename_i h
      subst h
      simp [List.getD]
    · rename_i h
      by_cases e : p.length - 1 = r
      · rw [e]; simp only [List.getD_eq_getElem?_getD]; rw [List.getElem?_set_self (by simp; omega)]; simp only [Option.getD_some]; simp only [List.getD_eq_getElem?_getD] at hxv; omega
      · have := hb (p.length - 1) (by omega)
        simp only [List.getD_eq_getElem?_getD] at this ⊢
        rw [List.getElem?_set_ne (by omega), List.getElem?_append_left (by omega)]; omega
  have HEND := hid fun W g c2 (h : Own W w.heap.size (some ⟨g, 0, none⟩) c2 ((p ++ [0]).set r ((p ++ [0]).getD r 0 + 1))) => stripZ_any g c2 w.heap.size _ (incL p r).length W (by rw [hm3]; omega) (by rw [hm3]; exact hm1) (by rw [hm3]; exact hz) hk0 h
  rw [hm2, hm3] at HEND
  have HRL := hid (show r < (p ++ [0]).length by simp; omega)
  obtain ⟨M, hM⟩ : ∃ M, M = p ++ [0] := ⟨_, rfl⟩
  rw [← hM] at HEX HEL HEND HRL hxv
  obtain ⟨x, hx⟩ : ∃ x, x = M.getD r 0 := ⟨_, rfl⟩
  rw [← hx] at HEND hxv
  obtain ⟨R, hR⟩ : ∃ R, R = incL p r := ⟨_, rfl⟩
  rw [← hR] at HEND ⊢
  have HX := hid hx
  clear hm1 hm2 hm3 hz hk0 hM hx hR hb ho
  go_enter Try.func108, Try.ntmps108
  go_wp2_with fail
  refine HCL.out.mono ?_
  rintro e w1 ⟨A1, c1, rfl, o1, b1⟩
  have O1 := hid o1
  have B1 := hid b1
  have hs1 := b1.size
  clear o1 b1
  go_wp2_with (at_builtin; refine wpList_append_own _ rfl _ _ 22 rfl w.heap.size 3 i0 (.int .i64 0) 1 8 Try.underlying22 hi hz0 hz1 hz2 rfl (by decide) _ _ _ rfl (O1.out.alloc _) ⟨w1.heap.size, 0, none⟩ 1 1 [.int .i64 0] rfl rfl one_at (one_cell _) (by unfold maxLen; omega) (by omega) (by simp; omega) ?_)
  intro v' w2 hown' hgrow _
  have hb2 : Below w.heap.size w w2 := (B1.out.alloc B1.out.size _).grown hgrow (by simp; omega) (fun q hq => (O1.out.lt q hq).1)
  rw [← HEX.out] at hown'
  obtain ⟨A2, c2, rfl, o2⟩ := own_form hown' HEL.out
  obtain ⟨g, rfl, hg1, hg2⟩ := o2.at_ (by have := HEL.out; omega)
  have hcx := own_get o2 HRL.out
  rw [← HX.out] at hcx
  have hfz := own_froz o2 r
  have hos := own_set o2 r (x + 1)
  have hbs : Below w.heap.size w (w2.setCell ⟨g, r, none⟩ (.int .i64 (x + 1))) := hb2.setCell hg1 _
  have HE := hid (HEND.out _ _ _ hos)
  have HB := hid hbs
  rw [← HEL.out]
  have hr2 : (r : Int) < (p.length : Int) + 1 := by omega
  clear hown' hgrow o2 hb2 hos hbs
  go_wp2_with fail
  refine HE.out.mono ?_
  rintro e w' ⟨rfl, o3, rfl⟩
  go_wp2_with fail
  go_ret
  exact ⟨_, _, rfl, o3, HB.out⟩

theorem Good.bd {p : List Int} (G : Good p) : ∀ j, j < p.length → 1 ≤ p.getD j 0 ∧ p.getD j 0 ≤ 30 := fun j h => ⟨G.pos j h, G.le j h⟩

set_option maxRecDepth 100000 in
set_option maxHeartbeats 1000000 in
theorem cnAdd_any {B : Nat} (A : Option Addr) (c : Nat) (p : List Int) (r : Int) (w : World) (hl : p.length ≤ 30) (hb : ∀ j, j < p.length → 1 ≤ p.getD j 0 ∧ p.getD j 0 ≤ 30) (ho : Own w B A c p) :
    Calls Try.prog 107 #[.slice A p.length c, .int .i64 r] w fun e w' => ∃ A' c', e = .returned (.tuple #[.slice A' (if stepB p r then incL p r.toNat else []).length c', .bool (stepB p r)]) ∧ Own w' w.heap.size A' c' (if stepB p r then incL p r.toNat else []) ∧ Below w.heap.size w w' := by
  obtain ⟨i0, hi, hz0, hz1, hz2⟩ := info_parts Try.infoInt
  have HAD := hid (ptAddable_any A c p w hl ho.cells)
  have hfl := filt_len (addB p) (p.length + 1)
  have HHA := hid fun W A2 c2 (h : Cells W A2 (filt (addB p) (p.length + 1))) => l1Has2_b A2 _ c2 r W (by omega) h _ (mem_add p r)
  obtain ⟨L, hL⟩ : ∃ L, L = filt (addB p) (p.length + 1) := ⟨_, rfl⟩
  rw [← hL] at HAD HHA hfl
  cases hs : stepB p r
  · rw [hs] at HHA
    simp only [Bool.false_eq_true, if_false]
    clear hL hs
    go_enter Try.func107, Try.ntmps107
    go_wp2_with (first | (refine HAD.out.mono ?_; rintro e w1 ⟨A1, c1, rfl, o1, b1⟩) | (refine (HHA.out _ _ _ o1.cells).mono ?_; rintro e w' ⟨rfl, rfl⟩))
    go_ret2
    exact ⟨none, 0, rfl, own_nil _ _, b1⟩
  obtain ⟨k, rfl, hk, _⟩ := stepB_iff.1 hs
  rw [hs] at HHA
  simp only [if_true, Int.toNat_natCast]
  by_cases hkl : k = p.length
  · have hR : incL p k = p ++ [1] := by unfold incL; rw [if_pos hkl]
    rw [hR]
    have HEX := hid (show IL (p ++ [1]) = IL p ++ [.int .i64 1] by simp [IL])
    have HEL := hid (show p.length + 1 = (p ++ [1]).length by simp)
    have HOW := hid fun W (h : Own W B A c p) => l1Own_any A c p W (by omega) h
    have HO := hid ho
    obtain ⟨M, hM⟩ : ∃ M, M = p ++ [1] := ⟨_, rfl⟩
    rw [← hM] at HEX HEL ⊢
    subst hkl
    clear hL hs hM hR ho hb
    go_enter Try.func107, Try.ntmps107
    go_wp2_with (first | (go_at_call 106; refine HAD.out.mono ?_; rintro e w1 ⟨A1, c1, rfl, o1, b1⟩) | (go_at_call 153; refine (HHA.out _ _ _ o1.cells).mono ?_; rintro e w' ⟨rfl, rfl⟩))
    refine (HOW.out _ (HO.out.below b1)).mono ?_
    rintro e w2 ⟨A2, c2, rfl, o2, b2⟩
    have O2 := hid o2
    have B2 := hid (Below.next b1 b2)
    have hs2 := b2.size
    have hs1 := b1.size
    clear o2 b2 o1 b1
    have hkk : ((p.length : Int) == (p.length : Int)) = true := by simp
    go_wp2_with (at_builtin; refine wpList_append_own _ rfl _ _ 22 rfl w1.heap.size 3 i0 (.int .i64 0) 1 8 Try.underlying22 hi hz0 hz1 hz2 rfl (by decide) _ _ _ rfl (O2.out.alloc _) ⟨w2.heap.size, 0, none⟩ 1 1 [.int .i64 1] rfl rfl one_at (one_cell _) (by unfold maxLen; omega) (by omega) (by simp; omega) ?_)
    intro v' w3 hown' hgrow _
    have hb3 : Below w.heap.size w w3 := (B2.out.alloc B2.out.size _).grown hgrow (by have := B2.out.size; simp; omega) (fun q hq => by have := (O2.out.lt q hq).1; omega)
    rw [← HEX.out] at hown'
    obtain ⟨A3, c3, rfl, o3⟩ := own_form hown' HEL.out
    clear hown' hgrow
    go_wp2_with fail
    go_ret2
    exact ⟨_, _, rfl, o3.more hs1, hb3⟩
  · have hR : incL p k = p.set k (p.getD k 0 + 1) := by unfold incL; rw [if_neg hkl]
    rw [hR]
    have hkp : k < p.length := by omega
    have hRL : (p.set k (p.getD k 0 + 1)).length = p.length := by simp
    rw [hRL]
    have hxb := hb k hkp
    have HOW := hid fun W (h : Own W B A c p) => l1Own_any A c p W (by omega) h
    have HO := hid ho
    obtain ⟨x, hx⟩ : ∃ x, x = p.getD k 0 := ⟨_, rfl⟩
    rw [← hx] at hxb ⊢
    have HX := hid hx
    have hke : ((k : Int) == (p.length : Int)) = false := beq_eq_false_iff_ne.2 (by omega)
    have hkp2 : (k : Int) < (p.length : Int) := by omega
    clear hL hs hR ho hb hRL hx hkl hk
    go_enter Try.func107, Try.ntmps107
    go_wp2_with (first | (go_at_call 106; refine HAD.out.mono ?_; rintro e w1 ⟨A1, c1, rfl, o1, b1⟩) | (go_at_call 153; refine (HHA.out _ _ _ o1.cells).mono ?_; rintro e w' ⟨rfl, rfl⟩))
    refine (HOW.out _ (HO.out.below b1)).mono ?_
    rintro e w2 ⟨A2, c2, rfl, o2, b2⟩
    obtain ⟨g, rfl, hg1, hg2⟩ := o2.at_ (by omega)
    have hcx := own_get o2 hkp
    rw [← HX.out] at hcx
    have hfz := own_froz o2 k
    have hos := own_set o2 k (x + 1)
    have B2 := Below.next b1 b2
    have hbs : Below w.heap.size w (w2.setCell ⟨g, k, none⟩ (.int .i64 (x + 1))) := B2.setCell (Nat.le_trans b1.size hg1) _
    have HE := hid (hos.more b1.size)
    have HB := hid hbs
    have hs2 := b2.size
    have hs1 := b1.size
    clear o2 b2 o1 b1 hos hbs B2
    go_wp2_with fail
    go_ret2
    exact ⟨_, _, by simp, HE.out, HB.out⟩

set_option maxRecDepth 100000 in
set_option maxHeartbeats 1000000 in
theorem areRows_any (A : Option Addr) (c : Nat) (xs : List Int) (w : World) (hl : xs.length ≤ 1048576) (hc : Cells w A xs) (b : Bool) (h : rowsB xs = b) :
    Calls Try.prog 104 #[.slice A xs.length c] w fun e w' => e = .returned (.bool b) ∧ w = w' := by
  subst h
  by_cases h12 : xs.length ≤ 12
  · rw [show rowsB xs = xs.all (inB 0 99) by simp [rowsB, h12]]
    go_enter Try.func104, Try.ntmps104
    go_wp2_with fail
    go_loop [10] (fun i => ∃ k : Nat, k ≤ xs.length ∧ i = .int .i64 k ∧ Hid ((xs.take k).all (inB 0 99) = true)) (fun i => xs.length - (intOf i).toNat)
    case atStart => exact ⟨0, Nat.zero_le _, rfl, hid (by simp)⟩
    case round =>
      obtain ⟨k, hk, rfl, HA⟩ := hrel
      by_cases hlt : k < xs.length
      · obtain ⟨b, o, rfl, hcc⟩ := hc (by omega)
        have hck := hcc k hlt
        have HS := hid (all_take_succ (inB 0 99) xs k hlt)
        have HF := hid fun (h : inB 0 99 (xs.getD k 0) = false) => all_take_false (inB 0 99) xs k hlt h
        obtain ⟨x, hx⟩ : ∃ x, x = xs.getD k 0 := ⟨_, rfl⟩
        rw [← hx] at hck HS HF
        clear hcc hx
        cases hin : inB 0 99 x
        · have HFF := hid (HF.out hin)
          have hor : x < 0 ∨ 99 < x := by
            simp only [inB, Bool.and_eq_false_iff, decide_eq_false_iff_not] at hin; omega
          clear hin
          by_cases h0 : x < 0
          · go_wp2_with fail
            go_ret
            exact ⟨by rw [HFF.out]; rfl, rfl⟩
          · have h9 : 99 < x := by omega
            go_wp2_with fail
            go_ret
            exact ⟨by rw [HFF.out]; rfl, rfl⟩
        · have hb := inB_iff.1 hin
          have HIN := hid hin
          clear hin
          go_wp2_with fail
          go_round
          case rel => exact ⟨k + 1, by omega, by go_num, hid (by rw [HS.out, HA.out, HIN.out]; rfl)⟩
          case measure => simp [intOf]; omega
      · have hkl : k = xs.length := by omega
        subst hkl
        have HA2 := HA.out
        rw [List.take_of_length_le (Nat.le_refl _)] at HA2
        have HA3 := hid HA2
        clear HA2
        go_wp2_with fail
        go_ret
        exact ⟨by rw [HA3.out]; rfl, rfl⟩
  · rw [show rowsB xs = false by simp [rowsB, h12]]
    go_enter Try.func104, Try.ntmps104
    go_wp2_with fail
    go_ret
    exact ⟨rfl, rfl⟩

/-- What a walk over rows knows: what is made of the first k is a partition of k cells. -/
structure Made (p : List Int) (k : Nat) : Prop where
  good : Good p
  sum : p.sum = k
theorem Made.nil : Made [] 0 := ⟨good_nil, by simp⟩
theorem Made.step {p : List Int} {k r : Nat} (m : Made p k) (hk : k ≤ 29) (hr : r ≤ p.length) (h : addB p r = true) : Made (incL p r) (k + 1) :=
  ⟨inc_Good m.good (by rw [m.sum]; omega) hr h, by rw [inc_sum p r hr, m.sum]; omega⟩
theorem Made.len {p : List Int} {k : Nat} (m : Made p k) : p.length ≤ k := by have := m.good.len_le; rw [m.sum] at this; omega

set_option maxRecDepth 100000 in
set_option maxHeartbeats 4000000 in
theorem grownBy_any (A : Option Addr) (c : Nat) (xs : List Int) (w : World) (hl : xs.length ≤ 12) (hp : ∀ j, j < xs.length → 0 ≤ xs.getD j 0) (hc : Cells w A xs) :
    Calls Try.prog 105 #[.slice A xs.length c] w fun e w' => ∃ A' c', e = .returned (.tuple #[.slice A' (shpL xs).length c', .bool (shpB xs)]) ∧ Own w' w.heap.size A' c' (shpL xs) ∧ Below w.heap.size w w' := by
  have HSL := hid (show ∀ q, shp [] xs = q → shpL xs = q.getD [] ∧ shpB xs = q.isSome from fun q h => by simp [shpL, shpB, shpO_eq hl, h])
  obtain ⟨S, hS⟩ : ∃ S, S = shpL xs := ⟨_, rfl⟩
  obtain ⟨sb, hsb⟩ : ∃ sb, sb = shpB xs := ⟨_, rfl⟩
  rw [← hS, ← hsb] at HSL ⊢
  clear hS hsb
  go_enter Try.func105, Try.ntmps105
  go_wp2_with fail
  go_loopw [4, 9] (fun v i wr => ∃ (k : Nat) (p : List Int) (A' : Option Addr) (c' : Nat), k ≤ xs.length ∧ i = .int .i64 k ∧ v = .slice A' p.length c' ∧ Hid (Made p k) ∧ Hid (shp [] xs = shp p (xs.drop k)) ∧ Hid (Own wr w.heap.size A' c' p) ∧ Below w.heap.size w wr) (fun _ i _ => xs.length - (intOf i).toNat)
  case atStart => exact ⟨0, [], none, 0, Nat.zero_le _, rfl, rfl, hid Made.nil, hid rfl, hid (own_nil _ _), Below.refl _ _⟩
  case round =>
    obtain ⟨k, p, A', c', hk, rfl, rfl, HM, HS, HO, hbel⟩ := hrel
    have hpl := HM.out.len
    by_cases hlt : k < xs.length
    · have hcr : Cells wr A xs := hc.later hbel
      obtain ⟨b, o, rfl, hcc⟩ := hcr (by omega)
      have hck := hcc k hlt
      have hx0 := hp k hlt
      have hsd := shp_drop p xs k hlt
      rw [← HS.out] at hsd
      obtain ⟨x, hx⟩ : ∃ x, x = xs.getD k 0 := ⟨_, rfl⟩
      rw [← hx] at hck hx0 hsd
      obtain ⟨r, hr⟩ : ∃ r : Nat, (r : Int) = x := ⟨x.toNat, by omega⟩
      subst hr
      rw [Int.toNat_natCast, stepB_nat] at hsd
      have HSD := hid hsd
      clear hcc hx hx0 hsd
      by_cases hrp : r ≤ p.length
      · have hsd := HSD.out
        rw [decide_eq_true hrp, Bool.true_and] at hsd
        have HSD2 := hid hsd
        have HWC := hid fun W (h : Own W w.heap.size A' c' p) => withCell_any A' c' p r W (by omega) HM.out.good.bd hrp h
        have hil := inc_len p r
        have hgd := inc_good HM.out.good (by rw [HM.out.sum]; omega) r hrp
        have HST := hid fun (h : addB p r = true) => HM.out.step (by omega) hrp h
        have hrl : (incL p r).length ≤ 31 := by rw [hil]; split <;> omega
        have HIP := hid fun W A2 c2 (h : Cells W A2 (incL p r)) => IsPartition_b A2 (incL p r) c2 W (by omega) h _ hgd
        obtain ⟨R, hR⟩ : ∃ R, R = incL p r := ⟨_, rfl⟩
        rw [← hR] at HWC HIP HST HSD2 hrl
        clear hsd hil hgd hR HSD
        cases ha : addB p r
        · obtain ⟨e1, e2⟩ := HSL.out none (by rw [HSD2.out, ha]; rfl)
          have E1 := hid e1; have E2 := hid e2
          rw [ha] at HIP
          clear ha e1 e2
          go_wp2_with (first | (go_at_call 108; refine (HWC.out _ HO.out).mono ?_; rintro e w2 ⟨A2, c2, rfl, o2, b2⟩) | (go_at_call 98; refine (HIP.out _ _ _ o2.cells).mono ?_; rintro e w' ⟨rfl, rfl⟩))
          go_ret2
          exact ⟨none, 0, by rw [E1.out, E2.out]; rfl, by rw [E1.out]; exact own_nil _ _, hbel.trans (b2.mono hbel.size)⟩
        · rw [ha] at HIP
          have HSD3 := hid (show shp [] xs = shp R (xs.drop (k + 1)) by rw [HSD2.out, ha]; rfl)
          have HMM := hid (HST.out ha)
          clear ha
          go_wp2_with (first | (go_at_call 108; refine (HWC.out _ HO.out).mono ?_; rintro e w2 ⟨A2, c2, rfl, o2, b2⟩) | (go_at_call 98; refine (HIP.out _ _ _ o2.cells).mono ?_; rintro e w' ⟨rfl, rfl⟩))
          go_roundw
          case rel => exact ⟨k + 1, R, A2, c2, by omega, by go_num, rfl, HMM, HSD3, hid (o2.more hbel.size), hbel.trans (b2.mono hbel.size)⟩
          case measure => simp [intOf]; omega
      · obtain ⟨e1, e2⟩ := HSL.out none (by rw [HSD.out, decide_eq_false hrp]; rfl)
        have E1 := hid e1; have E2 := hid e2
        have hrp2 : (p.length : Int) < (r : Int) := by omega
        clear e1 e2
        go_wp2_with fail
        go_ret2
        exact ⟨none, 0, by rw [E1.out, E2.out]; rfl, by rw [E1.out]; exact own_nil _ _, hbel⟩
    · have hkl : k = xs.length := by omega
      subst hkl
      obtain ⟨e1, e2⟩ := HSL.out (some p) (by rw [HS.out, List.drop_length]; rfl)
      have E1 := hid e1; have E2 := hid e2
      clear e1 e2
      go_wp2_with fail
      go_ret2
      exact ⟨A', c', by rw [E1.out, E2.out]; rfl, by rw [E1.out]; exact HO.out, hbel⟩

set_option maxRecDepth 100000 in
set_option maxHeartbeats 4000000 in
theorem cnShape_any (A : Option Addr) (c : Nat) (xs : List Int) (w : World) (hl : xs.length ≤ 12) (hc : Cells w A xs) :
    Calls Try.prog 103 #[.slice A xs.length c] w fun e w' => ∃ A' c', e = .returned (.tuple #[.slice A' (shpL xs).length c', .bool (shpB xs)]) ∧ Own w' w.heap.size A' c' (shpL xs) ∧ Below w.heap.size w w' := by
  have HSL := hid (show ∀ q, shp [] xs = q → shpL xs = q.getD [] ∧ shpB xs = q.isSome from fun q h => by simp [shpL, shpB, shpO_eq hl, h])
  obtain ⟨S, hS⟩ : ∃ S, S = shpL xs := ⟨_, rfl⟩
  obtain ⟨sb, hsb⟩ : ∃ sb, sb = shpB xs := ⟨_, rfl⟩
  rw [← hS, ← hsb] at HSL ⊢
  clear hS hsb
  go_enter Try.func103, Try.ntmps103
  go_wp2_with fail
  go_loopw [4, 11] (fun v i wr => ∃ (k : Nat) (p : List Int) (A' : Option Addr) (c' : Nat), k ≤ xs.length ∧ i = .int .i64 k ∧ v = .slice A' p.length c' ∧ Hid (Made p k) ∧ Hid (shp [] xs = shp p (xs.drop k)) ∧ Hid (Own wr w.heap.size A' c' p) ∧ Below w.heap.size w wr) (fun _ i _ => xs.length - (intOf i).toNat)
  case atStart => exact ⟨0, [], none, 0, Nat.zero_le _, rfl, rfl, hid Made.nil, hid rfl, hid (own_nil _ _), Below.refl _ _⟩
  case round =>
    obtain ⟨k, p, A', c', hk, rfl, rfl, HM, HS, HO, hbel⟩ := hrel
    have hpl := HM.out.len
    by_cases hlt : k < xs.length
    · have hcr : Cells wr A xs := hc.later hbel
      obtain ⟨b, o, rfl, hcc⟩ := hcr (by omega)
      have hck := hcc k hlt
      have hsd := shp_drop p xs k hlt
      rw [← HS.out] at hsd
      obtain ⟨x, hx⟩ : ∃ x, x = xs.getD k 0 := ⟨_, rfl⟩
      rw [← hx] at hck hsd
      have HSD := hid hsd
      have HCA := hid fun W (h : Own W w.heap.size A' c' p) => cnAdd_any A' c' p x W (by omega) HM.out.good.bd h
      clear hcc hx hsd
      cases ha : stepB p x
      · obtain ⟨e1, e2⟩ := HSL.out none (by rw [HSD.out, ha]; rfl)
        have E1 := hid e1; have E2 := hid e2
        rw [ha] at HCA
        simp only [Bool.false_eq_true, if_false] at HCA
        clear ha e1 e2
        go_wp2_with (first | (go_at_call 107; refine (HCA.out _ HO.out).mono ?_; rintro e w2 ⟨A2, c2, rfl, o2, b2⟩))
        go_ret2
        exact ⟨none, 0, by rw [E1.out, E2.out]; rfl, by rw [E1.out]; exact own_nil _ _, hbel.trans (b2.mono hbel.size)⟩
      · rw [ha] at HCA
        simp only [if_true] at HCA
        obtain ⟨r, rfl, hr1, hr2⟩ := stepB_iff.1 ha
        rw [Int.toNat_natCast] at HCA HSD
        have HSD3 := hid (show shp [] xs = shp (incL p r) (xs.drop (k + 1)) by rw [HSD.out, ha]; rfl)
        have HMM := hid (HM.out.step (by omega) hr1 hr2)
        obtain ⟨R, hR⟩ : ∃ R, R = incL p r := ⟨_, rfl⟩
        rw [← hR] at HSD3 HMM HCA
        clear ha HSD hR hr1 hr2
        go_wp2_with (first | (go_at_call 107; refine (HCA.out _ HO.out).mono ?_; rintro e w2 ⟨A2, c2, rfl, o2, b2⟩))
        go_roundw
        case rel => exact ⟨k + 1, R, A2, c2, by omega, by go_num, rfl, HMM, HSD3, hid (o2.more hbel.size), hbel.trans (b2.mono hbel.size)⟩
        case measure => simp [intOf]; omega
    · have hkl : k = xs.length := by omega
      subst hkl
      obtain ⟨e1, e2⟩ := HSL.out (some p) (by rw [HS.out, List.drop_length]; rfl)
      have E1 := hid e1; have E2 := hid e2
      clear e1 e2
      go_wp2_with fail
      go_ret2
      exact ⟨A', c', by rw [E1.out, E2.out]; rfl, by rw [E1.out]; exact HO.out, hbel⟩

theorem rowsB_len {xs : List Int} (h : rowsB xs = true) : xs.length ≤ 12 ∧ ∀ j, j < xs.length → 0 ≤ xs.getD j 0 := by
  simp only [rowsB, Bool.and_eq_true, decide_eq_true_eq, List.all_eq_true] at h
  refine ⟨h.1, fun j hj => ?_⟩
  rw [List.getD_eq_getElem?_getD, List.getElem?_eq_getElem hj]
  exact (inB_iff.1 (h.2 _ (List.getElem_mem hj))).1

set_option maxRecDepth 100000 in
set_option maxHeartbeats 1000000 in
theorem impl_ShapeOf (A : Option Addr) (c : Nat) (xs : List Int) (w : World) (hl : xs.length ≤ 1048576) (hc : Cells w A xs) :
    Calls Try.prog 38 #[.slice A xs.length c] w fun e w' => ∃ A' c', e = .returned (.tuple #[.slice A' (shpL xs).length c', .bool (shpB xs)]) ∧ Own w' w.heap.size A' c' (shpL xs) ∧ Below w.heap.size w w' := by
  cases hb : rowsB xs
  · have e := shpO_none hb
    rw [show shpL xs = [] by simp [shpL, e], show shpB xs = false by simp [shpB, e]]
    clear e
    have HB := hid hb; clear hb
    go_enter Try.func38, Try.ntmps38
    go_wp2_with (go_at_call 104; refine (areRows_any _ _ _ _ hl hc _ HB.out).mono ?_; rintro e w' ⟨rfl, rfl⟩)
    go_ret2
    exact ⟨none, 0, rfl, own_nil _ _, Below.refl _ _⟩
  · obtain ⟨h12, hp⟩ := rowsB_len hb
    have HG := hid (grownBy_any A c xs w h12 hp hc)
    have HB := hid hb; clear hb
    obtain ⟨S, hS⟩ : ∃ S, S = shpL xs := ⟨_, rfl⟩
    obtain ⟨sb, hsb⟩ : ∃ sb, sb = shpB xs := ⟨_, rfl⟩
    rw [← hS, ← hsb] at HG ⊢
    clear hS hsb
    go_enter Try.func38, Try.ntmps38
    go_wp2_with (first | (go_at_call 104; refine (areRows_any _ _ _ _ hl hc _ HB.out).mono ?_; rintro e w' ⟨rfl, rfl⟩) | (go_at_call 105; refine HG.out.mono ?_; rintro e w2 ⟨A2, c2, rfl, o2, b2⟩))
    go_ret2
    exact ⟨_, _, rfl, o2, b2⟩

set_option maxRecDepth 100000 in
set_option maxHeartbeats 1000000 in
theorem impl_IsChain (A : Option Addr) (c : Nat) (xs : List Int) (w : World) (hl : xs.length ≤ 1048576) (hc : Cells w A xs) :
    Calls Try.prog 36 #[.slice A xs.length c] w fun e w' => e = .returned (.tuple #[.bool (isChB xs), .bool (rowsB xs)]) ∧ Below w.heap.size w w' := by
  cases hb : rowsB xs
  · rw [show isChB xs = false by simp [isChB, hb]]
    have HB := hid hb; clear hb
    go_enter Try.func36, Try.ntmps36
    go_wp2_with (go_at_call 104; refine (areRows_any _ _ _ _ hl hc _ HB.out).mono ?_; rintro e w' ⟨rfl, rfl⟩)
    go_ret2
    exact ⟨rfl, Below.refl _ _⟩
  · obtain ⟨h12, hp⟩ := rowsB_len hb
    have HG := hid (grownBy_any A c xs w h12 hp hc)
    rw [show isChB xs = shpB xs by simp [isChB, hb]]
    have HB := hid hb; clear hb
    obtain ⟨S, hS⟩ : ∃ S, S = shpL xs := ⟨_, rfl⟩
    obtain ⟨sb, hsb⟩ : ∃ sb, sb = shpB xs := ⟨_, rfl⟩
    rw [← hsb]
    rw [← hS, ← hsb] at HG
    clear hS hsb
    go_enter Try.func36, Try.ntmps36
    go_wp2_with (first | (go_at_call 104; refine (areRows_any _ _ _ _ hl hc _ HB.out).mono ?_; rintro e w' ⟨rfl, rfl⟩) | (go_at_call 105; refine HG.out.mono ?_; rintro e w2 ⟨A2, c2, rfl, o2, b2⟩))
    go_ret2
    exact ⟨rfl, b2⟩

set_option maxRecDepth 100000 in
set_option maxHeartbeats 1000000 in
theorem spec_ShapeOf (A : Option Addr) (c : Nat) (xs : List Int) (w : World) (hl : xs.length ≤ 1048576) (hc : Cells w A xs) :
    Calls Try.prog 37 #[.slice A xs.length c] w fun e w' => ∃ A' c', e = .returned (.tuple #[.slice A' (shpL xs).length c', .bool (shpB xs)]) ∧ Own w' w.heap.size A' c' (shpL xs) ∧ Below w.heap.size w w' := by
  by_cases h12 : xs.length ≤ 12
  · have HG := hid (cnShape_any A c xs w h12 hc)
    obtain ⟨S, hS⟩ : ∃ S, S = shpL xs := ⟨_, rfl⟩
    obtain ⟨sb, hsb⟩ : ∃ sb, sb = shpB xs := ⟨_, rfl⟩
    rw [← hS, ← hsb] at HG ⊢
    clear hS hsb
    go_enter Try.func37, Try.ntmps37
    go_wp2_with (go_at_call 103; refine HG.out.mono ?_; rintro e w2 ⟨A2, c2, rfl, o2, b2⟩)
    go_ret2
    exact ⟨_, _, rfl, o2, b2⟩
  · have e : shpO xs = none := by unfold shpO; rw [if_neg h12]
    rw [show shpL xs = [] by simp [shpL, e], show shpB xs = false by simp [shpB, e]]
    clear e
    go_enter Try.func37, Try.ntmps37
    go_wp2_with fail
    go_ret2
    exact ⟨none, 0, rfl, own_nil _ _, Below.refl _ _⟩

set_option maxRecDepth 100000 in
set_option maxHeartbeats 1000000 in
theorem spec_IsChain (A : Option Addr) (c : Nat) (xs : List Int) (w : World) (hl : xs.length ≤ 1048576) (hc : Cells w A xs) :
    Calls Try.prog 35 #[.slice A xs.length c] w fun e w' => e = .returned (.tuple #[.bool (isChB xs), .bool (rowsB xs)]) ∧ Below w.heap.size w w' := by
  by_cases h12 : xs.length ≤ 12
  · have hrb : rowsB xs = xs.all (inB 0 99) := by simp [rowsB, h12]
    cases hb : rowsB xs
    · rw [show isChB xs = false by simp [isChB, hb]]
      rw [hrb] at hb
      have HB := hid hb; clear hb hrb
      go_enter Try.func35, Try.ntmps35
      go_wp2_with (go_at_call 102; refine (l1All_b _ _ _ _ _ _ hl hc _ HB.out).mono ?_; rintro e w' ⟨rfl, rfl⟩)
      go_ret2
      exact ⟨rfl, by first | exact Below.refl _ _ | exact below_drewN (Below.refl _ _) 1⟩
    · have HG := hid fun W (h : Cells W A xs) => cnShape_any A c xs W h12 h
      rw [show isChB xs = shpB xs by simp [isChB, hb]]
      rw [hrb] at hb
      have HB := hid hb; clear hb hrb
      obtain ⟨S, hS⟩ : ∃ S, S = shpL xs := ⟨_, rfl⟩
      obtain ⟨sb, hsb⟩ : ∃ sb, sb = shpB xs := ⟨_, rfl⟩
      rw [← hsb]
      rw [← hS, ← hsb] at HG
      clear hS hsb
      go_enter Try.func35, Try.ntmps35
      go_wp2_with (first | (go_at_call 102; refine (l1All_b _ _ _ _ _ _ hl hc _ HB.out).mono ?_; rintro e w' ⟨rfl, rfl⟩) | (go_at_call 103; refine (HG.out _ (by exact hc)).mono ?_; rintro e w2 ⟨A2, c2, rfl, o2, b2⟩))
      go_ret2
      exact ⟨rfl, by first | exact b2 | exact Below.next (below_drew' w 1) b2⟩
  · rw [show isChB xs = false by simp [isChB, rowsB, h12], show rowsB xs = false by simp [rowsB, h12]]
    go_enter Try.func35, Try.ntmps35
    go_wp2_with fail
    go_ret2
    exact ⟨rfl, by first | exact Below.refl _ _ | exact below_drewN (Below.refl _ _) 1⟩

end Go.Proofs.Ytmbfobcbnnalbaa
