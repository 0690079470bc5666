/-
  Contracts: Maya's numbers, the model's side.
-/
import Derived.Test.YtpokehnjpakgcaaCB
import Derived.Test.YtpokehnjpakgcaaCA
import Derived.Maps.AppendAt
namespace Go.Proofs.Ytpokehnjpakgcaa
open Go.RowKit

set_option maxHeartbeats 400000 in
theorem l1Has_any (A : Option Addr) (xs : List Int) (c : Nat) (n : Int) (w : World) (hl : xs.length ≤ 1048576) (hc : Cells w A xs) :
    Calls Try.prog 34 #[.slice A xs.length c, .int .i64 n] w fun e w' => e = .returned (.bool (decide (n ∈ xs))) ∧ w = w' := by
  go_enter Try.func34, Try.ntmps34
  go_wp2
  go_loop [6, 9] (fun _ i => ∃ k : Nat, k ≤ xs.length ∧ i = .int .i64 k ∧ Hid (∀ j, j < k → xs.getD j 0 ≠ n)) (fun _ i => xs.length - (intOf i).toNat)
  case atStart => exact ⟨0, Nat.zero_le _, rfl, hid fun j hj => by omega⟩
  case round =>
    obtain ⟨k, hk, rfl, HN⟩ := hrel
    by_cases hlt : k < xs.length
    · obtain ⟨b, o, rfl, hcc⟩ := hc (by omega)
      have hck := hcc k hlt
      clear hcc hc
      have hmem : xs.getD k 0 ∈ xs := by rw [List.getD_eq_getElem?_getD, List.getElem?_eq_getElem hlt]; exact List.getElem_mem hlt
      obtain ⟨x, hx⟩ : ∃ x, x = xs.getD k 0 := ⟨_, rfl⟩
      rw [← hx] at hck hmem
      have HX := hid hx; clear hx
      by_cases he : x = n
      · have HM := hid hmem
        have heb : (x == n) = true := beq_iff_eq.2 he
        have HE := hid he; clear he hmem
        go_wp2
        go_ret
        exact ⟨ret_bool (decide_eq_true (HE.out ▸ HM.out)).symm, rfl⟩
      · have heb : (x == n) = false := beq_eq_false_iff_ne.2 he
        have HE := hid he; clear he hmem
        go_wp2
        go_round
        case rel =>
          refine ⟨k + 1, by omega, by go_num, hid fun j hj => ?_⟩
          by_cases h : j < k
          · exact HN.out j h
          · have : j = k := by omega
            subst this; rw [← HX.out]; exact HE.out
        case measure => simp [intOf]; omega
    · go_wp2
      go_ret
      refine ⟨ret_bool (decide_eq_false ?_).symm, rfl⟩
      intro hm
      obtain ⟨j, hj, e⟩ := List.getElem_of_mem hm
      refine HN.out j (by omega) ?_
      rw [List.getD_eq_getElem?_getD, List.getElem?_eq_getElem hj]
      exact e
theorem l1Has_b (A : Option Addr) (xs : List Int) (c : Nat) (n : Int) (w : World) (hl : xs.length ≤ 1048576) (hc : Cells w A xs) (b : Bool) (h : decide (n ∈ xs) = b) :
    Calls Try.prog 34 #[.slice A xs.length c, .int .i64 n] w fun e w' => e = .returned (.bool b) ∧ w = w' := by
  subst h; exact l1Has_any A xs c n w hl hc
theorem cells_blk {w : World} {A : Option Addr} {xs : List Int} (h : Cells w A xs) (h0 : 0 < xs.length) : ∀ b, A.map Addr.block = some b → b < w.heap.size := by
  intro b hb
  obtain ⟨b', o, rfl, hcc⟩ := h h0
  have := World.block_lt_of_cell? w _ (hcc 0 h0)
  simp at hb
  subst hb
  exact this
theorem ownsRow_grown {w w1 : World} {B e s n : Nat} {u v : Value} {xs : List Value} {o : Obj} (h : w.ownsRow B e s v n xs) (hg : (w.alloc o).grownBy w1 u.ownBlock) (hne : ∀ b, v.ownBlock = some b → u.ownBlock ≠ some b) : w1.ownsRow B e s v n xs := by
  refine ⟨h.1, ?_⟩
  rcases h.2 with hn | ⟨g, cap, cur, rfl, hb, hgg, rest⟩
  · exact .inl hn
  · have hlt : g < w.heap.size := (Array.getElem?_eq_some_iff.1 hgg).1
    refine .inr ⟨g, cap, cur, rfl, hb, ?_, rest⟩
    rw [hg.block g (by simp; omega) (fun e => hne g rfl e.symm), Below.heap_alloc _ _ _ hlt]; exact hgg

set_option maxRecDepth 100000 in
set_option maxHeartbeats 2000000 in
theorem abMaya_any (A : Option Addr) (c : Nat) (xs : List Int) (w : World) (G : Good xs) (hc : Cells w A xs) :
    Calls Try.prog 30 #[.slice A xs.length c] w fun e w' => ∃ A' c', e = .returned (.slice A' (mayaL xs).length c') ∧ Own w' w.heap.size A' c' (mayaL xs) ∧ Below w.heap.size w w' := by
  obtain ⟨i0, hi, hz0, hz1, hz2⟩ := info_parts Try.infoInt
  have hlen := G.len
  have HG := hid G; clear G
  go_enter Try.func30, Try.ntmps30
  go_wp2_with fail
  go_loopw [3, 4, 5, 6, 10] (fun v u _ _ i wr => ∃ k : Nat, k ≤ xs.length ∧ i = .int .i64 k ∧ wr.ownsRow w.heap.size 3 1 v (mayaA xs k).length (IL (mayaA xs k)) ∧ wr.ownsRow w.heap.size 3 1 u (heldL xs k).length (IL (heldL xs k)) ∧ Hid (∀ b, v.ownBlock = some b → u.ownBlock ≠ some b) ∧ Below w.heap.size w wr) (fun _ _ _ _ i _ => xs.length - (intOf i).toNat)
  case atStart => exact ⟨0, Nat.zero_le _, rfl, World.ownsRow_nil _ _ _ _, World.ownsRow_nil _ _ _ _, hid fun b hb => by simp [Value.ownBlock] at hb, Below.refl _ _⟩
  case round =>
    obtain ⟨k, hk, rfl, hv, hu, HN, hbel⟩ := hrel
    have hal := mayaA_len xs k
    have hhl := heldL_len xs k
    have HHL := hid hhl
    by_cases hlt : k < xs.length
    · obtain ⟨b, o, rfl, hcc⟩ := hc.later hbel (by omega)
      have hck := hcc k hlt
      have hxb := HG.out.pos k hlt
      have hxb2 := HG.out.le k hlt
      obtain ⟨x, hx⟩ : ∃ x, x = xs.getD k 0 := ⟨_, rfl⟩
      rw [← hx] at hck hxb hxb2
      have hnum : x - k - 1 = num xs k := by unfold num; rw [← hx]
      have HY := hid (mayaA_yes hnum)
      have HNO := hid (mayaA_no hnum)
      have HS := heldL_succ xs k
      rw [← hnum] at HS
      have HS := hid HS
      clear hcc hx hnum hhl
      go_wp2_with (at_builtin; refine wpList_append_own_at _ rfl _ _ 22 rfl w.heap.size 3 i0 (.int .i64 0) 1 8 Try.underlying22 hi hz0 hz1 hz2 rfl (by decide) _ _ _ rfl (hu.alloc _) ⟨wr.heap.size, 0, none⟩ 1 1 [.int .i64 (x - k - 1)] rfl rfl one_at (one_cell _) (by have := HHL.out; unfold maxLen; omega) (by have := HHL.out; omega) (by have := hbel.size; simp; omega) ?_)
      intro u' w1 hu' hgrow _ hat
      have hb1 : Below w.heap.size w w1 := (hbel.alloc hbel.size _).grown hgrow (by have := hbel.size; simp; omega) (fun q hq => (hu.lt q hq).1)
      have hu2 := own_snoc HS.out hu'
      have hv1 := ownsRow_grown hv hgrow HN.out
      have hne1 : ∀ b, u3.ownBlock = some b → u'.ownBlock ≠ some b := by
        intro b hb
        rcases hat with e | e
        · rw [e]; exact HN.out b hb
        · rw [e]
          have := (hv.lt b hb).2
          intro e2; injection e2 with e2; first | omega | (simp at e2; omega)
      have HN1 := hid hne1
      clear hu' hu hgrow hne1 hbel hv HN hck hat
      have hbs := hb1.size
      by_cases hx0 : 0 ≤ x - k - 1
      · go_wp2_with (at_builtin; refine wpList_append_own_at _ rfl _ _ 22 rfl w.heap.size 3 i0 (.int .i64 0) 1 8 Try.underlying22 hi hz0 hz1 hz2 rfl (by decide) _ _ _ rfl (hv1.alloc _) ⟨w1.heap.size, 0, none⟩ 1 1 [.int .i64 (x - k - 1)] rfl rfl one_at (one_cell _) (by unfold maxLen; omega) (by omega) (by simp; omega) ?_)
        intro v' w2 hv' hgrow2 _ hat2
        have hb2 : Below w.heap.size w w2 := (hb1.alloc hb1.size _).grown hgrow2 (by simp; omega) (fun q hq => (hv1.lt q hq).1)
        have hv2 := own_snoc (HY.out hx0) hv'
        have hu3 := ownsRow_grown hu2 hgrow2 (fun b hb e => HN1.out b e hb)
        have hne2 : ∀ b, v'.ownBlock = some b → u'.ownBlock ≠ some b := by
          intro b hb
          rcases hat2 with e | e
          · rw [e] at hb; exact HN1.out b hb
          · rw [e] at hb
            intro e2
            have := (hu2.lt b e2).2
            injection hb with hb; first | omega | (simp at hb; omega)
        have HN2 := hid hne2
        clear hv' hgrow2 hne2 hv1 hu2 HN1 hat2
        go_wp2_with fail
        go_roundw
        case rel => exact ⟨k + 1, by omega, by go_num, hv2, hu3, HN2, hb2⟩
        case measure => simp [intOf]; omega
      · rw [← HNO.out (by omega)] at hv1
        go_wp2_with fail
        go_roundw
        case rel => exact ⟨k + 1, by omega, by go_num, hv1, hu2, HN1, hb1⟩
        case measure => simp [intOf]; omega
    · have hkl : k = xs.length := by omega
      subst hkl
      have hneg : IntKind.i64.wrap (-(xs.length : Int)) = -(xs.length : Int) := by rw [IntWalk.i64_in _ (by omega)]
      obtain ⟨Ah, ch, rfl, oh⟩ := own_form hu rfl
      clear hu
      have hcells := oh.cells
      have hsep : ∀ b, u3.ownBlock = some b → (Ah.map Addr.block) ≠ some b := by
        intro b hb e
        refine HN.out b hb ?_
        cases Ah with
        | none => simp at e
        | some a => simpa [Value.ownBlock] using e
      have HSEP := hid hsep
      have hsl : (heldL xs xs.length).length ≤ 1048576 := by rw [heldL_len]; omega
      clear hsep oh HN hhl hal
      go_wp2_with fail
      obtain ⟨wo, rfl⟩ : ∃ wo : World, wo = wr := ⟨_, rfl⟩
      go_loopw [3, 7] (fun v i wi => ∃ j : Nat, j ≤ xs.length ∧ i = .int .i64 (-1 - (j : Int)) ∧ wi.ownsRow w.heap.size 3 1 v (mayaA xs xs.length ++ mayaB xs j).length (IL (mayaA xs xs.length ++ mayaB xs j)) ∧ Cells wi Ah (heldL xs xs.length) ∧ Hid (∀ b, v.ownBlock = some b → (Ah.map Addr.block) ≠ some b) ∧ Below w.heap.size w wi) (fun _ i _ => (intOf i + xs.length + 1).toNat)
      case atStart => exact ⟨0, Nat.zero_le _, by simp, by simpa [mayaB] using hv, hcells, HSEP, hbel⟩
      case round =>
        obtain ⟨j, hj, rfl, hv, hch, HN, hbel⟩ := hrel
        have hal := mayaA_len xs xs.length
        have hbl := mayaB_len xs j
        have hll : (mayaA xs xs.length ++ mayaB xs j).length = (mayaA xs xs.length).length + (mayaB xs j).length := List.length_append
        have HLL := hid hll; clear hll
        by_cases hlt : j < xs.length
        · have hge : -(xs.length : Int) ≤ -1 - (j : Int) := by omega
          cases hm : decide ((-1 - (j : Int)) ∈ heldL xs xs.length)
          · have HM := hid hm
            have hm2 := of_decide_eq_false hm
            have HY := hid (mayaB_no hm2)
            clear hm hm2
            go_wp2_with (first | (go_at_call 34; refine (l1Has_b _ _ _ _ _ hsl hch _ HM.out).mono ?_; rintro e w' ⟨rfl, rfl⟩) | (at_builtin; refine wpList_append_own_at _ rfl _ _ 22 rfl w.heap.size 3 i0 (.int .i64 0) 1 8 Try.underlying22 hi hz0 hz1 hz2 rfl (by decide) _ _ _ rfl (hv.alloc _) ⟨wr.heap.size, 0, none⟩ 1 1 [.int .i64 (-1 - (j : Int))] rfl rfl one_at (one_cell _) (by have := HLL.out; unfold maxLen; omega) (by have := HLL.out; omega) (by have := hbel.size; simp; omega) ?_))
            intro v' w1 hv' hgrow _ hat
            have hb1 : Below w.heap.size w w1 := (hbel.alloc hbel.size _).grown hgrow (by have := hbel.size; simp; omega) (fun q hq => (hv.lt q hq).1)
            have hv2 := own_snoc (zs := mayaA xs xs.length ++ mayaB xs (j + 1)) (by rw [HY.out, List.append_assoc]) (by rw [HLL.out]; exact hv')
            have hch2 : Cells w1 Ah (heldL xs xs.length) := hch.keep fun b hb hblt => by
              rw [hgrow.block b (by simp; omega) (fun e => HN.out b e.symm hb), Below.heap_alloc _ _ _ hblt]
            have hne : ∀ b, v'.ownBlock = some b → (Ah.map Addr.block) ≠ some b := by
              intro b hb
              rcases hat with e | e
              · rw [e] at hb; exact HN.out b hb
              · rw [e] at hb
                intro e2
                have := cells_blk hch (by rw [heldL_len]; omega) b e2
                injection hb with hb; first | omega | (simp at hb; omega)
            have HN2 := hid hne
            clear hv' hgrow hne hv hch HN hat
            go_wp2_with fail
            go_roundw
            case rel => exact ⟨j + 1, by omega, by congr 1; omega, hv2, hch2, HN2, hb1⟩
            case measure => simp [intOf]; omega
          · have HM := hid hm
            have hm2 := of_decide_eq_true hm
            have HY := hid (mayaB_yes hm2)
            clear hm hm2
            rw [← HY.out] at hv
            go_wp2_with (go_at_call 34; refine (l1Has_b _ _ _ _ _ hsl hch _ HM.out).mono ?_; rintro e w' ⟨rfl, rfl⟩)
            go_roundw
            case rel => exact ⟨j + 1, by omega, by congr 1; omega, hv, hch, HN, hbel⟩
            case measure => simp [intOf]; omega
        · have hje : j = xs.length := by omega
          have hge : -1 - (j : Int) < -(xs.length : Int) := by omega
          subst hje
          obtain ⟨A', c', rfl, ho⟩ := own_form hv rfl
          clear hv
          go_wp2_with fail
          go_ret
          exact ⟨A', c', rfl, ho, hbel⟩

set_option maxHeartbeats 400000 in
theorem spec_MayaOf (A : Option Addr) (c : Nat) (xs : List Int) (w : World) (hl : xs.length ≤ 1048576) (hc : Cells w A xs) :
    Calls Try.prog 14 #[.slice A xs.length c] w fun e w' => ∃ A' c', e = .returned (.tuple #[.slice A' (mayaF xs).length c', .bool (good xs)]) ∧ Own w' w.heap.size A' c' (mayaF xs) ∧ Below w.heap.size w w' := by
  cases hg : good xs
  · rw [show mayaF xs = [] by simp [mayaF, hg]]
    have HG := hid hg; clear hg
    go_enter Try.func14, Try.ntmps14
    go_wp2_with (go_at_call 21; refine (ptGood_b _ _ _ _ hl hc _ HG.out).mono ?_; rintro e w' ⟨rfl, n, rfl⟩)
    go_ret2
    exact ⟨none, 0, rfl, own_nil _ _, below_drew' _ _⟩
  · rw [show mayaF xs = mayaL xs by simp [mayaF, hg]]
    have G := (good_iff xs).1 hg
    have HG := hid hg; clear hg
    go_enter Try.func14, Try.ntmps14
    go_wp2_with (first | (go_at_call 21; refine (ptGood_b _ _ _ _ hl hc _ HG.out).mono ?_; rintro e w' ⟨rfl, n, rfl⟩) | (go_at_call 30; refine (abMaya_any _ _ _ _ G (by exact hc)).mono ?_; rintro e w2 ⟨A2, c2, rfl, o2, b2⟩))
    go_ret2
    exact ⟨A2, c2, rfl, o2, Below.next (below_drew' w n) b2⟩
end Go.Proofs.Ytpokehnjpakgcaa
