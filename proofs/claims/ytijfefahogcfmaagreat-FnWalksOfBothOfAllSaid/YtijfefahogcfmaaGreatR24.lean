/-
  Several texts in one.
-/
import Derived.Test.YtijfefahogcfmaaGreatR23
import Derived.Test.YtijfefahogcfmaaGreatR05
import Derived.Test.YtijfefahogcfmaaGreatCB
import Derived.Shelf.SlSortCmp.Whole1
import Derived.Lib.OwnBridge
/-
  Contract: cores of the program.
-/
namespace Go.Proofs.YtijfefahogcfmaaGreat
open Go.RowKit

theorem Tryz.infoCore : (Tryz.prog.info? 35).map (fun i => (i.zero, i.size, i.bytes)) = some (some (.agg #[.slice none 0 0, .int .i64 0, .int .i64 0]), 3, 40) := by kernel_rfl

def alB (a b x : Int) (H : List Int) : Bool := hbB H x a && hbB H x b
def stC (a b x : Int) (S : List (List Int)) (m : Nat) : List (List Int) := S ++ ((S.take m).filter (alB a b x)).map (· ++ [x])
theorem stC_zero (a b x : Int) (S : List (List Int)) : stC a b x S 0 = S := by simp [stC]
theorem stC_t {a b x : Int} {S : List (List Int)} {m : Nat} (hm : m < S.length) (h : alB a b x (S.getD m []) = true) : stC a b x S (m + 1) = stC a b x S m ++ [S.getD m [] ++ [x]] := by
  rw [List.getD_eq_getElem?_getD, List.getElem?_eq_getElem hm] at h ⊢
  unfold stC
  rw [List.take_succ_eq_append_getElem hm, List.filter_append, List.map_append, ← List.append_assoc]
  have h' : alB a b x S[m] = true := h
  simp [h']
theorem stC_f {a b x : Int} {S : List (List Int)} {m : Nat} (hm : m < S.length) (h : alB a b x (S.getD m []) = false) : stC a b x S (m + 1) = stC a b x S m := by
  rw [List.getD_eq_getElem?_getD, List.getElem?_eq_getElem hm] at h
  unfold stC
  have h' : alB a b x S[m] = false := h
  rw [List.take_succ_eq_append_getElem hm, List.filter_append, List.map_append]
  simp [h']
theorem stC_len (a b x : Int) (S : List (List Int)) (m : Nat) : (stC a b x S m).length ≤ S.length + m := by
  unfold stC
  rw [List.length_append, List.length_map]
  have h1 := List.length_filter_le (alB a b x) (S.take m)
  rw [List.length_take] at h1
  omega
def coK (a b : Int) (gs : List Int) (k : Nat) : List (List Int) := (gs.take k).foldl (fun S x => stC a b x S S.length) [[]]
theorem coK_succ {a b : Int} {gs : List Int} {k : Nat} (hk : k < gs.length) : coK a b gs (k + 1) = stC a b (gs.getD k 0) (coK a b gs k) (coK a b gs k).length := by
  unfold coK
  rw [List.take_succ_eq_append_getElem hk, List.foldl_append, List.getD_eq_getElem?_getD, List.getElem?_eq_getElem hk]
  rfl
def coL (a b : Int) : List (List Int) := coK a b (gapsL a b) (gapsL a b).length
def coChk (a b : Int) : Bool := (List.range 11).all fun k => (decide ((coK a b (gapsL a b) k).length ≤ 100) && decide (0 < (coK a b (gapsL a b) k).length)) && (coK a b (gapsL a b) k).all fun r => decide (r.length ≤ 20)
theorem coChk_t {a b : Int} (hs : sz a b = true) : coChk a b = true := sz_nat (p := fun a b => coChk a b = true) (by decide +kernel) hs
theorem gaps10 {a b : Int} (hs : sz a b = true) : (gapsL a b).length ≤ 10 := sz_nat (p := fun a b => (gapsL a b).length ≤ 10) (by decide +kernel) hs
theorem co_bd {a b : Int} (hs : sz a b = true) {k : Nat} (hk : k ≤ 10) : ((coK a b (gapsL a b) k).length ≤ 100 ∧ 0 < (coK a b (gapsL a b) k).length) ∧ ∀ m, m < (coK a b (gapsL a b) k).length → ((coK a b (gapsL a b) k).getD m []).length ≤ 20 := by
  have h := List.all_eq_true.1 (coChk_t hs) k (List.mem_range.2 (by omega))
  simp only [Bool.and_eq_true, decide_eq_true_eq, List.all_eq_true] at h
  refine ⟨h.1, fun m hm => h.2 _ ?_⟩
  rw [List.getD_eq_getElem?_getD, List.getElem?_eq_getElem hm]; exact List.getElem_mem hm

theorem cos_one (w : World) (a b : Int) : Cos (w.alloc (.cells #[.slice none 0 0, .int .i64 a, .int .i64 b] 35)) w.heap.size (.slice (some ⟨w.heap.size, 0, none⟩) 1 1) a b [[]] (fun _ => none) (fun _ => 0) := by
  refine ⟨⟨rfl, .inr ⟨w.heap.size, 1, _, rfl, Nat.le_refl _, World.alloc_heap_new w _, Nat.le_refl _, by decide, rfl, rfl⟩⟩, fun j hj => ?_⟩
  obtain rfl : j = 0 := by simp at hj; exact hj
  exact own_nil _ _
theorem cos_form {w : World} {B : Nat} {v : Value} {a b : Int} {rows : List (List Int)} {P : Nat → Option Addr} {C : Nat → Nat} (h : Cos w B v a b rows P C) (h0 : 0 < rows.length) : ∃ g c, v = .slice (some ⟨g, 0, none⟩) rows.length c := by
  rcases h.out.2 with ⟨-, h1⟩ | ⟨g, cap, cur, hv, -⟩
  · omega
  · exact ⟨g, cap, hv⟩

theorem cos_more {w : World} {B B' : Nat} {v : Value} {a b : Int} {rows : List (List Int)} {P : Nat → Option Addr} {C : Nat → Nat} (h : Cos w B v a b rows P C) (hB : B' ≤ B) : Cos w B' v a b rows P C := by
  refine ⟨⟨h.out.1, ?_⟩, fun j hj => (h.row j hj).more hB⟩
  rcases h.out.2 with hn | ⟨g, cap, cur, hv, hb, rest⟩
  · exact .inl hn
  · exact .inr ⟨g, cap, cur, hv, Nat.le_trans hB hb, rest⟩

theorem three_at {w : World} {t : TypeId} {x y z : Value} : ∀ j u, [x, y, z][j]? = some u → (w.alloc (.cells #[x, y, z] t)).cell? ((⟨w.heap.size, 0, none⟩ : Addr).add j) = some u := by
  intro j u hj
  have h := Box3.new w t x y z
  rw [add_at]
  match j, hj with
  | 0, hj => exact h.cell0.trans hj
  | 1, hj => exact h.cell1.trans hj
  | 2, hj => exact h.cell2.trans hj
theorem three_cell (A : Option Addr) (n c : Nat) (a b : Int) : ∀ u ∈ [Value.slice A n c, .int .i64 a, .int .i64 b], u.oneCell' = true := by
  intro u hu
  simp only [List.mem_cons, List.not_mem_nil, or_false] at hu
  rcases hu with rfl | rfl | rfl <;> rfl

set_option maxRecDepth 100000 in
set_option maxHeartbeats 4000000 in
theorem cores_any (a b : Int) (w : World) (hs : sz a b = true) :
    Calls Tryz.prog 43 #[.agg #[.int .i64 a, .int .i64 b]] w fun e w' => ∃ v P C, e = .returned v ∧ Cos w' w.heap.size v a b (coL a b) P C ∧ Below w.heap.size w w' := by
  obtain ⟨i0, hi, hz0, hz1, hz2⟩ := info_parts Tryz.infoCore
  obtain ⟨ha, hb, -⟩ := sz_iff.1 hs
  obtain ⟨p1, p2⟩ := ab49 ha hb
  have HG := hid fun W => gaps_any a b W ha hb
  have HBD := hid fun k (hk : k ≤ 10) => co_bd hs hk
  have hg10 := gaps10 hs
  have HKS := hid fun k (hk : k < (gapsL a b).length) => coK_succ (a := a) (b := b) hk
  have HGB := hid fun k (hk : k < (gapsL a b).length) => (show 1 ≤ (gapsL a b).getD k 0 ∧ (gapsL a b).getD k 0 ≤ 60 from by
    have hm : (gapsL a b).getD k 0 ∈ gapsL a b := by rw [List.getD_eq_getElem?_getD, List.getElem?_eq_getElem hk]; exact List.getElem_mem hk
    have h1 := mem_gapsL.1 hm
    omega)
  have HRES := hid (show coL a b = coK a b (gapsL a b) (gapsL a b).length from rfl)
  obtain ⟨RES, hRES⟩ : ∃ RES, RES = coL a b := ⟨_, rfl⟩
  rw [← hRES] at HRES ⊢
  obtain ⟨G, hGG⟩ : ∃ G, G = gapsL a b := ⟨_, rfl⟩
  rw [← hGG] at HG HBD hg10 HKS HGB HRES
  have b1 : Below w.heap.size w (w.alloc (.cells #[.int .i64 a, .int .i64 b] 33)) := (Below.refl _ _).alloc (Nat.le_refl _) _
  have X := hid (Box2.new w 33 (.int .i64 a) (.int .i64 b))
  obtain ⟨w1, hw1⟩ : ∃ w1, w1 = w.alloc (.cells #[.int .i64 a, .int .i64 b] 33) := ⟨_, rfl⟩
  have hs1 : w.heap.size < w1.heap.size := by rw [hw1]; simp
  have HW := hid hw1
  rw [← hw1] at b1 X
  have K1 := hid (cos_one w1 a b)
  have b2 : Below w1.heap.size w1 (w1.alloc (.cells #[.slice none 0 0, .int .i64 a, .int .i64 b] 35)) := (Below.refl _ _).alloc (Nat.le_refl _) _
  have Y := hid (X.out.alloc (.cells #[.slice none 0 0, .int .i64 a, .int .i64 b] 35))
  have y0 := Y.out.cell0
  have y1 := Y.out.cell1
  have x0 := X.out.cell0
  have x1 := X.out.cell1
  clear hw1 hRES hGG hs
  go_enter Tryz.func43, Tryz.ntmps43
  go_upto_region 1 with fail
  rw [← HW.out]
  go_wp2_with (go_at_call 60; refine (HG.out _).mono ?_; rintro e w3 ⟨Ag, cg, rfl, o3, b3⟩)
  have K3 := hid (K1.out.below b3)
  have B3 := Below.next b2 b3
  have O3 := hid (o3.more (show w1.heap.size ≤ _ by simp))
  clear x0 x1 y0 y1 K1 Y b2 b3 o3
  have HK0 := hid (show coK a b G 0 = [[]] from rfl)
  go_loopw [3, 5, 7, 14] (fun v _ _ i wr => ∃ k : Nat, k ≤ G.length ∧ i = .int .i64 k ∧ (∃ P C, Hid (Cos wr w1.heap.size v a b (coK a b G k) P C)) ∧ Hid (Own wr w1.heap.size Ag cg G) ∧ Below w1.heap.size w1 wr) (fun _ _ _ i _ => G.length - (intOf i).toNat)
  case atStart => exact ⟨0, Nat.zero_le _, rfl, ⟨_, _, by rw [HK0.out]; exact K3⟩, O3, B3⟩
  case round =>
    obtain ⟨k, hk, rfl, ⟨P0, C0, HC⟩, HO, hbel⟩ := hrel
    obtain ⟨⟨hl1, hl0⟩, hrw⟩ := HBD.out k (by omega)
    have HNX := hid (HKS.out k)
    obtain ⟨S, hS⟩ : ∃ S, S = coK a b G k := ⟨_, rfl⟩
    rw [← hS] at HC hl1 hl0 hrw HNX
    obtain ⟨g0, c0, rfl⟩ := cos_form HC.out hl0
    by_cases hlt : k < G.length
    · obtain ⟨gb, go, hAe, hcc⟩ := HO.out.cells (by omega)
      have hck := hcc k hlt
      have HRB := hid hrw
      have hgb := HGB.out k hlt
      have HNX2 := hid (HNX.out hlt)
      obtain ⟨x, hx⟩ : ∃ x, x = G.getD k 0 := ⟨_, rfl⟩
      rw [← hx] at hck hgb HNX2
      subst hAe
      have HS0 := hid (stC_zero a b x S)
      have HST := hid fun m (hm : m < S.length) => stC_t (a := a) (b := b) (x := x) hm
      have HSF := hid fun m (hm : m < S.length) => stC_f (a := a) (b := b) (x := x) hm
      have HSL := hid (stC_len a b x S)
      have HI0 : Hid (Inn w1 wr w1.heap.size (.slice (some ⟨g0, 0, none⟩) S.length c0) a b S P0 C0 g0 (some ⟨gb, go, none⟩) cg G S P0 C0) := hid ⟨HC.out, Snap.of HC.out.out, fun _ => ⟨[], by simp⟩, HC.out.row, HO.out, hbel, Nat.le_refl _⟩
      clear hcc hx hrw HNX HC HO hS
      go_wp2_with fail
      go_loopw [3, 7, 20] (fun v _ i wr => ∃ m : Nat, m ≤ S.length ∧ i = .int .i64 m ∧ ∃ P C, Hid (Inn w1 wr w1.heap.size v a b S P0 C0 g0 (some ⟨gb, go, none⟩) cg G (stC a b x S m) P C)) (fun _ _ i _ => S.length - (intOf i).toNat)
      case atStart => exact ⟨0, Nat.zero_le _, rfl, P0, C0, by rw [HS0.out]; exact HI0⟩
      case round =>
        obtain ⟨m, hm, rfl, P, C, HI⟩ := hrel
        by_cases hml : m < S.length
        · have d0 := HI.out.snap.2 (m * 3) _ (CB_at (t := 0) hml (by omega))
          have d1 := HI.out.snap.2 (m * 3 + 1) _ (CB_at (t := 1) hml (by omega))
          have d2 := HI.out.snap.2 (m * 3 + 2) _ (CB_at (t := 2) hml (by omega))
          have hrl := HRB.out m hml
          have HOM := hid (HI.out.old m hml)
          have hsl := HSL.out m
          have HT1 := hid (HST.out m hml)
          have HF1 := hid (HSF.out m hml)
          obtain ⟨r, hr⟩ : ∃ r, r = S.getD m [] := ⟨_, rfl⟩
          obtain ⟨Am, hAm⟩ : ∃ Am, Am = P0 m := ⟨_, rfl⟩
          obtain ⟨cm, hcm⟩ : ∃ cm, cm = C0 m := ⟨_, rfl⟩
          obtain ⟨R, hR⟩ : ∃ R, R = stC a b x S m := ⟨_, rfl⟩
          rw [← hr] at d0 hrl HOM HT1 HF1
          rw [← hAm] at d0 HOM
          rw [← hcm] at d0 HOM
          rw [← hR] at HI hsl HT1 HF1
          clear hr hAm hcm hR
          have bz : Below wr.heap.size wr (wr.alloc (.cells #[.slice Am r.length cm, .int .i64 a, .int .i64 b] 35)) := (Below.refl _ _).alloc (Nat.le_refl _) _
          have Z := hid (Box3.new wr 35 (.slice Am r.length cm) (.int .i64 a) (.int .i64 b))
          have HIA := hid (HI.out.below bz)
          have HOA := hid (HOM.out.below bz)
          have z0 := Z.out.cell0
          have z1 := Z.out.cell1
          have z2 := Z.out.cell2
          have hr20 : r.length ≤ 1048576 := by omega
          have hsz := HI.out.bel.size
          cases ht : alB a b x r
          · have HAL := hid fun W (h : Cells W Am r) => allows_b Am cm a b x r W ha hb (by omega) hr20 h _ ht
            have HFE := hid (HF1.out ht)
            clear ht HF1 HT1 HOM
            go_wp2_with (go_at_call 62; refine (HAL.out _ HOA.out.cells).mono ?_; rintro e w4 ⟨rfl, b4⟩)
            go_roundw
            case rel => exact ⟨m + 1, by omega, by go_num, P, C, by rw [HFE.out]; exact hid (HIA.out.below b4)⟩
            case measure => simp [intOf]; omega
          · have HAL := hid fun W (h : Cells W Am r) => allows_b Am cm a b x r W ha hb (by omega) hr20 h _ ht
            have HTE := hid (HT1.out ht)
            obtain ⟨q, hq⟩ : ∃ q, q = r ++ [x] := ⟨_, rfl⟩
            have HQL := hid (show q.length = r.length + 1 by rw [hq]; simp)
            have HWI := hid fun W (h : Own W w1.heap.size Am cm r) => with_any Am cm a b x r W (by omega) h
            rw [← hq] at HTE HWI
            clear ht HF1 HT1 HOM hq
            go_wp2_with (first | (go_at_call 62; refine (HAL.out _ HOA.out.cells).mono ?_; rintro e w4 ⟨rfl, b4⟩; have HI4 := hid (HIA.out.below b4); have HO4 := hid (HOA.out.below b4); have Z4 := Z.out.next b4; have u0 := Z4.cell0; have u1 := Z4.cell1; have u2 := Z4.cell2) | (go_at_call 66; refine (HWI.out _ HO4.out).mono ?_; rintro e w5 ⟨A5, c5, rfl, o5, b5⟩; have HI5 := hid (HI4.out.below b5); have hs5 := HI5.out.bel.size) | (at_builtin; refine wpList_append_keep _ rfl _ _ 58 rfl w1.heap.size 35 i0 (.agg #[.slice none 0 0, .int .i64 0, .int .i64 0]) 3 40 Tryz.underlying58 hi hz0 hz1 hz2 rfl (by decide) _ _ _ rfl (HI5.out.cos.out.alloc _) ⟨w5.heap.size, 0, none⟩ 1 1 [.slice A5 (r.length + 1) c5, .int .i64 a, .int .i64 b] rfl rfl three_at (three_cell _ _ _ _ _) (by unfold maxLen; omega) (by omega) (by simp; omega) ?_))
            intro v' w6 ho6 hg6 hd6
            have HI6 := hid (HI4.out.push b5 o5 HI4.out.bel.size (by rw [HQL.out]; exact ho6) hg6 (hd6.imp id fun h => ⟨h.1, fun k hk => by have := h.2 k hk; simp; omega⟩))
            clear ho6 hg6 hd6
            go_wp2_with fail
            go_roundw
            case rel => exact ⟨m + 1, by omega, by go_num, _, _, by rw [HTE.out]; exact HI6⟩
            case measure => simp [intOf]; omega
        · have HE := hid (show m = S.length by omega)
          go_wp2_with fail
          go_roundw
          case rel => exact ⟨k + 1, by omega, by go_num, ⟨P, C, by rw [HNX2.out, ← HE.out]; exact hid HI.out.cos⟩, hid HI.out.gap, HI.out.bel⟩
          case measure => simp [intOf]; omega
    · have HE := hid (show k = G.length by omega)
      go_wp2_with fail
      go_ret
      exact ⟨_, P0, C0, rfl, by rw [HRES.out, ← HE.out, ← hS]; exact cos_more HC.out (by omega), Below.next b1 hbel⟩
end Go.Proofs.YtijfefahogcfmaaGreat
/-
  The library's sort of rows by an order of partitions.
-/
namespace Go.Proofs.YtijfefahogcfmaaGreat
open Go.RowKit Go.Shelf Go.Sort

theorem sw_block {α : Type} [Inhabited α] (enc : α → Value) (w : World) (g m : Nat) (d : Array α) (os : Array Obj) (b : Nat) (hb : b ≠ g) (hlt : b < w.heap.size) : (sortWorld enc w g 0 m d os).heap[b]? = w.heap[b]? := by
  unfold sortWorld
  rw [heap_grow_old _ _ (by rw [size_putRow]; exact hlt)]
  simp [putRow, mapBlock, Sort.ahead, Array.getElem?_modify, show ¬ g = b from fun e => hb e.symm]
theorem getD_range_perm {ys : List Nat} {n : Nat} (h : ys.Perm (List.range n)) (j : Nat) (hj : j < n) : ys.getD j 0 < n := by
  have hl : ys.length = n := by rw [h.length_eq, List.length_range]
  have hm : ys.getD j 0 ∈ ys := by rw [List.getD_eq_getElem?_getD, List.getElem?_eq_getElem (by omega)]; exact List.getElem_mem _
  exact List.mem_range.1 (h.mem_iff.1 hm)
theorem getD_range_inj {ys : List Nat} {n : Nat} (h : ys.Perm (List.range n)) (i j : Nat) (hij : i < j) (hj : j < n) : ys.getD i 0 ≠ ys.getD j 0 := by
  have hl : ys.length = n := by rw [h.length_eq, List.length_range]
  have hn : ys.Nodup := h.nodup_iff.2 List.nodup_range
  rw [List.getD_eq_getElem?_getD, List.getElem?_eq_getElem (by omega), List.getD_eq_getElem?_getD, List.getElem?_eq_getElem (by omega)]
  intro e
  have := (List.getElem_inj hn).1 e
  omega
theorem map_range_getD (rows : List (List Int)) : (List.range rows.length).map (fun i => rows.getD i []) = rows := by
  apply List.ext_getElem?
  intro j
  rw [List.getElem?_map]
  by_cases h : j < rows.length
  · rw [List.getElem?_range h, List.getElem?_eq_getElem h, Option.map_some, List.getD_eq_getElem?_getD, List.getElem?_eq_getElem h]; rfl
  · rw [List.getElem?_eq_none (by simp; omega), List.getElem?_eq_none (by omega)]; rfl

theorem swo_on {α β : Type} {cf : α → α → Int} (h : SWO (ltOf cf)) (f : β → α) : SWO (ltOf fun i j => cf (f i) (f j)) :=
  ⟨fun x => h.irrefl (f x), fun x y z h1 h2 => h.trans (f x) (f y) (f z) h1 h2, fun x y z h1 h2 => h.ntrans (f x) (f y) (f z) h1 h2⟩

theorem sortRows_any {ρ : Ren} (L : SlLaysF.n6 Tryz.prog ρ) (gf : Nat) (eg : ∀ args w, (callFunc gf args).run Tryz.prog w = .ok (.enter gf args) w) (cf : List Int → List Int → Int) (hO : SWO (ltOf cf))
    (hcmp : ∀ W A B c d xs ys, good xs = true → good ys = true → Cells W A xs → Cells W B ys → Calls Tryz.prog gf #[.slice A xs.length c, .slice B ys.length d] W fun e w' => e = .returned (.int .i64 (cf xs ys)) ∧ ∃ q os, w' = grow (W.drewN q) os)
    (w : World) (B g c : Nat) (rows : List (List Int)) (P : Nat → Option Addr) (C : Nat → Nat) (hgood : ∀ r ∈ rows, good r = true) (hlen : rows.length < 1000000) (hp : Push w B (.slice (some ⟨g, 0, none⟩) rows.length c) rows P C) :
    Calls Tryz.prog (ρ.f 6) #[.slice (some ⟨g, 0, none⟩) rows.length c, .func (.func gf) #[] #[]] w fun e w' => e = .returned (.tuple #[]) ∧ ∃ rows' P' C', rows'.Perm rows ∧ (∀ i j, i < j → j < rows.length → ltOf cf (rows'.getD j []) (rows'.getD i []) = false) ∧
      Push w' B (.slice (some ⟨g, 0, none⟩) rows.length c) rows' P' C' ∧ B ≤ g ∧ ∀ B0 w0, B0 ≤ g → Below B0 w0 w → Below B0 w0 w' := by
  obtain ⟨n, hn⟩ : ∃ n, n = rows.length := ⟨_, rfl⟩
  obtain ⟨enc, henc⟩ : ∃ enc : Nat → Value, enc = fun j => .slice (P j) (rows.getD j []).length (C j) := ⟨_, rfl⟩
  have hout : w.ownsRow B 22 1 (.slice (some ⟨g, 0, none⟩) n c) n ((List.range n).map enc) := by
    have h := hp.out
    rw [hn, henc]; exact h
  obtain ⟨g', cap', hv, hBg, hgw, hnc, hcm, -, hH⟩ := Lib.holds_of_ownsRow hout (fun e => by injection e with h1; cases h1)
  injection hv with h1 h2 h3
  injection h1 with h1
  injection h1 with h1
  subst h1; subst h3
  have hcells : ∀ W : World, (∀ b, b ≠ g → b < w.heap.size → W.heap[b]? = w.heap[b]?) → ∀ x, Cells W (P x) (rows.getD x []) := by
    intro W hW x
    by_cases hx : x < rows.length
    · have ho := hp.row x hx
      exact (ho.keep fun b hb hlt => hW b (fun e => by
        have := row_ne' hp.out ho b hb
        rw [e] at this
        exact this rfl) hlt).cells
    · rw [List.getD_eq_getElem?_getD, List.getElem?_eq_none (by omega)]; exact Cells.nil _ _
  have hgd : ∀ x, good (rows.getD x []) = true := by
    intro x
    by_cases hx : x < rows.length
    · exact hgood _ (by rw [List.getD_eq_getElem?_getD, List.getElem?_eq_getElem hx]; exact List.getElem_mem hx)
    · rw [List.getD_eq_getElem?_getD, List.getElem?_eq_none (by omega)]; rfl
  have hs : (List.range n).toArray.size = n := by simp
  have hlays : CmpLays1 Tryz.prog gf #[] enc (fun i j => cf (rows.getD i []) (rows.getD j [])) g 0 (List.range n).toArray.size w := by
    intro m os dk _ x y
    have h := hcmp (sortWorld enc w g 0 m dk os) (P x) (P y) (C x) (C y) (rows.getD x []) (rows.getD y []) (hgd x) (hgd y) (hcells _ (fun b h1 h2 => sw_block enc w g m dk os b h1 h2) x) (hcells _ (fun b h1 h2 => sw_block enc w g m dk os b h1 h2) y)
    rw [henc]
    rw [henc] at h
    exact h
  have hone : OneCell enc := by rw [henc]; exact fun _ => rfl
  have hcall := Any.slices_SortFunc L enc hone (fun i j => cf (rows.getD i []) (rows.getD j [])) (swo_on hO fun i => rows.getD i []) gf #[] g 0 c (List.range n).toArray w eg hlays hH hgw (by rw [hs]; omega)
  rw [hs] at hcall
  rw [← hn]
  refine hcall.mono ?_
  rintro e w' ⟨rfl, d', m, os, ⟨hds, -, hperm⟩, hsort, rfl⟩
  have hd'n : d'.size = n := by rw [hds, hs]
  have hys : d'.toList.Perm (List.range n) := by
    have e1 : (d'.extract 0 n) = d' := by rw [← hd'n]; exact Array.extract_size
    have e2 : ((List.range n).toArray.extract 0 n) = (List.range n).toArray := by
      have := Array.extract_size (xs := (List.range n).toArray)
      rw [hs] at this; exact this
    rw [e1, e2] at hperm
    exact hperm
  obtain ⟨ys, hyse⟩ : ∃ ys, ys = d'.toList := ⟨_, rfl⟩
  rw [← hyse] at hys
  have hyl : ys.length = n := by rw [hys.length_eq, List.length_range]
  have hda : d' = ys.toArray := by rw [hyse]
  have hget : ∀ j, j < n → d'[j]! = ys.getD j 0 := by
    intro j hj
    rw [hda, List.getD_eq_getElem?_getD, List.getElem?_eq_getElem (by omega)]
    simp [getElem!_pos, hyl, hj]
  have hblk : ∀ b, b ≠ g → b < w.heap.size → (sortWorld enc w g 0 m d' os).heap[b]? = w.heap[b]? := fun b h1 h2 => sw_block enc w g m d' os b h1 h2
  have hlt := getD_range_perm hys
  have hinj := getD_range_inj hys
  have hr' : ∀ j, j < n → (ys.map fun i => rows.getD i []).getD j [] = rows.getD (ys.getD j 0) [] := by
    intro j hj
    rw [List.getD_eq_getElem?_getD, List.getElem?_map, List.getElem?_eq_getElem (by omega), List.getD_eq_getElem?_getD (l := ys), List.getElem?_eq_getElem (by omega)]; rfl
  refine ⟨rfl, ys.map fun i => rows.getD i [], fun j => P (ys.getD j 0), fun j => C (ys.getD j 0), ?_, ?_, ⟨?_, ?_, ?_⟩, hBg, ?_⟩
  · have := hys.map fun i => rows.getD i []
    rw [hn, map_range_getD] at this
    exact this
  · intro i j hij hj
    have h := hsort i j (Nat.zero_le _) hij (by omega)
    rw [hget j (by omega), hget i (by omega)] at h
    rw [hr' j (by omega), hr' i (by omega)]
    exact h
  · have e1 : RL (fun j => P (ys.getD j 0)) (fun j => C (ys.getD j 0)) (ys.map fun i => rows.getD i []) = ys.map enc := by
      apply List.ext_getElem?
      intro j
      by_cases hj : j < n
      · rw [RL_get _ _ _ _ (by rw [List.length_map]; omega), hr' j hj, List.getElem?_map, List.getElem?_eq_getElem (by omega), henc]
        rw [List.getD_eq_getElem?_getD (l := ys), List.getElem?_eq_getElem (by omega)]; rfl
      · rw [List.getElem?_eq_none (by rw [RL_len, List.length_map]; omega), List.getElem?_eq_none (by rw [List.length_map]; omega)]
    rw [e1, List.length_map, hyl]
    have h2 := Lib.ownsRow_putRow (q := m) (k := n) hout hyl (Nat.le_refl _)
    rw [List.take_of_length_le (by omega), ← hda] at h2
    exact ownsRow_keep h2 fun b _ hb => by unfold sortWorld; exact heap_grow_old _ _ hb
  · intro j hj
    rw [List.length_map, hyl] at hj
    have ho := hp.row (ys.getD j 0) (by rw [← hn]; exact hlt j hj)
    rw [hr' j hj]
    exact ho.keep fun b hb hl => hblk b (fun e => by
      have := row_ne' hp.out ho b hb
      rw [e] at this
      exact this rfl) hl
  · intro i j hij hj b hb he
    rw [List.length_map, hyl] at hj
    have h1 := hlt i (by omega)
    have h2 := hlt j hj
    rcases Nat.lt_or_gt_of_ne (hinj i j hij hj) with h | h
    · exact hp.apart _ _ h (by rw [← hn]; exact h2) b hb he
    · exact hp.apart _ _ h (by rw [← hn]; exact h1) b he hb
  · intro B0 w0 hB0 hbel
    have h3 := Lib.below_putRow (enc := enc) (q := m) (d := d') hbel hB0
    refine ⟨h3.os, h3.tape, h3.output, ?_, fun k hk => ?_⟩
    · unfold sortWorld; rw [size_grow]; have := h3.size; omega
    · unfold sortWorld
      by_cases hks : k < (putRow enc (Sort.ahead w m) g 0 d').heap.size
      · rw [heap_grow_old _ _ hks]; exact h3.block k hk
      · rw [size_putRow] at hks
        exact absurd (show k < w.heap.size by have := hbel.size; omega) hks
end Go.Proofs.YtijfefahogcfmaaGreat
