/-
  Contract: cores of the program.
-/
import Derived.Test.YtnjhjdidohdkmaaCores
import Derived.Test.YtnjhjdidohdkmaaGrt
namespace Go.Proofs.Ytnjhjdidohdkmaa
open Go.RowKit

theorem Try.infoCore : (Try.prog.info? 44).map (fun i => (i.zero, i.size, i.bytes)) = some (some (.agg #[.slice none 0 0, .int .i64 0, .int .i64 0]), 3, 40) := by kernel_rfl

def alB (a b x : Int) (H : List Int) : Bool := hbB H x a && hbB H x b
def stC (a b x : Int) (S : List (List Int)) (m : Nat) : List (List Int) := S ++ ((S.take m).filter (alB a b x)).map (· ++ [x])
theorem stC_zero (a b x : Int) (S : List (List Int)) : stC a b x S 0 = S := by simp [stC]
theorem stC_t {a b x : Int} {S : List (List Int)} {m : Nat} (hm : m < S.length) (h : alB a b x (S.getD m []) = true) : stC a b x S (m + 1) = stC a b x S m ++ [S.getD m [] ++ [x]] := by
  rw [List.getD_eq_getElem?_getD, List.getElem?_eq_getElem hm] at h ⊢
  unfold stC
  rw [List.take_succ_eq_append_getElem hm, List.filter_append, List.map_append, ← List.append_assoc]
  have h' : alB a b x S[m] = true := h
  simp [h']
theorem stC_f {a b x : Int} {S : List (List Int)} {m : Nat} (hm : m < S.length) (h : alB a b x (S.getD m []) = false) : stC a b x S (m + 1) = stC a b x S m := by
  rw [List.getD_eq_getElem?_getD, List.getElem?_eq_getElem hm] at h
  unfold stC
  have h' : alB a b x S[m] = false := h
  rw [List.take_succ_eq_append_getElem hm, List.filter_append, List.map_append]
  simp [h']
theorem stC_len (a b x : Int) (S : List (List Int)) (m : Nat) : (stC a b x S m).length ≤ S.length + m := by
  unfold stC
  rw [List.length_append, List.length_map]
  have h1 := List.length_filter_le (alB a b x) (S.take m)
  rw [List.length_take] at h1
  omega
def coK (a b : Int) (gs : List Int) (k : Nat) : List (List Int) := (gs.take k).foldl (fun S x => stC a b x S S.length) [[]]
theorem coK_succ {a b : Int} {gs : List Int} {k : Nat} (hk : k < gs.length) : coK a b gs (k + 1) = stC a b (gs.getD k 0) (coK a b gs k) (coK a b gs k).length := by
  unfold coK
  rw [List.take_succ_eq_append_getElem hk, List.foldl_append, List.getD_eq_getElem?_getD, List.getElem?_eq_getElem hk]
  rfl
def coL (a b : Int) : List (List Int) := coK a b (gapsL a b) (gapsL a b).length
def coChk (a b : Int) : Bool := (List.range 11).all fun k => (decide ((coK a b (gapsL a b) k).length ≤ 100) && decide (0 < (coK a b (gapsL a b) k).length)) && (coK a b (gapsL a b) k).all fun r => decide (r.length ≤ 20)
theorem coChk_t {a b : Int} (hs : sz a b = true) : coChk a b = true := sz_nat (p := fun a b => coChk a b = true) (by decide +kernel) hs
theorem gaps10 {a b : Int} (hs : sz a b = true) : (gapsL a b).length ≤ 10 := sz_nat (p := fun a b => (gapsL a b).length ≤ 10) (by decide +kernel) hs
theorem co_bd {a b : Int} (hs : sz a b = true) {k : Nat} (hk : k ≤ 10) : ((coK a b (gapsL a b) k).length ≤ 100 ∧ 0 < (coK a b (gapsL a b) k).length) ∧ ∀ m, m < (coK a b (gapsL a b) k).length → ((coK a b (gapsL a b) k).getD m []).length ≤ 20 := by
  have h := List.all_eq_true.1 (coChk_t hs) k (List.mem_range.2 (by omega))
  simp only [Bool.and_eq_true, decide_eq_true_eq, List.all_eq_true] at h
  refine ⟨h.1, fun m hm => h.2 _ ?_⟩
  rw [List.getD_eq_getElem?_getD, List.getElem?_eq_getElem hm]; exact List.getElem_mem hm

theorem cos_one (w : World) (a b : Int) : Cos (w.alloc (.cells #[.slice none 0 0, .int .i64 a, .int .i64 b] 44)) w.heap.size (.slice (some ⟨w.heap.size, 0, none⟩) 1 1) a b [[]] (fun _ => none) (fun _ => 0) := by
  refine ⟨⟨rfl, .inr ⟨w.heap.size, 1, _, rfl, Nat.le_refl _, World.alloc_heap_new w _, Nat.le_refl _, by decide, rfl, rfl⟩⟩, fun j hj => ?_⟩
  obtain rfl : j = 0 := by simp at hj; exact hj
  exact own_nil _ _
theorem cos_form {w : World} {B : Nat} {v : Value} {a b : Int} {rows : List (List Int)} {P : Nat → Option Addr} {C : Nat → Nat} (h : Cos w B v a b rows P C) (h0 : 0 < rows.length) : ∃ g c, v = .slice (some ⟨g, 0, none⟩) rows.length c := by
  rcases h.out.2 with ⟨-, h1⟩ | ⟨g, cap, cur, hv, -⟩
  · omega
  · exact ⟨g, cap, hv⟩

theorem cos_more {w : World} {B B' : Nat} {v : Value} {a b : Int} {rows : List (List Int)} {P : Nat → Option Addr} {C : Nat → Nat} (h : Cos w B v a b rows P C) (hB : B' ≤ B) : Cos w B' v a b rows P C := by
  refine ⟨⟨h.out.1, ?_⟩, fun j hj => (h.row j hj).more hB⟩
  rcases h.out.2 with hn | ⟨g, cap, cur, hv, hb, rest⟩
  · exact .inl hn
  · exact .inr ⟨g, cap, cur, hv, Nat.le_trans hB hb, rest⟩

theorem three_at {w : World} {t : TypeId} {x y z : Value} : ∀ j u, [x, y, z][j]? = some u → (w.alloc (.cells #[x, y, z] t)).cell? ((⟨w.heap.size, 0, none⟩ : Addr).add j) = some u := by
  intro j u hj
  have h := Box3.new w t x y z
  rw [add_at]
  match j, hj with
  | 0, hj => exact h.cell0.trans hj
  | 1, hj => exact h.cell1.trans hj
  | 2, hj => exact h.cell2.trans hj
theorem three_cell (A : Option Addr) (n c : Nat) (a b : Int) : ∀ u ∈ [Value.slice A n c, .int .i64 a, .int .i64 b], u.oneCell' = true := by
  intro u hu
  simp only [List.mem_cons, List.not_mem_nil, or_false] at hu
  rcases hu with rfl | rfl | rfl <;> rfl

set_option maxRecDepth 100000 in
set_option maxHeartbeats 4000000 in
theorem cores_any (a b : Int) (w : World) (hs : sz a b = true) :
    Calls Try.prog 24 #[.agg #[.int .i64 a, .int .i64 b]] w fun e w' => ∃ v P C, e = .returned v ∧ Cos w' w.heap.size v a b (coL a b) P C ∧ Below w.heap.size w w' := by
  obtain ⟨i0, hi, hz0, hz1, hz2⟩ := info_parts Try.infoCore
  obtain ⟨ha, hb, -⟩ := sz_iff.1 hs
  obtain ⟨p1, p2⟩ := ab49 ha hb
  have HG := hid fun W => gaps_any a b W ha hb
  have HBD := hid fun k (hk : k ≤ 10) => co_bd hs hk
  have hg10 := gaps10 hs
  have HKS := hid fun k (hk : k < (gapsL a b).length) => coK_succ (a := a) (b := b) hk
  have HGB := hid fun k (hk : k < (gapsL a b).length) => (show 1 ≤ (gapsL a b).getD k 0 ∧ (gapsL a b).getD k 0 ≤ 60 from by
    have hm : (gapsL a b).getD k 0 ∈ gapsL a b := by rw [List.getD_eq_getElem?_getD, List.getElem?_eq_getElem hk]; exact List.getElem_mem hk
    have h1 := mem_gapsL.1 hm
    omega)
  have HRES := hid (show coL a b = coK a b (gapsL a b) (gapsL a b).length from rfl)
  obtain ⟨RES, hRES⟩ : ∃ RES, RES = coL a b := ⟨_, rfl⟩
  rw [← hRES] at HRES ⊢
  obtain ⟨G, hGG⟩ : ∃ G, G = gapsL a b := ⟨_, rfl⟩
  rw [← hGG] at HG HBD hg10 HKS HGB HRES
  have b1 : Below w.heap.size w (w.alloc (.cells #[.int .i64 a, .int .i64 b] 40)) := (Below.refl _ _).alloc (Nat.le_refl _) _
  have X := hid (Box2.new w 40 (.int .i64 a) (.int .i64 b))
  obtain ⟨w1, hw1⟩ : ∃ w1, w1 = w.alloc (.cells #[.int .i64 a, .int .i64 b] 40) := ⟨_, rfl⟩
  have hs1 : w.heap.size < w1.heap.size := by rw [hw1]; simp
  have HW := hid hw1
  rw [← hw1] at b1 X
  have K1 := hid (cos_one w1 a b)
  have b2 : Below w1.heap.size w1 (w1.alloc (.cells #[.slice none 0 0, .int .i64 a, .int .i64 b] 44)) := (Below.refl _ _).alloc (Nat.le_refl _) _
  have Y := hid (X.out.alloc (.cells #[.slice none 0 0, .int .i64 a, .int .i64 b] 44))
  have y0 := Y.out.cell0
  have y1 := Y.out.cell1
  have x0 := X.out.cell0
  have x1 := X.out.cell1
  clear hw1 hRES hGG hs
  go_enter Try.func24, Try.ntmps24
  go_upto_region 1 with fail
  rw [← HW.out]
  go_wp2_with (go_at_call 37; refine (HG.out _).mono ?_; rintro e w3 ⟨Ag, cg, rfl, o3, b3⟩)
  have K3 := hid (K1.out.below b3)
  have B3 := Below.next b2 b3
  have O3 := hid (o3.more (show w1.heap.size ≤ _ by simp))
  clear x0 x1 y0 y1 K1 Y b2 b3 o3
  have HK0 := hid (show coK a b G 0 = [[]] from rfl)
  go_loopw [3, 5, 7, 14] (fun v _ _ i wr => ∃ k : Nat, k ≤ G.length ∧ i = .int .i64 k ∧ (∃ P C, Hid (Cos wr w1.heap.size v a b (coK a b G k) P C)) ∧ Hid (Own wr w1.heap.size Ag cg G) ∧ Below w1.heap.size w1 wr) (fun _ _ _ i _ => G.length - (intOf i).toNat)
  case atStart => exact ⟨0, Nat.zero_le _, rfl, ⟨_, _, by rw [HK0.out]; exact K3⟩, O3, B3⟩
  case round =>
    obtain ⟨k, hk, rfl, ⟨P0, C0, HC⟩, HO, hbel⟩ := hrel
    obtain ⟨⟨hl1, hl0⟩, hrw⟩ := HBD.out k (by omega)
    have HNX := hid (HKS.out k)
    obtain ⟨S, hS⟩ : ∃ S, S = coK a b G k := ⟨_, rfl⟩
    rw [← hS] at HC hl1 hl0 hrw HNX
    obtain ⟨g0, c0, rfl⟩ := cos_form HC.out hl0
    by_cases hlt : k < G.length
    · obtain ⟨gb, go, hAe, hcc⟩ := HO.out.cells (by omega)
      have hck := hcc k hlt
      have HRB := hid hrw
      have hgb := HGB.out k hlt
      have HNX2 := hid (HNX.out hlt)
      obtain ⟨x, hx⟩ : ∃ x, x = G.getD k 0 := ⟨_, rfl⟩
      rw [← hx] at hck hgb HNX2
      subst hAe
      have HS0 := hid (stC_zero a b x S)
      have HST := hid fun m (hm : m < S.length) => stC_t (a := a) (b := b) (x := x) hm
      have HSF := hid fun m (hm : m < S.length) => stC_f (a := a) (b := b) (x := x) hm
      have HSL := hid (stC_len a b x S)
      have HI0 : Hid (Inn w1 wr w1.heap.size (.slice (some ⟨g0, 0, none⟩) S.length c0) a b S P0 C0 g0 (some ⟨gb, go, none⟩) cg G S P0 C0) := hid ⟨HC.out, Snap.of HC.out.out, fun _ => ⟨[], by simp⟩, HC.out.row, HO.out, hbel, Nat.le_refl _⟩
      clear hcc hx hrw HNX HC HO hS
      go_wp2_with fail
      go_loopw [3, 7, 20] (fun v _ i wr => ∃ m : Nat, m ≤ S.length ∧ i = .int .i64 m ∧ ∃ P C, Hid (Inn w1 wr w1.heap.size v a b S P0 C0 g0 (some ⟨gb, go, none⟩) cg G (stC a b x S m) P C)) (fun _ _ i _ => S.length - (intOf i).toNat)
      case atStart => exact ⟨0, Nat.zero_le _, rfl, P0, C0, by rw [HS0.out]; exact HI0⟩
      case round =>
        obtain ⟨m, hm, rfl, P, C, HI⟩ := hrel
        by_cases hml : m < S.length
        · have d0 := HI.out.snap.2 (m * 3) _ (CB_at (t := 0) hml (by omega))
          have d1 := HI.out.snap.2 (m * 3 + 1) _ (CB_at (t := 1) hml (by omega))
          have d2 := HI.out.snap.2 (m * 3 + 2) _ (CB_at (t := 2) hml (by omega))
          have hrl := HRB.out m hml
          have HOM := hid (HI.out.old m hml)
          have hsl := HSL.out m
          have HT1 := hid (HST.out m hml)
          have HF1 := hid (HSF.out m hml)
          obtain ⟨r, hr⟩ : ∃ r, r = S.getD m [] := ⟨_, rfl⟩
          obtain ⟨Am, hAm⟩ : ∃ Am, Am = P0 m := ⟨_, rfl⟩
          obtain ⟨cm, hcm⟩ : ∃ cm, cm = C0 m := ⟨_, rfl⟩
          obtain ⟨R, hR⟩ : ∃ R, R = stC a b x S m := ⟨_, rfl⟩
          rw [← hr] at d0 hrl HOM HT1 HF1
          rw [← hAm] at d0 HOM
          rw [← hcm] at d0 HOM
          rw [← hR] at HI hsl HT1 HF1
          clear hr hAm hcm hR
          have bz : Below wr.heap.size wr (wr.alloc (.cells #[.slice Am r.length cm, .int .i64 a, .int .i64 b] 44)) := (Below.refl _ _).alloc (Nat.le_refl _) _
          have Z := hid (Box3.new wr 44 (.slice Am r.length cm) (.int .i64 a) (.int .i64 b))
          have HIA := hid (HI.out.below bz)
          have HOA := hid (HOM.out.below bz)
          have z0 := Z.out.cell0
          have z1 := Z.out.cell1
          have z2 := Z.out.cell2
          have hr20 : r.length ≤ 1048576 := by omega
          have hsz := HI.out.bel.size
          cases ht : alB a b x r
          · have HAL := hid fun W (h : Cells W Am r) => allows_b Am cm a b x r W ha hb (by omega) hr20 h _ ht
            have HFE := hid (HF1.out ht)
            clear ht HF1 HT1 HOM
            go_wp2_with (go_at_call 44; refine (HAL.out _ HOA.out.cells).mono ?_; rintro e w4 ⟨rfl, b4⟩)
            go_roundw
            case rel => exact ⟨m + 1, by omega, by go_num, P, C, by rw [HFE.out]; exact hid (HIA.out.below b4)⟩
            case measure => simp [intOf]; omega
          · have HAL := hid fun W (h : Cells W Am r) => allows_b Am cm a b x r W ha hb (by omega) hr20 h _ ht
            have HTE := hid (HT1.out ht)
            obtain ⟨q, hq⟩ : ∃ q, q = r ++ [x] := ⟨_, rfl⟩
            have HQL := hid (show q.length = r.length + 1 by rw [hq]; simp)
            have HWI := hid fun W (h : Own W w1.heap.size Am cm r) => with_any Am cm a b x r W (by omega) h
            rw [← hq] at HTE HWI
            clear ht HF1 HT1 HOM hq
            go_wp2_with (first | (go_at_call 44; refine (HAL.out _ HOA.out.cells).mono ?_; rintro e w4 ⟨rfl, b4⟩; have HI4 := hid (HIA.out.below b4); have HO4 := hid (HOA.out.below b4); have Z4 := Z.out.next b4; have u0 := Z4.cell0; have u1 := Z4.cell1; have u2 := Z4.cell2) | (go_at_call 45; refine (HWI.out _ HO4.out).mono ?_; rintro e w5 ⟨A5, c5, rfl, o5, b5⟩; have HI5 := hid (HI4.out.below b5); have hs5 := HI5.out.bel.size) | (at_builtin; refine wpList_append_keep _ rfl _ _ 38 rfl w1.heap.size 44 i0 (.agg #[.slice none 0 0, .int .i64 0, .int .i64 0]) 3 40 Try.underlying38 hi hz0 hz1 hz2 rfl (by decide) _ _ _ rfl (HI5.out.cos.out.alloc _) ⟨w5.heap.size, 0, none⟩ 1 1 [.slice A5 (r.length + 1) c5, .int .i64 a, .int .i64 b] rfl rfl three_at (three_cell _ _ _ _ _) (by unfold maxLen; omega) (by omega) (by simp; omega) ?_))
            intro v' w6 ho6 hg6 hd6
            have HI6 := hid (HI4.out.push b5 o5 HI4.out.bel.size (by rw [HQL.out]; exact ho6) hg6 (hd6.imp id fun h => ⟨h.1, fun k hk => by have := h.2 k hk; simp; omega⟩))
            clear ho6 hg6 hd6
            go_wp2_with fail
            go_roundw
            case rel => exact ⟨m + 1, by omega, by go_num, _, _, by rw [HTE.out]; exact HI6⟩
            case measure => simp [intOf]; omega
        · have HE := hid (show m = S.length by omega)
          go_wp2_with fail
          go_roundw
          case rel => exact ⟨k + 1, by omega, by go_num, ⟨P, C, by rw [HNX2.out, ← HE.out]; exact hid HI.out.cos⟩, hid HI.out.gap, HI.out.bel⟩
          case measure => simp [intOf]; omega
    · have HE := hid (show k = G.length by omega)
      go_wp2_with fail
      go_ret
      exact ⟨_, P0, C0, rfl, by rw [HRES.out, ← HE.out, ← hS]; exact cos_more HC.out (by omega), Below.next b1 hbel⟩
end Go.Proofs.Ytnjhjdidohdkmaa
