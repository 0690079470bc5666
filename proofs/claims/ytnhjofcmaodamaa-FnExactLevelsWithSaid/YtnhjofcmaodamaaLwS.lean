/-
  Contracts: chAll, LevelsWith and CountCores of the model.
-/
import Derived.Test.YtnhjofcmaodamaaLwI
import Derived.Test.YtnhjofcmaodamaaOwnCopy
import Derived.Test.YtnhjofcmaodamaaLevF
namespace Go.Proofs.Ytnhjofcmaodamaa
open Go.RowKit

def glue {α : Type} (P : Nat → α) (k : Nat) (P2 : Nat → α) : Nat → α := fun j => if j < k then P j else P2 (j - k)
theorem glue_lt {α : Type} (P : Nat → α) {k j : Nat} (P2 : Nat → α) (h : j < k) : glue P k P2 j = P j := if_pos h
theorem glue_ge {α : Type} (P : Nat → α) (k j : Nat) (P2 : Nat → α) : glue P k P2 (k + j) = P2 j := by
  unfold glue; rw [if_neg (by omega)]; congr 1; omega
theorem getD_app_lt (a b : List (List Int)) {j : Nat} (h : j < a.length) : (a ++ b).getD j [] = a.getD j [] := by
  rw [List.getD_eq_getElem?_getD, List.getElem?_append_left h, ← List.getD_eq_getElem?_getD]
theorem getD_app_ge (a b : List (List Int)) (j : Nat) : (a ++ b).getD (a.length + j) [] = b.getD j [] := by
  rw [List.getD_eq_getElem?_getD, List.getElem?_append_right (by omega), List.getD_eq_getElem?_getD]; congr 2; omega
theorem RL_app (P P2 : Nat → Option Addr) (C C2 : Nat → Nat) (a b : List (List Int)) : RL (glue P a.length P2) (glue C a.length C2) (a ++ b) = RL P C a ++ RL P2 C2 b := by
  unfold RL
  rw [List.length_append, List.range_add, List.map_append, List.map_map]
  congr 1
  · refine List.map_congr_left fun j hj => ?_
    have hj' : j < a.length := List.mem_range.1 hj
    rw [glue_lt P P2 hj', glue_lt C C2 hj', getD_app_lt a b hj']
  · refine List.map_congr_left fun j _ => ?_
    simp only [Function.comp]
    rw [glue_ge, glue_ge, getD_app_ge]
/-- Rows that a call made are appended, all of them. -/
theorem Push.pushAll {w0 w1 w2 : World} {B S : Nat} {v v' : Value} {rows rows2 : List (List Int)} {P P2 : Nat → Option Addr} {C C2 : Nat → Nat} {A : Option Addr} {c : Nat}
    (h : Push w0 B v rows P C) (hb : Below w0.heap.size w0 w1) (H : Own2At w1 w0.heap.size S A c rows2 P2 C2) (hB : B ≤ w0.heap.size)
    (ho : w2.ownsRow B 22 1 v' (rows.length + rows2.length) (RL P C rows ++ RL P2 C2 rows2)) (hg : w1.grownBy w2 v.ownBlock) :
    Push w2 B v' (rows ++ rows2) (glue P rows.length P2) (glue C rows.length C2) := by
  have h1 := h.below hb
  have keep : ∀ {A' : Option Addr} {c' : Nat} {r' : List Int}, Own w1 B A' c' r' → Own w2 B A' c' r' := fun {A' c' r'} hx =>
    hx.keep fun b hbb hlt => hg.block b hlt (fun e => row_ne' h1.out hx b hbb e.symm)
  refine ⟨by rw [RL_app, List.length_append]; exact ho, fun j hj => ?_, fun i j hij hj b hbi => ?_⟩
  · rw [List.length_append] at hj
    by_cases e : j < rows.length
    · rw [glue_lt P P2 e, glue_lt C C2 e, getD_app_lt _ _ e]
      exact keep (h1.row j e)
    · obtain ⟨d, rfl⟩ : ∃ d, j = rows.length + d := ⟨j - rows.length, by omega⟩
      rw [glue_ge, glue_ge, getD_app_ge]
      exact keep ((H.row d (by omega)).more hB)
  · rw [List.length_append] at hj
    by_cases e : j < rows.length
    · rw [glue_lt P P2 (show i < rows.length by omega)] at hbi
      rw [glue_lt P P2 e]
      exact h.apart i j hij e b hbi
    · obtain ⟨d, rfl⟩ : ∃ d, j = rows.length + d := ⟨j - rows.length, by omega⟩
      rw [glue_ge]
      by_cases e2 : i < rows.length
      · rw [glue_lt P P2 e2] at hbi
        intro he
        have := ((H.row d (by omega)).block b he).1
        have := ((h.row i e2).block b hbi).2
        omega
      · obtain ⟨d2, rfl⟩ : ∃ d2, i = rows.length + d2 := ⟨i - rows.length, by omega⟩
        rw [glue_ge] at hbi
        exact H.apart d2 d (by omega) (by omega) b hbi
theorem RL_one (P : Nat → Option Addr) (C : Nat → Nat) (rows : List (List Int)) : ∀ u ∈ RL P C rows, u.oneCell' = true := by
  intro u hu
  obtain ⟨j, _, rfl⟩ := List.mem_map.1 hu
  rfl
theorem own2_none {w : World} {B S c : Nat} {rows : List (List Int)} {P : Nat → Option Addr} {C : Nat → Nat} (h : Own2At w B S none c rows P C) : rows.length = 0 ∧ c = 0 := by
  rcases h.out.2 with ⟨hv, h0⟩ | ⟨g, cap, cur, hv, _⟩
  · injection hv with _ _ h3; exact ⟨h0, h3⟩
  · injection hv with h1; cases h1
theorem own2_news {w : World} {B S c : Nat} {ad : Addr} {rows : List (List Int)} {P : Nat → Option Addr} {C : Nat → Nat} (h : Own2At w B S (some ad) c rows P C) : ∀ k u, (RL P C rows)[k]? = some u → w.cell? (ad.add k) = some u := by
  rcases h.out.2 with ⟨hv, h0⟩ | ⟨g, cap, cur, hv, _⟩
  · injection hv with h1; cases h1
  · injection hv with h1
    cases h1
    intro k u hk
    exact World.ownsRow.cells h.out (g := g) rfl k u hk
theorem own2_one {w : World} {B c : Nat} {A : Option Addr} {V : List Int} (hB : B ≤ w.heap.size) (h : Own w B A c V) :
    Own2 (w.alloc (.cells #[.slice A V.length c] 22)) B (w.alloc (.cells #[.slice A V.length c] 22)).heap.size (some ⟨w.heap.size, 0, none⟩) 1 [V] := by
  have hz : (w.alloc (.cells #[.slice A V.length c] 22)).heap.size = w.heap.size + 1 := by simp
  refine ⟨fun _ => A, fun _ => c, World.ownsRow_lit (base := B) (e := 22) (size := 1) w #[.slice A V.length c] 1 hB (by unfold maxLen; omega) rfl, fun b hb => ?_, fun j hj => ?_, fun j _ b hb => ?_, fun i j hij hj => ?_⟩
  · have : w.heap.size = b := by simpa using hb
    omega
  · have : j = 0 := by simpa using hj
    subst this
    exact h.below ((Below.refl _ _).alloc (Nat.le_refl _) _)
  · have := (h.block b hb).2
    omega
  · simp at hj; omega
def chK (n : Int) (r : Nat) (P : List Int) (K : Nat) : List (List Int) := (lvl 4 K).flatMap fun c => chL n r (P ++ [c])
theorem chK_succ (n : Int) (r : Nat) (P : List Int) (K : Nat) : chK n r P (K + 1) = chK n r P K ++ chL n r (P ++ [(K : Int) - 4]) := by
  unfold chK; rw [lvl_succ, List.flatMap_append]; simp
theorem chK_len {n : Int} (r : Nat) (P : List Int) (K : Nat) (hK : K ≤ 9) : (chK n r P K).length ≤ 9 ^ (r + 1) := by
  have h1 := chL_len (n := n) (r + 1) P
  have e : chL n (r + 1) P = chK n r P 9 := rfl
  rw [e] at h1
  have key : ∀ d, K + d ≤ 9 → (chK n r P K).length ≤ (chK n r P (K + d)).length := fun d => by
    induction d with
    | zero => intro _; exact Nat.le_refl _
    | succ d ih => intro hd; have := ih (by omega); rw [show K + (d + 1) = K + d + 1 by omega, chK_succ, List.length_append]; omega
  have := key (9 - K) (by omega)
  rw [show K + (9 - K) = 9 by omega] at this
  omega
theorem pow9 {r : Nat} (h : r ≤ 6) : 9 ^ r ≤ 1000000 := by
  have : r = 0 ∨ r = 1 ∨ r = 2 ∨ r = 3 ∨ r = 4 ∨ r = 5 ∨ r = 6 := by omega
  rcases this with rfl | rfl | rfl | rfl | rfl | rfl | rfl <;> decide

set_option maxRecDepth 100000 in
set_option maxHeartbeats 4000000 in
theorem chAll_zero {B : Nat} (t : Nat) (n : Int) (A : Option Addr) (c : Nat) (P : List Int) (w : World) (ht : 2 ≤ t ∧ t ≤ 6) (hP : P.length + 1 = t) (hb : ∀ y ∈ P, -10 ≤ y ∧ y ≤ 10) (ho : Own w B A c P) :
    Calls Try.prog 133 #[.slice A P.length c, .int .i64 t, .int .i64 n] w fun e w' => ∃ A' c', e = .returned (.slice A' (chL n 0 P).length c') ∧ Own2 w' w.heap.size w'.heap.size A' c' (chL n 0 P) ∧ Below w.heap.size w w' := by
  obtain ⟨i0, hi, hz0, hz1, hz2⟩ := info_parts Try.infoInt
  rw [chL]
  have hbd : ∀ j, j < P.length → -1000 ≤ P.getD j 0 ∧ P.getD j 0 ≤ 1000 := fun j hj => by
    have := hb (P.getD j 0) (by rw [List.getD_eq_getElem?_getD, List.getElem?_eq_getElem hj]; exact List.getElem_mem hj)
    omega
  have HSU := hid fun W (h : Cells W A P) => ptSum_abs A P c W (by omega) hbd h
  have HOW := hid fun W (h : Own W B A c P) => l1Own_any A c P W (by omega) h
  have hsb : -60 ≤ P.sum ∧ P.sum ≤ 60 := by
    have key : ∀ L : List Int, (∀ y ∈ L, -10 ≤ y ∧ y ≤ 10) → -(10 * (L.length : Int)) ≤ L.sum ∧ L.sum ≤ 10 * L.length := fun L => by
      induction L with
      | nil => intro _; simp
      | cons a l ih =>
        intro h
        have h1 := h a (List.mem_cons_self ..)
        have h2 := ih fun y hy => h y (List.mem_cons_of_mem _ hy)
        rw [List.sum_cons, List.length_cons]; omega
    have := key P hb
    omega
  obtain ⟨S, hS⟩ : ∃ S, S = P.sum := ⟨_, rfl⟩
  rw [← hS] at HSU hsb ⊢
  obtain ⟨V, hV⟩ : ∃ V, V = P ++ [-S] := ⟨_, rfl⟩
  have hVl : V.length = t := by rw [hV]; simp; omega
  have HIL := hid (show IL V = IL P ++ [.int .i64 (-S)] by rw [hV, IL_app]; rfl)
  have HGO := hid fun A' c' W (h : Cells W A' V) b (hb : levB V = b) => chGood_b A' c' V W (by omega) h b hb
  have HSZ := hid fun A' c' W (h : Cells W A' V) (hb : levB V = true) => chSize_any A' c' V W (levB_iff.1 hb) h
  have HVL := hid (show P.length + 1 = V.length by omega)
  have HO := hid ho
  have HC := hid ho.cells
  have heq : (P.length : Int) = (t : Int) - 1 := by omega
  have hPb : P.length ≤ 6 := by omega
  rw [← hV]
  clear hS hV hbd hb ho hVl hP
  have walk : ∀ (b g : Bool), levB V = b → (b = true → decide (sizeL V = n) = g) → Calls Try.prog 133 #[.slice A P.length c, .int .i64 t, .int .i64 n] w fun e w' => ∃ A' c', e = .returned (.slice A' (if (b && g) = true then [V] else []).length c') ∧ Own2 w' w.heap.size w'.heap.size A' c' (if (b && g) = true then [V] else []) ∧ Below w.heap.size w w' := by
    intro b g hb hg
    have HB := hid hb
    have HG := hid hg
    clear hb hg
    go_enter Try.func133, Try.ntmps133
    go_wp2_with fail
    refine (HOW.out _ HO.out).mono ?_
    rintro e w1 ⟨A1, c1, rfl, o1, b1⟩
    have hc1 := hid (HC.out.later b1)
    have O1 := hid o1
    have B1 := hid b1
    have hs1 := b1.size
    clear o1 b1
    go_wp2_with fail
    refine (HSU.out _ hc1.out).mono ?_
    rintro e w' ⟨rfl, rfl⟩
    go_wp2_with (at_builtin; refine wpList_append_own _ rfl _ _ 22 rfl w.heap.size 3 i0 (.int .i64 0) 1 8 Try.underlying22 hi hz0 hz1 hz2 rfl (by decide) _ _ _ rfl (O1.out.alloc _) ⟨w1.heap.size, 0, none⟩ 1 1 [.int .i64 (-S)] rfl rfl one_at (one_cell _) (by unfold maxLen; omega) (by omega) (by simp; omega) ?_)
    intro v' w2 hown' hgrow _
    have hb2 : Below w.heap.size w w2 := (B1.out.alloc B1.out.size _).grown hgrow (by simp; omega) (fun q hq => (O1.out.lt q hq).1)
    rw [← HIL.out] at hown'
    obtain ⟨A2, c2, rfl, o2⟩ := own_form hown' HVL.out
    have O2 := hid o2
    have B2 := hid hb2
    have hs2 := hb2.size
    clear hown' hgrow o2 hb2
    cases b
    · go_wp2_with (go_at_call 126; refine (HGO.out _ _ _ O2.out.cells _ HB.out).mono ?_; rintro e w' ⟨rfl, rfl⟩)
      go_ret
      exact ⟨none, 0, rfl, own2_nil _ _ _, B2.out⟩
    · have hgd := HG.out rfl
      obtain ⟨z, hz⟩ : ∃ z, z = sizeL V := ⟨_, rfl⟩
      have HS2 := hid (HSZ.out A2 c2 w2 O2.out.cells HB.out)
      rw [← hz] at HS2 hgd
      clear hz
      cases g
      · have hne := of_decide_eq_false hgd
        clear hgd
        go_wp2_with (first | (go_at_call 126; refine (HGO.out _ _ _ O2.out.cells _ HB.out).mono ?_; rintro e w' ⟨rfl, rfl⟩) | (go_at_call 128; refine HS2.out.mono ?_; rintro e w' ⟨rfl, rfl⟩))
        go_ret
        exact ⟨none, 0, rfl, own2_nil _ _ _, B2.out⟩
      · have hze := of_decide_eq_true hgd
        subst hze
        clear hgd
        go_wp2_with (first | (go_at_call 126; refine (HGO.out _ _ _ O2.out.cells _ HB.out).mono ?_; rintro e w' ⟨rfl, rfl⟩) | (go_at_call 128; refine HS2.out.mono ?_; rintro e w' ⟨rfl, rfl⟩))
        go_ret
        exact ⟨some ⟨w2.heap.size, 0, none⟩, 1, rfl, own2_one hs2 O2.out, B2.out.alloc hs2 _⟩
  have := walk (levB V) (decide (sizeL V = n)) rfl (fun _ => rfl)
  exact this

set_option maxRecDepth 100000 in
set_option maxHeartbeats 8000000 in
theorem chAll_any (t : Nat) (n : Int) (ht : 2 ≤ t ∧ t ≤ 6) : ∀ (r B : Nat) (A : Option Addr) (c : Nat) (P : List Int) (w : World), P.length + r + 1 = t → (∀ y ∈ P, -10 ≤ y ∧ y ≤ 10) → Own w B A c P →
    Calls Try.prog 133 #[.slice A P.length c, .int .i64 t, .int .i64 n] w fun e w' => ∃ A' c', e = .returned (.slice A' (chL n r P).length c') ∧ Own2 w' w.heap.size w'.heap.size A' c' (chL n r P) ∧ Below w.heap.size w w' := by
  obtain ⟨i0, hi, hz0, hz1, hz2⟩ := info_parts Try.infoInt
  obtain ⟨i1, hj, hy0, hy1, hy2⟩ := info_parts Try.infoInts
  intro r
  induction r with
  | zero =>
    intro B A c P w hl hb ho
    exact chAll_zero t n A c P w ht (by omega) hb ho
  | succ r ih =>
    intro B A c P w hl hb ho
    have IH := hid ih; clear ih
    have HOW := hid fun W (h : Own W B A c P) => l1Own_any A c P W (by omega) h
    have HKS := hid fun K => chK_succ n r P K
    have HKA := hid (show chK n r P 9 = chL n (r + 1) P from rfl)
    have HK0 := hid (show chK n r P 0 = [] from rfl)
    have HKL := hid fun K (hK : K ≤ 9) => (Nat.le_trans (chK_len (n := n) r P K hK) (pow9 (by omega)) : (chK n r P K).length ≤ 1000000)
    have HCL := hid fun Q => (Nat.le_trans (chL_len (n := n) r Q) (pow9 (by omega)) : (chL n r Q).length ≤ 1000000)
    have HIL := hid fun x => (show IL (P ++ [x]) = IL P ++ [.int .i64 x] by rw [IL_app]; rfl)
    have HBP := hid fun x (hx : -10 ≤ x ∧ x ≤ 10) => (show ∀ y ∈ P ++ [x], -10 ≤ y ∧ y ≤ 10 from fun y hy => by
      rcases List.mem_append.1 hy with h | h
      · exact hb y h
      · rw [List.mem_singleton] at h; omega)
    have HLP := hid fun x => (show P.length + 1 = (P ++ [x]).length by simp)
    obtain ⟨Z, hZ⟩ : ∃ Z, Z = chK n r P := ⟨_, rfl⟩
    rw [← hZ] at HKS HKA HK0 HKL
    rw [← HKA.out]
    obtain ⟨M, hM⟩ : ∃ M, M = chL n r := ⟨_, rfl⟩
    rw [← hM] at HKS HCL IH
    have HO := hid ho
    have hne : ¬ ((P.length : Int) = (t : Int) - 1) := by omega
    have hPb : P.length ≤ 6 := by omega
    have HHL := hid hl
    clear hZ hM HKA hb ho hl
    go_enter Try.func133, Try.ntmps133
    go_wp2_with fail
    rw [show ((P.length : Int) == (t : Int) - 1) = false from beq_eq_false_iff_ne.2 hne]
    go_loopw [8, 9] (fun v xv wr => ∃ (K : Nat) (x : Int), K ≤ 9 ∧ x = (K : Int) - 4 ∧ xv = .int .i64 x ∧ (∃ P C, Push wr w.heap.size v (Z K) P C) ∧ Below w.heap.size w wr) (fun _ xv _ => (5 - intOf xv).toNat)
    case atStart => exact ⟨0, -4, by omega, by omega, rfl, by rw [HK0.out]; exact ⟨_, _, push_nil _ _⟩, Below.refl _ _⟩
    case round =>
      obtain ⟨K, x, hK, hx, rfl, ⟨PP, C, hpush⟩, hbel⟩ := hrel
      obtain ⟨wo, rfl⟩ : ∃ wo : World, wo = wr := ⟨_, rfl⟩
      have HP := hid hpush; clear hpush
      have HB := hid hbel; clear hbel
      by_cases h1 : x ≤ 4
      · have hxb : -10 ≤ x ∧ x ≤ 10 := by omega
        have HK1 := hid (show Z (K + 1) = Z K ++ M (P ++ [x]) by rw [HKS.out, hx])
        have hKL := HKL.out K hK
        have hCL := HCL.out (P ++ [x])
        have HQB := hid (HBP.out x hxb)
        have HIX := hid (HIL.out x)
        have hQL := HLP.out x
        have hs0 := HB.out.size
        obtain ⟨Q, hQ⟩ : ∃ Q, Q = P ++ [x] := ⟨_, rfl⟩
        rw [← hQ] at HK1 hCL HQB HIX hQL
        have HQL := hid hQL
        have HX := hid hx
        clear hQ hx hQL
        go_wp2_with fail
        refine (HOW.out _ (HO.out.below HB.out)).mono ?_
        rintro e w1 ⟨A1, c1, rfl, o1, b1⟩
        have O1 := hid o1
        have B1 := hid b1
        have hs1 := b1.size
        clear o1 b1
        go_wp2_with (at_builtin; refine wpList_append_own _ rfl _ _ 22 rfl wo.heap.size 3 i0 (.int .i64 0) 1 8 Try.underlying22 hi hz0 hz1 hz2 rfl (by decide) _ _ _ rfl (O1.out.alloc _) ⟨w1.heap.size, 0, none⟩ 1 1 [.int .i64 x] rfl rfl one_at (one_cell _) (by unfold maxLen; omega) (by omega) (by simp; omega) ?_)
        intro v' w2 hown' hgrow _
        have hb2 : Below wo.heap.size wo w2 := (B1.out.alloc B1.out.size _).grown hgrow (by simp; omega) (fun q hq => (O1.out.lt q hq).1)
        rw [← HIX.out] at hown'
        obtain ⟨A2, c2, rfl, o2⟩ := own_form hown' HQL.out
        have HCA := hid (IH.out wo.heap.size A2 c2 Q w2 (by have := HHL.out; have := HQL.out; omega) HQB.out o2)
        have B2 := hid hb2
        clear hown' hgrow o2 hb2
        go_wp2_with fail
        refine HCA.out.mono ?_
        rintro e w3 ⟨A3, c3, rfl, ⟨P3, C3, H3⟩, b3⟩
        obtain ⟨N, hN⟩ : ∃ N, N = M Q := ⟨_, rfl⟩
        rw [← hN] at HK1 hCL H3 ⊢
        have hs2 := B2.out.size
        have hB3 : Below wo.heap.size wo w3 := Below.next B2.out b3
        have hH4 : Own2At w3 wo.heap.size w3.heap.size A3 c3 N P3 C3 := by
          refine ⟨⟨H3.out.1, ?_⟩, H3.outS, fun j hj => (H3.row j hj).more hs2, H3.rowS, H3.apart⟩
          rcases H3.out.2 with hn | ⟨g, cap, cur, hv, hb, rest⟩
          · exact .inl hn
          · exact .inr ⟨g, cap, cur, hv, Nat.le_trans hs2 hb, rest⟩
        have H4 := hid hH4
        have B3 := hid hB3
        have hs3 := hB3.size
        have HZ := hid (show (Z K).length ≤ 1000000 from hKL)
        clear H3 b3 hB3 hH4 hN
        go_wp2_with (at_builtin; refine wpList_append_opt _ rfl _ _ 35 rfl w.heap.size 22 i1 (.slice none 0 0) 1 24 Try.underlying35 hj hy0 hy1 hy2 rfl (by decide) _ _ _ rfl (HP.out.below B3.out).out A3 N.length c3 (RL P3 C3 N) rfl (by rw [RL_len]; omega) (fun e => own2_none (by rw [← e]; exact H4.out)) (fun ad e => own2_news (by rw [← e]; exact H4.out)) (RL_one _ _ _) (by unfold maxLen; omega) (by omega) (by omega) ?_)
        intro v4 w4 hown4 hgrow4
        have hp4 := HP.out.pushAll B3.out H4.out hs0 hown4 hgrow4
        rw [← HK1.out] at hp4
        have HP4 := hid hp4
        have HB4 := hid (show Below w.heap.size w w4 from (HB.out.trans (B3.out.mono hs0)).grown hgrow4 (by omega) (fun q hq => (HP.out.out.lt q hq).1))
        clear hown4 hgrow4 hp4
        go_wp2_with fail
        go_roundw
        case rel => exact ⟨K + 1, x + 1, by have := HX.out; omega, by have := HX.out; omega, by go_num, ⟨_, _, HP4.out⟩, HB4.out⟩
        case measure => simp [intOf]; omega
      · have hK9 : K = 9 := by omega
        subst hK9
        have hpp := HP.out
        obtain ⟨A', c', rfl, ho⟩ := hpp.own2
        have HO2 := hid ho
        clear ho hpp
        go_wp2_with fail
        go_ret
        exact ⟨A', c', rfl, HO2.out, HB.out⟩

theorem chAsked_any (t n : Int) (w : World) : Calls Try.prog 132 #[.int .i64 t, .int .i64 n] w fun e w' => e = .returned (.bool (lwOk t n)) ∧ w = w' := by
  cases h1 : inB 2 6 t
  · have h : lwOk t n = false := by simp [lwOk, h1]
    rw [h]
    have H1 := hid h1; clear h h1
    go_enter Try.func132, Try.ntmps132
    go_wp2_with (go_at_call 124; refine (chRunners_b _ _ _ H1.out).mono ?_; rintro e w' ⟨rfl, rfl⟩)
    go_ret
    exact ⟨rfl, rfl⟩
  · have HE := hid (show okN n = lwOk t n by simp [lwOk, h1])
    have H1 := hid h1; clear h1
    obtain ⟨b, hb⟩ : ∃ b, b = lwOk t n := ⟨_, rfl⟩
    rw [← hb] at HE ⊢
    clear hb
    go_enter Try.func132, Try.ntmps132
    go_wp2_with (first | (go_at_call 124; refine (chRunners_b _ _ _ H1.out).mono ?_; rintro e w' ⟨rfl, rfl⟩) | (go_at_call 176; refine (ptCells_b _ _ _ HE.out).mono ?_; rintro e w' ⟨rfl, rfl⟩))
    go_ret
    exact ⟨rfl, rfl⟩
theorem chAsked_b (t n : Int) (w : World) (b : Bool) (h : lwOk t n = b) : Calls Try.prog 132 #[.int .i64 t, .int .i64 n] w fun e w' => e = .returned (.bool b) ∧ w = w' := by
  subst h; exact chAsked_any t n w

set_option maxHeartbeats 1000000 in
theorem spec_LevelsWith (t n : Int) (w : World) (_ht : I64 t) (_hn : I64 n) :
    Calls Try.prog 62 #[.int .i64 t, .int .i64 n] w fun e w' => ∃ A' c', e = .returned (.tuple #[.slice A' (lwF t n).length c', .bool (lwOk t n)]) ∧ Own2 w' w.heap.size w'.heap.size A' c' (lwF t n) ∧ Below w.heap.size w w' := by
  cases h : lwOk t n
  · rw [lw_no h]
    have H := hid h; clear h
    go_enter Try.func62, Try.ntmps62
    go_wp2_with (go_at_call 132; refine (chAsked_b _ _ _ _ H.out).mono ?_; rintro e w' ⟨rfl, rfl⟩)
    go_ret2
    exact ⟨none, 0, rfl, own2_nil _ _ _, Below.refl _ _⟩
  have h' := h
  simp only [lwOk, Bool.and_eq_true] at h'
  have i1 := inB_iff.1 h'.1
  obtain ⟨t, rfl⟩ : ∃ m : Nat, t = m := ⟨t.toNat, by omega⟩
  rw [lw_yes h, Int.toNat_natCast]
  have HCA := hid fun W => chAll_any t n (by omega) (t - 1) W.heap.size none 0 [] W (by simp; omega) (fun y hy => by cases hy) (own_nil _ _)
  rw [show ([] : List Int).length = 0 from rfl] at HCA
  obtain ⟨R, hR⟩ : ∃ R, R = chL n (t - 1) [] := ⟨_, rfl⟩
  rw [← hR] at HCA ⊢
  have H := hid h; clear h h' hR
  go_enter Try.func62, Try.ntmps62
  go_wp2_with (first | (go_at_call 132; refine (chAsked_b _ _ _ _ H.out).mono ?_; rintro e w' ⟨rfl, rfl⟩) | (go_at_call 133; refine (HCA.out _).mono ?_; rintro e w' ⟨A', c', rfl, ho, hb⟩))
  go_ret2
  exact ⟨A', c', rfl, ho, hb⟩

set_option maxHeartbeats 1000000 in
theorem spec_CountCores (t n : Int) (w : World) (_ht : I64 t) (_hn : I64 n) :
    Calls Try.prog 66 #[.int .i64 t, .int .i64 n] w fun e w' => e = .returned (.tuple #[.int .i64 (lwN t n), .bool (lwOk t n)]) ∧ Below w.heap.size w w' := by
  cases h : lwOk t n
  · rw [show lwN t n = 0 by unfold lwN; rw [lw_no h]; rfl]
    have H := hid h; clear h
    go_enter Try.func66, Try.ntmps66
    go_wp2_with (go_at_call 132; refine (chAsked_b _ _ _ _ H.out).mono ?_; rintro e w' ⟨rfl, rfl⟩)
    go_ret2
    exact ⟨rfl, Below.refl _ _⟩
  have h' := h
  simp only [lwOk, Bool.and_eq_true] at h'
  have i1 := inB_iff.1 h'.1
  obtain ⟨t, rfl⟩ : ∃ m : Nat, t = m := ⟨t.toNat, by omega⟩
  have hn : lwN t n = (chL n (t - 1) []).length := by unfold lwN; rw [lw_yes h, Int.toNat_natCast]
  rw [hn]
  have HCA := hid fun W => chAll_any t n (by omega) (t - 1) W.heap.size none 0 [] W (by simp; omega) (fun y hy => by cases hy) (own_nil _ _)
  rw [show ([] : List Int).length = 0 from rfl] at HCA
  obtain ⟨R, hR⟩ : ∃ R, R = chL n (t - 1) [] := ⟨_, rfl⟩
  rw [← hR] at HCA ⊢
  have H := hid h; clear h h' hR hn
  go_enter Try.func66, Try.ntmps66
  go_wp2_with (first | (go_at_call 132; refine (chAsked_b _ _ _ _ H.out).mono ?_; rintro e w' ⟨rfl, rfl⟩) | (go_at_call 133; refine (HCA.out _).mono ?_; rintro e w' ⟨A', c', rfl, ho, hb⟩))
  go_ret2
  exact ⟨rfl, hb⟩
end Go.Proofs.Ytnhjofcmaodamaa
