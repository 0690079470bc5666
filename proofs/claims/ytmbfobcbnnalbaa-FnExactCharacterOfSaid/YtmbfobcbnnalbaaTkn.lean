/-
  Contract: the rims that the program takes from a partition, each with its sign.
-/
import Derived.Test.YtmbfobcbnnalbaaTkMath2
import Derived.Test.YtmbfobcbnnalbaaSortI
import Derived.Test.YtmbfobcbnnalbaaOwnCopy
import Derived.Test.YtmbfobcbnnalbaaCB
import Derived.Test.YtmbfobcbnnalbaaHas
namespace Go.Proofs.Ytmbfobcbnnalbaa
open Go.RowKit

theorem Try.infoTkn : (Try.prog.info? 143).map (fun i => (i.zero, i.size, i.bytes)) = some (some (.agg #[.slice none 0 0, .int .i64 0]), 2, 32) := by kernel_rfl
def tnil : List Int × Int := ([], 0)
/-- The cells of a row of rims. -/
def TB (P : Nat → Option Addr) (C : Nat → Nat) (L : List (List Int × Int)) : List Value := (List.range L.length).flatMap fun j => [.slice (P j) (L.getD j tnil).1.length (C j), .int .i64 (L.getD j tnil).2]
theorem flat2_len (f : Nat → List Value) (hf : ∀ j, (f j).length = 2) : ∀ n, ((List.range n).flatMap f).length = n * 2
  | 0 => rfl
  | n + 1 => by rw [List.range_succ, List.flatMap_append, List.length_append, flat2_len f hf n]; simp [hf]; omega
theorem flat2_at (f : Nat → List Value) (hf : ∀ j, (f j).length = 2) : ∀ n j t, j < n → t < 2 → ((List.range n).flatMap f)[j * 2 + t]? = (f j)[t]?
  | 0, j, _, h, _ => absurd h (by omega)
  | n + 1, j, t, hj, ht => by
    rw [List.range_succ, List.flatMap_append]
    by_cases h : j < n
    · rw [List.getElem?_append_left (by rw [flat2_len f hf]; omega)]
      exact flat2_at f hf n j t h ht
    · have e : j = n := by omega
      subst e
      rw [List.getElem?_append_right (by rw [flat2_len f hf]; omega), flat2_len f hf, Nat.add_sub_cancel_left]
      simp
theorem TB_at {P : Nat → Option Addr} {C : Nat → Nat} {L : List (List Int × Int)} {j t : Nat} (hj : j < L.length) (ht : t < 2) : (TB P C L)[j * 2 + t]? = [Value.slice (P j) (L.getD j tnil).1.length (C j), .int .i64 (L.getD j tnil).2][t]? := flat2_at _ (fun _ => rfl) _ _ _ hj ht
theorem snoc_lt {α : Type} (L : List α) (r d : α) (j : Nat) (h : j < L.length) : (L ++ [r]).getD j d = L.getD j d := by
  rw [List.getD_eq_getElem?_getD, List.getElem?_append_left h, ← List.getD_eq_getElem?_getD]
theorem snoc_at {α : Type} (L : List α) (r d : α) : (L ++ [r]).getD L.length d = r := by simp [List.getD]
theorem flatMap_eqL {l : List Nat} {f g : Nat → List Value} (h : ∀ x ∈ l, f x = g x) : l.flatMap f = l.flatMap g := by rw [List.flatMap_def, List.flatMap_def, List.map_congr_left h]
theorem TB_snoc (P : Nat → Option Addr) (C : Nat → Nat) (L : List (List Int × Int)) (r : List Int) (s : Int) (A : Option Addr) (c : Nat) :
    TB (setAt P L.length A) (setAt C L.length c) (L ++ [(r, s)]) = TB P C L ++ [.slice A r.length c, .int .i64 s] := by
  unfold TB
  rw [List.length_append, List.length_singleton, List.range_succ, List.flatMap_append]
  congr 1
  · refine flatMap_eqL fun j hj => ?_
    have hj' : j < L.length := List.mem_range.1 hj
    rw [setAt_ne P A (by omega), setAt_ne C c (by omega), snoc_lt L _ _ j hj']
  · simp [setAt_eq]

structure Tks (w : World) (B : Nat) (v : Value) (L : List (List Int × Int)) (P : Nat → Option Addr) (C : Nat → Nat) : Prop where
  out : w.ownsRow B 143 2 v L.length (TB P C L)
  row : ∀ j, j < L.length → Own w B (P j) (C j) (L.getD j tnil).1
theorem Tks.below {w w' : World} {B : Nat} {v : Value} {L : List (List Int × Int)} {P : Nat → Option Addr} {C : Nat → Nat} (h : Tks w B v L P C) (hb : Below w.heap.size w w') : Tks w' B v L P C := by
  refine ⟨?_, fun j hj => (h.row j hj).below hb⟩
  have ho := h.out
  refine ⟨ho.1, ?_⟩
  rcases ho.2 with hn | ⟨g, cap, cur, hv, hbb, hgg, rest⟩
  · exact .inl hn
  · exact .inr ⟨g, cap, cur, hv, hbb, by rw [hb.block g (Array.getElem?_eq_some_iff.1 hgg).1]; exact hgg, rest⟩
theorem Tks.more {w : World} {B B' : Nat} {v : Value} {L : List (List Int × Int)} {P : Nat → Option Addr} {C : Nat → Nat} (h : Tks w B v L P C) (hB : B' ≤ B) : Tks w B' v L P C := by
  refine ⟨⟨h.out.1, ?_⟩, fun j hj => (h.row j hj).more hB⟩
  rcases h.out.2 with hn | ⟨g, cap, cur, hv, hbb, rest⟩
  · exact .inl hn
  · exact .inr ⟨g, cap, cur, hv, Nat.le_trans hB hbb, rest⟩
theorem tkn_ne {w : World} {B B' : Nat} {n : Nat} {v : Value} {vs : List Value} {A : Option Addr} {c' : Nat} {r : List Int} (h : w.ownsRow B 143 2 v n vs) (hr : Own w B' A c' r) : ∀ b, A.map Addr.block = some b → v.ownBlock ≠ some b := by
  intro b hb e
  rcases h.2 with ⟨rfl, _⟩ | ⟨g1, cap, cur1, rfl, hb1, hg1, rest⟩
  · simp [Value.ownBlock] at e
  · have e1 : g1 = b := by simpa [Value.ownBlock] using e
    subst e1
    rcases hr.2 with ⟨h2, _⟩ | ⟨g2, _, cur2, hv2, _, hg2, _⟩
    · have hA : A = none := by injection h2
      rw [hA] at hb; simp at hb
    · have hA : A = some ⟨g2, 0, none⟩ := by injection hv2
      rw [hA] at hb
      have e2 : g2 = g1 := by simpa using hb
      subst e2
      rw [hg1] at hg2
      injection hg2 with hg2
      injection hg2 with _ ht
      exact absurd ht (by decide)
theorem Tks.push {w0 w1 w2 : World} {B : Nat} {v v' : Value} {L : List (List Int × Int)} {P : Nat → Option Addr} {C : Nat → Nat} {A : Option Addr} {c : Nat} {r : List Int} {s : Int} {o : Obj}
    (h : Tks w0 B v L P C) (hb : Below w0.heap.size w0 w1) (hr : Own w1 w0.heap.size A c r) (hB : B ≤ w0.heap.size)
    (ho : w2.ownsRow B 143 2 v' (L.length + 1) (TB P C L ++ [.slice A r.length c, .int .i64 s])) (hg : (w1.alloc o).grownBy w2 v.ownBlock) :
    Tks w2 B v' (L ++ [(r, s)]) (setAt P L.length A) (setAt C L.length c) := by
  have h1 := h.below hb
  have keep : ∀ {A' : Option Addr} {c' : Nat} {r' : List Int}, Own w1 B A' c' r' → Own w2 B A' c' r' := fun {A' c' r'} hx => by
    refine hx.keep fun b hbb hlt => ?_
    have e1 : (w1.alloc o).heap[b]? = w1.heap[b]? := Below.heap_alloc _ _ _ hlt
    rw [← e1]
    exact hg.block b (by simp; omega) (fun e => tkn_ne h1.out hx b hbb e.symm)
  refine ⟨by rw [TB_snoc, List.length_append]; exact ho, fun j hj => ?_⟩
  rw [List.length_append, List.length_singleton] at hj
  by_cases e : j = L.length
  · subst e
    rw [setAt_eq, setAt_eq, snoc_at]
    exact keep (hr.more hB)
  · rw [setAt_ne P A e, setAt_ne C c e, snoc_lt L _ _ j (by omega)]
    exact keep (h1.row j (by omega))
theorem Tks.nil (w : World) (B : Nat) : Tks w B (.slice none 0 0) [] (fun _ => none) (fun _ => 0) := ⟨World.ownsRow_nil _ _ _ _, fun j hj => by simp at hj⟩

theorem Good.bd' {p : List Int} (G : Good p) : ∀ j, j < p.length → 0 ≤ p.getD j 0 ∧ p.getD j 0 ≤ 1000 := fun j hj => by have := G.pos j hj; have := G.le j hj; omega
theorem tkK_no {p : List Int} (G : Good p) {t : Int} {k : Nat} (hk : k < p.length) (h : tkB p t k = false) : tkK p t (k + 1) = tkK p t k := by
  rw [tkK, mv_no G hk h]; simp
theorem tkK_yes {p : List Int} (G : Good p) {t : Int} (ht : 0 < t) {k : Nat} (hk : k < p.length) (h : tkB p t k = true) : ∃ q, tkK p t (k + 1) = tkK p t k ++ [(q, tkS p t k)] ∧ tkM p t k = beadsL q p.length ∧ Good q ∧ q.length ≤ p.length ∧ q.sum = p.sum - t ∧ 0 ≤ btN (beadsL p p.length) (tkTo p t k) ((beadsL p p.length).getD k 0) p.length := by
  obtain ⟨c, M⟩ := mv_yes G ht hk h
  obtain ⟨h1, h2, h3, h4⟩ := mv_sorted G ht hk M h
  exact ⟨takeL p (p.length - 1 - k, c), by rw [tkK, M.hits, mv_sign G ht hk M]; rfl, h1, h3, h4, h2, (btN_bd _ _ _ _).1⟩
theorem tkK_len {p : List Int} (G : Good p) {t : Int} (ht : 0 < t) : ∀ k, k ≤ p.length → (tkK p t k).length ≤ k
  | 0, _ => by simp [tkK]
  | k + 1, hk => by
    have ih := tkK_len G ht k (by omega)
    cases h : tkB p t k
    · rw [tkK_no G (by omega) h]; omega
    · obtain ⟨q, e, _⟩ := tkK_yes G ht (by omega) h
      rw [e, List.length_append]; simp; omega

set_option maxRecDepth 100000 in
set_option maxHeartbeats 8000000 in
theorem takenRims_any (A : Option Addr) (c : Nat) (p : List Int) (t : Int) (w : World) (G : Good p) (ht : 1 ≤ t ∧ t ≤ 100) (hc : Cells w A p) :
    Calls Try.prog 208 #[.slice A p.length c, .int .i64 t] w fun e w' => ∃ v P C, e = .returned v ∧ Tks w' w.heap.size v (tkL p t) P C ∧ Below w.heap.size w w' := by
  obtain ⟨i0, hi, hz0, hz1, hz2⟩ := info_parts Try.infoTkn
  have hlen := G.len
  have HBF := hid (beadsFor_any A c p p.length w (by omega) (Nat.le_refl _) G.bd' hc)
  have HB := hid fun j (hj : j < p.length) => bead_bd G p.length j hj (by omega)
  have hXl := beadsL_len p p.length
  have HXG := hid fun j (hj : j < p.length) => (show (beadsL p p.length).getD j 0 = bead p p.length j by unfold beadsL; rw [fnRow_get _ _ _ hj])
  have HNO := hid fun k (hk : k < p.length) h => tkK_no G (t := t) hk h
  have HYES := hid fun k (hk : k < p.length) h => tkK_yes G (t := t) (by omega) hk h
  have HLEN := hid fun k (hk : k ≤ p.length) => tkK_len G (t := t) (by omega) k hk
  have HB1 := hid fun k => (show tkB p t k = (decide (0 ≤ (beadsL p p.length).getD k 0 - t) && !decide ((beadsL p p.length).getD k 0 - t ∈ beadsL p p.length)) from rfl)
  have HM1 := hid fun k => (show tkM p t k = ((beadsL p p.length).set k ((beadsL p p.length).getD k 0 - t)).mergeSort fun x y => decide (x ≤ y) from rfl)
  have HS1 := hid fun k => (show tkS p t k = sgn (btN (beadsL p p.length) ((beadsL p p.length).getD k 0 - t) ((beadsL p p.length).getD k 0) p.length) from rfl)
  have HT1 := hid fun k => (show tkTo p t k = (beadsL p p.length).getD k 0 - t from rfl)
  have HPB := hid fun q (Gq : Good q) (hq : q.length ≤ p.length) => (show partsL (beadsL q p.length) = q from partsL_beads Gq hq)
  have HQB := hid fun q (Gq : Good q) j (hj : j < p.length) => (show 0 ≤ (beadsL q p.length).getD j 0 ∧ (beadsL q p.length).getD j 0 ≤ 1000 by
    have := bead_bd Gq p.length j hj (by omega)
    unfold beadsL; rw [fnRow_get _ _ _ hj]; omega)
  obtain ⟨X, hX⟩ : ∃ X, X = beadsL p p.length := ⟨_, rfl⟩
  rw [← hX] at HBF hXl HXG HYES HB1 HM1 HS1 HT1
  unfold tkL
  obtain ⟨K, hK⟩ : ∃ K, K = tkK p t := ⟨_, rfl⟩
  rw [← hK] at HNO HYES HLEN ⊢
  have HK0 := hid (show K 0 = [] by rw [hK]; rfl)
  clear hX hK
  go_enter Try.func208, Try.ntmps208
  go_wp2_with (go_at_call 194; refine HBF.out.mono ?_; rintro e w1 ⟨A1, c1, rfl, o1, b1⟩)
  have O1 := hid o1
  have B1 := hid b1
  have hs1 := b1.size
  clear o1 b1
  go_loopw [6, 17] (fun v i wr => ∃ (k : Nat) (P : Nat → Option Addr) (C : Nat → Nat), k ≤ p.length ∧ i = .int .i64 k ∧ Hid (Tks wr w1.heap.size v (K k) P C) ∧ Below w1.heap.size w1 wr) (fun _ i _ => p.length - (intOf i).toNat)
  case atStart => exact ⟨0, _, _, Nat.zero_le _, rfl, hid (by rw [HK0.out]; exact Tks.nil _ _), Below.refl _ _⟩
  case round =>
    obtain ⟨k, P, C, hk, rfl, HT, hbel⟩ := hrel
    obtain ⟨wo, rfl⟩ : ∃ wo : World, wo = wr := ⟨_, rfl⟩
    have O1r := hid (O1.out.below hbel)
    by_cases hlt : k < p.length
    · obtain ⟨b, o, rfl, hck⟩ := O1r.out.cells.get (show k < X.length by omega)
      have hxb := HB.out k hlt
      have hxg := HXG.out k hlt
      rw [← hxg] at hxb
      have hb1 := HB1.out k
      have hm1 := HM1.out k
      have hs1' := HS1.out k
      have HNO' := hid (HNO.out k hlt)
      have HYE' := hid (HYES.out k hlt)
      have ht1 := HT1.out k
      rw [ht1] at HYE'
      obtain ⟨x, hx⟩ : ∃ x, x = X.getD k 0 := ⟨_, rfl⟩
      rw [← hx] at hck hxb hb1 hm1 hs1' HYE'
      obtain ⟨y, hy⟩ : ∃ y, y = x - t := ⟨_, rfl⟩
      have hyy : x - t = y := hy.symm
      rw [← hy] at hb1 hm1 hs1' HYE'
      have hyb : -100 ≤ y ∧ y ≤ 100 := by omega
      have HB1' := hid hb1; have HM1' := hid hm1; have HS1' := hid hs1'
      have HIN := hid fun W (h : Cells W (some ⟨b, o, none⟩) X) bb hbb => Contains2_b (some ⟨b, o, none⟩) X c1 y W (by omega) h bb hbb
      rw [hXl] at HIN
      clear hx hxg hb1 hm1 hs1' ht1 hy
      by_cases h0 : y < 0
      · have HBF' := hid (show tkB p t k = false by rw [HB1'.out, decide_eq_false (by omega)]; rfl)
        go_wp2_with fail
        go_roundw
        case rel => exact ⟨k + 1, P, C, by omega, by go_num, hid (by rw [HNO'.out HBF'.out]; exact HT.out), hbel⟩
        case measure => simp [intOf]; omega
      cases hin : decide (y ∈ X)
      · have HBT' := hid (show tkB p t k = true by rw [HB1'.out, hin, decide_eq_true (by omega)]; rfl)
        obtain ⟨q, hq1, hq2, Gq, hq3, hq4, hq5⟩ := HYE'.out HBT'.out
        have HIN' := hid (HIN.out _ O1r.out.cells _ hin)
        have HCL := hid fun W (h : Own W w.heap.size (some ⟨b, o, none⟩) c1 X) => cloneOwn_any (some ⟨b, o, none⟩) c1 X W (by omega) h
        rw [hXl] at HCL
        have hSL : (X.set k y).length = p.length := by rw [List.length_set, hXl]
        have HSO := hid fun W A2 c2 (h : Own W wo.heap.size A2 c2 (X.set k y)) => sortI_any A2 c2 (X.set k y) W wo.heap.size h (by omega)
        rw [HM1'.out] at hq2
        rw [hq2, hSL] at HSO
        have hQL := beadsL_len q p.length
        have HPO := hid fun W A2 c2 (h : Cells W A2 (beadsL q p.length)) => partsOf_any A2 c2 (beadsL q p.length) W (by omega) (fun j hj => HQB.out q Gq j (by omega)) h
        rw [hQL, HPB.out q Gq hq3] at HPO
        have HBB := hid fun W (h : Cells W (some ⟨b, o, none⟩) X) => beadsBetween_any (some ⟨b, o, none⟩) X c1 y x W (by omega) h
        rw [hXl] at HBB
        have hq6 : btN X y x p.length ≤ p.length := (btN_bd X y x p.length).2
        have HEV := hid fun W => evenSign_any (btN X y x p.length) W hq5 (by omega)
        rw [← HS1'.out] at HEV
        obtain ⟨bt, hbt⟩ : ∃ bt, bt = btN X y x p.length := ⟨_, rfl⟩
        rw [← hbt] at HBB HEV
        obtain ⟨s, hs⟩ : ∃ s, s = tkS p t k := ⟨_, rfl⟩
        rw [← hs] at HEV hq1
        have HQ1 := hid hq1
        have hKL := HLEN.out k (by omega)
        have hkX : k < X.length := by omega
        clear hin hq1 hq2 hq4 hq5 hq6 hbt hs HYE' HNO' HIN
        go_wp2_with (go_at_call 227; refine HIN'.out.mono ?_; rintro e w' ⟨rfl, rfl⟩)
        refine (HCL.out _ O1r.out).mono ?_
        rintro e w2 ⟨A2, c2, rfl, o2, b2⟩
        obtain ⟨g, rfl, hg1, hg2⟩ := o2.at_ (by omega)
        have hcg := own_get o2 hkX
        have hfg := own_froz o2 k
        have O3 := hid (own_set o2 k y)
        have B3 := hid (b2.setCell (p := ⟨g, k, none⟩) hg1 (.int .i64 y))
        clear o2 b2
        go_wp2_with fail
        refine (HSO.out _ _ _ O3.out).mono ?_
        rintro e w4 ⟨rfl, o4, b4⟩
        have B4 := hid (b4 wo.heap.size wo (Nat.le_refl _) B3.out)
        have O4 := hid o4
        clear o4 b4
        go_wp2_with fail
        refine (HPO.out _ _ _ O4.out.cells).mono ?_
        rintro e w5 ⟨A5, c5, rfl, o5, b5⟩
        have O5 := hid o5
        have B5 := hid (Below.next B4.out b5)
        clear o5 b5
        go_wp2_with fail
        refine (HBB.out _ (O1r.out.cells.later B5.out)).mono ?_
        rintro e w6 ⟨rfl, b6⟩
        have O6 := hid (O5.out.below b6)
        have B6 := hid (Below.next B5.out b6)
        clear b6
        have HT6 := hid (HT.out.below B6.out)
        have hs4 := B4.out.size
        have hsz6 := B6.out.size
        go_wp2_with (first | (go_at_call 124; refine (HEV.out _).mono ?_; rintro e w' ⟨rfl, rfl⟩) | (at_builtin; refine wpList_append_own _ rfl _ _ 139 rfl w1.heap.size 143 i0 (.agg #[.slice none 0 0, .int .i64 0]) 2 32 Try.underlying139 hi hz0 hz1 hz2 rfl (by decide) _ _ _ rfl (HT6.out.out.alloc _) ⟨w6.heap.size, 0, none⟩ 1 1 [.slice A5 q.length c5, .int .i64 s] rfl rfl two_at (by simp [Value.oneCell']) (by unfold maxLen; omega) (by omega) (by have := hbel.size; simp; omega) ?_))
        intro v' w7 hown' hgrow _
        have HPU := hid (Tks.push HT.out B6.out (O6.out.more hs4) hbel.size hown' hgrow)
        have HB6 := hbel.trans (B6.out.mono hbel.size)
        have HB7 := hid ((HB6.alloc HB6.size (.cells #[.slice A5 q.length c5, .int .i64 s] 143)).grown hgrow (by have := HB6.size; simp; omega) (fun b' hb' => (HT6.out.out.lt b' hb').1))
        clear hown' hgrow HB6
        go_wp2_with fail
        go_roundw
        case rel => exact ⟨k + 1, _, _, by omega, by go_num, hid (by rw [HQ1.out]; exact HPU.out), HB7.out⟩
        case measure => simp [intOf]; omega
      · have HBF' := hid (show tkB p t k = false by rw [HB1'.out, hin]; simp)
        have HIN' := hid (HIN.out _ O1r.out.cells _ hin)
        have h0' : 0 ≤ y := by omega
        clear hin
        go_wp2_with (go_at_call 227; refine HIN'.out.mono ?_; rintro e w' ⟨rfl, rfl⟩)
        go_roundw
        case rel => exact ⟨k + 1, P, C, by omega, by go_num, hid (by rw [HNO'.out HBF'.out]; exact HT.out), hbel⟩
        case measure => simp [intOf]; omega
    · have hkl : k = p.length := by omega
      subst hkl
      go_wp2_with fail
      go_ret
      exact ⟨_, P, C, rfl, HT.out.more hs1, B1.out.trans (hbel.mono hs1)⟩
end Go.Proofs.Ytmbfobcbnnalbaa
