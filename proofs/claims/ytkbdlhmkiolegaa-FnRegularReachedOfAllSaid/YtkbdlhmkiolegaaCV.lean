/-
  Several texts in one.
-/
import Derived.Test.YtkbdlhmkiolegaaR01
import Derived.Test.YtkbdlhmkiolegaaR09
import Derived.Test.YtkbdlhmkiolegaaR21
import Derived.Test.YtkbdlhmkiolegaaCC
import Derived.Test.YtkbdlhmkiolegaaCB
import Derived.Test.YtkbdlhmkiolegaaResid
import Derived.Test.YtkbdlhmkiolegaaR19
import Derived.Laws.BytesArg
import Derived.Deep.RegionWith
import Derived.Handy
/-
  Contracts: the marks of a partition, the program's side (made by genmk.py).
-/
namespace Go.Proofs.Ytkbdlhmkiolegaa
open Go.RowKit

def ML (L : List (Nat × Nat)) : List Value := L.flatMap fun q => [.int .u8 (q.1 : Int), .int .i64 (q.2 : Int)]
theorem ML_snoc (L : List (Nat × Nat)) (a b : Nat) : ML (L ++ [(a, b)]) = ML L ++ [.int .u8 (a : Int), .int .i64 (b : Int)] := by simp [ML]
theorem ML_len (L : List (Nat × Nat)) : (ML L).length = L.length * 2 := by
  induction L with
  | nil => rfl
  | cons q t ih => simp only [ML, List.flatMap_cons, List.length_append, List.length_cons, List.length_nil] at ih ⊢; omega
theorem ML_get : ∀ (L : List (Nat × Nat)) (j : Nat), j < L.length → (ML L)[2 * j]? = some (.int .u8 ((L.getD j (0, 0)).1 : Int)) ∧ (ML L)[2 * j + 1]? = some (.int .i64 ((L.getD j (0, 0)).2 : Int))
  | [], j, h => absurd h (by simp)
  | q :: t, 0, _ => by simp [ML]
  | q :: t, j + 1, h => by
    have := ML_get t j (by simpa using h)
    have e : ML (q :: t) = [.int .u8 (q.1 : Int), .int .i64 (q.2 : Int)] ++ ML t := by simp [ML]
    rw [e, List.getElem?_append_right (by simp; omega), List.getElem?_append_right (by simp; omega)]
    simp only [List.length_cons, List.length_nil, List.getD_cons_succ]
    rw [show 2 * (j + 1) - (0 + 1 + 1) = 2 * j by omega, show 2 * (j + 1) + 1 - (0 + 1 + 1) = 2 * j + 1 by omega]
    exact this
theorem ML_take (L : List (Nat × Nat)) (k : Nat) : (ML L).take (k * 2) = ML (L.take k) := by
  induction L generalizing k with
  | nil => simp [ML]
  | cons q t ih =>
    cases k with
    | zero => simp [ML]
    | succ k =>
      have e : ML (q :: t) = [.int .u8 (q.1 : Int), .int .i64 (q.2 : Int)] ++ ML t := by simp [ML]
      rw [e, List.take_succ_cons, show ML (q :: t.take k) = [.int .u8 (q.1 : Int), .int .i64 (q.2 : Int)] ++ ML (t.take k) by simp [ML], ← ih k]
      rw [show (k + 1) * 2 = k * 2 + 1 + 1 by omega]; rfl
theorem Try.infoMark : (Try.prog.info? 80).map (fun i => (i.zero, i.size, i.bytes)) = some (some (.agg #[.int .u8 0, .int .i64 0]), 2, 16) := by kernel_rfl
def OwnM (w : World) (B : Nat) (A : Option Addr) (c : Nat) (M : List (Nat × Nat)) : Prop := w.ownsRow B 80 2 (.slice A M.length c) M.length (ML M)
theorem mark_at {w : World} {x y : Value} {t : TypeId} (j : Nat) (u : Value) (h : [x, y][j]? = some u) : (w.alloc (.cells #[x, y] t)).cell? ((⟨w.heap.size, 0, none⟩ : Addr).add j) = some u := by
  match j, h with
  | 0, h => simp at h; subst h; simp [Addr.add]
  | 1, h => simp at h; subst h; simp [Addr.add]
theorem mark_cell (x y : Int) : ∀ u ∈ [Value.int .u8 x, .int .i64 y], u.oneCell' = true := by
  intro u hu; simp at hu; rcases hu with rfl | rfl <;> rfl
theorem ownM_form {w : World} {B : Nat} {v : Value} {n : Nat} {M : List (Nat × Nat)} (h : w.ownsRow B 80 2 v n (ML M)) (hn : n = M.length) : ∃ A c, v = .slice A M.length c ∧ OwnM w B A c M := by
  subst hn
  rcases h.2 with ⟨hv, h0⟩ | ⟨g, cap, cur, hv, _⟩
  · refine ⟨none, 0, by rw [hv, h0], ?_⟩
    unfold OwnM; rw [h0]; rw [h0] at h; rw [← hv]; exact h
  · exact ⟨some ⟨g, 0, none⟩, cap, hv, by unfold OwnM; rw [← hv]; exact h⟩
theorem ownM_nil (w : World) (B : Nat) : OwnM w B none 0 [] := World.ownsRow_nil w B _ _
theorem OwnM.keep {w w' : World} {B : Nat} {A : Option Addr} {c : Nat} {M : List (Nat × Nat)} (h : OwnM w B A c M) (hk : ∀ b, A.map Addr.block = some b → b < w.heap.size → w'.heap[b]? = w.heap[b]?) : OwnM w' B A c M := by
  refine ⟨h.1, ?_⟩
  rcases h.2 with hn | ⟨g, cap, cur, hv, hb, hgg, rest⟩
  · exact .inl hn
  · refine .inr ⟨g, cap, cur, hv, hb, ?_, rest⟩
    have hA : A = some ⟨g, 0, none⟩ := by injection hv
    rw [hk g (by rw [hA]; rfl) (Array.getElem?_eq_some_iff.1 hgg).1]
    exact hgg
theorem OwnM.below {w w' : World} {B : Nat} {A : Option Addr} {c : Nat} {M : List (Nat × Nat)} (h : OwnM w B A c M) (hb : Below w.heap.size w w') : OwnM w' B A c M := h.keep fun b _ hlt => hb.block b hlt
theorem OwnM.more {w : World} {B B' : Nat} {A : Option Addr} {c : Nat} {M : List (Nat × Nat)} (h : OwnM w B A c M) (hB : B' ≤ B) : OwnM w B' A c M := by
  refine ⟨h.1, ?_⟩
  rcases h.2 with hn | ⟨g, cap, cur, hv, hb, rest⟩
  · exact .inl hn
  · exact .inr ⟨g, cap, cur, hv, Nat.le_trans hB hb, rest⟩
theorem OwnM.at_ {w : World} {B : Nat} {A : Option Addr} {c : Nat} {M : List (Nat × Nat)} (h : OwnM w B A c M) (hp : 0 < M.length) : ∃ g, A = some ⟨g, 0, none⟩ ∧ B ≤ g ∧ g < w.heap.size := by
  rcases h.2 with ⟨_, h0⟩ | ⟨g, cap, cur, hv, hb, hg, _⟩
  · omega
  · have hA : A = some ⟨g, 0, none⟩ := by injection hv
    exact ⟨g, hA, hb, (Array.getElem?_eq_some_iff.1 hg).1⟩
theorem OwnM.cap {w : World} {B : Nat} {A : Option Addr} {c : Nat} {M : List (Nat × Nat)} (h : OwnM w B A c M) : M.length ≤ c := by
  rcases h.2 with ⟨_, h0⟩ | ⟨g, cap, cur, hv, _, _, hcap, _⟩
  · omega
  · injection hv with h1 _ h3
    omega
theorem OwnM.take {w : World} {B : Nat} {A : Option Addr} {c : Nat} {M : List (Nat × Nat)} (h : OwnM w B A c M) (k : Nat) (hk : k ≤ M.length) : OwnM w B A c (M.take k) := by
  have hl : (M.take k).length = k := by rw [List.length_take]; omega
  unfold OwnM
  rw [hl]
  refine ⟨by rw [ML_len, hl], ?_⟩
  rcases h.2 with ⟨hv, h0⟩ | ⟨g, cap, cur, hv, hb, hgg, hn, hm, hs, ht⟩
  · injection hv with h1 h2 h3
    subst h1 h3
    exact .inl ⟨by rw [show k = 0 by omega], by omega⟩
  · injection hv with h1 h2 h3
    subst h1 h3
    refine .inr ⟨g, c, cur, rfl, hb, hgg, by omega, hm, hs, ?_⟩
    rw [← ML_take, ← ht, List.take_take, Nat.min_eq_left (by omega)]
theorem OwnM.get {w : World} {B g c : Nat} {M : List (Nat × Nat)} (h : OwnM w B (some ⟨g, 0, none⟩) c M) {j : Nat} (hj : j < M.length) :
    w.cell? ⟨g, 2 * j, none⟩ = some (.int .u8 ((M.getD j (0, 0)).1 : Int)) ∧ w.cell? ⟨g, 2 * j + 1, none⟩ = some (.int .i64 ((M.getD j (0, 0)).2 : Int)) := by
  have hg := ML_get M j hj
  rw [World.ownsRow.cellAt h (2 * j) (by omega), World.ownsRow.cellAt h (2 * j + 1) (by omega)]
  exact hg

set_option maxHeartbeats 400000 in
theorem content_I (r : Nat) (x : Int) (w : World) (hr : r ≤ 1000) (hx : -1000 ≤ x ∧ x ≤ 1000) : Calls Try.prog 84 #[.agg #[.int .i64 r, .int .i64 x]] w fun e w' => e = .returned (.int .i64 (x - r)) ∧ Below w.heap.size w w' := by
  go_enter Try.func84, Try.ntmps84
  go_wp2
  go_ret
  exact ⟨rfl, (Below.refl _ _).alloc (Nat.le_refl _) _⟩
theorem filt_mem (p : Nat → Bool) (k r : Nat) : ((r : Int) ∈ filt p k) ↔ (r < k ∧ p r = true) := by
  simp only [filt, List.mem_map, List.mem_filter, List.mem_range]
  constructor
  · rintro ⟨a, h, e⟩
    have : a = r := by omega
    subst this; exact h
  · intro h; exact ⟨r, h, rfl⟩
theorem sgB_A {xs : List Int} {t : Nat} {i : Int} {r : Nat} (h : addB xs r = true) (h2 : (xs.getD r 0 - r) % (t : Int) = i) : sgB xs t i r = 65 := by unfold sgB; rw [if_pos ⟨h, h2⟩]
theorem sgB_R {xs : List Int} {t : Nat} {i : Int} {r : Nat} (h : ¬ (addB xs r = true ∧ (xs.getD r 0 - r) % (t : Int) = i)) (h1 : r < xs.length ∧ corB xs r = true) (h2 : (xs.getD r 0 - 1 - r) % (t : Int) = i) : sgB xs t i r = 82 := by unfold sgB; rw [if_neg h, if_pos ⟨h1, h2⟩]
theorem sgB_0 {xs : List Int} {t : Nat} {i : Int} {r : Nat} (h : ¬ (addB xs r = true ∧ (xs.getD r 0 - r) % (t : Int) = i)) (h1 : ¬ ((r < xs.length ∧ corB xs r = true) ∧ (xs.getD r 0 - 1 - r) % (t : Int) = i)) : sgB xs t i r = 0 := by unfold sgB; rw [if_neg h, if_neg h1]

set_option maxRecDepth 100000 in
set_option maxHeartbeats 8000000 in
theorem signatureOf_any (A : Option Addr) (c : Nat) (xs : List Int) (t : Nat) (i : Int) (w : World) (hgd : good xs = true) (ht : 2 ≤ t ∧ t ≤ 6) (hno : A = none → xs.length = 0 ∧ c = 0) (hc : Cells w A xs) :
    Calls Try.prog 62 #[.slice A xs.length c, .int .i64 t, .int .i64 i] w fun e w' => ∃ A' c', e = .returned (.slice A' (sig xs t i).length c') ∧ OwnM w' w.heap.size A' c' (sig xs t i) ∧ Below w.heap.size w w' := by
  obtain ⟨i0, hi, hz0, hz1, hz2⟩ := info_parts Try.infoInt
  obtain ⟨i1, hj, hy0, hy1, hy2⟩ := info_parts Try.infoMark
  have G := (good_iff xs).1 hgd
  have hlen := G.len
  have HPB := hid G.part
  have HPO := hid G.pos
  have HADD := hid (impl_AddableOf A c xs w (by omega) hc)
  have HCOR := hid fun W (h : Cells W A xs) => impl_CornersOf A c xs W (by omega) h
  have HCLO := hid fun W (h : Cells W A xs) => cloneC_any A c xs W (by omega) hno h
  rw [addF_t hgd, hgd] at HADD
  rw [corF_t hgd, hgd] at HCOR
  have hma := filt_mem (addB xs) (xs.length + 1)
  have hmc := filt_mem (corB xs) xs.length
  have hal := filt_len (addB xs) (xs.length + 1)
  have hcl := filt_len (corB xs) xs.length
  obtain ⟨LA, hLA⟩ : ∃ LA, LA = filt (addB xs) (xs.length + 1) := ⟨_, rfl⟩
  obtain ⟨LC, hLC⟩ : ∃ LC, LC = filt (corB xs) xs.length := ⟨_, rfl⟩
  rw [← hLA] at HADD hal
  rw [← hLC] at HCOR hcl
  simp only [← hLA] at hma
  simp only [← hLC] at hmc
  have HMA := hid hma
  have HMC := hid hmc
  have HC := hid hc
  obtain ⟨Q, hQ⟩ : ∃ Q : Int → Int, Q = fun y => y % (t : Int) := ⟨_, rfl⟩
  have HRS := hid fun (W : World) (y : Int) => (show Calls Try.prog 83 #[.int .i64 y, .int .i64 t] W fun e w' => e = .returned (.int .i64 (Q y)) ∧ W = w' by rw [hQ]; exact residueOf_any y t W ht)
  have HQ := hid fun y => congrFun hQ y
  have HEX := hid (show IL (xs ++ [0]) = IL xs ++ [.int .i64 0] by simp [IL])
  clear hgd G hma hmc hLA hLC hc hQ
  go_enter Try.func62, Try.ntmps62
  go_wp2_with fail
  refine HADD.out.mono ?_
  rintro e w1 ⟨A1, c1, rfl, o1, b1⟩
  have HC1 := hid (HC.out.later b1)
  go_wp2_with fail
  refine (HCOR.out w1 HC1.out).mono ?_
  rintro e w2 ⟨A2, c2, rfl, o2, b2⟩
  have HC2 := hid (HC1.out.later b2)
  go_wp2_with fail
  refine (HCLO.out w2 HC2.out).mono ?_
  rintro e w3 ⟨A3, c3, rfl, o3, b3⟩
  have hs1 := b1.size
  have hs2 := b2.size
  have hs3 := b3.size
  go_wp2_with (at_builtin; refine wpList_append_own _ rfl _ _ 22 rfl w2.heap.size 3 i0 (.int .i64 0) 1 8 Try.underlying22 hi hz0 hz1 hz2 rfl (by decide) _ _ _ rfl (o3.alloc _) ⟨w3.heap.size, 0, none⟩ 1 1 [.int .i64 0] rfl rfl one_at (one_cell _) (by unfold maxLen; omega) (by omega) (by simp; omega) ?_)
  intro v' w4 hown' hgrow _
  have hb4 : Below w2.heap.size w2 w4 := (b3.alloc b3.size _).grown hgrow (by simp; omega) (fun q hq => (o3.lt q hq).1)
  have hown2 := own_snoc (rfl : xs ++ [0] = xs ++ [0]) hown'
  obtain ⟨A4, c4, rfl, o4⟩ := own_form hown2 rfl
  have HO1 := hid ((o1.below b2).below hb4)
  have HO2 := hid (o2.below hb4)
  have HO4 := hid o4
  have HB4 := hid (Below.next (Below.next b1 b2) hb4)
  have hl4 : (xs ++ [(0 : Int)]).length = xs.length + 1 := by simp
  rw [hl4]
  clear hown' hown2 hgrow o1 o2 o3 o4 b1 b2 b3 hb4 hl4
  go_wp2_with fail
  go_loopw [11, 29] (fun mv kv wr => ∃ k A c, k ≤ xs.length + 1 ∧ kv = .int .i64 (k : Nat) ∧ mv = .slice A (sgM xs t i k).length c ∧ OwnM wr w4.heap.size A c (sgM xs t i k) ∧ Below w4.heap.size w4 wr) (fun _ kv _ => xs.length + 1 - (intOf kv).toNat)
  case atStart => exact ⟨0, none, 0, Nat.zero_le _, rfl, rfl, ownM_nil _ _, Below.refl _ _⟩
  case round =>
    obtain ⟨k, Am, cm, hk, rfl, rfl, hown, hbel⟩ := hrel
    obtain ⟨wo, rfl⟩ : ∃ wo : World, wo = wr := ⟨_, rfl⟩
    have HO := hid hown
    clear hown
    by_cases hlt : k ≤ xs.length
    · obtain ⟨b, o, hA4, hcc⟩ := (HO4.out.cells.later hbel) (by simp)
      have hck := hcc k (by simp; omega)
      have hxk : (xs ++ [(0 : Int)]).getD k 0 = xs.getD k 0 := by
        by_cases h : k < xs.length
        · rw [List.getD_eq_getElem?_getD, List.getElem?_append_left h, ← List.getD_eq_getElem?_getD]
        · rw [getD_beyond (show xs.length ≤ k by omega), show k = xs.length by omega]; simp [List.getD]
      rw [hxk] at hck
      subst hA4
      have hkr : k < xs.length + 1 := by omega
      have hml := sgM_len xs t i k
      have hpb := HPB.out k
      have HPK := hid (HPO.out k)
      have HA := hid fun W (h : Below w4.heap.size w4 W) (b : Bool) (hb : decide ((k : Int) ∈ LA) = b) => (hb ▸ Contains_any A1 LA c1 (k : Int) W (by omega) (HO1.out.cells.later h) : Calls Try.prog 82 #[.slice A1 LA.length c1, .int .i64 (k : Int)] W fun e w' => e = .returned (.bool b) ∧ W = w')
      have HCo := hid fun W (h : Below w4.heap.size w4 W) (b : Bool) (hb : decide ((k : Int) ∈ LC) = b) => (hb ▸ Contains_any A2 LC c2 (k : Int) W (by omega) (HO2.out.cells.later h) : Calls Try.prog 82 #[.slice A2 LC.length c2, .int .i64 (k : Int)] W fun e w' => e = .returned (.bool b) ∧ W = w')
      have hA := HMA.out k
      have hCm := HMC.out k
      have HACX := hid (add_cor (xs := xs) (t := t) (i := i) (r := k) ht.1)
      have HSA := hid (sgB_A (xs := xs) (t := t) (i := i) (r := k))
      have HSR := hid (sgB_R (xs := xs) (t := t) (i := i) (r := k))
      have HS0 := hid (sgB_0 (xs := xs) (t := t) (i := i) (r := k))
      have HYES := hid fun (n : Nat) (h : sgB xs t i k = n) (h0 : n ≠ 0) => (by rw [sgM_yes (by omega), h] : sgM xs t i (k + 1) = sgM xs t i k ++ [(n, k)])
      have HNO := hid fun (h : sgB xs t i k = 0) => sgM_no h
      have hq1 := HQ.out (xs.getD k 0 - k)
      have hq2 := HQ.out (xs.getD k 0 - 1 - k)
      obtain ⟨x, hx⟩ : ∃ x, x = xs.getD k 0 := ⟨_, rfl⟩
      rw [← hx] at hck hpb HPK HACX HSA HSR HS0 hq1 hq2
      simp only [← hq1, ← hq2] at HACX HSA HSR HS0
      obtain ⟨M, hM⟩ : ∃ M, M = sgM xs t i k := ⟨_, rfl⟩
      rw [← hM] at HO HYES HNO hml ⊢
      have HAI := hid hA
      have HCI := hid hCm
      have hkc : (k : Int) < ((xs.length + 1 : Nat) : Int) := by omega
      have hk31 : k ≤ 31 := by omega
      clear hcc hxk hq1 hq2 hx hM hA hCm
      cases hda : decide ((k : Int) ∈ LA)
      · cases hdc : decide ((k : Int) ∈ LC)
        · have HOC := hid HO.out
          have HBC := hid hbel
          have hs := HS0.out (fun h => of_decide_eq_false hda (HAI.out.2 ⟨by omega, h.1⟩)) (fun h => of_decide_eq_false hdc (HCI.out.2 h.1))
          have HE := hid (HNO.out hs)
          have HDA := hid hda
          have HDC := hid hdc
          clear hs hda hdc
          go_wp2_with fail
          refine (HA.out wo hbel _ HDA.out).mono ?_
          rintro e w' ⟨rfl, rfl⟩
          go_wp2_with fail
          refine (HCo.out wo hbel _ HDC.out).mono ?_
          rintro e w' ⟨rfl, rfl⟩
          go_wp2_with fail
          go_roundw
          case rel => exact ⟨k + 1, Am, cm, by omega, by go_num, by rw [HE.out], by rw [HE.out]; exact HOC.out, HBC.out⟩
          case measure => simp [intOf]; omega
        · by_cases z2 : Q (x - 1 - k) = i
          · have HOC := hid HO.out
            have HBC := hid hbel
            have hs := HSR.out (fun h => of_decide_eq_false hda (HAI.out.2 ⟨by omega, h.1⟩)) (HCI.out.1 (of_decide_eq_true hdc)) z2
            have HE := hid (HYES.out 82 hs (by decide))
            have HDA := hid hda
            have HDC := hid hdc
            have hx1 := HPK.out (HCI.out.1 (of_decide_eq_true hdc)).1
            clear hs hda hdc
            go_wp2_with fail
            refine (HA.out wo hbel _ HDA.out).mono ?_
            rintro e w' ⟨rfl, rfl⟩
            go_wp2_with fail
            refine (HCo.out wo hbel _ HDC.out).mono ?_
            rintro e w' ⟨rfl, rfl⟩
            go_wp2_with fail
            refine (content_I k (x - 1) wo (by omega) (by omega)).mono ?_
            rintro e w6 ⟨rfl, b6⟩
            have hbe6 := Below.next hbel b6
            have ho6 := HOC.out.below b6
            clear HOC HBC
            have HOC := hid ho6
            have HBC := hid hbe6
            clear ho6 b6
            go_wp2_with fail
            refine (HRS.out w6 _).mono ?_
            rintro e w' ⟨rfl, rfl⟩
            go_wp2_with (at_builtin; refine wpList_append_own _ rfl _ _ 76 rfl w4.heap.size 80 i1 (.agg #[.int .u8 0, .int .i64 0]) 2 16 Try.underlying76 hj hy0 hy1 hy2 rfl (by decide) _ _ _ rfl (HOC.out.alloc _) ⟨w6.heap.size, 0, none⟩ 1 1 [.int .u8 82, .int .i64 (k : Int)] rfl rfl mark_at (mark_cell _ _) (by unfold maxLen; omega) (by omega) (by have := HBC.out.size; simp; omega) ?_)
            intro v7 w7 hown7 hgrow7 _
            have hb7 : Below w4.heap.size w4 w7 := (HBC.out.alloc HBC.out.size _).grown hgrow7 (by have := HBC.out.size; simp; omega) (fun q hq => (HOC.out.lt q hq).1)
            have hown8 : w7.ownsRow w4.heap.size 80 2 v7 (M ++ [(82, k)]).length (ML (M ++ [(82, k)])) := by rw [ML_snoc, List.length_append]; exact hown7
            rw [← HE.out] at hown8
            obtain ⟨A7, c7, rfl, o7⟩ := ownM_form hown8 rfl
            have HO7 := hid o7
            have HB7 := hid hb7
            clear hown7 hgrow7 hown8 o7 hb7
            go_wp2_with fail
            go_roundw
            case rel => exact ⟨k + 1, A7, c7, by omega, by go_num, rfl, HO7.out, HB7.out⟩
            case measure => simp [intOf]; omega
          · have HOC := hid HO.out
            have HBC := hid hbel
            have hs := HS0.out (fun h => of_decide_eq_false hda (HAI.out.2 ⟨by omega, h.1⟩)) (fun h => z2 h.2)
            have HE := hid (HNO.out hs)
            have HDA := hid hda
            have HDC := hid hdc
            have hx1 := HPK.out (HCI.out.1 (of_decide_eq_true hdc)).1
            clear hs hda hdc
            go_wp2_with fail
            refine (HA.out wo hbel _ HDA.out).mono ?_
            rintro e w' ⟨rfl, rfl⟩
            go_wp2_with fail
            refine (HCo.out wo hbel _ HDC.out).mono ?_
            rintro e w' ⟨rfl, rfl⟩
            go_wp2_with fail
            refine (content_I k (x - 1) wo (by omega) (by omega)).mono ?_
            rintro e w6 ⟨rfl, b6⟩
            have hbe6 := Below.next hbel b6
            have ho6 := HOC.out.below b6
            clear HOC HBC
            have HOC := hid ho6
            have HBC := hid hbe6
            clear ho6 b6
            go_wp2_with fail
            refine (HRS.out w6 _).mono ?_
            rintro e w' ⟨rfl, rfl⟩
            go_wp2_with fail
            go_roundw
            case rel => exact ⟨k + 1, Am, cm, by omega, by go_num, by rw [HE.out], by rw [HE.out]; exact HOC.out, HBC.out⟩
            case measure => simp [intOf]; omega
      · cases hdc : decide ((k : Int) ∈ LC)
        · by_cases z1 : Q (x - k) = i
          · have HOC := hid HO.out
            have HBC := hid hbel
            have hs := HSA.out ((HAI.out.1 (of_decide_eq_true hda)).2) z1
            have HE := hid (HYES.out 65 hs (by decide))
            have HDA := hid hda
            have HDC := hid hdc
            clear hs hda hdc
            go_wp2_with fail
            refine (HA.out wo hbel _ HDA.out).mono ?_
            rintro e w' ⟨rfl, rfl⟩
            go_wp2_with fail
            refine (content_I k x wo (by omega) (by omega)).mono ?_
            rintro e w5 ⟨rfl, b5⟩
            have hbe5 := Below.next hbel b5
            have ho5 := HO.out.below b5
            clear HOC HBC
            have HOC := hid ho5
            have HBC := hid hbe5
            clear ho5 b5
            go_wp2_with fail
            refine (HRS.out w5 _).mono ?_
            rintro e w' ⟨rfl, rfl⟩
            go_wp2_with (at_builtin; refine wpList_append_own _ rfl _ _ 76 rfl w4.heap.size 80 i1 (.agg #[.int .u8 0, .int .i64 0]) 2 16 Try.underlying76 hj hy0 hy1 hy2 rfl (by decide) _ _ _ rfl (HOC.out.alloc _) ⟨w5.heap.size, 0, none⟩ 1 1 [.int .u8 65, .int .i64 (k : Int)] rfl rfl mark_at (mark_cell _ _) (by unfold maxLen; omega) (by omega) (by have := HBC.out.size; simp; omega) ?_)
            intro v7 w7 hown7 hgrow7 _
            have hb7 : Below w4.heap.size w4 w7 := (HBC.out.alloc HBC.out.size _).grown hgrow7 (by have := HBC.out.size; simp; omega) (fun q hq => (HOC.out.lt q hq).1)
            have hown8 : w7.ownsRow w4.heap.size 80 2 v7 (M ++ [(65, k)]).length (ML (M ++ [(65, k)])) := by rw [ML_snoc, List.length_append]; exact hown7
            rw [← HE.out] at hown8
            obtain ⟨A7, c7, rfl, o7⟩ := ownM_form hown8 rfl
            have HO7 := hid o7
            have HB7 := hid hb7
            clear hown7 hgrow7 hown8 o7 hb7
            go_wp2_with fail
            refine (HCo.out w7 HB7.out _ HDC.out).mono ?_
            rintro e w' ⟨rfl, rfl⟩
            go_wp2_with fail
            go_roundw
            case rel => exact ⟨k + 1, A7, c7, by omega, by go_num, rfl, HO7.out, HB7.out⟩
            case measure => simp [intOf]; omega
          · have HOC := hid HO.out
            have HBC := hid hbel
            have hs := HS0.out (fun h => z1 h.2) (fun h => of_decide_eq_false hdc (HCI.out.2 h.1))
            have HE := hid (HNO.out hs)
            have HDA := hid hda
            have HDC := hid hdc
            clear hs hda hdc
            go_wp2_with fail
            refine (HA.out wo hbel _ HDA.out).mono ?_
            rintro e w' ⟨rfl, rfl⟩
            go_wp2_with fail
            refine (content_I k x wo (by omega) (by omega)).mono ?_
            rintro e w5 ⟨rfl, b5⟩
            have hbe5 := Below.next hbel b5
            have ho5 := HO.out.below b5
            clear HOC HBC
            have HOC := hid ho5
            have HBC := hid hbe5
            clear ho5 b5
            go_wp2_with fail
            refine (HRS.out w5 _).mono ?_
            rintro e w' ⟨rfl, rfl⟩
            go_wp2_with fail
            refine (HCo.out w5 hbe5 _ HDC.out).mono ?_
            rintro e w' ⟨rfl, rfl⟩
            go_wp2_with fail
            go_roundw
            case rel => exact ⟨k + 1, Am, cm, by omega, by go_num, by rw [HE.out], by rw [HE.out]; exact HOC.out, HBC.out⟩
            case measure => simp [intOf]; omega
        · by_cases z1 : Q (x - k) = i
          · by_cases z2 : Q (x - 1 - k) = i
            · exact absurd z2 (HACX.out z1)
            · have HOC := hid HO.out
              have HBC := hid hbel
              have hs := HSA.out ((HAI.out.1 (of_decide_eq_true hda)).2) z1
              have HE := hid (HYES.out 65 hs (by decide))
              have HDA := hid hda
              have HDC := hid hdc
              have hx1 := HPK.out (HCI.out.1 (of_decide_eq_true hdc)).1
              clear hs hda hdc
              go_wp2_with fail
              refine (HA.out wo hbel _ HDA.out).mono ?_
              rintro e w' ⟨rfl, rfl⟩
              go_wp2_with fail
              refine (content_I k x wo (by omega) (by omega)).mono ?_
              rintro e w5 ⟨rfl, b5⟩
              have hbe5 := Below.next hbel b5
              have ho5 := HO.out.below b5
              clear HOC HBC
              have HOC := hid ho5
              have HBC := hid hbe5
              clear ho5 b5
              go_wp2_with fail
              refine (HRS.out w5 _).mono ?_
              rintro e w' ⟨rfl, rfl⟩
              go_wp2_with (at_builtin; refine wpList_append_own _ rfl _ _ 76 rfl w4.heap.size 80 i1 (.agg #[.int .u8 0, .int .i64 0]) 2 16 Try.underlying76 hj hy0 hy1 hy2 rfl (by decide) _ _ _ rfl (HOC.out.alloc _) ⟨w5.heap.size, 0, none⟩ 1 1 [.int .u8 65, .int .i64 (k : Int)] rfl rfl mark_at (mark_cell _ _) (by unfold maxLen; omega) (by omega) (by have := HBC.out.size; simp; omega) ?_)
              intro v7 w7 hown7 hgrow7 _
              have hb7 : Below w4.heap.size w4 w7 := (HBC.out.alloc HBC.out.size _).grown hgrow7 (by have := HBC.out.size; simp; omega) (fun q hq => (HOC.out.lt q hq).1)
              have hown8 : w7.ownsRow w4.heap.size 80 2 v7 (M ++ [(65, k)]).length (ML (M ++ [(65, k)])) := by rw [ML_snoc, List.length_append]; exact hown7
              rw [← HE.out] at hown8
              obtain ⟨A7, c7, rfl, o7⟩ := ownM_form hown8 rfl
              have HO7 := hid o7
              have HB7 := hid hb7
              clear hown7 hgrow7 hown8 o7 hb7
              go_wp2_with fail
              refine (HCo.out w7 HB7.out _ HDC.out).mono ?_
              rintro e w' ⟨rfl, rfl⟩
              go_wp2_with fail
              refine (content_I k (x - 1) w7 (by omega) (by omega)).mono ?_
              rintro e w6 ⟨rfl, b6⟩
              have hbe6 := Below.next HB7.out b6
              have ho6 := HO7.out.below b6
              have HO8 := hid ho6
              have HB8 := hid hbe6
              clear ho6 b6
              go_wp2_with fail
              refine (HRS.out w6 _).mono ?_
              rintro e w' ⟨rfl, rfl⟩
              go_wp2_with fail
              go_roundw
              case rel => exact ⟨k + 1, A7, c7, by omega, by go_num, rfl, HO8.out, HB8.out⟩
              case measure => simp [intOf]; omega
          · by_cases z2 : Q (x - 1 - k) = i
            · have HOC := hid HO.out
              have HBC := hid hbel
              have hs := HSR.out (fun h => z1 h.2) (HCI.out.1 (of_decide_eq_true hdc)) z2
              have HE := hid (HYES.out 82 hs (by decide))
              have HDA := hid hda
              have HDC := hid hdc
              have hx1 := HPK.out (HCI.out.1 (of_decide_eq_true hdc)).1
              clear hs hda hdc
              go_wp2_with fail
              refine (HA.out wo hbel _ HDA.out).mono ?_
              rintro e w' ⟨rfl, rfl⟩
              go_wp2_with fail
              refine (content_I k x wo (by omega) (by omega)).mono ?_
              rintro e w5 ⟨rfl, b5⟩
              have hbe5 := Below.next hbel b5
              have ho5 := HO.out.below b5
              clear HOC HBC
              have HOC := hid ho5
              have HBC := hid hbe5
              clear ho5 b5
              go_wp2_with fail
              refine (HRS.out w5 _).mono ?_
              rintro e w' ⟨rfl, rfl⟩
              go_wp2_with fail
              refine (HCo.out w5 hbe5 _ HDC.out).mono ?_
              rintro e w' ⟨rfl, rfl⟩
              go_wp2_with fail
              refine (content_I k (x - 1) w5 (by omega) (by omega)).mono ?_
              rintro e w6 ⟨rfl, b6⟩
              have hbe6 := Below.next hbe5 b6
              have ho6 := HOC.out.below b6
              clear HOC HBC
              have HOC := hid ho6
              have HBC := hid hbe6
              clear ho6 b6
              go_wp2_with fail
              refine (HRS.out w6 _).mono ?_
              rintro e w' ⟨rfl, rfl⟩
              go_wp2_with (at_builtin; refine wpList_append_own _ rfl _ _ 76 rfl w4.heap.size 80 i1 (.agg #[.int .u8 0, .int .i64 0]) 2 16 Try.underlying76 hj hy0 hy1 hy2 rfl (by decide) _ _ _ rfl (HOC.out.alloc _) ⟨w6.heap.size, 0, none⟩ 1 1 [.int .u8 82, .int .i64 (k : Int)] rfl rfl mark_at (mark_cell _ _) (by unfold maxLen; omega) (by omega) (by have := HBC.out.size; simp; omega) ?_)
              intro v7 w7 hown7 hgrow7 _
              have hb7 : Below w4.heap.size w4 w7 := (HBC.out.alloc HBC.out.size _).grown hgrow7 (by have := HBC.out.size; simp; omega) (fun q hq => (HOC.out.lt q hq).1)
              have hown8 : w7.ownsRow w4.heap.size 80 2 v7 (M ++ [(82, k)]).length (ML (M ++ [(82, k)])) := by rw [ML_snoc, List.length_append]; exact hown7
              rw [← HE.out] at hown8
              obtain ⟨A7, c7, rfl, o7⟩ := ownM_form hown8 rfl
              have HO7 := hid o7
              have HB7 := hid hb7
              clear hown7 hgrow7 hown8 o7 hb7
              go_wp2_with fail
              go_roundw
              case rel => exact ⟨k + 1, A7, c7, by omega, by go_num, rfl, HO7.out, HB7.out⟩
              case measure => simp [intOf]; omega
            · have HOC := hid HO.out
              have HBC := hid hbel
              have hs := HS0.out (fun h => z1 h.2) (fun h => z2 h.2)
              have HE := hid (HNO.out hs)
              have HDA := hid hda
              have HDC := hid hdc
              have hx1 := HPK.out (HCI.out.1 (of_decide_eq_true hdc)).1
              clear hs hda hdc
              go_wp2_with fail
              refine (HA.out wo hbel _ HDA.out).mono ?_
              rintro e w' ⟨rfl, rfl⟩
              go_wp2_with fail
              refine (content_I k x wo (by omega) (by omega)).mono ?_
              rintro e w5 ⟨rfl, b5⟩
              have hbe5 := Below.next hbel b5
              have ho5 := HO.out.below b5
              clear HOC HBC
              have HOC := hid ho5
              have HBC := hid hbe5
              clear ho5 b5
              go_wp2_with fail
              refine (HRS.out w5 _).mono ?_
              rintro e w' ⟨rfl, rfl⟩
              go_wp2_with fail
              refine (HCo.out w5 hbe5 _ HDC.out).mono ?_
              rintro e w' ⟨rfl, rfl⟩
              go_wp2_with fail
              refine (content_I k (x - 1) w5 (by omega) (by omega)).mono ?_
              rintro e w6 ⟨rfl, b6⟩
              have hbe6 := Below.next hbe5 b6
              have ho6 := HOC.out.below b6
              clear HOC HBC
              have HOC := hid ho6
              have HBC := hid hbe6
              clear ho6 b6
              go_wp2_with fail
              refine (HRS.out w6 _).mono ?_
              rintro e w' ⟨rfl, rfl⟩
              go_wp2_with fail
              go_roundw
              case rel => exact ⟨k + 1, Am, cm, by omega, by go_num, by rw [HE.out], by rw [HE.out]; exact HOC.out, HBC.out⟩
              case measure => simp [intOf]; omega
    · have hkl : k = xs.length + 1 := by omega
      have he : sgM xs t i k = sig xs t i := by rw [hkl]; rfl
      rw [he] at HO ⊢
      have HB5 := hid (Below.next HB4.out hbel)
      have HBZ := hid HB4.out.size
      subst hkl
      clear he
      go_wp2_with fail
      go_ret
      exact ⟨Am, cm, rfl, HO.out.more HBZ.out, HB5.out⟩
end Go.Proofs.Ytkbdlhmkiolegaa
/-
  Contracts: marks that are left, and their letters, the program's side.
-/
namespace Go.Proofs.Ytkbdlhmkiolegaa
open Go.RowKit

theorem sizeMark (w : World) : (sizeOf (Try.prog.elem 76)).run Try.prog w = .ok 2 w := by
  obtain ⟨i1, hj, hy0, hy1, hy2⟩ := info_parts Try.infoMark
  have e : Try.prog.elem 76 = 80 := by kernel_rfl
  rw [e]
  simp [sizeOf, typeInfo, hj, hy1]
theorem undMark : Try.prog.underlying 76 = some (.slice (Try.prog.elem 76)) := by kernel_rfl
theorem runM_cut_hi (A : Option Addr) (len c k : Nat) (hk : k ≤ c) (w : World) :
    (Instr.slice 76 (.slice A len c) none (some (.int .i64 k)) none).run Try.prog w = .ok (.slice A k c) w := by
  rw [run_slice_h (ht := undMark) (kh := .i64) (h := (k : Int)) (h0 := by omega) (h2 := by omega), sizeMark]
  simp only [Result.andThen, sliced, Int.toNat_natCast, Nat.sub_zero]
  congr 2
  split
  · rfl
  · cases A <;> rfl
theorem redS_noM {st : List (Nat × Nat)} {m : Nat × Nat} (h : ¬ (m.1 = 82 ∧ 0 < st.length ∧ (st.getD (st.length - 1) (0, 0)).1 = 65)) : redS st m = st ++ [m] := if_neg h
theorem redS_yesM {st : List (Nat × Nat)} {m : Nat × Nat} (h : m.1 = 82 ∧ 0 < st.length ∧ (st.getD (st.length - 1) (0, 0)).1 = 65) : redS st m = st.take (st.length - 1) := if_pos h

set_option maxRecDepth 100000 in
set_option maxHeartbeats 4000000 in
theorem reduced_any {B : Nat} (A : Option Addr) (c : Nat) (M : List (Nat × Nat)) (w : World) (hl : M.length ≤ 1000) (ho : OwnM w B A c M) :
    Calls Try.prog 61 #[.slice A M.length c] w fun e w' => ∃ A' c', e = .returned (.slice A' (red M).length c') ∧ OwnM w' w.heap.size A' c' (red M) ∧ Below w.heap.size w w' := by
  obtain ⟨i1, hj, hy0, hy1, hy2⟩ := info_parts Try.infoMark
  have HM := hid ho
  clear ho
  go_enter Try.func61, Try.ntmps61
  go_wp2_with fail
  go_loopw [3, 9] (fun lv kv wr => ∃ k Al cl, k ≤ M.length ∧ kv = .int .i64 (k : Nat) ∧ lv = .slice Al (red (M.take k)).length cl ∧ OwnM wr w.heap.size Al cl (red (M.take k)) ∧ Below w.heap.size w wr) (fun _ kv _ => M.length - (intOf kv).toNat)
  case atStart => exact ⟨0, none, 0, Nat.zero_le _, rfl, rfl, ownM_nil _ _, Below.refl _ _⟩
  case round =>
    obtain ⟨k, Al, cl, hk, rfl, rfl, hown, hbel⟩ := hrel
    by_cases hlt : k < M.length
    · obtain ⟨g0, hA, -, hg0⟩ := HM.out.at_ (by omega)
      subst hA
      obtain ⟨h1, h2⟩ := HM.out.get hlt
      have h1r := (hbel.cell (p := ⟨g0, 2 * k, none⟩) hg0).trans h1
      have h2r := (hbel.cell (p := ⟨g0, 2 * k + 1, none⟩) hg0).trans h2
      rw [Nat.mul_comm 2 k] at h1r h2r
      have hnx := red_take M k hlt
      have hLk := red_len (M.take k)
      rw [List.length_take] at hLk
      obtain ⟨L, hL⟩ : ∃ L, L = red (M.take k) := ⟨_, rfl⟩
      rw [← hL] at hnx hLk hown ⊢
      obtain ⟨l, hle⟩ : ∃ l, l = (M.getD k (0, 0)).1 := ⟨_, rfl⟩
      obtain ⟨r, hre⟩ : ∃ r, r = (M.getD k (0, 0)).2 := ⟨_, rfl⟩
      rw [show M.getD k (0, 0) = (l, r) by rw [hle, hre]] at hnx
      rw [← hle] at h1r
      rw [← hre] at h2r
      have hL1000 : L.length ≤ 1000 := by omega
      have hcap := hown.cap
      have hwa : Below wr.heap.size wr (wr.alloc (.cells #[.int .u8 (l : Int), .int .i64 (r : Int)] 80)) := (Below.refl _ _).alloc (Nat.le_refl _) _
      have howa := hown.below hwa
      have hba := hbel.alloc hbel.size (.cells #[.int .u8 (l : Int), .int .i64 (r : Int)] 80)
      clear h1 h2 hle hre hL
      by_cases hY : l = 82 ∧ 0 < L.length ∧ (L.getD (L.length - 1) (0, 0)).1 = 65
      · obtain ⟨e82, e0, e65⟩ := hY
        rw [redS_yesM ⟨e82, e0, e65⟩] at hnx
        obtain ⟨g, rfl, -, -⟩ := hown.at_ e0
        obtain ⟨hc1, -⟩ := howa.get (j := L.length - 1) (by omega)
        rw [Nat.mul_comm 2] at hc1
        obtain ⟨y, hy⟩ : ∃ y, y = (L.getD (L.length - 1) (0, 0)).1 := ⟨_, rfl⟩
        rw [← hy] at hc1 e65
        have hd1 : (((l : Nat) : Int) == 82) = true := beq_iff_eq.2 (by omega)
        have hd2 : (((y : Nat) : Int) == 65) = true := beq_iff_eq.2 (by omega)
        have hT := howa.take (L.length - 1) (by omega)
        rw [← hnx] at hT
        have hl2 : (red (M.take (k + 1))).length = L.length - 1 := by rw [hnx, List.length_take]; omega
        have hcut := fun W => runM_cut_hi (some ⟨g, 0, none⟩) L.length cl (L.length - 1) (by omega) W
        have hw : IntKind.i64.wrap ((L.length : Int) - 1) = ((L.length - 1 : Nat) : Int) := by rw [IntWalk.i64_in _ (by omega)]; omega
        have hn2 : ((L.length - 1 : Nat) : Int) < (L.length : Int) := by omega
        have hn1 : L.length - 1 < L.length := by omega
        have HT := hid hT
        have HL2 := hid hl2
        have HBA := hid hba
        obtain ⟨n, hn⟩ : ∃ n, n = L.length := ⟨_, rfl⟩
        rw [← hn] at hc1 hcut hw hn2 hn1 HL2 hL1000 ⊢
        obtain ⟨n1, hn1e⟩ : ∃ n1, n1 = n - 1 := ⟨_, rfl⟩
        rw [← hn1e] at hc1 hcut hw hn2 hn1 HL2
        clear hT hl2 hnx hown howa hba hbel hcap hLk e65 e0 hn hn1e hwa e82 hy
        go_wp2_with fail
        go_roundw
        case rel => exact ⟨k + 1, some ⟨g, 0, none⟩, cl, by omega, by go_num, by rw [HL2.out], HT.out, HBA.out⟩
        case measure => simp [intOf]; omega
      · rw [redS_noM hY] at hnx
        have HNX := hid hnx
        have HOW := hid howa
        have HBA := hid hba
        have finish : ∀ v' w1, w1.ownsRow w.heap.size 80 2 v' (L.length + 1) (ML L ++ [.int .u8 (l : Int), .int .i64 (r : Int)]) → ((wr.alloc (.cells #[.int .u8 (l : Int), .int .i64 (r : Int)] 80)).alloc (.cells #[.int .u8 (l : Int), .int .i64 (r : Int)] 80)).grownBy w1 (Value.slice Al L.length cl).ownBlock →
            ∃ A c, v' = .slice A (red (M.take (k + 1))).length c ∧ OwnM w1 w.heap.size A c (red (M.take (k + 1))) ∧ Below w.heap.size w w1 := fun v' w1 hown' hgrow => by
          have hb1 : Below w.heap.size w w1 := (HBA.out.alloc HBA.out.size _).grown hgrow (by have := HBA.out.size; simp at this ⊢; omega) (fun q hq => (HOW.out.lt q hq).1)
          have hown8 : w1.ownsRow w.heap.size 80 2 v' (red (M.take (k + 1))).length (ML (red (M.take (k + 1)))) := by rw [HNX.out, ML_snoc, List.length_append]; exact hown'
          obtain ⟨A', c', rfl, ho⟩ := ownM_form hown8 rfl
          exact ⟨A', c', rfl, ho, hb1⟩
        have FIN := hid finish
        have hsz := hbel.size
        have HL1 := hid hL1000
        by_cases h82 : l = 82
        · by_cases h0 : 0 < L.length
          · have h65 : ¬ (L.getD (L.length - 1) (0, 0)).1 = 65 := fun h => hY ⟨h82, h0, h⟩
            obtain ⟨g, rfl, -, -⟩ := hown.at_ h0
            obtain ⟨hc1, -⟩ := howa.get (j := L.length - 1) (by omega)
            rw [Nat.mul_comm 2] at hc1
            obtain ⟨y, hy⟩ : ∃ y, y = (L.getD (L.length - 1) (0, 0)).1 := ⟨_, rfl⟩
            rw [← hy] at hc1 h65
            have hd1 : (((l : Nat) : Int) == 82) = true := beq_iff_eq.2 (by omega)
            have hd2 : (((y : Nat) : Int) == 65) = false := beq_eq_false_iff_ne.2 (by omega)
            have hw : IntKind.i64.wrap ((L.length : Int) - 1) = ((L.length - 1 : Nat) : Int) := by rw [IntWalk.i64_in _ (by omega)]; omega
            have hn2 : ((L.length - 1 : Nat) : Int) < (L.length : Int) := by omega
            have hn1 : L.length - 1 < L.length := by omega
            obtain ⟨n1, hn1e⟩ : ∃ n1, n1 = L.length - 1 := ⟨_, rfl⟩
            rw [← hn1e] at hc1 hw hn2 hn1
            clear h82 hnx hown howa hba hbel hcap hLk hy h65 hY hn1e h0 finish hwa
            go_wp2_with (at_builtin; refine wpList_append_own _ rfl _ _ 76 rfl w.heap.size 80 i1 (.agg #[.int .u8 0, .int .i64 0]) 2 16 Try.underlying76 hj hy0 hy1 hy2 rfl (by decide) _ _ _ rfl (HOW.out.alloc _) ⟨wr.heap.size + 1, 0, none⟩ 1 1 [.int .u8 (l : Int), .int .i64 (r : Int)] rfl rfl (by have h := fun j u => mark_at (w := wr.alloc (.cells #[.int .u8 (l : Int), .int .i64 (r : Int)] 80)) (x := .int .u8 (l : Int)) (y := .int .i64 (r : Int)) (t := 80) j u; rw [World.size_alloc] at h; exact h) (mark_cell _ _) (by unfold maxLen; omega) (by omega) (by simp; omega) ?_)
            intro v7 w7 hown7 hgrow7 _
            have HF := hid (FIN.out v7 w7 hown7 hgrow7)
            clear hown7 hgrow7
            go_wp2_with fail
            go_roundw
            case rel => obtain ⟨A, c, e, o, b⟩ := HF.out; exact ⟨k + 1, A, c, by omega, by go_num, e, o, b⟩
            case measure => simp [intOf]; omega
          · have hd1 : (((l : Nat) : Int) == 82) = true := beq_iff_eq.2 (by omega)
            have hL0 : L = [] := List.eq_nil_of_length_eq_zero (by omega)
            subst hL0
            have hw : IntKind.i64.wrap (((([] : List (Nat × Nat)).length : Nat) : Int) - 1) = -1 := by decide
            simp only [List.length_nil] at FIN HOW hw ⊢
            clear h82 hnx hown howa hba hbel hcap hLk hY h0 finish hwa
            go_wp2_with (at_builtin; refine wpList_append_own _ rfl _ _ 76 rfl w.heap.size 80 i1 (.agg #[.int .u8 0, .int .i64 0]) 2 16 Try.underlying76 hj hy0 hy1 hy2 rfl (by decide) _ _ _ rfl (HOW.out.alloc _) ⟨wr.heap.size + 1, 0, none⟩ 1 1 [.int .u8 (l : Int), .int .i64 (r : Int)] rfl rfl (by have h := fun j u => mark_at (w := wr.alloc (.cells #[.int .u8 (l : Int), .int .i64 (r : Int)] 80)) (x := .int .u8 (l : Int)) (y := .int .i64 (r : Int)) (t := 80) j u; rw [World.size_alloc] at h; exact h) (mark_cell _ _) (by unfold maxLen; omega) (by omega) (by simp; omega) ?_)
            intro v7 w7 hown7 hgrow7 _
            have HF := hid (FIN.out v7 w7 hown7 hgrow7)
            clear hown7 hgrow7
            go_wp2_with fail
            go_roundw
            case rel => obtain ⟨A, c, e, o, b⟩ := HF.out; exact ⟨k + 1, A, c, by omega, by go_num, e, o, b⟩
            case measure => simp [intOf]; omega
        · have hd1 : (((l : Nat) : Int) == 82) = false := beq_eq_false_iff_ne.2 (by omega)
          clear h82 hnx hown howa hba hbel hcap hLk hY finish hwa
          go_wp2_with (at_builtin; refine wpList_append_own _ rfl _ _ 76 rfl w.heap.size 80 i1 (.agg #[.int .u8 0, .int .i64 0]) 2 16 Try.underlying76 hj hy0 hy1 hy2 rfl (by decide) _ _ _ rfl (HOW.out.alloc _) ⟨wr.heap.size + 1, 0, none⟩ 1 1 [.int .u8 (l : Int), .int .i64 (r : Int)] rfl rfl (by have h := fun j u => mark_at (w := wr.alloc (.cells #[.int .u8 (l : Int), .int .i64 (r : Int)] 80)) (x := .int .u8 (l : Int)) (y := .int .i64 (r : Int)) (t := 80) j u; rw [World.size_alloc] at h; exact h) (mark_cell _ _) (by unfold maxLen; omega) (by omega) (by simp; omega) ?_)
          intro v7 w7 hown7 hgrow7 _
          have HF := hid (FIN.out v7 w7 hown7 hgrow7)
          clear hown7 hgrow7
          go_wp2_with fail
          go_roundw
          case rel => obtain ⟨A, c, e, o, b⟩ := HF.out; exact ⟨k + 1, A, c, by omega, by go_num, e, o, b⟩
          case measure => simp [intOf]; omega
    · have hke : M.take k = M := List.take_of_length_le (by omega)
      rw [hke] at hown ⊢
      have HO := hid hown
      clear hown hke
      go_wp2_with fail
      go_ret
      exact ⟨Al, cl, rfl, HO.out, hbel⟩

theorem Try.infoU8 : (Try.prog.info? 5).map (fun i => (i.zero, i.size, i.bytes)) = some (some (.int .u8 0), 1, 1) := by kernel_rfl
def LN (M : List (Nat × Nat)) : List Int := M.map fun q => (q.1 : Int)
def BV (xs : List Int) : List Value := xs.map (Value.int .u8)
theorem LN_len (M : List (Nat × Nat)) : (LN M).length = M.length := by simp [LN]
theorem LN_str (M : List (Nat × Nat)) : strOfNums (LN M) = strOf (ltrs M) := by
  simp [strOfNums, strOf, LN, ltrs, Function.comp_def]
theorem BV_get (xs : List Int) (j : Nat) (h : j < xs.length) : (BV xs)[j]? = some (.int .u8 (xs.getD j 0)) := by
  simp [BV, List.getD, h]
theorem u8_at {w : World} {x : Value} {t : TypeId} (j : Nat) (u : Value) (h : [x][j]? = some u) : (w.alloc (.cells #[x] t)).cell? ((⟨w.heap.size, 0, none⟩ : Addr).add j) = some u := by
  match j, h with
  | 0, h => simp at h; subst h; simp [Addr.add]
theorem u8_cell (x : Int) : ∀ u ∈ [Value.int .u8 x], u.oneCell' = true := by
  intro u hu; simp at hu; subst hu; rfl

end Go.Proofs.Ytkbdlhmkiolegaa
/-
  Contracts: the rows whose letter is left, for both arrows of the program (made by genrw.py).
-/
namespace Go.Proofs.Ytkbdlhmkiolegaa
open Go.RowKit

def RN (l : List Nat) : List Int := l.map fun n : Nat => (n : Int)
theorem RN_len (l : List Nat) : (RN l).length = l.length := by simp [RN]
theorem RN_snoc (l : List Nat) (n : Nat) : RN (l ++ [n]) = RN l ++ [(n : Int)] := by simp [RN]
theorem sigM_len31 {xs : List Int} (hl : xs.length ≤ 30) (t : Nat) (i : Int) : (red (sig xs t i)).length ≤ 31 := by
  have := red_len (sig xs t i); have := sig_len (xs := xs) t i; omega

theorem letter_call_up (w : World) : (callMethod (.iface 62 (.agg #[])) "loop.example/g01136/impl.letter" #[]).run Try.prog w = .ok (.enter 117 #[.agg #[]]) w := by kernel_rfl
theorem mk_up (w : World) : (Instr.makeInterface 62 (.agg #[])).run Try.prog w = .ok (.iface 62 (.agg #[])) w := run_makeInterface w 62 (.agg #[]) (by kernel_rfl)
theorem letter_up (w : World) : Calls Try.prog 117 #[.agg #[]] w fun e w' => e = .returned (.int .u8 65) ∧ Below w.heap.size w w' := by
  go_enter Try.func117, Try.ntmps117
  go_wp2
  go_ret
  exact ⟨rfl, (Below.refl _ _).alloc (Nat.le_refl _) _⟩

set_option maxRecDepth 100000 in
set_option maxHeartbeats 8000000 in
theorem rowsLeft_up (A : Option Addr) (c : Nat) (xs : List Int) (t : Nat) (i : Int) (w : World) (hgd : good xs = true) (ht : 2 ≤ t ∧ t ≤ 6) (hno : A = none → xs.length = 0 ∧ c = 0) (hc : Cells w A xs) :
    Calls Try.prog 50 #[.slice A xs.length c, .int .i64 t, .int .i64 i, .iface 62 (.agg #[])] w fun e w' => ∃ A' c', e = .returned (.slice A' (RN (fl (red (sig xs t i)) 65)).length c') ∧ Own w' w.heap.size A' c' (RN (fl (red (sig xs t i)) 65)) ∧ Below w.heap.size w w' := by
  obtain ⟨i0, hi, hz0, hz1, hz2⟩ := info_parts Try.infoInt
  have hsl := sig_len (xs := xs) t i
  have hg30 := good_len hgd
  have HSG := hid (signatureOf_any A c xs t i w hgd ht hno hc)
  have hrl := sigM_len31 hg30 t i
  have HRD := hid fun A1 c1 W (h : OwnM W w.heap.size A1 c1 (sig xs t i)) => reduced_any A1 c1 (sig xs t i) W (by omega) h
  obtain ⟨S, hS⟩ : ∃ S, S = sig xs t i := ⟨_, rfl⟩
  rw [← hS] at HSG HRD hrl
  rw [← hS]
  obtain ⟨L, hL⟩ : ∃ L, L = red S := ⟨_, rfl⟩
  rw [← hL] at HRD hrl
  rw [← hL]
  have hcall := letter_call_up
  clear hsl hS hL
  go_enter Try.func50, Try.ntmps50
  go_wp2_with fail
  refine HSG.out.mono ?_
  rintro e w1 ⟨A1, c1, rfl, o1, b1⟩
  go_wp2_with fail
  refine (HRD.out A1 c1 w1 o1).mono ?_
  rintro e w2 ⟨A2, c2, rfl, o2, b2⟩
  have HM := hid o2
  have HB2 := hid (Below.next b1 b2)
  clear o1 o2 b1 b2
  go_wp2_with fail
  go_loopw [9, 18] (fun lv kv wr => ∃ k Al cl, k ≤ L.length ∧ kv = .int .i64 (k : Nat) ∧ lv = .slice Al (RN (fl (L.take k) 65)).length cl ∧ Own wr w2.heap.size Al cl (RN (fl (L.take k) 65)) ∧ Below w2.heap.size w2 wr) (fun _ kv _ => L.length - (intOf kv).toNat)
  case atStart => exact ⟨0, none, 0, Nat.zero_le _, rfl, rfl, own_nil _ _, Below.refl _ _⟩
  case round =>
    obtain ⟨k, Al, cl, hk, rfl, rfl, hown, hbel⟩ := hrel
    by_cases hlt : k < L.length
    · obtain ⟨g0, hA, -, hg0⟩ := HM.out.at_ (by omega)
      subst hA
      obtain ⟨h1, h2⟩ := HM.out.get hlt
      have h1r := (hbel.cell (p := ⟨g0, 2 * k, none⟩) hg0).trans h1
      have h2r := (hbel.cell (p := ⟨g0, 2 * k + 1, none⟩) hg0).trans h2
      rw [Nat.mul_comm 2 k] at h1r h2r
      have hyes := fl_take_yes (l := 65) hlt
      have hnop := fl_take_no (l := 65) hlt
      have hfl := fl_le (L.take k) 65
      rw [List.length_take] at hfl
      obtain ⟨l, hle⟩ : ∃ l, l = (L.getD k (0, 0)).1 := ⟨_, rfl⟩
      obtain ⟨r, hre⟩ : ∃ r, r = (L.getD k (0, 0)).2 := ⟨_, rfl⟩
      rw [← hle] at h1r hyes hnop
      rw [← hre] at h2r hyes
      obtain ⟨wa, hwa⟩ : ∃ wa, wa = wr.alloc (.cells #[.int .u8 (l : Int), .int .i64 (r : Int)] 80) := ⟨_, rfl⟩
      have za : Box2 wa wr.heap.size 80 (.int .u8 l) (.int .i64 r) := by rw [hwa]; exact Box2.new _ _ _ _
      have ba : Below w2.heap.size w2 wa := by rw [hwa]; exact hbel.alloc hbel.size _
      have oa : Own wa w2.heap.size Al cl (RN (fl (L.take k) 65)) := by rw [hwa]; exact hown.below ((Below.refl _ _).alloc (Nat.le_refl _) _)
      have zd : Box2 wa.drew wr.heap.size 80 (.int .u8 l) (.int .i64 r) := za
      have bd : Below w2.heap.size w2 wa.drew := below_drewN ba 1
      have od : Own wa.drew w2.heap.size Al cl (RN (fl (L.take k) 65)) := oa.drewN 1
      have HWA := hid hwa
      have HZD := hid zd
      have HBD := hid bd
      have HOD := hid od
      have fd := zd.cell0
      have hrn := RN_len (fl (L.take k) 65)
      have hX31 : (RN (fl (L.take k) 65)).length ≤ 31 := by omega
      have HHY := hid hyes
      have HHN := hid hnop
      clear h1 h2 hle hre hwa za ba oa zd bd od hown hyes hnop hrn hfl
      by_cases h65 : l = 65
      · have hd : (((l : Nat) : Int) == 65) = true := beq_iff_eq.2 (by omega)
        have HE := hid (HHY.out h65)
        clear h65
        go_wp2_with fail
        rw [← HWA.out]
        go_region_with (go_at_call 117; refine (letter_up _).mono ?_; rintro e w3 ⟨rfl, b3⟩; have z3 := HZD.out.next b3; have p3 := z3.cell0; have q3 := z3.cell1; have B3 := Below.next HBD.out b3; have o3 := HOD.out.below b3; have HO3 := hid o3; have HB3 := hid B3; clear z3 b3 o3 B3)
        all_goals
          go_wp2_with (at_builtin; refine wpList_append_own _ rfl _ _ 22 rfl w2.heap.size 3 i0 (.int .i64 0) 1 8 Try.underlying22 hi hz0 hz1 hz2 rfl (by decide) _ _ _ rfl (HO3.out.alloc _) ⟨w3.heap.size, 0, none⟩ 1 1 [.int .i64 (r : Int)] rfl rfl one_at (one_cell _) (by unfold maxLen; omega) (by omega) (by have := HB3.out.size; simp; omega) ?_)
          intro v7 w7 hown7 hgrow7 _
          have hb7 : Below w2.heap.size w2 w7 := (HB3.out.alloc HB3.out.size _).grown hgrow7 (by have := HB3.out.size; simp; omega) (fun q hq => (HO3.out.lt q hq).1)
          have hown8 := own_snoc (show RN (fl (L.take (k + 1)) 65) = RN (fl (L.take k) 65) ++ [(r : Int)] by rw [HE.out, RN_snoc]) hown7
          obtain ⟨A7, c7, rfl, o7⟩ := own_form hown8 rfl
          have HO7 := hid o7
          have HB7 := hid hb7
          clear hown7 hgrow7 hown8 o7 hb7
          go_wp2_with fail
          go_roundw
          case rel => exact ⟨k + 1, A7, c7, by omega, by go_num, rfl, HO7.out, HB7.out⟩
          case measure => simp [intOf]; omega
      · have hd : (((l : Nat) : Int) == 65) = false := beq_eq_false_iff_ne.2 (by omega)
        have HE := hid (HHN.out h65)
        clear h65
        go_wp2_with fail
        rw [← HWA.out]
        go_region_with (go_at_call 117; refine (letter_up _).mono ?_; rintro e w3 ⟨rfl, b3⟩; have z3 := HZD.out.next b3; have p3 := z3.cell0; have q3 := z3.cell1; have B3 := Below.next HBD.out b3; have o3 := HOD.out.below b3; have HO3 := hid o3; have HB3 := hid B3; clear z3 b3 o3 B3)
        all_goals
          go_wp2_with fail
          go_roundw
          case rel => exact ⟨k + 1, Al, cl, by omega, by go_num, by rw [HE.out], by rw [HE.out]; exact HO3.out, HB3.out⟩
          case measure => simp [intOf]; omega
    · have hke : L.take k = L := List.take_of_length_le (by omega)
      rw [hke] at hown ⊢
      have HO := hid hown
      have HB5 := hid (Below.next HB2.out hbel)
      have HBZ := hid HB2.out.size
      clear hown hke
      go_wp2_with fail
      go_ret
      exact ⟨Al, cl, rfl, HO.out.more HBZ.out, HB5.out⟩

theorem letter_call_down (w : World) : (callMethod (.iface 50 (.agg #[])) "loop.example/g01136/impl.letter" #[]).run Try.prog w = .ok (.enter 112 #[.agg #[]]) w := by kernel_rfl
theorem mk_down (w : World) : (Instr.makeInterface 50 (.agg #[])).run Try.prog w = .ok (.iface 50 (.agg #[])) w := run_makeInterface w 50 (.agg #[]) (by kernel_rfl)
theorem letter_down (w : World) : Calls Try.prog 112 #[.agg #[]] w fun e w' => e = .returned (.int .u8 82) ∧ Below w.heap.size w w' := by
  go_enter Try.func112, Try.ntmps112
  go_wp2
  go_ret
  exact ⟨rfl, (Below.refl _ _).alloc (Nat.le_refl _) _⟩

set_option maxRecDepth 100000 in
set_option maxHeartbeats 8000000 in
theorem rowsLeft_down (A : Option Addr) (c : Nat) (xs : List Int) (t : Nat) (i : Int) (w : World) (hgd : good xs = true) (ht : 2 ≤ t ∧ t ≤ 6) (hno : A = none → xs.length = 0 ∧ c = 0) (hc : Cells w A xs) :
    Calls Try.prog 50 #[.slice A xs.length c, .int .i64 t, .int .i64 i, .iface 50 (.agg #[])] w fun e w' => ∃ A' c', e = .returned (.slice A' (RN (fl (red (sig xs t i)) 82)).length c') ∧ Own w' w.heap.size A' c' (RN (fl (red (sig xs t i)) 82)) ∧ Below w.heap.size w w' := by
  obtain ⟨i0, hi, hz0, hz1, hz2⟩ := info_parts Try.infoInt
  have hsl := sig_len (xs := xs) t i
  have hg30 := good_len hgd
  have HSG := hid (signatureOf_any A c xs t i w hgd ht hno hc)
  have hrl := sigM_len31 hg30 t i
  have HRD := hid fun A1 c1 W (h : OwnM W w.heap.size A1 c1 (sig xs t i)) => reduced_any A1 c1 (sig xs t i) W (by omega) h
  obtain ⟨S, hS⟩ : ∃ S, S = sig xs t i := ⟨_, rfl⟩
  rw [← hS] at HSG HRD hrl
  rw [← hS]
  obtain ⟨L, hL⟩ : ∃ L, L = red S := ⟨_, rfl⟩
  rw [← hL] at HRD hrl
  rw [← hL]
  have hcall := letter_call_down
  clear hsl hS hL
  go_enter Try.func50, Try.ntmps50
  go_wp2_with fail
  refine HSG.out.mono ?_
  rintro e w1 ⟨A1, c1, rfl, o1, b1⟩
  go_wp2_with fail
  refine (HRD.out A1 c1 w1 o1).mono ?_
  rintro e w2 ⟨A2, c2, rfl, o2, b2⟩
  have HM := hid o2
  have HB2 := hid (Below.next b1 b2)
  clear o1 o2 b1 b2
  go_wp2_with fail
  go_loopw [9, 18] (fun lv kv wr => ∃ k Al cl, k ≤ L.length ∧ kv = .int .i64 (k : Nat) ∧ lv = .slice Al (RN (fl (L.take k) 82)).length cl ∧ Own wr w2.heap.size Al cl (RN (fl (L.take k) 82)) ∧ Below w2.heap.size w2 wr) (fun _ kv _ => L.length - (intOf kv).toNat)
  case atStart => exact ⟨0, none, 0, Nat.zero_le _, rfl, rfl, own_nil _ _, Below.refl _ _⟩
  case round =>
    obtain ⟨k, Al, cl, hk, rfl, rfl, hown, hbel⟩ := hrel
    by_cases hlt : k < L.length
    · obtain ⟨g0, hA, -, hg0⟩ := HM.out.at_ (by omega)
      subst hA
      obtain ⟨h1, h2⟩ := HM.out.get hlt
      have h1r := (hbel.cell (p := ⟨g0, 2 * k, none⟩) hg0).trans h1
      have h2r := (hbel.cell (p := ⟨g0, 2 * k + 1, none⟩) hg0).trans h2
      rw [Nat.mul_comm 2 k] at h1r h2r
      have hyes := fl_take_yes (l := 82) hlt
      have hnop := fl_take_no (l := 82) hlt
      have hfl := fl_le (L.take k) 82
      rw [List.length_take] at hfl
      obtain ⟨l, hle⟩ : ∃ l, l = (L.getD k (0, 0)).1 := ⟨_, rfl⟩
      obtain ⟨r, hre⟩ : ∃ r, r = (L.getD k (0, 0)).2 := ⟨_, rfl⟩
      rw [← hle] at h1r hyes hnop
      rw [← hre] at h2r hyes
      obtain ⟨wa, hwa⟩ : ∃ wa, wa = wr.alloc (.cells #[.int .u8 (l : Int), .int .i64 (r : Int)] 80) := ⟨_, rfl⟩
      have za : Box2 wa wr.heap.size 80 (.int .u8 l) (.int .i64 r) := by rw [hwa]; exact Box2.new _ _ _ _
      have ba : Below w2.heap.size w2 wa := by rw [hwa]; exact hbel.alloc hbel.size _
      have oa : Own wa w2.heap.size Al cl (RN (fl (L.take k) 82)) := by rw [hwa]; exact hown.below ((Below.refl _ _).alloc (Nat.le_refl _) _)
      have zd : Box2 wa.drew wr.heap.size 80 (.int .u8 l) (.int .i64 r) := za
      have bd : Below w2.heap.size w2 wa.drew := below_drewN ba 1
      have od : Own wa.drew w2.heap.size Al cl (RN (fl (L.take k) 82)) := oa.drewN 1
      have HWA := hid hwa
      have HZD := hid zd
      have HBD := hid bd
      have HOD := hid od
      have fd := zd.cell0
      have hrn := RN_len (fl (L.take k) 82)
      have hX31 : (RN (fl (L.take k) 82)).length ≤ 31 := by omega
      have HHY := hid hyes
      have HHN := hid hnop
      clear h1 h2 hle hre hwa za ba oa zd bd od hown hyes hnop hrn hfl
      by_cases h65 : l = 82
      · have hd : (((l : Nat) : Int) == 82) = true := beq_iff_eq.2 (by omega)
        have HE := hid (HHY.out h65)
        clear h65
        go_wp2_with fail
        rw [← HWA.out]
        go_region_with (go_at_call 112; refine (letter_down _).mono ?_; rintro e w3 ⟨rfl, b3⟩; have z3 := HZD.out.next b3; have p3 := z3.cell0; have q3 := z3.cell1; have B3 := Below.next HBD.out b3; have o3 := HOD.out.below b3; have HO3 := hid o3; have HB3 := hid B3; clear z3 b3 o3 B3)
        all_goals
          go_wp2_with (at_builtin; refine wpList_append_own _ rfl _ _ 22 rfl w2.heap.size 3 i0 (.int .i64 0) 1 8 Try.underlying22 hi hz0 hz1 hz2 rfl (by decide) _ _ _ rfl (HO3.out.alloc _) ⟨w3.heap.size, 0, none⟩ 1 1 [.int .i64 (r : Int)] rfl rfl one_at (one_cell _) (by unfold maxLen; omega) (by omega) (by have := HB3.out.size; simp; omega) ?_)
          intro v7 w7 hown7 hgrow7 _
          have hb7 : Below w2.heap.size w2 w7 := (HB3.out.alloc HB3.out.size _).grown hgrow7 (by have := HB3.out.size; simp; omega) (fun q hq => (HO3.out.lt q hq).1)
          have hown8 := own_snoc (show RN (fl (L.take (k + 1)) 82) = RN (fl (L.take k) 82) ++ [(r : Int)] by rw [HE.out, RN_snoc]) hown7
          obtain ⟨A7, c7, rfl, o7⟩ := own_form hown8 rfl
          have HO7 := hid o7
          have HB7 := hid hb7
          clear hown7 hgrow7 hown8 o7 hb7
          go_wp2_with fail
          go_roundw
          case rel => exact ⟨k + 1, A7, c7, by omega, by go_num, rfl, HO7.out, HB7.out⟩
          case measure => simp [intOf]; omega
      · have hd : (((l : Nat) : Int) == 82) = false := beq_eq_false_iff_ne.2 (by omega)
        have HE := hid (HHN.out h65)
        clear h65
        go_wp2_with fail
        rw [← HWA.out]
        go_region_with (go_at_call 112; refine (letter_down _).mono ?_; rintro e w3 ⟨rfl, b3⟩; have z3 := HZD.out.next b3; have p3 := z3.cell0; have q3 := z3.cell1; have B3 := Below.next HBD.out b3; have o3 := HOD.out.below b3; have HO3 := hid o3; have HB3 := hid B3; clear z3 b3 o3 B3)
        all_goals
          go_wp2_with fail
          go_roundw
          case rel => exact ⟨k + 1, Al, cl, by omega, by go_num, by rw [HE.out], by rw [HE.out]; exact HO3.out, HB3.out⟩
          case measure => simp [intOf]; omega
    · have hke : L.take k = L := List.take_of_length_le (by omega)
      rw [hke] at hown ⊢
      have HO := hid hown
      have HB5 := hid (Below.next HB2.out hbel)
      have HBZ := hid HB2.out.size
      clear hown hke
      go_wp2_with fail
      go_ret
      exact ⟨Al, cl, rfl, HO.out.more HBZ.out, HB5.out⟩
end Go.Proofs.Ytkbdlhmkiolegaa
