/-
  Several texts in one.
-/
import Derived.Test.YtmjncedijddmmaaR26
import Derived.Test.YtmjncedijddmmaaR27
import Derived.Test.YtmjncedijddmmaaR09
/-
  Contracts: a bead put to another place, and LiftBead, of the model.
-/
namespace Go.Proofs.Ytmjncedijddmmaa
open Go.RowKit

theorem own_at_len' {w : World} {B : Nat} {A : Option Addr} {c n : Nat} {xs : List Int} (h : Own w B A c xs) (e : xs.length = n) : w.ownsRow B 3 1 (.slice A n c) n (IL xs) := by subst e; exact h
theorem own_of_len' {w : World} {B : Nat} {A : Option Addr} {c n : Nat} {xs : List Int} (h : w.ownsRow B 3 1 (.slice A n c) n (IL xs)) (e : xs.length = n) : Own w B A c xs := by subst e; exact h
theorem mvL_len (a b : Int) (xs : List Int) : (mvL a b xs).length = xs.length := by simp [mvL]
theorem mvL_get (a b : Int) (xs : List Int) (k : Nat) (hk : k < xs.length) : (mvL a b xs).getD k 0 = mvB a b (xs.getD k 0) := by
  unfold mvL
  rw [List.getD_eq_getElem?_getD, List.getElem?_map, List.getElem?_eq_getElem hk, List.getD_eq_getElem?_getD, List.getElem?_eq_getElem hk]; rfl
theorem ins_take_facts {ys : List Int} (h : ys.Nodup) (k : Nat) (hk : k < ys.length) : (insF (ys.take k)).length = k ∧ ∀ j, j < (insF (ys.take k)).length → (insF (ys.take k)).getD j 0 ≠ ys.getD k 0 := by
  have hn : (ys.take k).Nodup := (List.take_sublist k ys).nodup h
  obtain ⟨_, h2, h3⟩ := insF_all hn
  have hl : (ys.take k).length = k := by rw [List.length_take]; omega
  refine ⟨by rw [h3, hl], fun j hj e => ?_⟩
  have hm := (h2 _).1 (mem_getD.2 ⟨j, hj, rfl⟩)
  rw [e] at hm
  have hs : ys = ys.take k ++ ys.drop k := (List.take_append_drop k ys).symm
  rw [hs, List.nodup_append] at h
  refine h.2.2 _ hm _ ?_ rfl
  rw [drop_cons ys k hk]; simp

set_option maxRecDepth 100000 in
set_option maxHeartbeats 4000000 in
theorem abPut_any (r : Int) (A : Option Addr) (c : Nat) (xs : List Int) (a b : Int) (w : World) (hl : xs.length ≤ 40) (hc : Cells w A xs) (hn : (mvL a b xs).Nodup) :
    Calls Try.prog 45 #[.agg #[.int .i64 r, .slice A xs.length c], .int .i64 a, .int .i64 b] w fun e w' => ∃ A' c', e = .returned (.agg #[.int .i64 r, .slice A' xs.length c']) ∧ Own w' w.heap.size A' c' (insF (mvL a b xs)) ∧ Below w.heap.size w w' := by
  obtain ⟨w0, hw0⟩ : ∃ w0, w0 = ((w.alloc (.cells #[.int .i64 r, .slice A xs.length c] 56)).alloc (.cells #[.int .i64 0, .slice none 0 0] 56)).alloc (.cells #[.int .i64 r, .slice none 0 0] 56) := ⟨_, rfl⟩
  have X0 : Hid (Box2 w0 w.heap.size 56 (.int .i64 r) (.slice A xs.length c)) := hid (by rw [hw0]; exact ((Box2.new w _ _ _).alloc _).alloc _)
  have Y0 : Hid (Box2 w0 (w.heap.size + 1) 56 (.int .i64 0) (.slice none 0 0)) := hid (by
    rw [hw0]; have h := (Box2.new (w.alloc (.cells #[.int .i64 r, .slice A xs.length c] 56)) 56 (.int .i64 0) (.slice none 0 0)).alloc (.cells #[.int .i64 r, .slice none 0 0] 56); rw [World.size_alloc] at h; exact h)
  have Z0 : Hid (Box2 w0 (w.heap.size + 1 + 1) 56 (.int .i64 r) (.slice none 0 0)) := hid (by
    rw [hw0]; have h := Box2.new ((w.alloc (.cells #[.int .i64 r, .slice A xs.length c] 56)).alloc (.cells #[.int .i64 0, .slice none 0 0] 56)) 56 (.int .i64 r) (.slice none 0 0); rw [World.size_alloc, World.size_alloc] at h; exact h)
  have b0 : Below w.heap.size w w0 := by rw [hw0]; exact (((Below.refl _ _).alloc (Nat.le_refl _) _).alloc (by simp) _).alloc (by simp; omega) _
  have hs0 : w0.heap.size = w.heap.size + 1 + 1 + 1 := by rw [hw0]; simp
  have h0 : ((w.alloc (.cells #[.int .i64 r, .slice A xs.length c] 56)).alloc (.cells #[.int .i64 0, .slice none 0 0] 56)).cell? ⟨w.heap.size, 0, none⟩ = some (.int .i64 r) := ((Box2.new w 56 (.int .i64 r) (.slice A xs.length c)).alloc _).cell0
  have h1 := X0.out.cell1
  rw [hw0] at h1
  have HW := hid hw0
  have HN := hid fun k hk => ins_take_facts hn k hk
  have HLM := hid (mvL_len a b xs)
  have HLM2 := hid (show (insF (mvL a b xs)).length = xs.length by rw [(insF_all hn).2.2, mvL_len])
  clear hw0 hn
  go_enter Try.func45, Try.ntmps45
  go_wp2_with fail
  rw [← HW.out]
  clear h0 h1
  go_loopw [16] (fun i wr => ∃ k : Nat, k ≤ xs.length ∧ i = .int .i64 k ∧ (∃ A1 c1, Hid (Own wr (w.heap.size + 1 + 1 + 1) A1 c1 (insF ((mvL a b xs).take k))) ∧ Hid (Box2 wr (w.heap.size + 1 + 1) 56 (.int .i64 r) (.slice A1 k c1))) ∧ Hid (Box2 wr (w.heap.size + 1) 56 (.int .i64 0) (.slice none 0 0)) ∧ Below w.heap.size w wr ∧ w0.heap.size ≤ wr.heap.size) (fun i _ => xs.length - (intOf i).toNat)
  case atStart => exact ⟨0, Nat.zero_le _, rfl, ⟨none, 0, hid (own_nil _ _), Z0⟩, Y0, b0, Nat.le_refl _⟩
  case round =>
    obtain ⟨k, hk, rfl, ⟨A1, c1, HO, HZ⟩, HY, hbel, hsz⟩ := hrel
    by_cases hlt : k < xs.length
    · obtain ⟨bb, oo, rfl, hck⟩ := (hc.later hbel).at' hlt
      obtain ⟨hl1, hl2⟩ := HN.out k (by rw [HLM.out]; exact hlt)
      have hts := insF_take (mvL a b xs) k (by rw [HLM.out]; exact hlt)
      rw [mvL_get a b xs k hlt] at hl2 hts
      obtain ⟨L, hL⟩ : ∃ L, L = insF ((mvL a b xs).take k) := ⟨_, rfl⟩
      rw [← hL] at HO hl1 hl2 hts
      obtain ⟨x, hx⟩ : ∃ x, x = xs.getD k 0 := ⟨_, rfl⟩
      rw [← hx] at hck hl2 hts
      have hput := l1Put_any A1 c1 L (mvB a b x) wr (by omega) HO.out hl2
      rw [hl1] at hput
      have HPU := hid hput
      have HTS := hid hts
      have hf0 := HZ.out.cell1
      clear hL hx hl2 hts hput X0 Y0 Z0
      by_cases hxa : x = a
      · have hm : mvB a b x = b := by simp [mvB, hxa]
        rw [hm] at HPU HTS
        clear hm
        go_wp2_with fail
        refine HPU.out.mono ?_
        rintro e w4 ⟨A4, c4, rfl, o4, b4⟩
        have z4 := HZ.out.next b4
        have f1 := z4.froz 1
        have f2 := z4.cell1
        have HZ5 := hid (z4.set1 (.slice A4 (k + 1) c4))
        have HY5 := hid ((HY.out.next b4).other (g' := w.heap.size + 1 + 1) (k := 1) (by omega) (.slice A4 (k + 1) c4))
        rw [← HTS.out] at o4
        have o5 := own_set_other (g := w.heap.size + 1 + 1) (k := 1) (u := .slice A4 (k + 1) c4) (show w4.ownsRow (w.heap.size + 1 + 1 + 1) 3 1 _ _ _ from o4.more (by omega)) (by omega)
        have HO5 : Hid (Own (w4.setCell ⟨w.heap.size + 1 + 1, 1, none⟩ (.slice A4 (k + 1) c4)) (w.heap.size + 1 + 1 + 1) A4 c4 (insF ((mvL a b xs).take (k + 1)))) := hid o5
        have B5 := Below.next hbel b4
        have hs4 := b4.size
        clear z4 o4 o5
        go_wp2_with fail
        go_roundw
        case rel => exact ⟨k + 1, by omega, by go_num, ⟨A4, c4, HO5, HZ5⟩, HY5, B5.setCell (by simp; omega) _, by simp; omega⟩
        case measure => simp [intOf]; omega
      · have hm : mvB a b x = x := by simp [mvB, hxa]
        rw [hm] at HPU HTS
        clear hm
        go_wp2_with fail
        refine HPU.out.mono ?_
        rintro e w4 ⟨A4, c4, rfl, o4, b4⟩
        have z4 := HZ.out.next b4
        have f1 := z4.froz 1
        have f2 := z4.cell1
        have HZ5 := hid (z4.set1 (.slice A4 (k + 1) c4))
        have HY5 := hid ((HY.out.next b4).other (g' := w.heap.size + 1 + 1) (k := 1) (by omega) (.slice A4 (k + 1) c4))
        rw [← HTS.out] at o4
        have o5 := own_set_other (g := w.heap.size + 1 + 1) (k := 1) (u := .slice A4 (k + 1) c4) (show w4.ownsRow (w.heap.size + 1 + 1 + 1) 3 1 _ _ _ from o4.more (by omega)) (by omega)
        have HO5 : Hid (Own (w4.setCell ⟨w.heap.size + 1 + 1, 1, none⟩ (.slice A4 (k + 1) c4)) (w.heap.size + 1 + 1 + 1) A4 c4 (insF ((mvL a b xs).take (k + 1)))) := hid o5
        have B5 := Below.next hbel b4
        have hs4 := b4.size
        clear z4 o4 o5
        go_wp2_with fail
        go_roundw
        case rel => exact ⟨k + 1, by omega, by go_num, ⟨A4, c4, HO5, HZ5⟩, HY5, B5.setCell (by simp; omega) _, by simp; omega⟩
        case measure => simp [intOf]; omega
    · have hkl : k = xs.length := by omega
      subst hkl
      rw [List.take_of_length_le (by rw [HLM.out]; exact Nat.le_refl _)] at HO
      have f1 := HZ.out.cell0
      have f2 := HZ.out.cell1
      have y1 := HY.out
      have f3 := y1.cell0
      have f4 := y1.froz 0
      have y2 := y1.set0 (.int .i64 r)
      have f5 := y2.cell1
      have f6 := y2.froz 1
      have Y3 := hid (y2.set1 (.slice A1 xs.length c1))
      have hlen := HLM2.out
      have HO6 := hid (own_set_other (g := w.heap.size + 1) (k := 1) (u := .slice A1 xs.length c1) (own_set_other (g := w.heap.size + 1) (k := 0) (u := .int .i64 r) (show wr.ownsRow (w.heap.size + 1 + 1 + 1) 3 1 (.slice A1 xs.length c1) xs.length (IL (insF (mvL a b xs))) from own_at_len' HO.out hlen) (by omega)) (by omega))
      have HLEN := hid hlen
      clear y1 y2 hlen X0 Y0 Z0
      go_wp2_with fail
      refine bodyPost_ret (v := .agg #[.int .i64 r, .slice A1 xs.length c1]) ?_ rfl ⟨A1, c1, rfl, Own.more (own_of_len' HO6.out HLEN.out) (by omega), (hbel.setCell (by simp) _).setCell (by simp) _⟩
      exact results_cell_row rfl _ _ (w.heap.size + 1) 56 _ (0, 0) _ rfl Y3.out Try.underlying56 rfl (by kernel_rfl)
end Go.Proofs.Ytmjncedijddmmaa
/-
  Contracts: the abacus with rows on its runners, of the model.
-/
namespace Go.Proofs.Ytmjncedijddmmaa
open Go.RowKit

theorem ins_next {P : List Int} {y : Int} (h : (P ++ [y]).Nodup) : (insF P).length = P.length ∧ (∀ j, j < (insF P).length → (insF P).getD j 0 ≠ y) ∧ insF (P ++ [y]) = insL (insF P) y := by
  rw [List.nodup_append] at h
  obtain ⟨_, h2, h3⟩ := insF_all h.1
  refine ⟨h3, fun j hj e => ?_, insF_snoc P y⟩
  have hm := (h2 _).1 (mem_getD.2 ⟨j, hj, rfl⟩)
  rw [e] at hm
  exact h.2.2 y hm y (by simp) rfl
theorem abfL_sub {t : Nat} {R : Nat → List Int} (k : Nat) : ∀ d, (abfL t R k).Sublist (abfL t R (k + d))
  | 0 => List.Sublist.refl _
  | d + 1 => (abfL_sub k d).trans (by rw [show k + (d + 1) = k + d + 1 by omega, abfL]; exact List.sublist_append_left _ _)
theorem abfL_step {t : Nat} {R : Nat → List Int} {k m : Nat} (hm : m < (R k).length) :
    abfL t R k ++ ((R k).take (m + 1)).map (fun x => x * (t : Int) + (k : Int)) = (abfL t R k ++ ((R k).take m).map (fun x => x * (t : Int) + (k : Int))) ++ [(R k).getD m 0 * (t : Int) + (k : Int)] := by
  rw [take_snoc (R k) m hm _ rfl, List.map_append, ← List.append_assoc]; rfl
theorem abfL_pre {t : Nat} {R : Nat → List Int} {k m : Nat} (hk : k < t) : (abfL t R k ++ ((R k).take m).map (fun x => x * (t : Int) + (k : Int))).Sublist (abfL t R t) := by
  obtain ⟨d, hd⟩ : ∃ d, t = k + 1 + d := ⟨t - (k + 1), by omega⟩
  have h1 : (abfL t R k ++ ((R k).take m).map (fun x => x * (t : Int) + (k : Int))).Sublist (abfL t R (k + 1)) := by
    rw [abfL]
    exact (List.Sublist.refl _).append ((List.take_sublist m (R k)).map _)
  refine h1.trans ?_
  have := abfL_sub (t := t) (R := R) (k + 1) d
  rw [← hd] at this; exact this

set_option maxRecDepth 100000 in
set_option maxHeartbeats 4000000 in
theorem abFrom_any (A : Option Addr) (c : Nat) (rows : List (List Int)) (t : Nat) (w : World) (ht : t = rows.length) (h6 : 1 ≤ t ∧ t ≤ 6) (hn : (abfL t (fun i => rows.getD i []) t).Nodup) (hl : (abfL t (fun i => rows.getD i []) t).length ≤ 900)
    (hb : ∀ i, i < t → (rows.getD i []).length ≤ 1000 ∧ ∀ j, j < (rows.getD i []).length → 0 ≤ (rows.getD i []).getD j 0 ∧ (rows.getD i []).getD j 0 ≤ 1000) (hc : Cells2 w A rows) :
    Calls Try.prog 86 #[.slice A t c] w fun e w' => ∃ A' c', e = .returned (.agg #[.int .i64 t, .slice A' (abfL t (fun i => rows.getD i []) t).length c']) ∧ Own w' w.heap.size A' c' (insF (abfL t (fun i => rows.getD i []) t)) ∧ Below w.heap.size w w' := by
  obtain ⟨R, hR⟩ : ∃ R : Nat → List Int, R = fun i => rows.getD i [] := ⟨_, rfl⟩
  obtain ⟨Pt, Ct, hA1, hA2⟩ := hc
  rw [← ht] at hA1 hA2
  have hA1' : 0 < t → ∃ b o, A = some ⟨b, o, none⟩ ∧ ∀ j, j < t → w.cell? ⟨b, o + j, none⟩ = some (.slice (Pt j) (R j).length (Ct j)) := by rw [hR]; exact hA1
  have hA2' : ∀ j, j < t → Cells w (Pt j) (R j) := by rw [hR]; exact hA2
  have hb' : ∀ i, i < t → (R i).length ≤ 1000 ∧ ∀ j, j < (R i).length → 0 ≤ (R i).getD j 0 ∧ (R i).getD j 0 ≤ 1000 := by rw [hR]; exact hb
  rw [← hR] at hn hl ⊢
  have HA1 := hid hA1'; have HA2 := hid hA2'; have HB := hid hb'
  clear hA1 hA2 hA1' hA2' hb hb' hR ht
  obtain ⟨w0, hw0⟩ : ∃ w0, w0 = (w.alloc (.cells #[.int .i64 0, .slice none 0 0] 56)).alloc (.cells #[.int .i64 t, .slice none 0 0] 56) := ⟨_, rfl⟩
  have Y0 : Hid (Box2 w0 w.heap.size 56 (.int .i64 0) (.slice none 0 0)) := hid (by rw [hw0]; exact (Box2.new w _ _ _).alloc _)
  have Z0 : Hid (Box2 w0 (w.heap.size + 1) 56 (.int .i64 t) (.slice none 0 0)) := hid (by
    rw [hw0]; have h := Box2.new (w.alloc (.cells #[.int .i64 0, .slice none 0 0] 56)) 56 (.int .i64 t) (.slice none 0 0); rw [World.size_alloc] at h; exact h)
  have b0 : Below w.heap.size w w0 := by rw [hw0]; exact ((Below.refl _ _).alloc (Nat.le_refl _) _).alloc (by simp) _
  have hs0 : w0.heap.size = w.heap.size + 1 + 1 := by rw [hw0]; simp
  have HW := hid hw0
  have HND := hid hn; have HLL := hid hl
  have HIL := hid (show (insF (abfL t R t)).length = (abfL t R t).length from (insF_all hn).2.2)
  obtain ⟨n, hnn⟩ : ∃ n, n = (abfL t R t).length := ⟨_, rfl⟩
  rw [← hnn] at HIL
  rw [← hnn]
  have HNN := hid hnn
  clear hw0 hn hl hnn
  go_enter Try.func86, Try.ntmps86
  go_wp2_with fail
  rw [← HW.out]
  go_loopw [13] (fun i wr => ∃ k : Nat, k ≤ t ∧ i = .int .i64 k ∧ (∃ A1 c1, Hid (Own wr (w.heap.size + 1 + 1) A1 c1 (insF (abfL t R k))) ∧ Hid (Box2 wr (w.heap.size + 1) 56 (.int .i64 t) (.slice A1 (abfL t R k).length c1))) ∧ Hid (Box2 wr w.heap.size 56 (.int .i64 0) (.slice none 0 0)) ∧ Below w.heap.size w wr ∧ w0.heap.size ≤ wr.heap.size) (fun i _ => t - (intOf i).toNat)
  case atStart => exact ⟨0, Nat.zero_le _, rfl, ⟨none, 0, hid (own_nil _ _), Z0⟩, Y0, b0, Nat.le_refl _⟩
  case round =>
    obtain ⟨k, hk, rfl, ⟨A1, c1, HO, HZ⟩, HY, hbel, hsz⟩ := hrel
    clear Y0 Z0 b0
    by_cases hlt : k < t
    · obtain ⟨b, o, rfl, hcc⟩ := HA1.out (by omega)
      have hck := (hbel.cell (World.block_lt_of_cell? w _ (hcc k hlt))).trans (hcc k hlt)
      have HRC := hid (fun W (hW : Below w.heap.size w W) => (HA2.out k hlt).below hW)
      have hpre := fun m => abfL_pre (t := t) (R := R) (k := k) (m := m) hlt
      have HPN := hid (fun m => (hpre m).nodup HND.out)
      have HPL := hid (fun m => (hpre m).length_le)
      have HST := hid (fun m (hm : m < (R k).length) => abfL_step (t := t) (R := R) (k := k) hm)
      have hrb := HB.out k hlt
      have HRB := hid hrb.2
      have hsucc : abfL t R (k + 1) = abfL t R k ++ (R k).map (fun x => x * (t : Int) + (k : Int)) := rfl
      have HSU := hid hsucc
      obtain ⟨S, hS⟩ : ∃ S, S = abfL t R k := ⟨_, rfl⟩
      obtain ⟨L, hL⟩ : ∃ L, L = R k := ⟨_, rfl⟩
      rw [← hL] at hck HRC HPN HPL HST HRB HSU
      rw [← hS] at HPN HPL HST HSU HO HZ
      have hL1000 : L.length ≤ 1000 := by rw [hL]; exact hrb.1
      obtain ⟨lay, hlay⟩ : ∃ lay : Int → Int, lay = fun x => x * (t : Int) + (k : Int) := ⟨_, rfl⟩
      have HLAY := hid (fun x => congrFun hlay x)
      rw [← hlay] at HPN HPL HSU
      have HST2 := hid (show ∀ m, m < L.length → S ++ (L.take (m + 1)).map lay = (S ++ (L.take m).map lay) ++ [lay (L.getD m 0)] from fun m hm => by rw [hlay]; exact HST.out m hm)
      have HTA := hid (show S ++ (L.take L.length).map lay = abfL t R (k + 1) by rw [List.take_of_length_le (Nat.le_refl _)]; exact HSU.out.symm)
      obtain ⟨Q, hQ⟩ : ∃ Q : Nat → List Int, Q = fun m => S ++ (L.take m).map lay := ⟨_, rfl⟩
      have HQ0 := hid (show S = Q 0 by rw [hQ]; simp)
      have HQN := hid (show ∀ m, (Q m).Nodup by rw [hQ]; exact HPN.out)
      have HQL := hid (show ∀ m, (Q m).length ≤ (abfL t R t).length by rw [hQ]; exact HPL.out)
      have HQS := hid (show ∀ m, m < L.length → Q (m + 1) = Q m ++ [lay (L.getD m 0)] by rw [hQ]; exact HST2.out)
      have HQA := hid (show Q L.length = abfL t R (k + 1) by rw [hQ]; exact HTA.out)
      rw [HQ0.out] at HO HZ
      clear hcc hpre hrb hsucc hS hL hlay HPN HPL HST HSU HST2 HTA hQ HQ0
      obtain ⟨wo, rfl⟩ : ∃ wo, wo = wr := ⟨_, rfl⟩
      go_wp2_with fail
      go_loopw [20] (fun j wi => ∃ m : Nat, m ≤ L.length ∧ j = .int .i64 m ∧ (∃ A1 c1, Hid (Own wi (w.heap.size + 1 + 1) A1 c1 (insF (Q m))) ∧ Hid (Box2 wi (w.heap.size + 1) 56 (.int .i64 t) (.slice A1 (Q m).length c1))) ∧ Hid (Box2 wi w.heap.size 56 (.int .i64 0) (.slice none 0 0)) ∧ Below w.heap.size w wi ∧ w0.heap.size ≤ wi.heap.size) (fun j _ => L.length - (intOf j).toNat)
      case atStart => exact ⟨0, Nat.zero_le _, rfl, ⟨A1, c1, HO, HZ⟩, HY, hbel, hsz⟩
      case round =>
        obtain ⟨m, hm, rfl, ⟨A2, c2, HO2, HZ2⟩, HY2, hbi, hsi⟩ := hrel
        clear HO HZ HY
        by_cases hml : m < L.length
        · obtain ⟨b2, o2, hpt, hcm⟩ := (HRC.out _ hbi).at' hml
          rw [hpt]
          have hxb := HRB.out m hml
          have hqs := HQS.out m hml
          have hqn := HQN.out (m + 1)
          rw [hqs] at hqn
          obtain ⟨n1, n2, n3⟩ := ins_next hqn
          rw [← hqs] at n3
          have hly := HLAY.out (L.getD m 0)
          have hql : (Q (m + 1)).length = (Q m).length + 1 := by rw [hqs]; simp
          have hqb : (Q m).length ≤ 900 := Nat.le_trans (HQL.out m) HLL.out
          obtain ⟨x, hx⟩ : ∃ x, x = L.getD m 0 := ⟨_, rfl⟩
          rw [← hx] at hcm hxb n2 n3 hly
          have hmb : 0 ≤ x * (t : Int) ∧ x * (t : Int) ≤ 6000 := ⟨Int.mul_nonneg hxb.1 (by omega), by
            have : x * (t : Int) ≤ 1000 * 6 := Int.mul_le_mul hxb.2 (by omega) (by omega) (by omega)
            omega⟩
          obtain ⟨z, hz⟩ : ∃ z, z = x * (t : Int) := ⟨_, rfl⟩
          have hxt : x * (t : Int) = z := hz.symm
          rw [← hz] at hmb hly
          rw [hly] at n2 n3
          have hput := l1Put_any A2 c2 (insF (Q m)) (z + k) wr (by rw [n1]; omega) HO2.out n2
          rw [n1] at hput
          have HPU := hid hput
          have HN3 := hid n3
          have hf0 := HZ2.out.cell1
          have HQE := hid hql
          clear hqs hqn n1 n2 n3 hly hql hx hz hput
          go_wp2_with fail
          refine HPU.out.mono ?_
          rintro e w4 ⟨A4, c4, rfl, o4, b4⟩
          have z4 := HZ2.out.next b4
          have f1 := z4.froz 1
          have f2 := z4.cell1
          rw [← HQE.out]
          have HZ5 := hid (z4.set1 (.slice A4 (Q (m + 1)).length c4))
          have HY5 := hid ((HY2.out.next b4).other (g' := w.heap.size + 1) (k := 1) (by omega) (.slice A4 (Q (m + 1)).length c4))
          rw [← HN3.out] at o4
          have o5 := own_set_other (g := w.heap.size + 1) (k := 1) (u := .slice A4 (Q (m + 1)).length c4) (show w4.ownsRow (w.heap.size + 1 + 1) 3 1 _ _ _ from o4.more (by omega)) (by omega)
          have HO5 : Hid (Own (w4.setCell ⟨w.heap.size + 1, 1, none⟩ (.slice A4 (Q (m + 1)).length c4)) (w.heap.size + 1 + 1) A4 c4 (insF (Q (m + 1)))) := hid o5
          have B5 := Below.next hbi b4
          have hs4 := b4.size
          clear z4 o4 o5
          go_wp2_with fail
          go_roundw
          case rel => exact ⟨m + 1, by omega, by go_num, ⟨A4, c4, HO5, HZ5⟩, HY5, B5.setCell (by simp) _, by simp; omega⟩
          case measure => simp [intOf]; omega
        · have hmn : m = L.length := by omega
          subst hmn
          rw [HQA.out] at HO2 HZ2
          go_wp2_with fail
          go_roundw
          case rel => exact ⟨k + 1, by omega, by go_num, ⟨A2, c2, HO2, HZ2⟩, HY2, hbi, hsi⟩
          case measure => simp [intOf]; omega
    · have hkl : k = t := by omega
      subst hkl
      have f1 := HZ.out.cell0
      have f2 := HZ.out.cell1
      have hlen := HIL.out
      rw [← HNN.out] at f2
      have y1 := HY.out
      have f3 := y1.cell0
      have f4 := y1.froz 0
      have y2 := y1.set0 (.int .i64 k)
      have f5 := y2.cell1
      have f6 := y2.froz 1
      have Y3 := hid (y2.set1 (.slice A1 n c1))
      have HO6 := hid (own_set_other (g := w.heap.size) (k := 1) (u := .slice A1 n c1) (own_set_other (g := w.heap.size) (k := 0) (u := .int .i64 k) (show wr.ownsRow (w.heap.size + 1 + 1) 3 1 (.slice A1 n c1) n (IL (insF (abfL k R k))) from own_at_len' HO.out hlen) (by omega)) (by omega))
      have HLEN := hid hlen
      clear y1 y2 hlen
      go_wp2_with fail
      refine bodyPost_ret (v := .agg #[.int .i64 k, .slice A1 n c1]) ?_ rfl ⟨A1, c1, rfl, Own.more (own_of_len' HO6.out HLEN.out) (by omega), (hbel.setCell (by simp) _).setCell (by simp) _⟩
      exact results_cell_row rfl _ _ w.heap.size 56 _ (0, 0) _ rfl Y3.out Try.underlying56 rfl (by kernel_rfl)
end Go.Proofs.Ytmjncedijddmmaa
