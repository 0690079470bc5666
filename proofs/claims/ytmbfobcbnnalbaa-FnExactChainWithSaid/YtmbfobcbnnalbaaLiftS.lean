/-
  Contracts: a bead put to another place, and LiftBead, of the model.
-/
import Derived.Test.YtmbfobcbnnalbaaLift
import Derived.Test.YtmbfobcbnnalbaaMovS
namespace Go.Proofs.Ytmbfobcbnnalbaa
open Go.RowKit

theorem own_at_len' {w : World} {B : Nat} {A : Option Addr} {c n : Nat} {xs : List Int} (h : Own w B A c xs) (e : xs.length = n) : w.ownsRow B 3 1 (.slice A n c) n (IL xs) := by subst e; exact h
theorem own_of_len' {w : World} {B : Nat} {A : Option Addr} {c n : Nat} {xs : List Int} (h : w.ownsRow B 3 1 (.slice A n c) n (IL xs)) (e : xs.length = n) : Own w B A c xs := by subst e; exact h
theorem mvL_len (a b : Int) (xs : List Int) : (mvL a b xs).length = xs.length := by simp [mvL]
theorem mvL_get (a b : Int) (xs : List Int) (k : Nat) (hk : k < xs.length) : (mvL a b xs).getD k 0 = mvB a b (xs.getD k 0) := by
  unfold mvL
  rw [List.getD_eq_getElem?_getD, List.getElem?_map, List.getElem?_eq_getElem hk, List.getD_eq_getElem?_getD, List.getElem?_eq_getElem hk]; rfl
theorem ins_take_facts {ys : List Int} (h : ys.Nodup) (k : Nat) (hk : k < ys.length) : (insF (ys.take k)).length = k ∧ ∀ j, j < (insF (ys.take k)).length → (insF (ys.take k)).getD j 0 ≠ ys.getD k 0 := by
  have hn : (ys.take k).Nodup := (List.take_sublist k ys).nodup h
  obtain ⟨_, h2, h3⟩ := insF_all hn
  have hl : (ys.take k).length = k := by rw [List.length_take]; omega
  refine ⟨by rw [h3, hl], fun j hj e => ?_⟩
  have hm := (h2 _).1 (mem_getD.2 ⟨j, hj, rfl⟩)
  rw [e] at hm
  have hs : ys = ys.take k ++ ys.drop k := (List.take_append_drop k ys).symm
  rw [hs, List.nodup_append] at h
  refine h.2.2 _ hm _ ?_ rfl
  rw [drop_cons ys k hk]; simp

set_option maxRecDepth 100000 in
set_option maxHeartbeats 4000000 in
theorem abPut_any (r : Int) (A : Option Addr) (c : Nat) (xs : List Int) (a b : Int) (w : World) (hl : xs.length ≤ 40) (hc : Cells w A xs) (hn : (mvL a b xs).Nodup) :
    Calls Try.prog 156 #[.agg #[.int .i64 r, .slice A xs.length c], .int .i64 a, .int .i64 b] w fun e w' => ∃ A' c', e = .returned (.agg #[.int .i64 r, .slice A' xs.length c']) ∧ Own w' w.heap.size A' c' (insF (mvL a b xs)) ∧ Below w.heap.size w w' := by
  obtain ⟨w0, hw0⟩ : ∃ w0, w0 = ((w.alloc (.cells #[.int .i64 r, .slice A xs.length c] 85)).alloc (.cells #[.int .i64 0, .slice none 0 0] 85)).alloc (.cells #[.int .i64 r, .slice none 0 0] 85) := ⟨_, rfl⟩
  have X0 : Hid (Box2 w0 w.heap.size 85 (.int .i64 r) (.slice A xs.length c)) := hid (by rw [hw0]; exact ((Box2.new w _ _ _).alloc _).alloc _)
  have Y0 : Hid (Box2 w0 (w.heap.size + 1) 85 (.int .i64 0) (.slice none 0 0)) := hid (by
    rw [hw0]; have h := (Box2.new (w.alloc (.cells #[.int .i64 r, .slice A xs.length c] 85)) 85 (.int .i64 0) (.slice none 0 0)).alloc (.cells #[.int .i64 r, .slice none 0 0] 85); rw [World.size_alloc] at h; exact h)
  have Z0 : Hid (Box2 w0 (w.heap.size + 1 + 1) 85 (.int .i64 r) (.slice none 0 0)) := hid (by
    rw [hw0]; have h := Box2.new ((w.alloc (.cells #[.int .i64 r, .slice A xs.length c] 85)).alloc (.cells #[.int .i64 0, .slice none 0 0] 85)) 85 (.int .i64 r) (.slice none 0 0); rw [World.size_alloc, World.size_alloc] at h; exact h)
  have b0 : Below w.heap.size w w0 := by rw [hw0]; exact (((Below.refl _ _).alloc (Nat.le_refl _) _).alloc (by simp) _).alloc (by simp; omega) _
  have hs0 : w0.heap.size = w.heap.size + 1 + 1 + 1 := by rw [hw0]; simp
  have h0 : ((w.alloc (.cells #[.int .i64 r, .slice A xs.length c] 85)).alloc (.cells #[.int .i64 0, .slice none 0 0] 85)).cell? ⟨w.heap.size, 0, none⟩ = some (.int .i64 r) := ((Box2.new w 85 (.int .i64 r) (.slice A xs.length c)).alloc _).cell0
  have h1 := X0.out.cell1
  rw [hw0] at h1
  have HW := hid hw0
  have HN := hid fun k hk => ins_take_facts hn k hk
  have HLM := hid (mvL_len a b xs)
  have HLM2 := hid (show (insF (mvL a b xs)).length = xs.length by rw [(insF_all hn).2.2, mvL_len])
  clear hw0 hn
  go_enter Try.func156, Try.ntmps156
  go_wp2_with fail
  rw [← HW.out]
  clear h0 h1
  go_loopw [16] (fun i wr => ∃ k : Nat, k ≤ xs.length ∧ i = .int .i64 k ∧ (∃ A1 c1, Hid (Own wr (w.heap.size + 1 + 1 + 1) A1 c1 (insF ((mvL a b xs).take k))) ∧ Hid (Box2 wr (w.heap.size + 1 + 1) 85 (.int .i64 r) (.slice A1 k c1))) ∧ Hid (Box2 wr (w.heap.size + 1) 85 (.int .i64 0) (.slice none 0 0)) ∧ Below w.heap.size w wr ∧ w0.heap.size ≤ wr.heap.size) (fun i _ => xs.length - (intOf i).toNat)
  case atStart => exact ⟨0, Nat.zero_le _, rfl, ⟨none, 0, hid (own_nil _ _), Z0⟩, Y0, b0, Nat.le_refl _⟩
  case round =>
    obtain ⟨k, hk, rfl, ⟨A1, c1, HO, HZ⟩, HY, hbel, hsz⟩ := hrel
    by_cases hlt : k < xs.length
    · obtain ⟨bb, oo, rfl, hck⟩ := (hc.later hbel).at' hlt
      obtain ⟨hl1, hl2⟩ := HN.out k (by rw [HLM.out]; exact hlt)
      have hts := insF_take (mvL a b xs) k (by rw [HLM.out]; exact hlt)
      rw [mvL_get a b xs k hlt] at hl2 hts
      obtain ⟨L, hL⟩ : ∃ L, L = insF ((mvL a b xs).take k) := ⟨_, rfl⟩
      rw [← hL] at HO hl1 hl2 hts
      obtain ⟨x, hx⟩ : ∃ x, x = xs.getD k 0 := ⟨_, rfl⟩
      rw [← hx] at hck hl2 hts
      have hput := l1Put_any A1 c1 L (mvB a b x) wr (by omega) HO.out hl2
      rw [hl1] at hput
      have HPU := hid hput
      have HTS := hid hts
      have hf0 := HZ.out.cell1
      clear hL hx hl2 hts hput X0 Y0 Z0
      by_cases hxa : x = a
      · have hm : mvB a b x = b := by simp [mvB, hxa]
        rw [hm] at HPU HTS
        clear hm
        go_wp2_with fail
        refine HPU.out.mono ?_
        rintro e w4 ⟨A4, c4, rfl, o4, b4⟩
        have z4 := HZ.out.next b4
        have f1 := z4.froz 1
        have f2 := z4.cell1
        have HZ5 := hid (z4.set1 (.slice A4 (k + 1) c4))
        have HY5 := hid ((HY.out.next b4).other (g' := w.heap.size + 1 + 1) (k := 1) (by omega) (.slice A4 (k + 1) c4))
        rw [← HTS.out] at o4
        have o5 := own_set_other (g := w.heap.size + 1 + 1) (k := 1) (u := .slice A4 (k + 1) c4) (show w4.ownsRow (w.heap.size + 1 + 1 + 1) 3 1 _ _ _ from o4.more (by omega)) (by omega)
        have HO5 : Hid (Own (w4.setCell ⟨w.heap.size + 1 + 1, 1, none⟩ (.slice A4 (k + 1) c4)) (w.heap.size + 1 + 1 + 1) A4 c4 (insF ((mvL a b xs).take (k + 1)))) := hid o5
        have B5 := Below.next hbel b4
        have hs4 := b4.size
        clear z4 o4 o5
        go_wp2_with fail
        go_roundw
        case rel => exact ⟨k + 1, by omega, by go_num, ⟨A4, c4, HO5, HZ5⟩, HY5, B5.setCell (by simp; omega) _, by simp; omega⟩
        case measure => simp [intOf]; omega
      · have hm : mvB a b x = x := by simp [mvB, hxa]
        rw [hm] at HPU HTS
        clear hm
        go_wp2_with fail
        refine HPU.out.mono ?_
        rintro e w4 ⟨A4, c4, rfl, o4, b4⟩
        have z4 := HZ.out.next b4
        have f1 := z4.froz 1
        have f2 := z4.cell1
        have HZ5 := hid (z4.set1 (.slice A4 (k + 1) c4))
        have HY5 := hid ((HY.out.next b4).other (g' := w.heap.size + 1 + 1) (k := 1) (by omega) (.slice A4 (k + 1) c4))
        rw [← HTS.out] at o4
        have o5 := own_set_other (g := w.heap.size + 1 + 1) (k := 1) (u := .slice A4 (k + 1) c4) (show w4.ownsRow (w.heap.size + 1 + 1 + 1) 3 1 _ _ _ from o4.more (by omega)) (by omega)
        have HO5 : Hid (Own (w4.setCell ⟨w.heap.size + 1 + 1, 1, none⟩ (.slice A4 (k + 1) c4)) (w.heap.size + 1 + 1 + 1) A4 c4 (insF ((mvL a b xs).take (k + 1)))) := hid o5
        have B5 := Below.next hbel b4
        have hs4 := b4.size
        clear z4 o4 o5
        go_wp2_with fail
        go_roundw
        case rel => exact ⟨k + 1, by omega, by go_num, ⟨A4, c4, HO5, HZ5⟩, HY5, B5.setCell (by simp; omega) _, by simp; omega⟩
        case measure => simp [intOf]; omega
    · have hkl : k = xs.length := by omega
      subst hkl
      rw [List.take_of_length_le (by rw [HLM.out]; exact Nat.le_refl _)] at HO
      have f1 := HZ.out.cell0
      have f2 := HZ.out.cell1
      have y1 := HY.out
      have f3 := y1.cell0
      have f4 := y1.froz 0
      have y2 := y1.set0 (.int .i64 r)
      have f5 := y2.cell1
      have f6 := y2.froz 1
      have Y3 := hid (y2.set1 (.slice A1 xs.length c1))
      have hlen := HLM2.out
      have HO6 := hid (own_set_other (g := w.heap.size + 1) (k := 1) (u := .slice A1 xs.length c1) (own_set_other (g := w.heap.size + 1) (k := 0) (u := .int .i64 r) (show wr.ownsRow (w.heap.size + 1 + 1 + 1) 3 1 (.slice A1 xs.length c1) xs.length (IL (insF (mvL a b xs))) from own_at_len' HO.out hlen) (by omega)) (by omega))
      have HLEN := hid hlen
      clear y1 y2 hlen X0 Y0 Z0
      go_wp2_with fail
      refine bodyPost_ret (v := .agg #[.int .i64 r, .slice A1 xs.length c1]) ?_ rfl ⟨A1, c1, rfl, Own.more (own_of_len' HO6.out HLEN.out) (by omega), (hbel.setCell (by simp) _).setCell (by simp) _⟩
      exact results_cell_row rfl _ _ (w.heap.size + 1) 85 _ (0, 0) _ rfl Y3.out Try.underlying85 rfl (by kernel_rfl)
end Go.Proofs.Ytmbfobcbnnalbaa
