/-
  Several texts in one.
-/
import Derived.Test.YtmiifdedmjfgkaaR25
import Derived.Test.YtmiifdedmjfgkaaR15
import Derived.Test.YtmiifdedmjfgkaaR06
import Derived.Test.YtmiifdedmjfgkaaR22
import Derived.Test.YtmiifdedmjfgkaaR23
import Derived.Test.YtmiifdedmjfgkaaR17
/-
  Contracts: PartitionNumbers, PartitionNumber of the program.
-/
namespace Go.Proofs.Ytmiifdedmjfgkaa
open Go.RowKit

def pnF (n : Int) : List Int := if nmB n then pnT.take (n.toNat + 1) else []
theorem pnF_f {n : Int} (h : nmB n = false) : pnF n = [] := by simp [pnF, h]
theorem pnF_t {n : Nat} (h : nmB n = true) : pnF n = pnT.take (n + 1) := by simp [pnF, h]
def pvF (n : Int) : Int := if nmB n then pnT.getD n.toNat 0 else 0
theorem pvF_f {n : Int} (h : nmB n = false) : pvF n = 0 := by simp [pvF, h]
theorem pvF_t {n : Nat} (h : nmB n = true) : pvF n = pnT.getD n 0 := by simp [pvF, h]
theorem bound_PartitionNumbers (n : Int) : (pnF n).length ≤ 1048576 := by
  unfold pnF
  split
  · rw [List.length_take, pnT_len]; omega
  · simp
theorem pnT_take_succ {k : Nat} (h : k < 201) : pnT.take (k + 1) = pnT.take k ++ [pnT.getD k 0] := by
  have hl : k < pnT.length := by rw [pnT_len]; exact h
  rw [List.take_succ_eq_append_getElem hl, List.getD_eq_getElem?_getD, List.getElem?_eq_getElem hl]; rfl
def lenOf : Value → Nat
  | .slice _ m _ => m
  | _ => 0

set_option maxRecDepth 100000 in
set_option maxHeartbeats 2000000 in
theorem impl_PartitionNumbers (n : Int) (w : World) (_hn : I64 n) :
    Calls Try.prog 35 #[.int .i64 n] w fun e w' => ∃ A' c', e = .returned (.tuple #[.slice A' (pnF n).length c', .bool (nmB n)]) ∧ Own w' w.heap.size A' c' (pnF n) ∧ Below w.heap.size w w' := by
  obtain ⟨i0, hi, hz0, hz1, hz2⟩ := info_parts Try.infoInt
  cases h : nmB n
  · rw [pnF_f h]
    have H := hid h; clear h
    go_enter Try.func35, Try.ntmps35
    go_wp2_with (go_at_call 46; refine (isNumbered_b _ _ _ H.out).mono ?_; rintro e w' ⟨rfl, rfl⟩)
    go_ret2
    exact ⟨none, 0, rfl, own_nil _ _, Below.refl _ _⟩
  obtain ⟨n, rfl, hn⟩ := nmB_nat h
  rw [pnF_t h]
  have hO1 : (w.alloc (.cells #[.int .i64 1] 3)).ownsRow w.heap.size 3 1 (.slice (some ⟨w.heap.size, 0, none⟩) 1 1) 1 (IL (pnT.take 1)) := World.ownsRow_lit (base := w.heap.size) (e := 3) (size := 1) w #[.int .i64 1] 1 (Nat.le_refl _) (by unfold maxLen; omega) rfl
  have hB1 := (Below.refl w.heap.size w).alloc (Nat.le_refl _) (.cells #[.int .i64 1] 3)
  obtain ⟨w1, hw1⟩ : ∃ w1, w1 = w.alloc (.cells #[.int .i64 1] 3) := ⟨_, rfl⟩
  rw [← hw1] at hO1 hB1
  have HW := hid hw1
  have H := hid h; clear h hw1
  go_enter Try.func35, Try.ntmps35
  go_wp2_with (go_at_call 46; refine (isNumbered_b _ _ _ H.out).mono ?_; rintro e w' ⟨rfl, rfl⟩)
  rw [← HW.out]
  go_loopw [4] (fun v wr => ∃ k : Nat, 1 ≤ k ∧ k ≤ n + 1 ∧ wr.ownsRow w.heap.size 3 1 v k (IL (pnT.take k)) ∧ Below w.heap.size w wr) (fun v _ => n + 1 - lenOf v)
  case atStart => exact ⟨1, Nat.le_refl _, by omega, hO1, hB1⟩
  case round =>
    obtain ⟨k, hk1, hk2, hown, hbel⟩ := hrel
    clear hO1 hB1
    obtain ⟨wo, rfl⟩ : ∃ wo : World, wo = wr := ⟨_, rfl⟩
    have hkl : (pnT.take k).length = k := pnT_take_len (by omega)
    obtain ⟨A', c', rfl, ho⟩ := own_form hown hkl.symm
    rw [hkl] at hown ⊢
    by_cases hlt : k ≤ n
    · have HN := hid (nextNumber_any A' c' k wo hk1 (by omega) ho.cells)
      have HTS := hid (pnT_take_succ (k := k) (by omega))
      obtain ⟨V, hV⟩ : ∃ V, V = pnT.getD k 0 := ⟨_, rfl⟩
      obtain ⟨Q, hQ⟩ : ∃ Q, Q = pnT.take k := ⟨_, rfl⟩
      rw [← hV] at HN HTS
      rw [← hQ] at HTS ho hkl
      have HO := hid ho
      have HKL := hid hkl
      have HB := hid hbel
      clear hV hQ hown ho hkl hbel
      go_wp2_with fail
      go_at_call 47
      refine HN.out.mono ?_
      rintro e w2 ⟨rfl, b2⟩
      have ho2 := HO.out.below b2
      have hb2 := HB.out.trans (b2.mono HB.out.size)
      have hown2 : w2.ownsRow w.heap.size 3 1 (.slice A' k c') k (IL Q) := by have := ho2; unfold Own at this; rwa [HKL.out] at this
      have HB2 := hid hb2
      clear ho2 hb2 b2
      go_wp2_with (at_builtin; refine wpList_append_own _ rfl _ _ 22 rfl w.heap.size 3 i0 (.int .i64 0) 1 8 Try.underlying22 hi hz0 hz1 hz2 rfl (by decide) _ _ _ rfl (hown2.alloc _) ⟨w2.heap.size, 0, none⟩ 1 1 [.int .i64 V] rfl rfl one_at (one_cell _) (by unfold maxLen; omega) (by omega) (by have := HB2.out.size; simp; omega) ?_)
      intro v' w3 hown' hgrow _
      have hb3 : Below w.heap.size w w3 := (HB2.out.alloc HB2.out.size _).grown hgrow (by have := HB2.out.size; simp; omega) (fun q hq => (hown2.lt q hq).1)
      have hs := own_snoc HTS.out (by rw [HKL.out]; exact hown')
      rw [pnT_take_len (by omega)] at hs
      have hl : lenOf v' = k + 1 := by
        obtain ⟨A4, c4, rfl, _⟩ := own_form hs (pnT_take_len (by omega)).symm
        exact pnT_take_len (by omega)
      have HS := hid hs
      clear hgrow hown' hown2 hs
      go_wp2_with fail
      go_roundw
      case rel => exact ⟨k + 1, by omega, by omega, HS.out, hb3⟩
      case measure => rw [hl]; simp [lenOf]; omega
    · have hke : k = n + 1 := by omega
      subst hke
      have HO := hid ho
      clear ho hown
      go_wp2_with fail
      go_ret2
      exact ⟨A', c', by rw [pnT_take_len (by omega)]; rfl, HO.out, hbel⟩

set_option maxHeartbeats 1000000 in
theorem impl_PartitionNumber (n : Int) (w : World) (hn : I64 n) :
    Calls Try.prog 19 #[.int .i64 n] w fun e w' => e = .returned (.tuple #[.int .i64 (pvF n), .bool (nmB n)]) ∧ Below w.heap.size w w' := by
  have HP := hid (impl_PartitionNumbers n w hn)
  cases h : nmB n
  · rw [pvF_f h]
    rw [h] at HP
    clear h
    go_enter Try.func19, Try.ntmps19
    go_wp2_with (go_at_call 35; refine HP.out.mono ?_; rintro e w2 ⟨A2, c2, rfl, o2, b2⟩)
    go_ret2
    exact ⟨rfl, b2⟩
  obtain ⟨n, rfl, hn⟩ := nmB_nat h
  rw [pnF_t h, h, pnT_take_len (by omega)] at HP
  rw [pvF_t h]
  have hgt : (pnT.take (n + 1)).getD n 0 = pnT.getD n 0 := by
    rw [List.getD_eq_getElem?_getD, List.getD_eq_getElem?_getD, List.getElem?_take_of_lt (by omega)]
  obtain ⟨V, hV⟩ : ∃ V, V = pnT.getD n 0 := ⟨_, rfl⟩
  rw [← hV] at hgt ⊢
  have HG := hid hgt
  have hlt : (n : Int) < (n : Int) + 1 := by omega
  have HL := hid (pnT_take_len (n := n + 1) (by omega))
  clear h hgt hV
  go_enter Try.func19, Try.ntmps19
  go_wp2_with fail
  go_at_call 35
  refine HP.out.mono ?_
  rintro e w2 ⟨A2, c2, rfl, o2, b2⟩
  obtain ⟨b, o, rfl, hcc⟩ := o2.cells (by rw [HL.out]; omega)
  have hck := hcc n (by rw [HL.out]; omega)
  rw [HG.out] at hck
  clear hcc
  go_wp2_with fail
  go_ret2
  exact ⟨rfl, b2⟩
end Go.Proofs.Ytmiifdedmjfgkaa
/-
  Ranks change their sign for conjugates; squares stay; spreads. No walk in this text.
-/
namespace Go.Proofs.Ytmiifdedmjfgkaa
open Go.RowKit

theorem cntV_lst2 {α : Type} [DecidableEq α] (g : List Int → α) (x : α) (F : List (List Int)) : ∀ k, k ≤ F.length → cntV (fun k => g (F.getD k [])) x k = (F.take k).countP (fun p => decide (g p = x))
  | 0, _ => rfl
  | k + 1, h => by
    rw [cntV, cntV_lst2 g x F k (by omega), List.take_succ_eq_append_getElem (by omega), List.countP_append, List.countP_singleton]
    have e : F.getD k [] = F[k] := by rw [List.getD_eq_getElem?_getD, List.getElem?_eq_getElem (by omega)]; rfl
    rw [e]
    by_cases hg : g F[k] = x <;> simp [hg]
/-! the square -/
def sqC (xs : List Int) (k : Nat) : Prop := k < xs.length ∧ (k : Int) < xs.getD k 0
theorem sqC_cols {xs : List Int} (G : Good xs) (k : Nat) : sqC (cols xs) k ↔ sqC xs k := by
  unfold sqC
  rw [cols_len]
  constructor
  · rintro ⟨h1, h2⟩
    rw [cols_get xs k h1] at h2
    have h3 := (colH_bound xs k).2
    exact ⟨by omega, (dual G (by omega) (k : Int)).2 h2⟩
  · rintro ⟨h1, h2⟩
    have h0 := anti_d G (Nat.zero_le k) h1
    have h4 : k < (xs.getD 0 0).toNat := by omega
    exact ⟨h4, by rw [cols_get xs k h4]; exact (dual G h1 (k : Int)).1 h2⟩
theorem sqG_is {xs : List Int} {d : Nat} : ∀ f k, k ≤ d → d ≤ k + f → (∀ j, k ≤ j → j < d → sqC xs j) → ¬ sqC xs d → sqG xs f k = d
  | 0, k, h1, h2, _, _ => by rw [show k = d by omega]; rfl
  | f + 1, k, h1, h2, h3, h4 => by
    rcases Nat.lt_or_ge k d with h | h
    · obtain ⟨a, b⟩ := h3 k (Nat.le_refl _) h
      rw [sqG_yes a b]
      exact sqG_is f (k + 1) (by omega) (by omega) (fun j hj hd => h3 j (by omega) hd) h4
    · obtain rfl : k = d := by omega
      exact sqG_no h4
theorem sqG_ex (xs : List Int) : ∃ d, d ≤ xs.length ∧ (∀ j, j < d → sqC xs j) ∧ ¬ sqC xs d := by
  have key : ∀ k, k ≤ xs.length → (∀ j, j < k → sqC xs j) ∨ ∃ d, d < k ∧ (∀ j, j < d → sqC xs j) ∧ ¬ sqC xs d := by
    intro k
    induction k with
    | zero => intro _; exact .inl fun j h => absurd h (Nat.not_lt_zero _)
    | succ k ih =>
      intro hk
      rcases ih (by omega) with h | ⟨d, h1, h2, h3⟩
      · by_cases hc : sqC xs k
        · refine .inl fun j hj => ?_
          rcases Nat.lt_or_ge j k with h4 | h4
          · exact h j h4
          · rw [show j = k by omega]; exact hc
        · exact .inr ⟨k, by omega, h, hc⟩
      · exact .inr ⟨d, by omega, h2, h3⟩
  rcases key xs.length (Nat.le_refl _) with h | ⟨d, h1, h2, h3⟩
  · exact ⟨xs.length, Nat.le_refl _, h, fun hc => absurd hc.1 (Nat.lt_irrefl _)⟩
  · exact ⟨d, by omega, h2, h3⟩
theorem sq_cols {xs : List Int} (G : Good xs) : sqG (cols xs) (cols xs).length 0 = sqG xs xs.length 0 := by
  obtain ⟨d, h1, h2, h3⟩ := sqG_ex xs
  rw [sqG_is xs.length 0 (Nat.zero_le _) (by omega) (fun j _ hj => h2 j hj) h3]
  have hl : d ≤ (cols xs).length := by
    rcases Nat.eq_zero_or_pos d with h | h
    · omega
    · have := ((sqC_cols G (d - 1)).2 (h2 (d - 1) (by omega))).1
      omega
  exact sqG_is _ 0 (Nat.zero_le _) (by omega) (fun j _ hj => (sqC_cols G j).2 (h2 j hj)) (fun h => h3 ((sqC_cols G d).1 h))
theorem take_ge {d : Int} : ∀ (xs : List Int) (k : Nat), (∀ x ∈ xs, 0 ≤ x) → k ≤ xs.length → (∀ j, j < k → d ≤ xs.getD j 0) → (k : Int) * d ≤ xs.sum
  | xs, 0, h0, _, _ => by
    have : ∀ ys : List Int, (∀ x ∈ ys, 0 ≤ x) → 0 ≤ ys.sum := by
      intro ys
      induction ys with
      | nil => intro _; simp
      | cons y t ih =>
        intro h
        have h1 := ih fun x hx => h x (List.mem_cons_of_mem _ hx)
        have h2 := h y (List.mem_cons_self ..)
        rw [List.sum_cons]; omega
    simpa using this xs h0
  | [], k + 1, _, h, _ => by simp at h
  | x :: t, k + 1, h0, h, hj => by
    have ih := take_ge (d := d) t k (fun y hy => h0 y (List.mem_cons_of_mem _ hy)) (by simpa using h) (fun j hj2 => by have := hj (j + 1) (by omega); rwa [List.getD_cons_succ] at this)
    have h1 := hj 0 (by omega)
    rw [List.getD_cons_zero] at h1
    rw [List.sum_cons, Int.natCast_add, Int.add_mul]
    have : ((1 : Nat) : Int) * d = d := by simp
    omega
theorem sq_sum {xs : List Int} (G : Good xs) : (sqG xs xs.length 0 : Int) * (sqG xs xs.length 0 : Int) ≤ xs.sum ∧ sqG xs xs.length 0 ≤ 30 := by
  obtain ⟨d, h1, h2, h3⟩ := sqG_ex xs
  rw [sqG_is xs.length 0 (Nat.zero_le _) (by omega) (fun j _ hj => h2 j hj) h3]
  have hl := G.len
  refine ⟨take_ge xs d (fun x hx => ?_) h1 fun j hj => ?_, by omega⟩
  · obtain ⟨j, hj, rfl⟩ := mem_getD_d hx
    have := G.pos j hj; omega
  · have a := (h2 (d - 1) (by omega)).2
    have b := anti_d G (show j ≤ d - 1 by omega) (by have := (h2 (d - 1) (by omega)).1; exact this)
    omega
/-- The conjugate of a partition with cells: its rank and its square. -/
theorem rnc_conj {p : List Int} (h : rcB p = true) : good p = true ∧ good (conjF p) = true ∧ rcB (conjF p) = true ∧ rkF (conjF p) = - rkF p ∧ sqF (conjF p) = sqF p ∧ (conjF p).length ≤ 30 := by
  obtain ⟨hg, h0⟩ := rcB_iff.1 h
  have G := (good_iff p).1 hg
  have G2 := cols_good G
  have hg2 : good (cols p) = true := (good_iff _).2 G2
  have hp := G.pos 0 h0
  have hb : rcB (cols p) = true := rcB_iff.2 ⟨hg2, by rw [cols_len]; omega⟩
  rw [conjF_t hg]
  refine ⟨hg, hg2, hb, ?_, by rw [sqF_t hg, sqF_t hg2, sq_cols G], G2.len⟩
  rw [rkF_t h, rkF_t hb]
  unfold rkV
  rw [cols_first G, cols_len]; omega

/-! all partitions and their conjugates -/
theorem lBg_head {g : Nat → Nat → List (List Int)} {n : Nat} : ∀ p, ∀ r ∈ lBg g n p, ∃ (x : Nat) (t : List Int), r = (x : Int) :: t ∧ x ≤ p
  | 0, r, h => by simp [lBg] at h
  | p + 1, r, h => by
    rw [lBg, List.mem_append] at h
    rcases h with h | h
    · obtain ⟨s, _, rfl⟩ := List.mem_map.1 h
      exact ⟨p + 1, s, rfl, Nat.le_refl _⟩
    · obtain ⟨x, t, e, hx⟩ := lBg_head p r h
      exact ⟨x, t, e, by omega⟩
theorem lA_nodup : ∀ f n m, (lA f n m).Nodup := by
  intro f
  induction f with
  | zero => intro n m; exact List.nodup_cons.2 ⟨by simp, List.nodup_nil⟩
  | succ f ih =>
    intro n m
    rcases Nat.eq_zero_or_pos n with h | h
    · subst h; rw [lA_zero]; exact List.nodup_cons.2 ⟨by simp, List.nodup_nil⟩
    · rw [lA_next h]
      have key : ∀ p, (lBg (lA f) n p).Nodup := by
        intro p
        induction p with
        | zero => exact List.nodup_nil
        | succ p ihp =>
          rw [lBg, List.nodup_append]
          refine ⟨?_, ihp, ?_⟩
          · unfold List.Nodup
            rw [List.pairwise_map]
            exact (ih (n - (p + 1)) (p + 1)).imp fun hne e => hne (List.cons.inj e).2
          · intro a ha b hb e
            obtain ⟨s, _, rfl⟩ := List.mem_map.1 ha
            obtain ⟨x, t, e2, hx⟩ := lBg_head p b hb
            rw [e2] at e
            have := (List.cons.inj e).1
            omega
      exact key _
theorem prt_lA {n : Nat} (hn : n ≤ 30) (f : Nat) (hf : n ≤ f) : prt n = lA f n n := lst_lA f n n hf (by omega) hn (by omega)
theorem prt_nodup {n : Nat} (hn : n ≤ 30) : (prt n).Nodup := by rw [prt_lA hn n (Nat.le_refl _)]; exact lA_nodup _ _ _
theorem prt_mem {n : Nat} (hn : n ≤ 30) {q : List Int} : q ∈ prt n ↔ Good q ∧ q.sum = n := by
  constructor
  · intro h
    obtain ⟨j, hj, e⟩ := List.getElem_of_mem h
    have h2 := prt_row hn hj
    rw [List.getD_eq_getElem?_getD, List.getElem?_eq_getElem hj] at h2
    rw [← e]; exact h2
  · rintro ⟨G, hs⟩
    have hc : chk n q = true := by
      refine (chk_iff n q).2 ⟨G.pos, fun h0 => ?_, G.down⟩
      have h1 := part_sum q (fun i hi => by have := G.pos i hi; omega) 0 h0
      omega
    obtain ⟨r, hr, e⟩ := pa_all n n q (by omega) hn hc hs
    unfold prt lst
    exact List.mem_map.2 ⟨r, List.mem_range.2 hr, e.symm⟩
theorem count_nodup {L : List (List Int)} (h : L.Nodup) (a : List Int) : L.count a = if a ∈ L then 1 else 0 := by
  by_cases ha : a ∈ L
  · rw [if_pos ha, List.Nodup.count h, if_pos ha]
  · rw [if_neg ha, List.count_eq_zero.2 ha]
theorem prt_cols {n : Nat} (hn : n ≤ 30) : ((prt n).map cols).Perm (prt n) := by
  have hnd := prt_nodup hn
  have hnm : ((prt n).map cols).Nodup := by
    unfold List.Nodup
    rw [List.pairwise_map]
    refine hnd.imp_of_mem fun ha hb hne e => hne ?_
    rw [← cols_cols ((prt_mem hn).1 ha).1, ← cols_cols ((prt_mem hn).1 hb).1, e]
  rw [List.perm_iff_count]
  intro a
  rw [count_nodup hnm, count_nodup hnd]
  have hm : a ∈ (prt n).map cols ↔ a ∈ prt n := by
    rw [List.mem_map]
    constructor
    · rintro ⟨q, hq, rfl⟩
      obtain ⟨G, hs⟩ := (prt_mem hn).1 hq
      exact (prt_mem hn).2 ⟨cols_good G, by rw [cols_sum G]; exact hs⟩
    · intro ha
      obtain ⟨G, hs⟩ := (prt_mem hn).1 ha
      exact ⟨cols a, (prt_mem hn).2 ⟨cols_good G, by rw [cols_sum G]; exact hs⟩, cols_cols G⟩
  by_cases h : a ∈ prt n
  · rw [if_pos (hm.2 h), if_pos h]
  · rw [if_neg (fun h2 => h (hm.1 h2)), if_neg h]
/-- What is counted by ranks is counted by their negatives. -/
theorem cnt_neg {n : Nat} (hn : n ≤ 30) (f : Int → Bool) : (prt n).countP (fun p => f (rkV p)) = (prt n).countP (fun p => f (- rkV p)) := by
  rw [← (prt_cols hn).countP_eq (fun p => f (rkV p)), List.countP_map]
  refine List.countP_congr fun p hp => ?_
  obtain ⟨G, _⟩ := (prt_mem hn).1 hp
  have e : rkV (cols p) = - rkV p := by unfold rkV; rw [cols_first G, cols_len]; rcases Nat.eq_zero_or_pos p.length with h | h; (have : p = [] := List.eq_nil_of_length_eq_zero h; subst this; rfl); (have := G.pos 0 h; omega)
  simp [e]
end Go.Proofs.Ytmiifdedmjfgkaa
