/-
  Several texts in one.
-/
import Derived.Test.YtmjncedijddmmaaCF
import Derived.Test.YtmjncedijddmmaaR08
import Derived.Test.YtmjncedijddmmaaR12
import Derived.Test.YtmjncedijddmmaaCB
import Derived.Test.YtmjncedijddmmaaCA
import Derived.Maps.AppendAt
/-
  Rims that are added: the greater the bead that is lifted, the greater the partition. No walk in this text.
-/
namespace Go.Proofs.Ytmjncedijddmmaa
open Go.RowKit

theorem inc_same : ∀ {L M : List Int}, L.Pairwise (· < ·) → M.Pairwise (· < ·) → (∀ x, x ∈ L ↔ x ∈ M) → L = M
  | [], [], _, _, _ => rfl
  | [], y :: M, _, _, h => absurd ((h y).2 (List.mem_cons_self ..)) (by simp)
  | x :: L, [], _, _, h => absurd ((h x).1 (List.mem_cons_self ..)) (by simp)
  | x :: L, y :: M, h1, h2, h => by
    have e : x = y := by
      rcases List.mem_cons.1 ((h x).1 (List.mem_cons_self ..)) with e | hx
      · exact e
      · rcases List.mem_cons.1 ((h y).2 (List.mem_cons_self ..)) with e | hy
        · exact e.symm
        · have a1 := List.rel_of_pairwise_cons h2 hx
          have a2 := List.rel_of_pairwise_cons h1 hy
          omega
    subst e
    have step : ∀ {L M : List Int}, (x :: L).Pairwise (· < ·) → (∀ z, z ∈ x :: L → z ∈ x :: M) → ∀ z, z ∈ L → z ∈ M := by
      intro L M hs hh z hz
      rcases List.mem_cons.1 (hh z (List.mem_cons_of_mem _ hz)) with e | h3
      · have := List.rel_of_pairwise_cons hs hz; omega
      · exact h3
    rw [inc_same h1.of_cons h2.of_cons fun z => ⟨step h1 (fun z hz => (h z).1 hz) z, step h2 (fun z hz => (h z).2 hz) z⟩]
theorem inc_split (c : Int) : ∀ {L : List Int}, L.Pairwise (· < ·) → L = (L.filter fun x => decide (x ≤ c)) ++ L.filter fun x => decide (c < x)
  | [], _ => rfl
  | x :: L, h => by
    have ih := inc_split c h.of_cons
    by_cases hx : x ≤ c
    · rw [List.filter_cons_of_pos (by simpa using hx), List.filter_cons_of_neg (by simpa using hx), List.cons_append, ← ih]
    · have hall : ∀ y ∈ L, c < y := fun y hy => by have := List.rel_of_pairwise_cons h hy; omega
      rw [List.filter_cons_of_neg (by simpa using hx), List.filter_cons_of_pos (by simp; omega), List.filter_eq_nil_iff.2 (fun y hy => by have := hall y hy; simp; omega), List.filter_eq_self.2 (fun y hy => by have := hall y hy; simpa using this)]; rfl
/-- What the beads above add to the rows, by the number of those below. -/
def upP (n : Nat) : List Int → List Int
  | [] => []
  | y :: T => upP (n + 1) T ++ (if (n : Int) < y then [y - n] else [])
theorem parts_up : ∀ (T L : List Int), partsL (L ++ T) = upP L.length T ++ partsL L
  | [], L => by simp [upP]
  | y :: T, L => by
    have h := parts_up T (L ++ [y])
    rw [List.append_assoc, List.singleton_append] at h
    rw [h, parts_snoc, upP, List.length_append, List.length_singleton, List.append_assoc]
theorem befB_pre : ∀ (X p q : List Int), befB (X ++ p) (X ++ q) = befB p q
  | [], _, _ => rfl
  | x :: X, p, q => by rw [List.cons_append, List.cons_append, befB, if_pos rfl, befB_pre X p q]
theorem last_of {L : List Int} (hs : L.Pairwise (· < ·)) {y : Int} (hy : y ∈ L) (hm : ∀ x ∈ L, x ≤ y) : ∃ M, L = M ++ [y] := by
  have hne : L ≠ [] := fun e => by rw [e] at hy; cases hy
  refine ⟨L.dropLast, ?_⟩
  have h1 := List.dropLast_concat_getLast hne
  have h2 := hm (L.getLast hne) (List.getLast_mem hne)
  have e : L.getLast hne = y := by
    rw [← h1] at hy
    rcases List.mem_append.1 hy with h | h
    · rw [← h1] at hs
      have := (List.pairwise_append.1 hs).2.2 y h (L.getLast hne) (by simp)
      omega
    · exact (List.mem_singleton.1 h).symm
  rw [e] at h1
  exact h1.symm
theorem inc_room : ∀ (n : Nat) {L : List Int} {y : Int}, L.length = n → (L ++ [y]).Pairwise (· < ·) → (∀ x ∈ L ++ [y], 0 ≤ x) → (n : Int) ≤ y
  | 0, L, y, hl, _, hn => by have := hn y (by simp); omega
  | n + 1, L, y, hl, hs, hn => by
    rcases List.eq_nil_or_concat L with e | ⟨M, z, e⟩
    · subst e; simp at hl
    · rw [List.concat_eq_append] at e
      subst e
      have hs2 := (List.pairwise_append.1 hs).1
      have hlt := (List.pairwise_append.1 hs).2.2 z (by simp) y (by simp)
      have := inc_room n (by simpa using hl) hs2 (fun x hx => hn x (List.mem_append_left _ hx))
      omega
theorem parts_low : ∀ (n : Nat) {L : List Int}, L.length = n → L.Pairwise (· < ·) → (∀ x ∈ L, x < (n : Int)) → partsL L = []
  | 0, L, hl, _, _ => by rw [List.eq_nil_of_length_eq_zero hl]; rfl
  | n + 1, L, hl, hs, hb => by
    rcases List.eq_nil_or_concat L with e | ⟨M, z, e⟩
    · subst e; simp at hl
    · rw [List.concat_eq_append] at e
      subst e
      have hm : M.length = n := by simpa using hl
      have hz := hb z (by simp)
      have hs2 := List.pairwise_append.1 hs
      rw [parts_snoc, if_neg (by omega), List.nil_append]
      exact parts_low n hm hs2.1 fun x hx => by have := hs2.2.2 x hx z (by simp); omega
/-- The greater bead makes the greater partition. -/
theorem lift_order {xs : List Int} (hs : xs.Pairwise (· < ·)) (hn : ∀ x ∈ xs, 0 ≤ x) {a b t : Int} (hab : a < b) (ht : 0 < t) (ha : a ∈ xs) (hb : b ∈ xs) (na : a + t ∉ xs) (nb : b + t ∉ xs) :
    befB (partsL (insF (mvL a (a + t) xs))) (partsL (insF (mvL b (b + t) xs))) = false ∧ partsL (insF (mvL a (a + t) xs)) ≠ partsL (insF (mvL b (b + t) xs)) := by
  have hnd : xs.Nodup := hs.imp fun {x y} h e => by omega
  obtain ⟨sA, mA, lA⟩ := insF_all (mvL_nodup hnd na)
  obtain ⟨sB, mB, lB⟩ := insF_all (mvL_nodup hnd nb)
  have mA2 : ∀ x, x ∈ insF (mvL a (a + t) xs) ↔ x = a + t ∨ (x ≠ a ∧ x ∈ xs) := fun x => (mA x).trans (mem_mvL ha)
  have mB2 : ∀ x, x ∈ insF (mvL b (b + t) xs) ↔ x = b + t ∨ (x ≠ b ∧ x ∈ xs) := fun x => (mB x).trans (mem_mvL hb)
  have hl : (insF (mvL a (a + t) xs)).length = (insF (mvL b (b + t) xs)).length := by rw [lA, lB]; simp [mvL]
  obtain ⟨A, hA⟩ : ∃ A, A = insF (mvL a (a + t) xs) := ⟨_, rfl⟩
  obtain ⟨B, hB⟩ : ∃ B, B = insF (mvL b (b + t) xs) := ⟨_, rfl⟩
  rw [← hA] at sA mA2 hl ⊢
  rw [← hB] at sB mB2 hl ⊢
  have nnB : ∀ x ∈ B, 0 ≤ x := fun x hx => by
    rcases (mB2 x).1 hx with e | e
    · have := hn b hb; omega
    · exact hn x e.2
  have nnA : ∀ x ∈ A, 0 ≤ x := fun x hx => by
    rcases (mA2 x).1 hx with e | e
    · have := hn a ha; omega
    · exact hn x e.2
  clear lA lB mA mB hA hB
  have eT : (A.filter fun x => decide (b + t < x)) = B.filter fun x => decide (b + t < x) := by
    refine inc_same (sA.filter _) (sB.filter _) fun x => ?_
    rw [List.mem_filter, List.mem_filter, mA2, mB2, decide_eq_true_eq]
    constructor
    · rintro ⟨e | e, h⟩
      · omega
      · exact ⟨.inr ⟨by omega, e.2⟩, h⟩
    · rintro ⟨e | e, h⟩
      · omega
      · exact ⟨.inr ⟨by omega, e.2⟩, h⟩
  have hA := inc_split (b + t) sA
  have hB := inc_split (b + t) sB
  rw [eT] at hA
  obtain ⟨T, hT⟩ : ∃ T, T = B.filter fun x => decide (b + t < x) := ⟨_, rfl⟩
  rw [← hT] at hA hB
  obtain ⟨A1, hA1⟩ : ∃ A1, A1 = A.filter fun x => decide (x ≤ b + t) := ⟨_, rfl⟩
  obtain ⟨B1, hB1⟩ : ∃ B1, B1 = B.filter fun x => decide (x ≤ b + t) := ⟨_, rfl⟩
  rw [← hA1] at hA
  rw [← hB1] at hB
  have sA1 : A1.Pairwise (· < ·) := by rw [hA1]; exact sA.filter _
  have sB1 : B1.Pairwise (· < ·) := by rw [hB1]; exact sB.filter _
  have ltA : ∀ x ∈ A1, x < b + t := fun x hx => by
    rw [hA1, List.mem_filter, decide_eq_true_eq, mA2] at hx
    rcases hx.1 with e | e
    · omega
    · have : x ≠ b + t := fun h => nb (h ▸ e.2)
      have := hx.2
      omega
  have inB : b + t ∈ B1 := by rw [hB1, List.mem_filter, mB2, decide_eq_true_eq]; exact ⟨.inl rfl, Int.le_refl _⟩
  have leB : ∀ x ∈ B1, x ≤ b + t := fun x hx => by
    rw [hB1, List.mem_filter, decide_eq_true_eq] at hx
    exact hx.2
  have nnB1 : ∀ x ∈ B1, 0 ≤ x := fun x hx => nnB x (by rw [hB1] at hx; exact (List.mem_filter.1 hx).1)
  obtain ⟨B2, hB2⟩ := last_of sB1 inB leB
  have hl1 : A1.length = B1.length := by
    rw [hA, hB, List.length_append, List.length_append] at hl; omega
  clear eT hT hA1 hB1 mA2 mB2 nnB sA sB hl inB leB
  rcases List.eq_nil_or_concat A1 with e | ⟨A2, z, e⟩
  · exfalso; rw [e, hB2] at hl1; simp at hl1
  rw [List.concat_eq_append] at e
  have hl2 : A2.length = B2.length := by rw [e, hB2, List.length_append, List.length_append] at hl1; simpa using hl1
  have hz := ltA z (by rw [e]; simp)
  have room := inc_room A2.length (L := A2) (y := z) rfl (by rw [← e]; exact sA1) (fun x hx => by
    rw [← e] at hx
    exact nnA x (by rw [hA]; exact List.mem_append_left _ hx))
  have eA : partsL A = upP (A2.length + 1) T ++ ((if (A2.length : Int) < z then [z - A2.length] else []) ++ partsL A2) := by
    rw [hA, e, parts_up, List.length_append, List.length_singleton, parts_snoc]
  have eB : partsL B = upP (A2.length + 1) T ++ ((b + t - A2.length) :: partsL B2) := by
    rw [hB, hB2, parts_up, List.length_append, List.length_singleton, parts_snoc, ← hl2, if_pos (by omega)]; rfl
  rw [eA, eB, befB_pre]
  by_cases hr : (A2.length : Int) < z
  · rw [if_pos hr]
    refine ⟨?_, fun h => ?_⟩
    · rw [List.singleton_append, befB, if_neg (by omega)]
      exact decide_eq_false (by omega)
    · have h2 := List.append_cancel_left h
      rw [List.singleton_append] at h2
      injection h2 with h3
      omega
  · have hz2 : z = A2.length := by omega
    have hlow : partsL A2 = [] := parts_low A2.length rfl (by rw [e] at sA1; exact (List.pairwise_append.1 sA1).1) fun x hx => by
      rw [e] at sA1
      have := (List.pairwise_append.1 sA1).2.2 x hx z (by simp)
      omega
    rw [if_neg hr, hlow]
    refine ⟨rfl, fun h => ?_⟩
    have h2 := List.append_cancel_left h
    cases h2
end Go.Proofs.Ytmjncedijddmmaa
/-
  Contracts: LiftBead of the program.
-/
namespace Go.Proofs.Ytmjncedijddmmaa
open Go.RowKit

def lfB (r : Int) (xs : List Int) (a : Int) : Bool := isAba r xs && (canGo xs a (a + r) && isAba r (insF (mvL a (a + r) xs)))
def lfR (r : Int) (xs : List Int) (a : Int) : Int := if lfB r xs a then r else 0
def lfF (r : Int) (xs : List Int) (a : Int) : List Int := if lfB r xs a then insF (mvL a (a + r) xs) else []
theorem lf_no {r : Int} {xs : List Int} {a : Int} (h : lfB r xs a = false) : lfR r xs a = 0 ∧ lfF r xs a = [] := by simp [lfR, lfF, h]
theorem lf_yes {r : Int} {xs : List Int} {a : Int} (h : lfB r xs a = true) : lfR r xs a = r ∧ lfF r xs a = insF (mvL a (a + r) xs) := by simp [lfR, lfF, h]

theorem bound_LiftBead (r : Int) (xs : List Int) (a : Int) : (lfF r xs a).length ≤ 1048576 := by
  cases h : lfB r xs a
  · rw [(lf_no h).2]; simp
  · rw [(lf_yes h).2]
    simp only [lfB, Bool.and_eq_true] at h
    have h2 := h.2.2
    simp only [isAba, Bool.and_eq_true] at h2
    have := (goodB_iff.1 h2.2).len; omega

set_option maxRecDepth 100000 in
set_option maxHeartbeats 8000000 in
theorem LiftBead_any (r : Int) (A : Option Addr) (c : Nat) (xs : List Int) (a : Int) (w : World) (hl : xs.length ≤ 1048576) (hc : Cells w A xs) :
    Calls Try.prog 49 #[.agg #[.int .i64 r, .slice A xs.length c], .int .i64 a] w fun e w' => ∃ A' c', e = .returned (.tuple #[.agg #[.int .i64 (lfR r xs a), .slice A' (lfF r xs a).length c'], .bool (lfB r xs a)]) ∧ Own w' w.heap.size A' c' (lfF r xs a) ∧ Below w.heap.size w w' := by
  have hz := Try.bdZero
  unfold bdV at hz
  obtain ⟨w0, hw0⟩ : ∃ w0, w0 = (w.alloc (.cells #[.int .i64 r, .slice A xs.length c] 56)).alloc (.cells #[.int .i64 0, .slice none 0 0] 56) := ⟨_, rfl⟩
  have y0 : Box2 w0 w.heap.size 56 (.int .i64 r) (.slice A xs.length c) := by rw [hw0]; exact (Box2.new w _ _ _).alloc _
  have z0 : Box2 w0 (w.heap.size + 1) 56 (.int .i64 0) (.slice none 0 0) := by
    rw [hw0]; have h := Box2.new (w.alloc (.cells #[.int .i64 r, .slice A xs.length c] 56)) 56 (.int .i64 0) (.slice none 0 0); rw [World.size_alloc] at h; exact h
  have b0 : Below w.heap.size w w0 := by rw [hw0]; exact ((Below.refl _ _).alloc (Nat.le_refl _) _).alloc (by simp) _
  have hs0 : w0.heap.size = w.heap.size + 1 + 1 := by rw [hw0]; simp
  have h0 := y0.cell0
  have h1 := y0.cell1
  rw [hw0] at h0 h1
  have HW := hid hw0
  clear hw0
  cases hab : isAba r xs
  · obtain ⟨e1, e2⟩ := lf_no (r := r) (xs := xs) (a := a) (by simp [lfB, hab])
    rw [e1, e2, show lfB r xs a = false by simp [lfB, hab]]
    have HA := hid hab
    clear hab e1 e2
    go_enter Try.func49, Try.ntmps49
    go_wp2_with fail
    rw [← HW.out]
    refine (IsAbacus_b r A c xs w0 hl (hc.below b0) _ HA.out).mono ?_
    rintro e w1 ⟨rfl, b1⟩
    have z1 := z0.next b1
    have f1 := z1.cell0
    have f2 := z1.froz 0
    have z2 := z1.set0 (.int .i64 0)
    have f3 := z2.cell1
    have f4 := z2.froz 1
    have Z3 := hid (z2.set1 (.slice none 0 0))
    clear z1 z2 z0 y0
    go_wp2_with fail
    refine bodyPost_ret (results_cell2 rfl _ _ _ (w.heap.size + 1) 56 #[.int .i64 0, .slice none 0 0] (0, 0) _ rfl Z3.out Try.underlying56 rfl (by kernel_rfl)) rfl ⟨none, 0, rfl, own_nil _ _, ((Below.next b0 b1).setCell (by simp) _).setCell (by simp) _⟩
  have hab2 := hab
  simp only [isAba, Bool.and_eq_true] at hab2
  have ht := inB_iff.1 hab2.1
  obtain ⟨t, rfl⟩ : ∃ t : Nat, r = t := ⟨r.toNat, by omega⟩
  have ht2 : 2 ≤ t ∧ t ≤ 6 := by omega
  have GB := hid (goodB_iff.1 hab2.2)
  have hlen := GB.out.len
  have HBO := hid fun W (h : Cells W A xs) => boardOf_any t A c xs W ht2 hlen (fun j hj => by have := GB.out.top hj; omega) h
  have HPG := hid (put_gen ht2 GB.out (a := a) (b := a + t) (.inl rfl))
  have HPA := hid fun F b W (hb : 0 ≤ a → a < (t : Int) * 36 → b < 1000000) => brdPut_all t F a b W ht2 hb
  obtain ⟨F, hF⟩ : ∃ F, F = bitsK t xs xs.length := ⟨_, rfl⟩
  rw [← hF] at HBO HPG
  have HA := hid hab
  have HY := hid y0; have HZ := hid z0
  have hlfb : lfB t xs a = (canGo xs a (a + t) && isAba t (insF (mvL a (a + t) xs))) := by simp [lfB, hab]
  have HLF := hid hlfb
  clear hab hab2 hF y0 z0 hlfb
  by_cases hin : 0 ≤ a ∧ a < (t : Int) * 36
  · obtain ⟨hin1, hin2⟩ := hin
    cases hcg : canGo xs a (a + t)
    · obtain ⟨e1, e2⟩ := lf_no (r := t) (xs := xs) (a := a) (by rw [HLF.out, hcg]; rfl)
      have e3 : lfB t xs a = false := by rw [HLF.out, hcg]; rfl
      rw [e1, e2, e3]
      have hput := fun W => HPA.out F (a + t) W (fun _ _ => by omega)
      rw [HPG.out.1 hcg] at hput
      have HPU := hid hput
      clear e1 e2 e3 hcg hput
      go_enter Try.func49, Try.ntmps49
      go_wp2_with fail
      rw [← HW.out]
      refine (IsAbacus_b t A c xs w0 hl (hc.below b0) _ HA.out).mono ?_
      rintro e w1 ⟨rfl, b1⟩
      have B1 := Below.next b0 b1
      have HY1 := hid (HY.out.next b1); have HZ1 := hid (HZ.out.next b1)
      have h2 := HY1.out.cell0
      have h3 := HY1.out.cell1
      have hs1 := b1.size
      clear h0 h1
      go_wp2_with fail
      refine (HBO.out _ (hc.later B1)).mono ?_
      rintro e w2 ⟨rfl, b2⟩
      have B2 := Below.next B1 b2
      have hs2 := b2.size
      have X0 := hid (Blk.new w2 83 217 (brdV 0 fun _ => false))
      have X3 := hid (setRow_blk X0.out (brdV t F))
      obtain ⟨w3, hw3⟩ : ∃ w3, w3 = (w2.alloc (.cells (ca 217 (brdV 0 fun _ => false)) 83)).setRow w2.heap.size (ca 217 (brdV t F)) := ⟨_, rfl⟩
      have B3 : Below w.heap.size w w3 := by rw [hw3]; exact setRow_below (B2.alloc (by omega) _) (by omega) _
      have b23 : Below w2.heap.size w2 w3 := by rw [hw3]; exact setRow_below ((Below.refl _ _).alloc (Nat.le_refl _) _) (Nat.le_refl _) _
      have HX3 : Hid (Blk w3 w2.heap.size 83 217 (brdV t F)) := by rw [hw3]; exact X3
      have hs3 : w3.heap.size = w2.heap.size + 1 := by rw [hw3]; simp
      have HY3 := hid ((HY1.out.next b2).next b23); have HZ3 := hid ((HZ1.out.next b2).next b23)
      have h4 := HY3.out.cell0
      rw [hw3] at h4
      have HW3 := hid hw3
      clear h2 h3 hw3
      unfold bdV
      go_wp2_with (first | (refine wpList_store_row rfl 83 _ _ rfl w2.heap.size _ rfl rfl 83 _ X0.out (by rw [ca_size]; exact Try.bdSize) (by rw [ca_size, ca_size]) (brd_one _ _) ?_) | (refine wpList_load_row rfl 83 _ rfl w2.heap.size rfl 83 _ (0, 0) _ X3.out Try.underlying83 rfl (by rw [ca_size]; exact Try.bdSize) ?_))
      rw [← HW3.out]
      refine (HPU.out _).mono ?_
      rintro e w4 ⟨rfl, b4⟩
      have B4 := Below.next B3 b4
      have hs4 := b4.size
      have X4 := hid (Blk.new w4 83 217 (brdV 0 fun _ => false))
      have X5 := hid (setRow_blk X4.out (brdV t (F)))
      obtain ⟨w5, hw5⟩ : ∃ w5, w5 = (w4.alloc (.cells (ca 217 (brdV 0 fun _ => false)) 83)).setRow w4.heap.size (ca 217 (brdV t (F))) := ⟨_, rfl⟩
      have B5 : Below w.heap.size w w5 := by rw [hw5]; exact setRow_below (B4.alloc (by omega) _) (by omega) _
      have b45 : Below w4.heap.size w4 w5 := by rw [hw5]; exact setRow_below ((Below.refl _ _).alloc (Nat.le_refl _) _) (Nat.le_refl _) _
      have HX5 : Hid (Blk w5 w4.heap.size 83 217 (brdV t (F))) := by rw [hw5]; exact X5
      have HX6 := hid ((HX3.out.next b4).next b45)
      have z5 := (HZ3.out.next b4).next b45
      have HZ5 := hid z5
      rw [hw5] at HX6
      have HW5 := hid hw5
      have heq := fun W => run_eq_bd (t : Int) (by unfold I64; omega) (F) F W true (by simp)
      unfold bdV at heq ⊢
      clear h4 hw5 z5
      have z5 := HZ5.out
      rw [HW5.out] at z5
      have f1 := z5.cell0
      have f2 := z5.froz 0
      have z6 := z5.set0 (.int .i64 0)
      have f3 := z6.cell1
      have f4 := z6.froz 1
      have Z7 := hid (z6.set1 (.slice none 0 0))
      clear z5 z6
      go_wp2_with (first | (refine wpList_store_row rfl 83 _ _ rfl w4.heap.size _ rfl rfl 83 _ X4.out (by rw [ca_size]; exact Try.bdSize) (by rw [ca_size, ca_size]) (brd_one _ _) ?_) | (refine wpList_load_row rfl 83 _ rfl w4.heap.size rfl 83 _ (0, 0) _ X5.out Try.underlying83 rfl (by rw [ca_size]; exact Try.bdSize) ?_) | (refine wpList_load_row rfl 83 _ rfl w2.heap.size rfl 83 _ (0, 0) _ HX6.out Try.underlying83 rfl (by rw [ca_size]; exact Try.bdSize) ?_))
      rw [← HW5.out] at Z7
      rw [← HW5.out]
      refine bodyPost_ret (results_cell2 rfl _ _ _ (w.heap.size + 1) 56 #[.int .i64 0, .slice none 0 0] (0, 0) _ rfl Z7.out Try.underlying56 rfl (by kernel_rfl)) rfl ⟨none, 0, rfl, own_nil _ _, (B5.setCell (by simp) _).setCell (by simp) _⟩
    · have hput := fun W => HPA.out F (a + t) W (fun _ _ => by omega)
      have HPU := hid hput
      obtain ⟨⟨kk, hk1, hk2⟩, hk3⟩ := HPG.out.2 hcg
      have hab3 := fun W => brdAb_any t (putB t F a (a + t)) W ht2
      have e1 : lfR t xs a = abT t (putB t F a (a + t)) := by unfold lfR abT; rw [HLF.out, hcg, hk3]; simp
      have e2 : lfF t xs a = abX t (putB t F a (a + t)) := by unfold lfF abX; rw [HLF.out, hcg, hk3]; simp
      have e3 : lfB t xs a = isAba t (abL t (putB t F a (a + t))) := by rw [HLF.out, hcg, hk3]; simp
      rw [e1, e2, e3]
      obtain ⟨F', hF'⟩ : ∃ F', F' = putB t F a (a + t) := ⟨_, rfl⟩
      rw [← hF'] at hab3 hk2 HPU ⊢
      have HAB := hid hab3
      have HNE := hid (show ∃ k, k < 216 ∧ F' k ≠ F k from ⟨kk, hk1, fun e => hk2 e.symm⟩)
      obtain ⟨rT, hrT⟩ : ∃ rT, rT = abT t F' := ⟨_, rfl⟩
      obtain ⟨rX, hrX⟩ : ∃ rX, rX = abX t F' := ⟨_, rfl⟩
      obtain ⟨rB, hrB⟩ : ∃ rB, rB = isAba t (abL t F') := ⟨_, rfl⟩
      rw [← hrT, ← hrX, ← hrB] at HAB ⊢
      clear e1 e2 e3 hcg hput hk1 hk2 hk3 hF' hab3 hrT hrX hrB
      go_enter Try.func49, Try.ntmps49
      go_wp2_with fail
      rw [← HW.out]
      refine (IsAbacus_b t A c xs w0 hl (hc.below b0) _ HA.out).mono ?_
      rintro e w1 ⟨rfl, b1⟩
      have B1 := Below.next b0 b1
      have HY1 := hid (HY.out.next b1); have HZ1 := hid (HZ.out.next b1)
      have h2 := HY1.out.cell0
      have h3 := HY1.out.cell1
      have hs1 := b1.size
      clear h0 h1
      go_wp2_with fail
      refine (HBO.out _ (hc.later B1)).mono ?_
      rintro e w2 ⟨rfl, b2⟩
      have B2 := Below.next B1 b2
      have hs2 := b2.size
      have X0 := hid (Blk.new w2 83 217 (brdV 0 fun _ => false))
      have X3 := hid (setRow_blk X0.out (brdV t F))
      obtain ⟨w3, hw3⟩ : ∃ w3, w3 = (w2.alloc (.cells (ca 217 (brdV 0 fun _ => false)) 83)).setRow w2.heap.size (ca 217 (brdV t F)) := ⟨_, rfl⟩
      have B3 : Below w.heap.size w w3 := by rw [hw3]; exact setRow_below (B2.alloc (by omega) _) (by omega) _
      have b23 : Below w2.heap.size w2 w3 := by rw [hw3]; exact setRow_below ((Below.refl _ _).alloc (Nat.le_refl _) _) (Nat.le_refl _) _
      have HX3 : Hid (Blk w3 w2.heap.size 83 217 (brdV t F)) := by rw [hw3]; exact X3
      have hs3 : w3.heap.size = w2.heap.size + 1 := by rw [hw3]; simp
      have HY3 := hid ((HY1.out.next b2).next b23); have HZ3 := hid ((HZ1.out.next b2).next b23)
      have h4 := HY3.out.cell0
      rw [hw3] at h4
      have HW3 := hid hw3
      clear h2 h3 hw3
      unfold bdV
      go_wp2_with (first | (refine wpList_store_row rfl 83 _ _ rfl w2.heap.size _ rfl rfl 83 _ X0.out (by rw [ca_size]; exact Try.bdSize) (by rw [ca_size, ca_size]) (brd_one _ _) ?_) | (refine wpList_load_row rfl 83 _ rfl w2.heap.size rfl 83 _ (0, 0) _ X3.out Try.underlying83 rfl (by rw [ca_size]; exact Try.bdSize) ?_))
      rw [← HW3.out]
      refine (HPU.out _).mono ?_
      rintro e w4 ⟨rfl, b4⟩
      have B4 := Below.next B3 b4
      have hs4 := b4.size
      have X4 := hid (Blk.new w4 83 217 (brdV 0 fun _ => false))
      have X5 := hid (setRow_blk X4.out (brdV t (F')))
      obtain ⟨w5, hw5⟩ : ∃ w5, w5 = (w4.alloc (.cells (ca 217 (brdV 0 fun _ => false)) 83)).setRow w4.heap.size (ca 217 (brdV t (F'))) := ⟨_, rfl⟩
      have B5 : Below w.heap.size w w5 := by rw [hw5]; exact setRow_below (B4.alloc (by omega) _) (by omega) _
      have b45 : Below w4.heap.size w4 w5 := by rw [hw5]; exact setRow_below ((Below.refl _ _).alloc (Nat.le_refl _) _) (Nat.le_refl _) _
      have HX5 : Hid (Blk w5 w4.heap.size 83 217 (brdV t (F'))) := by rw [hw5]; exact X5
      have HX6 := hid ((HX3.out.next b4).next b45)
      have z5 := (HZ3.out.next b4).next b45
      have HZ5 := hid z5
      rw [hw5] at HX6
      have HW5 := hid hw5
      have heq := fun W => run_eq_bd (t : Int) (by unfold I64; omega) (F') F W false (by obtain ⟨k, h1, h2⟩ := HNE.out; exact ⟨fun h => (by cases h), fun h => absurd (h k h1) h2⟩)
      unfold bdV at heq ⊢
      clear h4 hw5 z5
      go_wp2_with (first | (refine wpList_store_row rfl 83 _ _ rfl w4.heap.size _ rfl rfl 83 _ X4.out (by rw [ca_size]; exact Try.bdSize) (by rw [ca_size, ca_size]) (brd_one _ _) ?_) | (refine wpList_load_row rfl 83 _ rfl w4.heap.size rfl 83 _ (0, 0) _ X5.out Try.underlying83 rfl (by rw [ca_size]; exact Try.bdSize) ?_) | (refine wpList_load_row rfl 83 _ rfl w2.heap.size rfl 83 _ (0, 0) _ HX6.out Try.underlying83 rfl (by rw [ca_size]; exact Try.bdSize) ?_))
      rw [← HW5.out]
      refine (HAB.out _).mono ?_
      rintro e w6 ⟨A6, c6, rfl, o6, b6⟩
      have hs5 := B5.size
      have z6 := HZ5.out.next b6
      have f1 := z6.cell0
      have f2 := z6.froz 0
      have z7 := z6.set0 (.int .i64 rT)
      have f3 := z7.cell1
      have f4 := z7.froz 1
      have Z8 := hid (z7.set1 (.slice A6 rX.length c6))
      have hsw5 : w.heap.size + 1 + 1 ≤ w5.heap.size := by have := b45.size; omega
      have HO6 := hid (own_set_other (g := w.heap.size + 1) (k := 1) (u := .slice A6 rX.length c6) (own_set_other (g := w.heap.size + 1) (k := 0) (u := .int .i64 rT) o6 (by omega)) (by omega))
      clear z6 z7
      go_wp2_with fail
      refine bodyPost_ret (results_cell2 rfl _ _ _ (w.heap.size + 1) 56 #[.int .i64 rT, .slice A6 rX.length c6] (0, 0) _ rfl Z8.out Try.underlying56 rfl (by kernel_rfl)) rfl ⟨A6, c6, rfl, Own.more HO6.out (by omega), ((Below.next B5 b6).setCell (by simp) _).setCell (by simp) _⟩
  · have hcg : canGo xs a (a + t) = false := by
      cases h : canGo xs a (a + t)
      · rfl
      · exfalso
        simp only [canGo, Bool.and_eq_true, decide_eq_true_eq] at h
        obtain ⟨j, hj, e⟩ := mem_getD.1 h.1
        have := GB.out.top hj
        omega
    obtain ⟨e1, e2⟩ := lf_no (r := t) (xs := xs) (a := a) (by rw [HLF.out, hcg]; rfl)
    have e3 : lfB t xs a = false := by rw [HLF.out, hcg]; rfl
    rw [e1, e2, e3]
    have hput := fun b W => HPA.out F b W (fun h1 h2 => absurd ⟨h1, h2⟩ hin)
    have hpf : ∀ b, putB t F a b = F := fun b => by
      have : canB t a b = false := by
        cases h : canB t a b
        · rfl
        · exfalso; simp only [canB, Bool.and_eq_true, decide_eq_true_eq] at h; exact hin ⟨h.1, h.2.1⟩
      simp [putB, this]
    have hput2 : ∀ b W, Calls Try.prog 75 #[bdV t F, .int .i64 a, .int .i64 b] W fun e w' => e = .returned (bdV t F) ∧ Below W.heap.size W w' := fun b W => by
      have h := hput b W; rw [hpf b] at h; exact h
    have HPU := hid hput2
    clear e1 e2 e3 hcg hput hput2 hpf hin
    go_enter Try.func49, Try.ntmps49
    go_wp2_with fail
    rw [← HW.out]
    refine (IsAbacus_b t A c xs w0 hl (hc.below b0) _ HA.out).mono ?_
    rintro e w1 ⟨rfl, b1⟩
    have B1 := Below.next b0 b1
    have HY1 := hid (HY.out.next b1); have HZ1 := hid (HZ.out.next b1)
    have h2 := HY1.out.cell0
    have h3 := HY1.out.cell1
    have hs1 := b1.size
    clear h0 h1
    go_wp2_with fail
    refine (HBO.out _ (hc.later B1)).mono ?_
    rintro e w2 ⟨rfl, b2⟩
    have B2 := Below.next B1 b2
    have hs2 := b2.size
    have X0 := hid (Blk.new w2 83 217 (brdV 0 fun _ => false))
    have X3 := hid (setRow_blk X0.out (brdV t F))
    obtain ⟨w3, hw3⟩ : ∃ w3, w3 = (w2.alloc (.cells (ca 217 (brdV 0 fun _ => false)) 83)).setRow w2.heap.size (ca 217 (brdV t F)) := ⟨_, rfl⟩
    have B3 : Below w.heap.size w w3 := by rw [hw3]; exact setRow_below (B2.alloc (by omega) _) (by omega) _
    have b23 : Below w2.heap.size w2 w3 := by rw [hw3]; exact setRow_below ((Below.refl _ _).alloc (Nat.le_refl _) _) (Nat.le_refl _) _
    have HX3 : Hid (Blk w3 w2.heap.size 83 217 (brdV t F)) := by rw [hw3]; exact X3
    have hs3 : w3.heap.size = w2.heap.size + 1 := by rw [hw3]; simp
    have HY3 := hid ((HY1.out.next b2).next b23); have HZ3 := hid ((HZ1.out.next b2).next b23)
    have h4 := HY3.out.cell0
    rw [hw3] at h4
    have HW3 := hid hw3
    clear h2 h3 hw3
    unfold bdV
    go_wp2_with (first | (refine wpList_store_row rfl 83 _ _ rfl w2.heap.size _ rfl rfl 83 _ X0.out (by rw [ca_size]; exact Try.bdSize) (by rw [ca_size, ca_size]) (brd_one _ _) ?_) | (refine wpList_load_row rfl 83 _ rfl w2.heap.size rfl 83 _ (0, 0) _ X3.out Try.underlying83 rfl (by rw [ca_size]; exact Try.bdSize) ?_))
    rw [← HW3.out]
    refine (HPU.out _ _).mono ?_
    rintro e w4 ⟨rfl, b4⟩
    have B4 := Below.next B3 b4
    have hs4 := b4.size
    have X4 := hid (Blk.new w4 83 217 (brdV 0 fun _ => false))
    have X5 := hid (setRow_blk X4.out (brdV t (F)))
    obtain ⟨w5, hw5⟩ : ∃ w5, w5 = (w4.alloc (.cells (ca 217 (brdV 0 fun _ => false)) 83)).setRow w4.heap.size (ca 217 (brdV t (F))) := ⟨_, rfl⟩
    have B5 : Below w.heap.size w w5 := by rw [hw5]; exact setRow_below (B4.alloc (by omega) _) (by omega) _
    have b45 : Below w4.heap.size w4 w5 := by rw [hw5]; exact setRow_below ((Below.refl _ _).alloc (Nat.le_refl _) _) (Nat.le_refl _) _
    have HX5 : Hid (Blk w5 w4.heap.size 83 217 (brdV t (F))) := by rw [hw5]; exact X5
    have HX6 := hid ((HX3.out.next b4).next b45)
    have z5 := (HZ3.out.next b4).next b45
    have HZ5 := hid z5
    rw [hw5] at HX6
    have HW5 := hid hw5
    have heq := fun W => run_eq_bd (t : Int) (by unfold I64; omega) (F) F W true (by simp)
    unfold bdV at heq ⊢
    clear h4 hw5 z5
    have z5 := HZ5.out
    rw [HW5.out] at z5
    have f1 := z5.cell0
    have f2 := z5.froz 0
    have z6 := z5.set0 (.int .i64 0)
    have f3 := z6.cell1
    have f4 := z6.froz 1
    have Z7 := hid (z6.set1 (.slice none 0 0))
    clear z5 z6
    go_wp2_with (first | (refine wpList_store_row rfl 83 _ _ rfl w4.heap.size _ rfl rfl 83 _ X4.out (by rw [ca_size]; exact Try.bdSize) (by rw [ca_size, ca_size]) (brd_one _ _) ?_) | (refine wpList_load_row rfl 83 _ rfl w4.heap.size rfl 83 _ (0, 0) _ X5.out Try.underlying83 rfl (by rw [ca_size]; exact Try.bdSize) ?_) | (refine wpList_load_row rfl 83 _ rfl w2.heap.size rfl 83 _ (0, 0) _ HX6.out Try.underlying83 rfl (by rw [ca_size]; exact Try.bdSize) ?_))
    rw [← HW5.out] at Z7
    rw [← HW5.out]
    refine bodyPost_ret (results_cell2 rfl _ _ _ (w.heap.size + 1) 56 #[.int .i64 0, .slice none 0 0] (0, 0) _ rfl Z7.out Try.underlying56 rfl (by kernel_rfl)) rfl ⟨none, 0, rfl, own_nil _ _, (B5.setCell (by simp) _).setCell (by simp) _⟩
theorem impl_LiftBead (r : Int) (A : Option Addr) (c : Nat) (xs : List Int) (a : Int) (w : World) (hl : xs.length ≤ 1048576) (hc : Cells w A xs) (_ : I64 a) :
    Calls Try.prog 49 #[.agg #[.int .i64 r, .slice A xs.length c], .int .i64 a] w fun e w' => ∃ A' c', e = .returned (.tuple #[.agg #[.int .i64 (lfR r xs a), .slice A' (lfF r xs a).length c'], .bool (lfB r xs a)]) ∧ Own w' w.heap.size A' c' (lfF r xs a) ∧ Below w.heap.size w w' := LiftBead_any r A c xs a w hl hc
end Go.Proofs.Ytmjncedijddmmaa
/-
  Contracts: Maya's numbers, the model's side.
-/
namespace Go.Proofs.Ytmjncedijddmmaa
open Go.RowKit

set_option maxHeartbeats 400000 in
theorem l1Has_any (A : Option Addr) (xs : List Int) (c : Nat) (n : Int) (w : World) (hl : xs.length ≤ 1048576) (hc : Cells w A xs) :
    Calls Try.prog 42 #[.slice A xs.length c, .int .i64 n] w fun e w' => e = .returned (.bool (decide (n ∈ xs))) ∧ w = w' := by
  go_enter Try.func42, Try.ntmps42
  go_wp2
  go_loop [6, 9] (fun _ i => ∃ k : Nat, k ≤ xs.length ∧ i = .int .i64 k ∧ Hid (∀ j, j < k → xs.getD j 0 ≠ n)) (fun _ i => xs.length - (intOf i).toNat)
  case atStart => exact ⟨0, Nat.zero_le _, rfl, hid fun j hj => by omega⟩
  case round =>
    obtain ⟨k, hk, rfl, HN⟩ := hrel
    by_cases hlt : k < xs.length
    · obtain ⟨b, o, rfl, hcc⟩ := hc (by omega)
      have hck := hcc k hlt
      clear hcc hc
      have hmem : xs.getD k 0 ∈ xs := by rw [List.getD_eq_getElem?_getD, List.getElem?_eq_getElem hlt]; exact List.getElem_mem hlt
      obtain ⟨x, hx⟩ : ∃ x, x = xs.getD k 0 := ⟨_, rfl⟩
      rw [← hx] at hck hmem
      have HX := hid hx; clear hx
      by_cases he : x = n
      · have HM := hid hmem
        have heb : (x == n) = true := beq_iff_eq.2 he
        have HE := hid he; clear he hmem
        go_wp2
        go_ret
        exact ⟨ret_bool (decide_eq_true (HE.out ▸ HM.out)).symm, rfl⟩
      · have heb : (x == n) = false := beq_eq_false_iff_ne.2 he
        have HE := hid he; clear he hmem
        go_wp2
        go_round
        case rel =>
          refine ⟨k + 1, by omega, by go_num, hid fun j hj => ?_⟩
          by_cases h : j < k
          · exact HN.out j h
          · have : j = k := by omega
            subst this; rw [← HX.out]; exact HE.out
        case measure => simp [intOf]; omega
    · go_wp2
      go_ret
      refine ⟨ret_bool (decide_eq_false ?_).symm, rfl⟩
      intro hm
      obtain ⟨j, hj, e⟩ := List.getElem_of_mem hm
      refine HN.out j (by omega) ?_
      rw [List.getD_eq_getElem?_getD, List.getElem?_eq_getElem hj]
      exact e
theorem l1Has_b (A : Option Addr) (xs : List Int) (c : Nat) (n : Int) (w : World) (hl : xs.length ≤ 1048576) (hc : Cells w A xs) (b : Bool) (h : decide (n ∈ xs) = b) :
    Calls Try.prog 42 #[.slice A xs.length c, .int .i64 n] w fun e w' => e = .returned (.bool b) ∧ w = w' := by
  subst h; exact l1Has_any A xs c n w hl hc
theorem cells_blk {w : World} {A : Option Addr} {xs : List Int} (h : Cells w A xs) (h0 : 0 < xs.length) : ∀ b, A.map Addr.block = some b → b < w.heap.size := by
  intro b hb
  obtain ⟨b', o, rfl, hcc⟩ := h h0
  have := World.block_lt_of_cell? w _ (hcc 0 h0)
  simp at hb
  subst hb
  exact this
theorem ownsRow_grown {w w1 : World} {B e s n : Nat} {u v : Value} {xs : List Value} {o : Obj} (h : w.ownsRow B e s v n xs) (hg : (w.alloc o).grownBy w1 u.ownBlock) (hne : ∀ b, v.ownBlock = some b → u.ownBlock ≠ some b) : w1.ownsRow B e s v n xs := by
  refine ⟨h.1, ?_⟩
  rcases h.2 with hn | ⟨g, cap, cur, rfl, hb, hgg, rest⟩
  · exact .inl hn
  · have hlt : g < w.heap.size := (Array.getElem?_eq_some_iff.1 hgg).1
    refine .inr ⟨g, cap, cur, rfl, hb, ?_, rest⟩
    rw [hg.block g (by simp; omega) (fun e => hne g rfl e.symm), Below.heap_alloc _ _ _ hlt]; exact hgg

end Go.Proofs.Ytmjncedijddmmaa
