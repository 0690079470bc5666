/-
  Several texts in one.
-/
import Derived.Test.YtkbdlhmkiolegaaR01
import Derived.Test.YtkbdlhmkiolegaaCX
/-
  Arrows up and down undo each other; a reduced signature is reduced. No walk in this text.
-/
namespace Go.Proofs.Ytkbdlhmkiolegaa

def Ltr (M : List (Nat × Nat)) : Prop := ∀ m ∈ M, m.1 = 65 ∨ m.1 = 82
theorem redS_a (st : List (Nat × Nat)) (r : Nat) : redS st (65, r) = st ++ [(65, r)] := if_neg fun h => by have := h.1; omega
theorem redS_pop (st : List (Nat × Nat)) (a r : Nat) : redS (st ++ [(65, a)]) (82, r) = st := by
  unfold redS
  rw [if_pos]
  · simp
  · refine ⟨rfl, by simp, by simp [List.getD]⟩
theorem redS_r {st : List (Nat × Nat)} (h : ∀ x ∈ st, x.1 = 82) (r : Nat) : redS st (82, r) = st ++ [(82, r)] := by
  unfold redS
  rw [if_neg]
  rintro ⟨_, h1, h2⟩
  have := h _ (memD_ar (d := (0, 0)) (show st.length - 1 < st.length by omega))
  omega
theorem go_a : ∀ (b st : List (Nat × Nat)), (∀ x ∈ b, x.1 = 65) → b.foldl redS st = st ++ b
  | [], st, _ => by simp
  | (l, r) :: b, st, h => by
    have e : l = 65 := h _ (List.mem_cons_self ..)
    subst e
    rw [List.foldl_cons, redS_a, go_a b _ fun x hx => h x (List.mem_cons_of_mem _ hx)]; simp
theorem go_r : ∀ (a st : List (Nat × Nat)), (∀ x ∈ st, x.1 = 82) → (∀ x ∈ a, x.1 = 82) → a.foldl redS st = st ++ a
  | [], st, _, _ => by simp
  | (l, r) :: a, st, hs, h => by
    have e : l = 82 := h _ (List.mem_cons_self ..)
    subst e
    rw [List.foldl_cons, redS_r hs, go_r a _ (fun x hx => by
      rcases List.mem_append.1 hx with h1 | h1
      · exact hs x h1
      · rw [List.mem_singleton.1 h1]) fun x hx => h x (List.mem_cons_of_mem _ hx)]; simp
/-- First only R, then only A. -/
def Nf (L a b : List (Nat × Nat)) : Prop := L = a ++ b ∧ (∀ x ∈ a, x.1 = 82) ∧ ∀ x ∈ b, x.1 = 65
theorem red_nf (M : List (Nat × Nat)) : Ltr M → ∃ a b, Nf (red M) a b := by
  refine snoc_ind (P := fun M => Ltr M → ∃ a b, Nf (red M) a b) (fun _ => ⟨[], [], rfl, by simp, by simp⟩) ?_ M
  intro M m ih h
  obtain ⟨a, b, e, ha, hb⟩ := ih fun x hx => h x (by simp [hx])
  rw [red_snoc, e]
  obtain ⟨l, r⟩ := m
  rcases h (l, r) (by simp) with hl | hl
  · have hl' : l = 65 := hl
    subst hl'
    rw [redS_a]
    refine ⟨a, b ++ [(65, r)], by simp, ha, fun x hx => ?_⟩
    rcases List.mem_append.1 hx with h1 | h1
    · exact hb x h1
    · rw [List.mem_singleton.1 h1]
  · have hl' : l = 82 := hl
    subst hl'
    rcases snoc_or b with rfl | ⟨b', ⟨l', y⟩, rfl⟩
    · rw [List.append_nil, redS_r ha]
      refine ⟨a ++ [(82, r)], [], by simp, fun x hx => ?_, by simp⟩
      rcases List.mem_append.1 hx with h1 | h1
      · exact ha x h1
      · rw [List.mem_singleton.1 h1]
    · have e2 : l' = 65 := hb (l', y) (by simp)
      subst e2
      rw [← List.append_assoc, redS_pop]
      exact ⟨a, b', rfl, ha, fun x hx => hb x (by simp [hx])⟩
theorem red_mem2 (K : List (Nat × Nat)) : ∀ (st : List (Nat × Nat)) (x : Nat × Nat), x ∈ K.foldl redS st → x ∈ st ∨ x ∈ K := by
  induction K with
  | nil => intro st x h; exact .inl h
  | cons m K ih =>
    intro st x h
    rw [List.foldl_cons] at h
    rcases ih _ x h with h1 | h1
    · have : x ∈ st ∨ x = m := by
        unfold redS at h1
        split at h1
        · exact .inl (List.mem_of_mem_take h1)
        · rcases List.mem_append.1 h1 with h2 | h2
          · exact .inl h2
          · exact .inr (List.mem_singleton.1 h2)
      rcases this with h2 | h2
      · exact .inl h2
      · exact .inr (by rw [h2]; exact List.mem_cons_self ..)
    · exact .inr (List.mem_cons_of_mem _ h1)
/-- Only what is left of a word matters for what stands before it. -/
theorem go_red (M : List (Nat × Nat)) : Ltr M → ∀ st, M.foldl redS st = (red M).foldl redS st := by
  refine snoc_ind (P := fun M => Ltr M → ∀ st, M.foldl redS st = (red M).foldl redS st) (fun _ _ => rfl) ?_ M
  intro M m ih h st
  have hM : Ltr M := fun x hx => h x (by simp [hx])
  have ih := ih hM
  rw [List.foldl_append, List.foldl_cons, List.foldl_nil, ih st, red_snoc]
  obtain ⟨l, r⟩ := m
  rcases h (l, r) (by simp) with hl | hl
  · have hl' : l = 65 := hl
    subst hl'
    rw [redS_a, redS_a, List.foldl_append, List.foldl_cons, List.foldl_nil, redS_a]
  · have hl' : l = 82 := hl
    subst hl'
    obtain ⟨a, b, e, ha, hb⟩ := red_nf M hM
    rw [e]
    rcases snoc_or b with rfl | ⟨b', ⟨l', y⟩, rfl⟩
    · rw [List.append_nil, redS_r ha, List.foldl_append, List.foldl_cons, List.foldl_nil]
    · have e2 : l' = 65 := hb (l', y) (by simp)
      subst e2
      rw [← List.append_assoc, redS_pop, List.foldl_append, List.foldl_cons, List.foldl_nil, redS_a, redS_pop]
theorem red_split (M1 M2 : List (Nat × Nat)) (m : Nat × Nat) (h2 : Ltr M2) : red (M1 ++ m :: M2) = (red M2).foldl redS (redS (red M1) m) := by
  unfold red
  rw [List.foldl_append, List.foldl_cons, go_red M2 h2]; rfl
theorem fl_all {L : List (Nat × Nat)} {l : Nat} (h : ∀ x ∈ L, x.1 = l) : fl L l = L.map Prod.snd := by
  unfold fl
  rw [List.filter_eq_self.2 fun x hx => by rw [h x hx]; simp]
theorem fl_no {L : List (Nat × Nat)} {l m : Nat} (h : ∀ x ∈ L, x.1 = l) (hne : l ≠ m) : fl L m = [] := by
  unfold fl
  rw [List.filter_eq_nil_iff.2 fun x hx => by rw [h x hx]; simpa using hne]; rfl
theorem rows_off {M1 M2 : List (Nat × Nat)} {m : Nat × Nat} (nd : ((M1 ++ m :: M2).map Prod.snd).Nodup) {x : Nat × Nat} (h : x ∈ M1 ∨ x ∈ M2) : x.2 ≠ m.2 := by
  rw [List.map_append, List.map_cons, List.nodup_append] at nd
  obtain ⟨_, n2, n3⟩ := nd
  rcases h with h | h
  · exact n3 _ (List.mem_map_of_mem h) _ (List.mem_cons_self ..)
  · intro e
    exact (List.nodup_cons.1 n2).1 (by rw [← e]; exact List.mem_map_of_mem h)
/-- The first A that is left: only R is left before it, only A behind it. -/
theorem up_split {M1 M2 : List (Nat × Nat)} {r : Nat} (h1 : Ltr M1) (h2 : Ltr M2) (nd : ((M1 ++ (65, r) :: M2).map Prod.snd).Nodup) (h : upR (red (M1 ++ (65, r) :: M2)) = some r) :
    (∀ x ∈ red M1, x.1 = 82) ∧ ∀ x ∈ red M2, x.1 = 65 := by
  have hm := upR_mem h
  obtain ⟨a1, b1, e1, ha1, hb1⟩ := red_nf M1 h1
  obtain ⟨a2, b2, e2, ha2, hb2⟩ := red_nf M2 h2
  have es := red_split M1 M2 (65, r) h2
  rw [redS_a] at es
  have ea : a2 = [] := by
    cases a2 with
    | nil => rfl
    | cons x a2 =>
      obtain ⟨l, y⟩ := x
      have hl : l = 82 := ha2 (l, y) (List.mem_cons_self ..)
      subst hl
      rw [e2, List.cons_append, List.foldl_cons, redS_pop] at es
      rw [es] at hm
      exfalso
      rcases red_mem2 _ _ _ hm with h3 | h3
      · exact rows_off nd (.inl (red_mem M1 _ h3)) rfl
      · exact rows_off nd (.inr (red_mem M2 _ (by rw [e2]; exact List.mem_cons_of_mem _ h3))) rfl
  subst ea
  rw [List.nil_append] at e2
  rw [e2, go_a b2 _ hb2, e1] at es
  have eb : b1 = [] := by
    cases b1 with
    | nil => rfl
    | cons x b1 =>
      obtain ⟨l, y⟩ := x
      have hl : l = 65 := hb1 (l, y) (List.mem_cons_self ..)
      subst hl
      rw [es] at h
      unfold upR at h
      rw [fl_app, fl_app, fl_app, fl_no ha1 (by decide), fl_all hb1, List.nil_append, List.map_cons, List.cons_append, List.cons_append, List.head?_cons] at h
      injection h with h
      exact absurd h (rows_off nd (x := (65, y)) (.inl (red_mem M1 _ (by rw [e1]; simp))))
  subst eb
  rw [e1, e2, List.append_nil]
  exact ⟨ha1, hb2⟩
/-- The last R that is left. -/
theorem dn_split {M1 M2 : List (Nat × Nat)} {r : Nat} (h1 : Ltr M1) (h2 : Ltr M2) (nd : ((M1 ++ (82, r) :: M2).map Prod.snd).Nodup) (h : dnRr (red (M1 ++ (82, r) :: M2)) = some r) :
    (∀ x ∈ red M1, x.1 = 82) ∧ ∀ x ∈ red M2, x.1 = 65 := by
  have hm := dnR_mem h
  obtain ⟨a1, b1, e1, ha1, hb1⟩ := red_nf M1 h1
  obtain ⟨a2, b2, e2, ha2, hb2⟩ := red_nf M2 h2
  have es := red_split M1 M2 (82, r) h2
  have eb : b1 = [] := by
    rcases snoc_or b1 with rfl | ⟨b', ⟨l', y⟩, rfl⟩
    · rfl
    · have hl : l' = 65 := hb1 (l', y) (by simp)
      subst hl
      rw [e1, ← List.append_assoc, redS_pop] at es
      rw [es] at hm
      exfalso
      rcases red_mem2 _ _ _ hm with h3 | h3
      · exact rows_off nd (.inl (red_mem M1 _ (by rw [e1]; rcases List.mem_append.1 h3 with h4 | h4 <;> simp [h4]))) rfl
      · exact rows_off nd (.inr (red_mem M2 _ h3)) rfl
  subst eb
  rw [List.append_nil] at e1
  have ha3 : ∀ x ∈ a1 ++ [(82, r)], x.1 = 82 := fun x hx => by
    rcases List.mem_append.1 hx with h4 | h4
    · exact ha1 x h4
    · rw [List.mem_singleton.1 h4]
  rw [e1, redS_r ha1, e2, List.foldl_append, go_r a2 _ ha3 ha2, go_a b2 _ hb2] at es
  have ea : a2 = [] := by
    rcases snoc_or a2 with rfl | ⟨a', ⟨l', y⟩, rfl⟩
    · rfl
    · rw [es] at h
      unfold dnRr at h
      have hl : l' = 82 := ha2 (l', y) (by simp)
      subst hl
      rw [fl_app, fl_no hb2 (by decide), List.append_nil, fl_app, fl_app, fl_app] at h
      rw [show fl [(82, y)] 82 = [y] from rfl, ← List.append_assoc, List.getLast?_concat] at h
      injection h with h
      exact absurd h (rows_off nd (x := (82, y)) (.inr (red_mem M2 _ (by rw [e2]; simp))))
  subst ea
  rw [e1, e2, List.nil_append]
  exact ⟨ha1, hb2⟩
theorem up_then {M1 M2 : List (Nat × Nat)} (h2 : Ltr M2) (ha : ∀ x ∈ red M1, x.1 = 82) (hb : ∀ x ∈ red M2, x.1 = 65) (r : Nat) : dnRr (red (M1 ++ (82, r) :: M2)) = some r := by
  rw [red_split M1 M2 _ h2, redS_r ha, go_a _ _ hb]
  unfold dnRr
  rw [fl_app, fl_no hb (by decide), List.append_nil, fl_app, show fl [(82, r)] 82 = [r] from rfl, List.getLast?_concat]
theorem dn_then {M1 M2 : List (Nat × Nat)} (h2 : Ltr M2) (ha : ∀ x ∈ red M1, x.1 = 82) (hb : ∀ x ∈ red M2, x.1 = 65) (r : Nat) : upR (red (M1 ++ (65, r) :: M2)) = some r := by
  rw [red_split M1 M2 _ h2, redS_a, go_a _ _ hb]
  unfold upR
  rw [fl_app, fl_app, fl_no ha (by decide), List.nil_append, show fl [(65, r)] 65 = [r] from rfl]; rfl
/-! The signature of a partition and of the one with one cell more. -/
theorem sgM_ltr (xs : List Int) (t : Nat) (i : Int) (k : Nat) : Ltr (sgM xs t i k) := fun m hm => by
  obtain ⟨_, h2, h3⟩ := sgM_mem hm
  rcases sgB_cases xs t i m.2 with h | h | h <;> omega
theorem sgM_nd (xs : List Int) (t : Nat) (i : Int) : ∀ k, ((sgM xs t i k).map Prod.snd).Nodup
  | 0 => by simp [sgM]
  | k + 1 => by
    by_cases h : sgB xs t i k = 0
    · rw [sgM_no h]; exact sgM_nd xs t i k
    · rw [sgM_yes h, List.map_append, List.nodup_append]
      refine ⟨sgM_nd xs t i k, by simp, ?_⟩
      rintro a ha b hb rfl
      obtain ⟨m, hm, rfl⟩ := List.mem_map.1 ha
      have := (sgM_mem hm).1
      simp at hb; omega
theorem sgM_same {p q : List Int} {t : Nat} {i : Int} {r : Nat} (h : ∀ j, j ≠ r → sgB p t i j = sgB q t i j) (hp : sgB p t i r ≠ 0) (hq : sgB q t i r ≠ 0) : (∀ k, k ≤ r → sgM p t i k = sgM q t i k) ∧
    ∀ d, ∃ K, sgM p t i (r + 1 + d) = sgM p t i r ++ (sgB p t i r, r) :: K ∧ sgM q t i (r + 1 + d) = sgM p t i r ++ (sgB q t i r, r) :: K := by
  have h1 : ∀ k, k ≤ r → sgM p t i k = sgM q t i k := by
    intro k
    induction k with
    | zero => intro _; rfl
    | succ k ih =>
      intro hk
      have e := h k (by omega)
      have ih := ih (by omega)
      by_cases h0 : sgB p t i k = 0
      · rw [sgM_no h0, sgM_no (by rw [← e]; exact h0), ih]
      · rw [sgM_yes h0, sgM_yes (by rw [← e]; exact h0), ih, e]
  refine ⟨h1, fun d => ?_⟩
  induction d with
  | zero => exact ⟨[], sgM_yes hp, by rw [Nat.add_zero, sgM_yes hq, h1 r (Nat.le_refl _)]⟩
  | succ d ih =>
    obtain ⟨K, e1, e2⟩ := ih
    have e := h (r + 1 + d) (by omega)
    rw [← Nat.add_assoc]
    by_cases h0 : sgB p t i (r + 1 + d) = 0
    · exact ⟨K, by rw [sgM_no h0, e1], by rw [sgM_no (by rw [← e]; exact h0), e2]⟩
    · exact ⟨K ++ [(sgB p t i (r + 1 + d), r + 1 + d)], by rw [sgM_yes h0, e1]; simp, by rw [sgM_yes (by rw [← e]; exact h0), e2, e]; simp⟩
theorem sig_wide {p : List Int} (G : Good p) (t : Nat) (i : Int) {W : Nat} (hW : p.length + 1 ≤ W) : sig p t i = sgM p t i W := by
  obtain ⟨d, rfl⟩ : ∃ d, W = p.length + 1 + d := ⟨W - (p.length + 1), by omega⟩
  unfold sig
  refine (sgM_none fun j h1 h2 => ?_).symm
  rw [sgB_eq G, getD_beyond (show p.length ≤ j by omega), getD_beyond (show p.length ≤ j - 1 by omega), getD_beyond (show p.length ≤ j + 1 by omega), if_neg (by omega), if_neg (by omega)]
theorem mod_nx {x : Int} {t : Nat} (ht : 2 ≤ t) {i : Int} (h1 : x % (t : Int) = i) (h2 : (x + 1) % (t : Int) = i) : False := by
  have h : (x + 1 - x) % (t : Int) = 0 := by rw [Int.sub_emod, h1, h2]; simp
  rw [show x + 1 - x = 1 by omega, Int.emod_eq_of_lt (by omega) (by omega)] at h
  omega
/-- One cell more changes the letter of its row alone. -/
theorem pair_sg {q p : List Int} (Q : Good q) (P : Good p) {t : Nat} (ht : 2 ≤ t) {i : Int} {r : Nat} (hinc : ∀ j, p.getD j 0 = q.getD j 0 + (if j = r then 1 else 0)) (hres : (q.getD r 0 - r) % (t : Int) = i) :
    sgB q t i r = 65 ∧ sgB p t i r = 82 ∧ ∀ j, j ≠ r → sgB q t i j = sgB p t i j := by
  have hr := hinc r
  rw [if_pos rfl] at hr
  have hoth : ∀ j, j ≠ r → p.getD j 0 = q.getD j 0 := fun j hj => by have := hinc j; rw [if_neg hj] at this; omega
  refine ⟨?_, ?_, fun j hj => ?_⟩
  · rw [sgB_eq Q, if_pos]
    refine ⟨?_, hres⟩
    rcases Nat.eq_zero_or_pos r with h0 | h0
    · exact .inl h0
    · have h1 := down_all P (show r - 1 ≤ r by omega)
      have h2 := hoth (r - 1) (by omega)
      exact .inr (by omega)
  · rw [sgB_eq P, if_neg, if_pos]
    · refine ⟨?_, by rw [hr, show q.getD r 0 + 1 - 1 - (r : Int) = q.getD r 0 - r by omega]; exact hres⟩
      have h1 := down_all Q (show r ≤ r + 1 by omega)
      have h2 := hoth (r + 1) (by omega)
      omega
    · rintro ⟨_, h2⟩
      rw [hr, show q.getD r 0 + 1 - (r : Int) = (q.getD r 0 - r) + 1 by omega] at h2
      exact mod_nx ht hres h2
  · have ej := hoth j hj
    rw [sgB_eq Q, sgB_eq P, ej]
    have c1 : ((j = 0 ∨ q.getD j 0 < q.getD (j - 1) 0) ∧ (q.getD j 0 - j) % (t : Int) = i) ↔ ((j = 0 ∨ q.getD j 0 < p.getD (j - 1) 0) ∧ (q.getD j 0 - j) % (t : Int) = i) := by
      by_cases e : j - 1 = r
      · rw [e, hr]
        by_cases h0 : j = 0
        · simp [h0]
        · constructor
          · rintro ⟨a, b⟩; exact ⟨by omega, b⟩
          · rintro ⟨a, b⟩
            refine ⟨?_, b⟩
            rcases a with a | a
            · exact .inl a
            · right
              rcases Int.lt_or_le (q.getD j 0) (q.getD r 0) with h | h
              · exact h
              · exfalso
                have h5 : q.getD j 0 = q.getD r 0 := by omega
                rw [h5] at b
                refine mod_nx ht b ?_
                rw [show q.getD r 0 - (j : Int) + 1 = q.getD r 0 - r by omega]; exact hres
      · rw [hoth _ e]
    have c2 : (q.getD (j + 1) 0 < q.getD j 0 ∧ (q.getD j 0 - 1 - j) % (t : Int) = i) ↔ (p.getD (j + 1) 0 < q.getD j 0 ∧ (q.getD j 0 - 1 - j) % (t : Int) = i) := by
      by_cases e : j + 1 = r
      · rw [e, hr]
        constructor
        · rintro ⟨a, b⟩
          refine ⟨?_, b⟩
          rcases Int.lt_or_le (q.getD r 0 + 1) (q.getD j 0) with h | h
          · exact h
          · exfalso
            have h5 : q.getD j 0 = q.getD r 0 + 1 := by omega
            rw [h5] at b
            refine mod_nx ht hres ?_
            rw [show q.getD r 0 - (r : Int) + 1 = q.getD r 0 + 1 - 1 - j by omega]; exact b
        · rintro ⟨a, b⟩; exact ⟨by omega, b⟩
      · rw [hoth _ e]
    simp only [c1, c2]
theorem dec_inc {p : List Int} (G : Good p) {r : Nat} (hr : r ≤ p.length) : decL (incL p r) r = p := by
  unfold decL incL
  by_cases h : r = p.length
  · subst h
    rw [if_pos rfl, if_pos (by simp [List.getD])]
    simp
  · have hl : r < p.length := by omega
    have := G.pos r hl
    rw [if_neg h, show (p.set r (p.getD r 0 + 1)).getD r 0 = p.getD r 0 + 1 by simp [List.getD, hl], if_neg (by omega), List.set_set, show p.getD r 0 + 1 - 1 = p.getD r 0 by omega]
    apply List.ext_getElem (by simp)
    intro j h1 h2
    by_cases e : r = j
    · subst e; simp [List.getD, hl]
    · rw [List.getElem_set_ne e]
theorem inc_dec {p : List Int} (G : Good p) {r : Nat} (hr : r < p.length) (hd : p.getD (r + 1) 0 < p.getD r 0) : incL (decL p r) r = p := by
  unfold decL incL
  by_cases h : p.getD r 0 = 1
  · have hl := dec_last G hr hd h
    rw [if_pos h, if_pos (by rw [List.length_take]; omega)]
    have : p.take (r + 1) = p.take r ++ [p.getD r 0] := by
      rw [List.take_succ_eq_append_getElem hr, List.getD_eq_getElem?_getD, List.getElem?_eq_getElem hr]; rfl
    rw [hl, List.take_length, h] at this
    exact this.symm
  · rw [if_neg h, if_neg (by rw [List.length_set]; omega), show (p.set r (p.getD r 0 - 1)).getD r 0 = p.getD r 0 - 1 by simp [List.getD, hr], List.set_set, show p.getD r 0 - 1 + 1 = p.getD r 0 by omega]
    apply List.ext_getElem (by simp)
    intro j h1 h2
    by_cases e : r = j
    · subst e; simp [List.getD, hr]
    · rw [List.getElem_set_ne e]
/-- What an arrow up has added, one down takes away. -/
theorem up_down {p : List Int} {t i : Int} (h : upOk p t i = true) : dnOk8 (upF p t i) t i = true ∧ dnF (upF p t i) t i = p ∧ Good (upF p t i) := by
  unfold upOk at h
  rw [Bool.and_eq_true, Bool.and_eq_true] at h
  obtain ⟨ha, hb, hg⟩ := h
  obtain ⟨hgp, P, ht, hi⟩ := asB_t ha
  obtain ⟨T, rfl⟩ : ∃ T : Nat, t = (T : Int) := ⟨t.toNat, by omega⟩
  rw [Int.toNat_natCast] at hb hg
  obtain ⟨r, hr⟩ : ∃ r, upR (red (sig p T i)) = some r := by
    unfold auB at hb
    exact Option.isSome_iff_exists.1 hb
  have e := (au_some hr).1
  obtain ⟨u1, u2, u3⟩ := up_ok P hr
  have hF : upF p (T : Int) i = incL p r := by unfold upF; rw [Int.toNat_natCast, ha, hg, e]; rfl
  rw [e] at hg
  have Q := (good_iff _).1 hg
  have hres := (sg65 P u3).2
  obtain ⟨s1, s2, s3⟩ := pair_sg P Q (t := T) (by omega) (r := r) (fun j => inc_get p r u1 j) hres
  obtain ⟨_, hs⟩ := sgM_same s3 (by omega) (by omega)
  obtain ⟨K, k1, k2⟩ := hs (31 - r)
  have hpl := P.len
  have hql := Q.len
  rw [s1] at k1
  rw [s2] at k2
  rw [sig_wide P T i (W := r + 1 + (31 - r)) (by omega), k1] at hr
  have nd := sgM_nd p T i (r + 1 + (31 - r))
  rw [k1] at nd
  have l1 : Ltr (sgM p T i r) := sgM_ltr p T i r
  have l2 : Ltr K := fun m hm => sgM_ltr p T i (r + 1 + (31 - r)) m (by rw [k1]; simp [hm])
  obtain ⟨w1, w2⟩ := up_split l1 l2 nd hr
  have hdn := up_then l2 w1 w2 r
  rw [← k2, ← sig_wide Q T i (by omega)] at hdn
  have haq : asB (incL p r) (T : Int) i = true := by
    unfold asB at ha ⊢
    rw [Bool.and_eq_true] at ha
    rw [hg, ha.2]; rfl
  rw [hF]
  obtain ⟨d1, d2⟩ := ad_some hdn
  refine ⟨by unfold dnOk8; rw [Int.toNat_natCast, haq, d2]; rfl, ?_, Q⟩
  unfold dnF
  rw [Int.toNat_natCast, haq, if_pos rfl, d1, dec_inc P u1]
/-- What an arrow down has taken away, one up adds. -/
theorem down_up {p : List Int} {t i : Int} (h : dnOk8 p t i = true) : upOk (dnF p t i) t i = true ∧ upF (dnF p t i) t i = p ∧ Good (dnF p t i) := by
  unfold dnOk8 at h
  rw [Bool.and_eq_true] at h
  obtain ⟨ha, hb⟩ := h
  obtain ⟨hgp, P, ht, hi⟩ := asB_t ha
  obtain ⟨T, rfl⟩ : ∃ T : Nat, t = (T : Int) := ⟨t.toNat, by omega⟩
  rw [Int.toNat_natCast] at hb
  obtain ⟨r, hr⟩ : ∃ r, dnRr (red (sig p T i)) = some r := by
    unfold adB at hb
    exact Option.isSome_iff_exists.1 hb
  have e := (ad_some hr).1
  obtain ⟨u1, u2, u3⟩ := dn_ok P hr
  have hF : dnF p (T : Int) i = decL p r := by unfold dnF; rw [Int.toNat_natCast, ha, if_pos rfl, e]
  have Q := dec_good P u1 u2
  have hres := (sg82 P u3).2
  have hq : ∀ j, p.getD j 0 = (decL p r).getD j 0 + (if j = r then 1 else 0) := fun j => by rw [dec_get P u1 u2 j]; split <;> omega
  have hqr := hq r
  rw [if_pos rfl] at hqr
  obtain ⟨s1, s2, s3⟩ := pair_sg Q P (t := T) (i := i) (by omega) (r := r) hq (by rw [show (decL p r).getD r 0 - (r : Int) = p.getD r 0 - 1 - r by omega]; exact hres)
  obtain ⟨_, hs⟩ := sgM_same (fun j hj => (s3 j hj).symm) (by omega) (by omega)
  obtain ⟨K, k1, k2⟩ := hs (31 - r)
  have hpl := P.len
  have hql := Q.len
  rw [s2] at k1
  rw [s1] at k2
  rw [sig_wide P T i (W := r + 1 + (31 - r)) (by omega), k1] at hr
  have nd := sgM_nd p T i (r + 1 + (31 - r))
  rw [k1] at nd
  have l1 : Ltr (sgM p T i r) := sgM_ltr p T i r
  have l2 : Ltr K := fun m hm => sgM_ltr p T i (r + 1 + (31 - r)) m (by rw [k1]; simp [hm])
  obtain ⟨w1, w2⟩ := dn_split l1 l2 nd hr
  have hup := dn_then l2 w1 w2 r
  rw [← k2, ← sig_wide Q T i (by omega)] at hup
  have hgq := (good_iff _).2 Q
  have haq : asB (decL p r) (T : Int) i = true := by
    unfold asB at ha ⊢
    rw [Bool.and_eq_true] at ha
    rw [hgq, ha.2]; rfl
  rw [hF]
  obtain ⟨d1, d2⟩ := au_some hup
  have hid := inc_dec P u1 u2
  rw [hid] at d1
  refine ⟨by unfold upOk; rw [Int.toNat_natCast, haq, d2, d1, hgp]; rfl, ?_, Q⟩
  unfold upF
  rw [Int.toNat_natCast, haq, d1, hgp]; rfl
end Go.Proofs.Ytkbdlhmkiolegaa
/-
  Words of arrows up. No program in this text.
-/
namespace Go.Proofs.Ytkbdlhmkiolegaa

theorem Good.nil : Good [] := by
  refine ⟨by simp, fun j hj => absurd hj (by simp), fun j hj => absurd hj (by simp), fun j hj => absurd hj (by simp), by simp, by simp⟩
theorem up_eq {m : List Int} (G : Good m) (hs : m.sum ≤ 29) {t : Nat} (ht : 2 ≤ t ∧ t ≤ 6) (i : Int) : upOk m t i = auB m t i ∧ upF m t i = auL m t i ∧ (auB m t i = true → Good (auL m t i) ∧ (auL m t i).sum = m.sum + 1 ∧ 0 ≤ i ∧ i < t) := by
  cases hu : upR (red (sig m t i)) with
  | none =>
    obtain ⟨e1, e2⟩ := au_none hu
    rw [show upOk m t i = (asB m t i && (auB m t i && good (auL m t i))) by simp [upOk], show upF m t i = if asB m t i && good (auL m t i) then auL m t i else [] by simp [upF], e1, e2]
    refine ⟨by simp, by split <;> rfl, fun h => by cases h⟩
  | some r =>
    obtain ⟨e1, e2⟩ := au_some hu
    obtain ⟨h1, h2, h3⟩ := up_ok G hu
    have hres := (sg65 G h3).2
    have hm0 := Int.emod_nonneg (m.getD r 0 - r) (show (t : Int) ≠ 0 by omega)
    have hm1 := Int.emod_lt_of_pos (m.getD r 0 - r) (show (0 : Int) < t by omega)
    rw [hres] at hm0 hm1
    have hG := inc_Good G hs h1 ((add_iff G).2 h2)
    have ha : asB m t i = true := by
      unfold asB
      rw [(good_iff m).2 G, inB_iff.2 (show (2 : Int) ≤ (t : Int) ∧ (t : Int) ≤ 6 by omega), inB_iff.2 (show (0 : Int) ≤ i ∧ i ≤ (t : Int) - 1 by omega)]; rfl
    rw [show upOk m t i = (asB m t i && (auB m t i && good (auL m t i))) by simp [upOk], show upF m t i = if asB m t i && good (auL m t i) then auL m t i else [] by simp [upF], e1, e2, ha, (good_iff _).2 hG]
    exact ⟨rfl, by simp, fun _ => ⟨hG, inc_sum m r h1, hm0, hm1⟩⟩
/-- What k arrows up make, from the word's last letter on. -/
def byN (t : Nat) (word : List Int) : Nat → Option (List Int)
  | 0 => some []
  | k + 1 => (byN t word k).bind fun m => if auB m t (word.getD (word.length - 1 - k) 0) then some (auL m t (word.getD (word.length - 1 - k) 0)) else none
theorem byN_none {t : Nat} {word : List Int} {k : Nat} (h : byN t word k = none) : ∀ d, byN t word (k + d) = none
  | 0 => h
  | d + 1 => by
    have := byN_none h d
    show (byN t word (k + d)).bind _ = none
    rw [this]; rfl
theorem byN_ok {t : Nat} (ht : 2 ≤ t ∧ t ≤ 6) {word : List Int} : ∀ {k : Nat} {m : List Int}, k ≤ 30 → byN t word k = some m → Good m ∧ m.sum = k ∧ ∀ j, j < k → 0 ≤ word.getD (word.length - 1 - j) 0 ∧ word.getD (word.length - 1 - j) 0 < t
  | 0, m, _, h => by
    have e : m = [] := by simpa [byN] using h.symm
    subst e
    exact ⟨Good.nil, rfl, fun j hj => absurd hj (by omega)⟩
  | k + 1, m, hk, h => by
    cases hb : byN t word k with
    | none => rw [byN, hb] at h; cases h
    | some p =>
      obtain ⟨g, s, hl⟩ := byN_ok ht (by omega) hb
      rw [byN, hb] at h
      simp only [Option.bind_some] at h
      split at h
      · rename_i ha
        obtain ⟨_, _, h3⟩ := up_eq g (by omega) ht (word.getD (word.length - 1 - k) 0)
        obtain ⟨a, b, c⟩ := h3 ha
        injection h with h
        subst h
        refine ⟨a, by rw [b, s]; omega, fun j hj => ?_⟩
        by_cases e : j = k
        · subst e; exact c
        · exact hl j (by omega)
      · cases h
def byO (t : Nat) (word : List Int) : Option (List Int) := byN t word word.length
def byL (t : Nat) (word : List Int) : List Int := (byO t word).getD []
def byB (t : Nat) (word : List Int) : Bool := (byO t word).isSome
theorem by_some {t : Nat} {word m : List Int} (h : byN t word word.length = some m) : byL t word = m ∧ byB t word = true := by simp [byL, byB, byO, h]
theorem by_none {t : Nat} {word : List Int} {k : Nat} (hk : k ≤ word.length) (h : byN t word k = none) : byL t word = [] ∧ byB t word = false := by
  have := byN_none h (word.length - k)
  rw [show k + (word.length - k) = word.length by omega] at this
  simp [byL, byB, byO, this]
theorem by_bad {t : Nat} (ht : 2 ≤ t ∧ t ≤ 6) {word : List Int} (hl : word.length ≤ 30) (h : word.all (inB 0 ((t : Int) - 1)) = false) : byL t word = [] ∧ byB t word = false := by
  cases hb : byN t word word.length with
  | none => exact by_none (Nat.le_refl _) hb
  | some m =>
    exfalso
    obtain ⟨_, _, h3⟩ := byN_ok ht hl hb
    rw [List.all_eq_false] at h
    obtain ⟨x, hx, hn⟩ := h
    obtain ⟨j, hj, rfl⟩ := List.getElem_of_mem hx
    have := h3 (word.length - 1 - j) (by omega)
    rw [show word.length - 1 - (word.length - 1 - j) = j by omega, List.getD_eq_getElem?_getD, List.getElem?_eq_getElem hj] at this
    simp only [Option.getD_some] at this
    exact hn (inB_iff.2 (by omega))
theorem byL_len {t : Nat} (ht : 2 ≤ t ∧ t ≤ 6) {word : List Int} (hl : word.length ≤ 30) : (byL t word).length ≤ 30 := by
  cases hb : byN t word word.length with
  | none => rw [(by_none (Nat.le_refl _) hb).1]; simp
  | some m => rw [(by_some hb).1]; exact (byN_ok ht hl hb).1.len
def abwG (t : Int) (word : List Int) : Bool := inB 2 6 t && decide (word.length ≤ 30)
def abwF (t : Int) (word : List Int) : List Int := if abwG t word then byL t.toNat word else []
def abwB (t : Int) (word : List Int) : Bool := abwG t word && byB t.toNat word
theorem bound_ArrowByWord (t : Int) (word : List Int) : (abwF t word).length ≤ 1048576 := by
  unfold abwF; split
  · rename_i h
    simp only [abwG, Bool.and_eq_true, decide_eq_true_eq] at h
    have ht := inB_iff.1 h.1
    have := byL_len (t := t.toNat) (by omega) h.2
    omega
  · simp
/-! The mirror. -/
def mwL (t : Nat) (xs : List Int) : List Int := (awL t xs).map fun i => (-i) % (t : Int)
def mirF (xs : List Int) (t : Int) : List Int := if rgB xs t then byL t.toNat (mwL t.toNat xs) else []
def mirB (xs : List Int) (t : Int) : Bool := rgB xs t && byB t.toNat (mwL t.toNat xs)
theorem mwL_len (t : Nat) (xs : List Int) : (mwL t xs).length = (awL t xs).length := by simp [mwL]
theorem bound_MirrorOf (xs : List Int) (t : Int) : (mirF xs t).length ≤ 1048576 := by
  unfold mirF; split
  · rename_i h
    obtain ⟨_, G, ht, _, _⟩ := rgB_t h
    have h1 := awL_len t.toNat G
    have := byL_len (t := t.toNat) (by omega) (word := mwL t.toNat xs) (by rw [mwL_len]; exact h1)
    omega
  · simp
end Go.Proofs.Ytkbdlhmkiolegaa
/-
  Regular partitions: an arrow up leaves them regular, their words lead up to them again, and those of few cells are the ones that arrows reach. No walk in this text.
-/
namespace Go.Proofs.Ytkbdlhmkiolegaa

/-- An arrow up leaves a regular partition regular. -/
theorem up_reg {p : List Int} (P : Good p) {t : Nat} (ht : 2 ≤ t) {i : Int} (hr : regB p t = true) {r : Nat} (h : upR (red (sig p t i)) = some r) (Q : Good (incL p r)) : regB (incL p r) t = true := by
  obtain ⟨u1, u2, u3⟩ := up_ok P h
  have hres := (sg65 P u3).2
  have hinc := fun j => inc_get p r u1 j
  refine regB_of fun k hk he => ?_
  -- the rows k .. k + t - 1 of the new one are alike
  have hd := fun {a b : Nat} (h : a ≤ b) => down_all P h
  have hdq := fun {a b : Nat} (h : a ≤ b) => down_all Q h
  by_cases hrk : r = k + (t - 1)
  · -- the cell closes a run of t rows; the row k could have taken it
    have e1 := hinc k
    have e2 := hinc (k + (t - 1))
    rw [if_neg (by omega)] at e1
    rw [if_pos hrk.symm] at e2
    have hpk : p.getD k 0 = p.getD r 0 + 1 := by rw [hrk]; omega
    have hmid : ∀ j, k ≤ j → j < r → p.getD j 0 = p.getD k 0 := fun j h1 h2 => by
      have a1 := hdq (show j ≤ k + (t - 1) by omega)
      have a2 := hinc j
      rw [if_neg (by omega)] at a2
      have a3 := hd h1
      omega
    have hlen : k + t - 2 < p.length := by
      rcases Nat.lt_or_ge (k + t - 2) p.length with h1 | h1
      · exact h1
      · have h2 := hmid (k + t - 2) (by omega) (by omega)
        rw [getD_beyond h1] at h2
        have := (P.part r).1
        omega
    have hup : k = 0 ∨ p.getD k 0 < p.getD (k - 1) 0 := by
      rcases Nat.eq_zero_or_pos k with h0 | h0
      · exact .inl h0
      · right
        have h1 := regB_ne hr (k := k - 1) (by omega)
        rw [show k - 1 + (t - 1) = k + t - 2 by omega] at h1
        have h2 := hmid (k + t - 2) (by omega) (by omega)
        have h3 := hd (show k - 1 ≤ k by omega)
        omega
    have hkres : (p.getD k 0 - k) % (t : Int) = i := by
      rw [show p.getD k 0 - (k : Int) = (p.getD r 0 - r) + t by omega, Int.add_emod_right]; exact hres
    have hsk : sgB p t i k = 65 := by rw [sgB_eq P, if_pos ⟨hup, hkres⟩]
    -- no letter between
    have hno : ∀ j, k + 1 ≤ j → j < k + 1 + (r - (k + 1)) → sgB p t i j = 0 := fun j h1 h2 => by
      have e3 := hmid j (by omega) (by omega)
      have e4 := hmid (j - 1) (by omega) (by omega)
      rw [sgB_eq P, if_neg (by omega), if_neg]
      rintro ⟨h5, h6⟩
      have hj : j = k + t - 2 := by
        rcases Nat.lt_or_ge j (k + t - 2) with h7 | h7
        · have := hmid (j + 1) (by omega) (by omega); omega
        · omega
      have h8 : p.getD j 0 - 1 - (j : Int) = (p.getD r 0 - r) + 1 := by omega
      rw [h8] at h6
      exact mod_nx ht hres h6
    have hM : sgM p t i r = sgM p t i k ++ [(65, k)] := by
      have e5 := sgM_none hno
      rw [show k + 1 + (r - (k + 1)) = r by omega, sgM_yes (by omega), hsk] at e5
      exact e5
    have hpl := P.len
    obtain ⟨K, hK, _⟩ := (sgM_same (p := p) (q := p) (t := t) (i := i) (r := r) (fun _ _ => rfl) (by omega) (by omega)).2 (31 - r)
    rw [u3] at hK
    rw [sig_wide P t i (W := r + 1 + (31 - r)) (by omega), hK] at h
    have nd := sgM_nd p t i (r + 1 + (31 - r))
    rw [hK] at nd
    have l2 : Ltr K := fun m hm => sgM_ltr p t i (r + 1 + (31 - r)) m (by rw [hK]; simp [hm])
    have hall := (up_split (sgM_ltr p t i r) l2 nd h).1
    rw [hM, red_snoc, redS_a] at hall
    have := hall (65, k) (by simp)
    simp at this
  · by_cases hrk2 : r = k
    · have e1 := hinc k
      have e2 := hinc (k + (t - 1))
      rw [if_pos hrk2.symm] at e1
      rw [if_neg (by omega)] at e2
      have := hd (show k ≤ k + (t - 1) by omega)
      omega
    · have e1 := hinc k
      have e2 := hinc (k + (t - 1))
      rw [if_neg (by omega)] at e1
      rw [if_neg (by omega)] at e2
      have hlq := inc_len p r
      rcases Nat.lt_or_ge p.length (k + t) with h1 | h1
      · -- a row beyond p would be empty
        have hQ := Q.pos (k + (t - 1)) (by omega)
        rw [e2, getD_beyond (by omega)] at hQ
        omega
      · exact regB_ne hr h1 (by omega)
theorem byN_reg {t : Nat} (ht : 2 ≤ t ∧ t ≤ 6) {word : List Int} : ∀ {k : Nat} {m : List Int}, k ≤ 30 → byN t word k = some m → regB m t = true
  | 0, m, _, h => by
    have e : m = [] := by simpa [byN] using h.symm
    subst e
    exact regB_of fun k hk => by simp at hk; omega
  | k + 1, m, hk, h => by
    cases hb : byN t word k with
    | none => rw [byN, hb] at h; cases h
    | some p =>
      obtain ⟨g, s, _⟩ := byN_ok ht (by omega) hb
      have hr := byN_reg ht (by omega) hb
      rw [byN, hb] at h
      simp only [Option.bind_some] at h
      split at h
      · rename_i ha
        obtain ⟨_, _, h3⟩ := up_eq g (by omega) ht (word.getD (word.length - 1 - k) 0)
        obtain ⟨a, _, _⟩ := h3 ha
        injection h with h
        subst h
        cases hu : upR (red (sig p t (word.getD (word.length - 1 - k) 0))) with
        | none => unfold auB at ha; rw [hu] at ha; cases ha
        | some r =>
          rw [(au_some hu).1] at a ⊢
          exact up_reg g ht.1 hr hu a
      · cases h
/-- What a word makes. -/
theorem made_reg {t : Int} {word : List Int} (h : abwB t word = true) : rgB (abwF t word) t = true ∧ (abwF t word).sum = word.length ∧ Good (abwF t word) := by
  unfold abwB at h
  rw [Bool.and_eq_true] at h
  obtain ⟨hg, hb⟩ := h
  have hg2 := hg
  unfold abwG at hg2
  rw [Bool.and_eq_true, decide_eq_true_eq] at hg2
  have hin := inB_iff.1 hg2.1
  obtain ⟨T, rfl⟩ : ∃ T : Nat, t = (T : Int) := ⟨t.toNat, by omega⟩
  rw [Int.toNat_natCast] at hb
  unfold byB at hb
  obtain ⟨m, hm⟩ := Option.isSome_iff_exists.1 hb
  obtain ⟨g, s, _⟩ := byN_ok (t := T) (by omega) hg2.2 hm
  have hr := byN_reg (t := T) (by omega) hg2.2 hm
  have e : abwF (T : Int) word = m := by
    unfold abwF
    rw [hg, if_pos rfl, Int.toNat_natCast]
    exact (by_some hm).1
  rw [e]
  refine ⟨?_, s, g⟩
  unfold rgB giB
  rw [(good_iff m).2 g, hg2.1, Int.toNat_natCast, hr]; rfl
/-- One step down by the word of a regular partition. -/
theorem awd_step {p : List Int} {T : Nat} (h : rgB p (T : Int) = true) {j : Nat} (hj : (j : Int) < p.sum) :
    Good (dwn T p j) ∧ Good (dwn T p (j + 1)) ∧ dnOk8 (dwn T p j) T (firstD (dwn T p j) T : Nat) = true ∧ dnF (dwn T p j) T (firstD (dwn T p j) T : Nat) = dwn T p (j + 1) ∧ rgB (dwn T p (j + 1)) T = true ∧
    firstD (dwn T p j) T < T ∧ (∀ k : Nat, k < firstD (dwn T p j) T → dnOk8 (dwn T p j) T (k : Nat) = false) ∧ auB (dwn T p (j + 1)) T (firstD (dwn T p j) T : Nat) = true ∧ auL (dwn T p (j + 1)) T (firstD (dwn T p j) T : Nat) = dwn T p j := by
  obtain ⟨hg, G, ht, hr, hgi⟩ := rgB_t h
  rw [Int.toNat_natCast] at hr
  have hT : 2 ≤ T ∧ T ≤ 6 := by omega
  obtain ⟨g, r, s⟩ := dwn_ok G hT.1 hr j (by omega)
  obtain ⟨g1, r1, s1⟩ := dwn_ok G hT.1 hr (j + 1) (by omega)
  have h0 := sum_pos g (by omega)
  have hex := has_down g h0 hT.1 r
  obtain ⟨f1, f2⟩ := firstD_lt hex
  have hasB : ∀ (q : List Int) (k : Nat), Good q → k < T → asB q (T : Int) (k : Int) = true := fun q k gq hk => by
    unfold asB
    rw [(good_iff q).2 gq, inB_iff.2 (show (2 : Int) ≤ (T : Int) ∧ (T : Int) ≤ 6 by omega), inB_iff.2 (show (0 : Int) ≤ (k : Int) ∧ (k : Int) ≤ (T : Int) - 1 by omega)]; rfl
  have hok : dnOk8 (dwn T p j) T (firstD (dwn T p j) T : Nat) = true := by
    unfold dnOk8
    rw [hasB _ _ g f1, Int.toNat_natCast, f2]; rfl
  have hF : dnF (dwn T p j) T (firstD (dwn T p j) T : Nat) = dwn T p (j + 1) := by
    unfold dnF
    rw [hasB _ _ g f1, if_pos rfl, Int.toNat_natCast]; rfl
  obtain ⟨v1, v2, _⟩ := down_up hok
  rw [hF] at v1 v2
  unfold upOk at v1
  rw [Bool.and_eq_true, Bool.and_eq_true, Int.toNat_natCast] at v1
  unfold upF at v2
  rw [v1.1, Int.toNat_natCast, v1.2.2] at v2
  refine ⟨g, g1, hok, hF, ?_, f1, fun k hk => ?_, v1.2.1, v2⟩
  · unfold rgB giB
    rw [(good_iff _).2 g1, inB_iff.2 (show (2 : Int) ≤ (T : Int) ∧ (T : Int) ≤ 6 by omega), Int.toNat_natCast, r1]; rfl
  · unfold dnOk8
    rw [Int.toNat_natCast]
    cases hc : adB (dwn T p j) T (k : Int)
    · rw [Bool.and_false]
    · exfalso
      -- firstD is the least
      unfold firstD at hk
      cases hf : (List.range T).find? (fun i : Nat => adB (dwn T p j) T i) with
      | none => rw [hf] at hk; simp at hk
      | some d =>
        rw [hf] at hk
        have hk2 : k < d := hk
        obtain ⟨_, i, hi, he, hb⟩ := List.find?_eq_some_iff_getElem.1 hf
        rw [List.getElem_range] at he
        have := hb k (by omega)
        rw [List.getElem_range, hc] at this
        cases this
/-- The word leads up again. -/
theorem awd_back {p : List Int} {T : Nat} (h : rgB p (T : Int) = true) : ∀ k : Nat, (k : Int) ≤ p.sum → byN T (awL T p) k = some (dwn T p (p.sum.toNat - k))
  | 0, _ => by
    obtain ⟨hg, G, ht, hr, hgi⟩ := rgB_t h
    rw [Int.toNat_natCast] at hr
    have hs := G.sum0
    obtain ⟨g, _, s⟩ := dwn_ok G (t := T) (by omega) hr p.sum.toNat (by omega)
    have := sum_zero g (by omega)
    rw [Nat.sub_zero, List.eq_nil_of_length_eq_zero this]; rfl
  | k + 1, hk => by
    have ih := awd_back h k (by omega)
    obtain ⟨_, _, _, _, _, _, _, a, b⟩ := awd_step h (j := p.sum.toNat - (k + 1)) (by omega)
    have hl : (awL T p).length = p.sum.toNat := aw_len _ _ _
    have hw : (awL T p).getD ((awL T p).length - 1 - k) 0 = ((firstD (dwn T p (p.sum.toNat - (k + 1))) T : Nat) : Int) := by
      rw [hl]
      unfold awL aw
      rw [List.getD_eq_getElem?_getD, List.getElem?_map, List.getElem?_range (by omega), show p.sum.toNat - 1 - k = p.sum.toNat - (k + 1) by omega]; rfl
    rw [byN, ih, Option.bind_some, hw, show p.sum.toNat - k = p.sum.toNat - (k + 1) + 1 by omega, a, if_pos rfl, b]
theorem awd_all {p : List Int} {t : Int} (h : rgB p t = true) : ∃ T : Nat, t = (T : Int) ∧ (2 ≤ T ∧ T ≤ 6) ∧ Good p ∧ (awF p t).length = p.sum.toNat ∧ abwF t (awF p t) = p ∧ abwB t (awF p t) = true ∧ rgB p (T : Int) = true ∧
    ∀ j, j < p.sum.toNat → (awF p t).getD j 0 = ((firstD (dwn T p j) T : Nat) : Int) := by
  obtain ⟨hg, G, ht, hr, hgi⟩ := rgB_t h
  obtain ⟨T, rfl⟩ : ∃ T : Nat, t = (T : Int) := ⟨t.toNat, by omega⟩
  have hs := G.sum0
  have hS := G.sum
  have e : awF p (T : Int) = awL T p := by unfold awF; rw [h, if_pos rfl, Int.toNat_natCast]
  have hl : (awL T p).length = p.sum.toNat := aw_len _ _ _
  have hb := awd_back h p.sum.toNat (by omega)
  rw [Nat.sub_self, ← hl] at hb
  have hgB : abwG (T : Int) (awL T p) = true := by
    unfold abwG
    rw [inB_iff.2 (show (2 : Int) ≤ (T : Int) ∧ (T : Int) ≤ 6 by omega), decide_eq_true (by omega)]; rfl
  obtain ⟨b1, b2⟩ := by_some hb
  rw [e]
  refine ⟨T, rfl, by omega, G, hl, ?_, ?_, h, fun j hj => ?_⟩
  · unfold abwF; rw [hgB, if_pos rfl, Int.toNat_natCast]; exact b1
  · unfold abwB; rw [hgB, Int.toNat_natCast, b2]; rfl
  · unfold awL aw
    rw [List.getD_eq_getElem?_getD, List.getElem?_map, List.getElem?_range hj]; rfl
end Go.Proofs.Ytkbdlhmkiolegaa
