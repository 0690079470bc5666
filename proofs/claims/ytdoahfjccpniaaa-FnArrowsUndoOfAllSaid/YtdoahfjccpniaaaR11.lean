/-
  Several texts in one.
-/
import Derived.Test.YtdoahfjccpniaaaR09
import Derived.Test.YtdoahfjccpniaaaR10
import Derived.Test.YtdoahfjccpniaaaR08
/-
  Arrows up and down undo each other; a reduced signature is reduced. No walk in this text.
-/
namespace Go.Proofs.Ytdoahfjccpniaaa

def Ltr (M : List (Nat × Nat)) : Prop := ∀ m ∈ M, m.1 = 65 ∨ m.1 = 82
theorem redS_a (st : List (Nat × Nat)) (r : Nat) : redS st (65, r) = st ++ [(65, r)] := if_neg fun h => by have := h.1; omega
theorem redS_pop (st : List (Nat × Nat)) (a r : Nat) : redS (st ++ [(65, a)]) (82, r) = st := by
  unfold redS
  rw [if_pos]
  · simp
  · refine ⟨rfl, by simp, by simp [List.getD]⟩
theorem redS_r {st : List (Nat × Nat)} (h : ∀ x ∈ st, x.1 = 82) (r : Nat) : redS st (82, r) = st ++ [(82, r)] := by
  unfold redS
  rw [if_neg]
  rintro ⟨_, h1, h2⟩
  have := h _ (memD_ar (d := (0, 0)) (show st.length - 1 < st.length by omega))
  omega
theorem go_a : ∀ (b st : List (Nat × Nat)), (∀ x ∈ b, x.1 = 65) → b.foldl redS st = st ++ b
  | [], st, _ => by simp
  | (l, r) :: b, st, h => by
    have e : l = 65 := h _ (List.mem_cons_self ..)
    subst e
    rw [List.foldl_cons, redS_a, go_a b _ fun x hx => h x (List.mem_cons_of_mem _ hx)]; simp
theorem go_r : ∀ (a st : List (Nat × Nat)), (∀ x ∈ st, x.1 = 82) → (∀ x ∈ a, x.1 = 82) → a.foldl redS st = st ++ a
  | [], st, _, _ => by simp
  | (l, r) :: a, st, hs, h => by
    have e : l = 82 := h _ (List.mem_cons_self ..)
    subst e
    rw [List.foldl_cons, redS_r hs, go_r a _ (fun x hx => by
      rcases List.mem_append.1 hx with h1 | h1
      · exact hs x h1
      · rw [List.mem_singleton.1 h1]) fun x hx => h x (List.mem_cons_of_mem _ hx)]; simp
/-- First only R, then only A. -/
def Nf (L a b : List (Nat × Nat)) : Prop := L = a ++ b ∧ (∀ x ∈ a, x.1 = 82) ∧ ∀ x ∈ b, x.1 = 65
theorem red_nf (M : List (Nat × Nat)) : Ltr M → ∃ a b, Nf (red M) a b := by
  refine snoc_ind (P := fun M => Ltr M → ∃ a b, Nf (red M) a b) (fun _ => ⟨[], [], rfl, by simp, by simp⟩) ?_ M
  intro M m ih h
  obtain ⟨a, b, e, ha, hb⟩ := ih fun x hx => h x (by simp [hx])
  rw [red_snoc, e]
  obtain ⟨l, r⟩ := m
  rcases h (l, r) (by simp) with hl | hl
  · have hl' : l = 65 := hl
    subst hl'
    rw [redS_a]
    refine ⟨a, b ++ [(65, r)], by simp, ha, fun x hx => ?_⟩
    rcases List.mem_append.1 hx with h1 | h1
    · exact hb x h1
    · rw [List.mem_singleton.1 h1]
  · have hl' : l = 82 := hl
    subst hl'
    rcases snoc_or b with rfl | ⟨b', ⟨l', y⟩, rfl⟩
    · rw [List.append_nil, redS_r ha]
      refine ⟨a ++ [(82, r)], [], by simp, fun x hx => ?_, by simp⟩
      rcases List.mem_append.1 hx with h1 | h1
      · exact ha x h1
      · rw [List.mem_singleton.1 h1]
    · have e2 : l' = 65 := hb (l', y) (by simp)
      subst e2
      rw [← List.append_assoc, redS_pop]
      exact ⟨a, b', rfl, ha, fun x hx => hb x (by simp [hx])⟩
theorem red_mem2 (K : List (Nat × Nat)) : ∀ (st : List (Nat × Nat)) (x : Nat × Nat), x ∈ K.foldl redS st → x ∈ st ∨ x ∈ K := by
  induction K with
  | nil => intro st x h; exact .inl h
  | cons m K ih =>
    intro st x h
    rw [List.foldl_cons] at h
    rcases ih _ x h with h1 | h1
    · have : x ∈ st ∨ x = m := by
        unfold redS at h1
        split at h1
        · exact .inl (List.mem_of_mem_take h1)
        · rcases List.mem_append.1 h1 with h2 | h2
          · exact .inl h2
          · exact .inr (List.mem_singleton.1 h2)
      rcases this with h2 | h2
      · exact .inl h2
      · exact .inr (by rw [h2]; exact List.mem_cons_self ..)
    · exact .inr (List.mem_cons_of_mem _ h1)
/-- Only what is left of a word matters for what stands before it. -/
theorem go_red (M : List (Nat × Nat)) : Ltr M → ∀ st, M.foldl redS st = (red M).foldl redS st := by
  refine snoc_ind (P := fun M => Ltr M → ∀ st, M.foldl redS st = (red M).foldl redS st) (fun _ _ => rfl) ?_ M
  intro M m ih h st
  have hM : Ltr M := fun x hx => h x (by simp [hx])
  have ih := ih hM
  rw [List.foldl_append, List.foldl_cons, List.foldl_nil, ih st, red_snoc]
  obtain ⟨l, r⟩ := m
  rcases h (l, r) (by simp) with hl | hl
  · have hl' : l = 65 := hl
    subst hl'
    rw [redS_a, redS_a, List.foldl_append, List.foldl_cons, List.foldl_nil, redS_a]
  · have hl' : l = 82 := hl
    subst hl'
    obtain ⟨a, b, e, ha, hb⟩ := red_nf M hM
    rw [e]
    rcases snoc_or b with rfl | ⟨b', ⟨l', y⟩, rfl⟩
    · rw [List.append_nil, redS_r ha, List.foldl_append, List.foldl_cons, List.foldl_nil]
    · have e2 : l' = 65 := hb (l', y) (by simp)
      subst e2
      rw [← List.append_assoc, redS_pop, List.foldl_append, List.foldl_cons, List.foldl_nil, redS_a, redS_pop]
theorem red_split (M1 M2 : List (Nat × Nat)) (m : Nat × Nat) (h2 : Ltr M2) : red (M1 ++ m :: M2) = (red M2).foldl redS (redS (red M1) m) := by
  unfold red
  rw [List.foldl_append, List.foldl_cons, go_red M2 h2]; rfl
theorem fl_all {L : List (Nat × Nat)} {l : Nat} (h : ∀ x ∈ L, x.1 = l) : fl L l = L.map Prod.snd := by
  unfold fl
  rw [List.filter_eq_self.2 fun x hx => by rw [h x hx]; simp]
theorem fl_no {L : List (Nat × Nat)} {l m : Nat} (h : ∀ x ∈ L, x.1 = l) (hne : l ≠ m) : fl L m = [] := by
  unfold fl
  rw [List.filter_eq_nil_iff.2 fun x hx => by rw [h x hx]; simpa using hne]; rfl
theorem rows_off {M1 M2 : List (Nat × Nat)} {m : Nat × Nat} (nd : ((M1 ++ m :: M2).map Prod.snd).Nodup) {x : Nat × Nat} (h : x ∈ M1 ∨ x ∈ M2) : x.2 ≠ m.2 := by
  rw [List.map_append, List.map_cons, List.nodup_append] at nd
  obtain ⟨_, n2, n3⟩ := nd
  rcases h with h | h
  · exact n3 _ (List.mem_map_of_mem h) _ (List.mem_cons_self ..)
  · intro e
    exact (List.nodup_cons.1 n2).1 (by rw [← e]; exact List.mem_map_of_mem h)
/-- The first A that is left: only R is left before it, only A behind it. -/
theorem up_split {M1 M2 : List (Nat × Nat)} {r : Nat} (h1 : Ltr M1) (h2 : Ltr M2) (nd : ((M1 ++ (65, r) :: M2).map Prod.snd).Nodup) (h : upR (red (M1 ++ (65, r) :: M2)) = some r) :
    (∀ x ∈ red M1, x.1 = 82) ∧ ∀ x ∈ red M2, x.1 = 65 := by
  have hm := upR_mem h
  obtain ⟨a1, b1, e1, ha1, hb1⟩ := red_nf M1 h1
  obtain ⟨a2, b2, e2, ha2, hb2⟩ := red_nf M2 h2
  have es := red_split M1 M2 (65, r) h2
  rw [redS_a] at es
  have ea : a2 = [] := by
    cases a2 with
    | nil => rfl
    | cons x a2 =>
      obtain ⟨l, y⟩ := x
      have hl : l = 82 := ha2 (l, y) (List.mem_cons_self ..)
      subst hl
      rw [e2, List.cons_append, List.foldl_cons, redS_pop] at es
      rw [es] at hm
      exfalso
      rcases red_mem2 _ _ _ hm with h3 | h3
      · exact rows_off nd (.inl (red_mem M1 _ h3)) rfl
      · exact rows_off nd (.inr (red_mem M2 _ (by rw [e2]; exact List.mem_cons_of_mem _ h3))) rfl
  subst ea
  rw [List.nil_append] at e2
  rw [e2, go_a b2 _ hb2, e1] at es
  have eb : b1 = [] := by
    cases b1 with
    | nil => rfl
    | cons x b1 =>
      obtain ⟨l, y⟩ := x
      have hl : l = 65 := hb1 (l, y) (List.mem_cons_self ..)
      subst hl
      rw [es] at h
      unfold upR at h
      rw [fl_app, fl_app, fl_app, fl_no ha1 (by decide), fl_all hb1, List.nil_append, List.map_cons, List.cons_append, List.cons_append, List.head?_cons] at h
      injection h with h
      exact absurd h (rows_off nd (x := (65, y)) (.inl (red_mem M1 _ (by rw [e1]; simp))))
  subst eb
  rw [e1, e2, List.append_nil]
  exact ⟨ha1, hb2⟩
/-- The last R that is left. -/
theorem dn_split {M1 M2 : List (Nat × Nat)} {r : Nat} (h1 : Ltr M1) (h2 : Ltr M2) (nd : ((M1 ++ (82, r) :: M2).map Prod.snd).Nodup) (h : dnRr (red (M1 ++ (82, r) :: M2)) = some r) :
    (∀ x ∈ red M1, x.1 = 82) ∧ ∀ x ∈ red M2, x.1 = 65 := by
  have hm := dnR_mem h
  obtain ⟨a1, b1, e1, ha1, hb1⟩ := red_nf M1 h1
  obtain ⟨a2, b2, e2, ha2, hb2⟩ := red_nf M2 h2
  have es := red_split M1 M2 (82, r) h2
  have eb : b1 = [] := by
    rcases snoc_or b1 with rfl | ⟨b', ⟨l', y⟩, rfl⟩
    · rfl
    · have hl : l' = 65 := hb1 (l', y) (by simp)
      subst hl
      rw [e1, ← List.append_assoc, redS_pop] at es
      rw [es] at hm
      exfalso
      rcases red_mem2 _ _ _ hm with h3 | h3
      · exact rows_off nd (.inl (red_mem M1 _ (by rw [e1]; rcases List.mem_append.1 h3 with h4 | h4 <;> simp [h4]))) rfl
      · exact rows_off nd (.inr (red_mem M2 _ h3)) rfl
  subst eb
  rw [List.append_nil] at e1
  have ha3 : ∀ x ∈ a1 ++ [(82, r)], x.1 = 82 := fun x hx => by
    rcases List.mem_append.1 hx with h4 | h4
    · exact ha1 x h4
    · rw [List.mem_singleton.1 h4]
  rw [e1, redS_r ha1, e2, List.foldl_append, go_r a2 _ ha3 ha2, go_a b2 _ hb2] at es
  have ea : a2 = [] := by
    rcases snoc_or a2 with rfl | ⟨a', ⟨l', y⟩, rfl⟩
    · rfl
    · rw [es] at h
      unfold dnRr at h
      have hl : l' = 82 := ha2 (l', y) (by simp)
      subst hl
      rw [fl_app, fl_no hb2 (by decide), List.append_nil, fl_app, fl_app, fl_app] at h
      rw [show fl [(82, y)] 82 = [y] from rfl, ← List.append_assoc, List.getLast?_concat] at h
      injection h with h
      exact absurd h (rows_off nd (x := (82, y)) (.inr (red_mem M2 _ (by rw [e2]; simp))))
  subst ea
  rw [e1, e2, List.nil_append]
  exact ⟨ha1, hb2⟩
theorem up_then {M1 M2 : List (Nat × Nat)} (h2 : Ltr M2) (ha : ∀ x ∈ red M1, x.1 = 82) (hb : ∀ x ∈ red M2, x.1 = 65) (r : Nat) : dnRr (red (M1 ++ (82, r) :: M2)) = some r := by
  rw [red_split M1 M2 _ h2, redS_r ha, go_a _ _ hb]
  unfold dnRr
  rw [fl_app, fl_no hb (by decide), List.append_nil, fl_app, show fl [(82, r)] 82 = [r] from rfl, List.getLast?_concat]
theorem dn_then {M1 M2 : List (Nat × Nat)} (h2 : Ltr M2) (ha : ∀ x ∈ red M1, x.1 = 82) (hb : ∀ x ∈ red M2, x.1 = 65) (r : Nat) : upR (red (M1 ++ (65, r) :: M2)) = some r := by
  rw [red_split M1 M2 _ h2, redS_a, go_a _ _ hb]
  unfold upR
  rw [fl_app, fl_app, fl_no ha (by decide), List.nil_append, show fl [(65, r)] 65 = [r] from rfl]; rfl
/-! The signature of a partition and of the one with one cell more. -/
theorem sgM_ltr (xs : List Int) (t : Nat) (i : Int) (k : Nat) : Ltr (sgM xs t i k) := fun m hm => by
  obtain ⟨_, h2, h3⟩ := sgM_mem hm
  rcases sgB_cases xs t i m.2 with h | h | h <;> omega
theorem sgM_nd (xs : List Int) (t : Nat) (i : Int) : ∀ k, ((sgM xs t i k).map Prod.snd).Nodup
  | 0 => by simp [sgM]
  | k + 1 => by
    by_cases h : sgB xs t i k = 0
    · rw [sgM_no h]; exact sgM_nd xs t i k
    · rw [sgM_yes h, List.map_append, List.nodup_append]
      refine ⟨sgM_nd xs t i k, by simp, ?_⟩
      rintro a ha b hb rfl
      obtain ⟨m, hm, rfl⟩ := List.mem_map.1 ha
      have := (sgM_mem hm).1
      simp at hb; omega
theorem sgM_same {p q : List Int} {t : Nat} {i : Int} {r : Nat} (h : ∀ j, j ≠ r → sgB p t i j = sgB q t i j) (hp : sgB p t i r ≠ 0) (hq : sgB q t i r ≠ 0) : (∀ k, k ≤ r → sgM p t i k = sgM q t i k) ∧
    ∀ d, ∃ K, sgM p t i (r + 1 + d) = sgM p t i r ++ (sgB p t i r, r) :: K ∧ sgM q t i (r + 1 + d) = sgM p t i r ++ (sgB q t i r, r) :: K := by
  have h1 : ∀ k, k ≤ r → sgM p t i k = sgM q t i k := by
    intro k
    induction k with
    | zero => intro _; rfl
    | succ k ih =>
      intro hk
      have e := h k (by omega)
      have ih := ih (by omega)
      by_cases h0 : sgB p t i k = 0
      · rw [sgM_no h0, sgM_no (by rw [← e]; exact h0), ih]
      · rw [sgM_yes h0, sgM_yes (by rw [← e]; exact h0), ih, e]
  refine ⟨h1, fun d => ?_⟩
  induction d with
  | zero => exact ⟨[], sgM_yes hp, by rw [Nat.add_zero, sgM_yes hq, h1 r (Nat.le_refl _)]⟩
  | succ d ih =>
    obtain ⟨K, e1, e2⟩ := ih
    have e := h (r + 1 + d) (by omega)
    rw [← Nat.add_assoc]
    by_cases h0 : sgB p t i (r + 1 + d) = 0
    · exact ⟨K, by rw [sgM_no h0, e1], by rw [sgM_no (by rw [← e]; exact h0), e2]⟩
    · exact ⟨K ++ [(sgB p t i (r + 1 + d), r + 1 + d)], by rw [sgM_yes h0, e1]; simp, by rw [sgM_yes (by rw [← e]; exact h0), e2, e]; simp⟩
theorem sig_wide {p : List Int} (G : Good p) (t : Nat) (i : Int) {W : Nat} (hW : p.length + 1 ≤ W) : sig p t i = sgM p t i W := by
  obtain ⟨d, rfl⟩ : ∃ d, W = p.length + 1 + d := ⟨W - (p.length + 1), by omega⟩
  unfold sig
  refine (sgM_none fun j h1 h2 => ?_).symm
  rw [sgB_eq G, getD_beyond (show p.length ≤ j by omega), getD_beyond (show p.length ≤ j - 1 by omega), getD_beyond (show p.length ≤ j + 1 by omega), if_neg (by omega), if_neg (by omega)]
theorem mod_nx {x : Int} {t : Nat} (ht : 2 ≤ t) {i : Int} (h1 : x % (t : Int) = i) (h2 : (x + 1) % (t : Int) = i) : False := by
  have h : (x + 1 - x) % (t : Int) = 0 := by rw [Int.sub_emod, h1, h2]; simp
  rw [show x + 1 - x = 1 by omega, Int.emod_eq_of_lt (by omega) (by omega)] at h
  omega
/-- One cell more changes the letter of its row alone. -/
theorem pair_sg {q p : List Int} (Q : Good q) (P : Good p) {t : Nat} (ht : 2 ≤ t) {i : Int} {r : Nat} (hinc : ∀ j, p.getD j 0 = q.getD j 0 + (if j = r then 1 else 0)) (hres : (q.getD r 0 - r) % (t : Int) = i) :
    sgB q t i r = 65 ∧ sgB p t i r = 82 ∧ ∀ j, j ≠ r → sgB q t i j = sgB p t i j := by
  have hr := hinc r
  rw [if_pos rfl] at hr
  have hoth : ∀ j, j ≠ r → p.getD j 0 = q.getD j 0 := fun j hj => by have := hinc j; rw [if_neg hj] at this; omega
  refine ⟨?_, ?_, fun j hj => ?_⟩
  · rw [sgB_eq Q, if_pos]
    refine ⟨?_, hres⟩
    rcases Nat.eq_zero_or_pos r with h0 | h0
    · exact .inl h0
    · have h1 := down_all P (show r - 1 ≤ r by omega)
      have h2 := hoth (r - 1) (by omega)
      exact .inr (by omega)
  · rw [sgB_eq P, if_neg, if_pos]
    · refine ⟨?_, by rw [hr, show q.getD r 0 + 1 - 1 - (r : Int) = q.getD r 0 - r by omega]; exact hres⟩
      have h1 := down_all Q (show r ≤ r + 1 by omega)
      have h2 := hoth (r + 1) (by omega)
      omega
    · rintro ⟨_, h2⟩
      rw [hr, show q.getD r 0 + 1 - (r : Int) = (q.getD r 0 - r) + 1 by omega] at h2
      exact mod_nx ht hres h2
  · have ej := hoth j hj
    rw [sgB_eq Q, sgB_eq P, ej]
    have c1 : ((j = 0 ∨ q.getD j 0 < q.getD (j - 1) 0) ∧ (q.getD j 0 - j) % (t : Int) = i) ↔ ((j = 0 ∨ q.getD j 0 < p.getD (j - 1) 0) ∧ (q.getD j 0 - j) % (t : Int) = i) := by
      by_cases e : j - 1 = r
      · rw [e, hr]
        by_cases h0 : j = 0
        · simp [h0]
        · constructor
          · rintro ⟨a, b⟩; exact ⟨by omega, b⟩
          · rintro ⟨a, b⟩
            refine ⟨?_, b⟩
            rcases a with a | a
            · exact .inl a
            · right
              rcases Int.lt_or_le (q.getD j 0) (q.getD r 0) with h | h
              · exact h
              · exfalso
                have h5 : q.getD j 0 = q.getD r 0 := by omega
                rw [h5] at b
                refine mod_nx ht b ?_
                rw [show q.getD r 0 - (j : Int) + 1 = q.getD r 0 - r by omega]; exact hres
      · rw [hoth _ e]
    have c2 : (q.getD (j + 1) 0 < q.getD j 0 ∧ (q.getD j 0 - 1 - j) % (t : Int) = i) ↔ (p.getD (j + 1) 0 < q.getD j 0 ∧ (q.getD j 0 - 1 - j) % (t : Int) = i) := by
      by_cases e : j + 1 = r
      · rw [e, hr]
        constructor
        · rintro ⟨a, b⟩
          refine ⟨?_, b⟩
          rcases Int.lt_or_le (q.getD r 0 + 1) (q.getD j 0) with h | h
          · exact h
          · exfalso
            have h5 : q.getD j 0 = q.getD r 0 + 1 := by omega
            rw [h5] at b
            refine mod_nx ht hres ?_
            rw [show q.getD r 0 - (r : Int) + 1 = q.getD r 0 + 1 - 1 - j by omega]; exact b
        · rintro ⟨a, b⟩; exact ⟨by omega, b⟩
      · rw [hoth _ e]
    simp only [c1, c2]
theorem dec_inc {p : List Int} (G : Good p) {r : Nat} (hr : r ≤ p.length) : decL (incL p r) r = p := by
  unfold decL incL
  by_cases h : r = p.length
  · subst h
    rw [if_pos rfl, if_pos (by simp [List.getD])]
    simp
  · have hl : r < p.length := by omega
    have := G.pos r hl
    rw [if_neg h, show (p.set r (p.getD r 0 + 1)).getD r 0 = p.getD r 0 + 1 by simp [List.getD, hl], if_neg (by omega), List.set_set, show p.getD r 0 + 1 - 1 = p.getD r 0 by omega]
    apply List.ext_getElem (by simp)
    intro j h1 h2
    by_cases e : r = j
    · subst e; simp [List.getD, hl]
    · rw [List.getElem_set_ne e]
theorem inc_dec {p : List Int} (G : Good p) {r : Nat} (hr : r < p.length) (hd : p.getD (r + 1) 0 < p.getD r 0) : incL (decL p r) r = p := by
  unfold decL incL
  by_cases h : p.getD r 0 = 1
  · have hl := dec_last G hr hd h
    rw [if_pos h, if_pos (by rw [List.length_take]; omega)]
    have : p.take (r + 1) = p.take r ++ [p.getD r 0] := by
      rw [List.take_succ_eq_append_getElem hr, List.getD_eq_getElem?_getD, List.getElem?_eq_getElem hr]; rfl
    rw [hl, List.take_length, h] at this
    exact this.symm
  · rw [if_neg h, if_neg (by rw [List.length_set]; omega), show (p.set r (p.getD r 0 - 1)).getD r 0 = p.getD r 0 - 1 by simp [List.getD, hr], List.set_set, show p.getD r 0 - 1 + 1 = p.getD r 0 by omega]
    apply List.ext_getElem (by simp)
    intro j h1 h2
    by_cases e : r = j
    · subst e; simp [List.getD, hr]
    · rw [List.getElem_set_ne e]
/-- What an arrow up has added, one down takes away. -/
theorem up_down {p : List Int} {t i : Int} (h : upOk p t i = true) : dnOk8 (upF p t i) t i = true ∧ dnF (upF p t i) t i = p ∧ Good (upF p t i) := by
  unfold upOk at h
  rw [Bool.and_eq_true, Bool.and_eq_true] at h
  obtain ⟨ha, hb, hg⟩ := h
  obtain ⟨hgp, P, ht, hi⟩ := asB_t ha
  obtain ⟨T, rfl⟩ : ∃ T : Nat, t = (T : Int) := ⟨t.toNat, by omega⟩
  rw [Int.toNat_natCast] at hb hg
  obtain ⟨r, hr⟩ : ∃ r, upR (red (sig p T i)) = some r := by
    unfold auB at hb
    exact Option.isSome_iff_exists.1 hb
  have e := (au_some hr).1
  obtain ⟨u1, u2, u3⟩ := up_ok P hr
  have hF : upF p (T : Int) i = incL p r := by unfold upF; rw [Int.toNat_natCast, ha, hg, e]; rfl
  rw [e] at hg
  have Q := (good_iff _).1 hg
  have hres := (sg65 P u3).2
  obtain ⟨s1, s2, s3⟩ := pair_sg P Q (t := T) (by omega) (r := r) (fun j => inc_get p r u1 j) hres
  obtain ⟨_, hs⟩ := sgM_same s3 (by omega) (by omega)
  obtain ⟨K, k1, k2⟩ := hs (31 - r)
  have hpl := P.len
  have hql := Q.len
  rw [s1] at k1
  rw [s2] at k2
  rw [sig_wide P T i (W := r + 1 + (31 - r)) (by omega), k1] at hr
  have nd := sgM_nd p T i (r + 1 + (31 - r))
  rw [k1] at nd
  have l1 : Ltr (sgM p T i r) := sgM_ltr p T i r
  have l2 : Ltr K := fun m hm => sgM_ltr p T i (r + 1 + (31 - r)) m (by rw [k1]; simp [hm])
  obtain ⟨w1, w2⟩ := up_split l1 l2 nd hr
  have hdn := up_then l2 w1 w2 r
  rw [← k2, ← sig_wide Q T i (by omega)] at hdn
  have haq : asB (incL p r) (T : Int) i = true := by
    unfold asB at ha ⊢
    rw [Bool.and_eq_true] at ha
    rw [hg, ha.2]; rfl
  rw [hF]
  obtain ⟨d1, d2⟩ := ad_some hdn
  refine ⟨by unfold dnOk8; rw [Int.toNat_natCast, haq, d2]; rfl, ?_, Q⟩
  unfold dnF
  rw [Int.toNat_natCast, haq, if_pos rfl, d1, dec_inc P u1]
/-- What an arrow down has taken away, one up adds. -/
theorem down_up {p : List Int} {t i : Int} (h : dnOk8 p t i = true) : upOk (dnF p t i) t i = true ∧ upF (dnF p t i) t i = p ∧ Good (dnF p t i) := by
  unfold dnOk8 at h
  rw [Bool.and_eq_true] at h
  obtain ⟨ha, hb⟩ := h
  obtain ⟨hgp, P, ht, hi⟩ := asB_t ha
  obtain ⟨T, rfl⟩ : ∃ T : Nat, t = (T : Int) := ⟨t.toNat, by omega⟩
  rw [Int.toNat_natCast] at hb
  obtain ⟨r, hr⟩ : ∃ r, dnRr (red (sig p T i)) = some r := by
    unfold adB at hb
    exact Option.isSome_iff_exists.1 hb
  have e := (ad_some hr).1
  obtain ⟨u1, u2, u3⟩ := dn_ok P hr
  have hF : dnF p (T : Int) i = decL p r := by unfold dnF; rw [Int.toNat_natCast, ha, if_pos rfl, e]
  have Q := dec_good P u1 u2
  have hres := (sg82 P u3).2
  have hq : ∀ j, p.getD j 0 = (decL p r).getD j 0 + (if j = r then 1 else 0) := fun j => by rw [dec_get P u1 u2 j]; split <;> omega
  have hqr := hq r
  rw [if_pos rfl] at hqr
  obtain ⟨s1, s2, s3⟩ := pair_sg Q P (t := T) (i := i) (by omega) (r := r) hq (by rw [show (decL p r).getD r 0 - (r : Int) = p.getD r 0 - 1 - r by omega]; exact hres)
  obtain ⟨_, hs⟩ := sgM_same (fun j hj => (s3 j hj).symm) (by omega) (by omega)
  obtain ⟨K, k1, k2⟩ := hs (31 - r)
  have hpl := P.len
  have hql := Q.len
  rw [s2] at k1
  rw [s1] at k2
  rw [sig_wide P T i (W := r + 1 + (31 - r)) (by omega), k1] at hr
  have nd := sgM_nd p T i (r + 1 + (31 - r))
  rw [k1] at nd
  have l1 : Ltr (sgM p T i r) := sgM_ltr p T i r
  have l2 : Ltr K := fun m hm => sgM_ltr p T i (r + 1 + (31 - r)) m (by rw [k1]; simp [hm])
  obtain ⟨w1, w2⟩ := dn_split l1 l2 nd hr
  have hup := dn_then l2 w1 w2 r
  rw [← k2, ← sig_wide Q T i (by omega)] at hup
  have hgq := (good_iff _).2 Q
  have haq : asB (decL p r) (T : Int) i = true := by
    unfold asB at ha ⊢
    rw [Bool.and_eq_true] at ha
    rw [hgq, ha.2]; rfl
  rw [hF]
  obtain ⟨d1, d2⟩ := au_some hup
  have hid := inc_dec P u1 u2
  rw [hid] at d1
  refine ⟨by unfold upOk; rw [Int.toNat_natCast, haq, d2, d1, hgp]; rfl, ?_, Q⟩
  unfold upF
  rw [Int.toNat_natCast, haq, d1, hgp]; rfl
end Go.Proofs.Ytdoahfjccpniaaa
/-
  How many arrows are left is told by the numbers of cells of the residues. No walk in this text.
-/
namespace Go.Proofs.Ytdoahfjccpniaaa
open Go.RowKit

def ct (l : Nat) (M : List (Nat × Nat)) : Int := ((fl M l).length : Nat)
theorem ct_app (l : Nat) (M K : List (Nat × Nat)) : ct l (M ++ K) = ct l M + ct l K := by unfold ct; rw [fl_app, List.length_append]; omega
theorem ct_one (l m r : Nat) : ct l [(m, r)] = if m = l then 1 else 0 := by
  unfold ct fl
  by_cases h : m = l
  · subst h; simp
  · simp [h]
/-- What is taken out is taken out by pairs. -/
theorem red_ct (M : List (Nat × Nat)) : Ltr M → ct 65 (red M) - ct 82 (red M) = ct 65 M - ct 82 M := by
  refine snoc_ind (P := fun M => Ltr M → ct 65 (red M) - ct 82 (red M) = ct 65 M - ct 82 M) (fun _ => rfl) ?_ M
  intro M m ih h
  have hM : Ltr M := fun x hx => h x (by simp [hx])
  have ih := ih hM
  obtain ⟨l, r⟩ := m
  rw [red_snoc, ct_app, ct_app, ct_one, ct_one]
  rcases h (l, r) (by simp) with hl | hl
  · have hl' : l = 65 := hl
    subst hl'
    rw [redS_a, ct_app, ct_app, ct_one, ct_one]
    simp; omega
  · have hl' : l = 82 := hl
    subst hl'
    obtain ⟨a, b, e, ha, hb⟩ := red_nf M hM
    rw [e] at ih ⊢
    rcases snoc_or b with rfl | ⟨b', ⟨l', y⟩, rfl⟩
    · rw [List.append_nil] at ih ⊢
      rw [redS_r ha, ct_app, ct_app, ct_one, ct_one]
      simp; omega
    · have e2 : l' = 65 := hb (l', y) (by simp)
      subst e2
      rw [← List.append_assoc] at ih ⊢
      rw [redS_pop]
      rw [ct_app, ct_app 82 (a ++ b'), ct_one, ct_one] at ih
      simp at ih ⊢; omega
theorem ct_sgM (p : List Int) (t : Nat) (i : Int) {l : Nat} (hl : l ≠ 0) : ∀ k : Nat, ct l (sgM p t i k) = smr k fun r => indP (sgB p t i r = l)
  | 0 => rfl
  | k + 1 => by
    rw [smr_succ, ← ct_sgM p t i hl k]
    by_cases h : sgB p t i k = 0
    · rw [sgM_no h, indP_f (by omega)]; omega
    · rw [sgM_yes h, ct_app, ct_one]; rfl
theorem up_iff {p : List Int} (G : Good p) {t : Nat} (_ht : 2 ≤ t) {i : Int} (r : Nat) : indP (sgB p t i r = 65) = indP ((p.getD r 0 - r) % (t : Int) = i) - indP (¬ (r = 0 ∨ p.getD r 0 < p.getD (r - 1) 0) ∧ (p.getD r 0 - r) % (t : Int) = i) := by
  rw [sgB_eq G]
  by_cases h : (p.getD r 0 - r) % (t : Int) = i
  · rw [indP_t h]
    by_cases h2 : r = 0 ∨ p.getD r 0 < p.getD (r - 1) 0
    · rw [if_pos ⟨h2, h⟩, indP_t rfl, indP_f (fun h3 => h3.1 h2)]; rfl
    · have z : indP ((if p.getD (r + 1) 0 < p.getD r 0 ∧ (p.getD r 0 - 1 - r) % (t : Int) = i then 82 else 0) = 65) = 0 := indP_f (by split <;> omega)
      rw [if_neg (fun h3 => h2 h3.1), z, indP_t (b := ¬ (r = 0 ∨ p.getD r 0 < p.getD (r - 1) 0) ∧ _) ⟨h2, h⟩]; rfl
  · rw [indP_f h, if_neg (fun h3 => h h3.2), indP_f (b := ¬ _ ∧ _) (fun h3 => h h3.2), indP_f]
    · rfl
    · split <;> omega
theorem down_iff {p : List Int} (G : Good p) {t : Nat} (ht : 2 ≤ t) {i : Int} (r : Nat) : indP (sgB p t i r = 82) = indP ((p.getD r 0 - 1 - r) % (t : Int) = i) - indP (¬ p.getD (r + 1) 0 < p.getD r 0 ∧ (p.getD r 0 - 1 - r) % (t : Int) = i) := by
  rw [sgB_eq G]
  by_cases h : (p.getD r 0 - 1 - r) % (t : Int) = i
  · have hn : ¬ (p.getD r 0 - r) % (t : Int) = i := fun h2 => mod_nx ht h (by rw [show p.getD r 0 - 1 - (r : Int) + 1 = p.getD r 0 - r by omega]; exact h2)
    rw [indP_t h, if_neg (fun h3 => hn h3.2)]
    by_cases h2 : p.getD (r + 1) 0 < p.getD r 0
    · rw [if_pos ⟨h2, h⟩, indP_t rfl, indP_f (fun h3 => h3.1 h2)]; rfl
    · rw [if_neg (fun h3 => h2 h3.1), indP_f (b := (0 : Nat) = 82) (by omega), indP_t (b := ¬ p.getD (r + 1) 0 < p.getD r 0 ∧ _) ⟨h2, h⟩]; rfl
  · rw [indP_f h, indP_f (b := ¬ _ ∧ _) (fun h3 => h h3.2), indP_f]
    · rfl
    · split
      · omega
      · rw [if_neg (fun h3 => h h3.2)]; omega
theorem tele (g : Nat → Int) : ∀ n : Nat, smr n (fun r => g r - g (r + 1)) = g 0 - g n
  | 0 => by simp [smr]
  | n + 1 => by rw [smr_succ, tele g n]; omega
theorem smr_sub (f g : Nat → Int) (n : Nat) : smr n (fun k => f k - g k) = smr n f - smr n g := by
  have e := smr_add f (fun k => (-1) * g k) n
  rw [smr_mul] at e
  rw [show smr n (fun k => f k - g k) = smr n (fun k => f k + -1 * g k) from smr_congr _ fun k _ => by omega, e]; omega
/-- The arrows that are left, up less down. -/
theorem arrows_due {p : List Int} (G : Good p) {t : Nat} (ht : 2 ≤ t) {I J : Nat} (hI : I < t) (hJ : J < t) (hJI : (J + 1) % t = I) :
    ct 65 (sig p t I) - ct 82 (sig p t I) = cnt t (contL p p.length) J + cnt t (contL p p.length) ((I + 1) % t) - 2 * cnt t (contL p p.length) I + (if I = 0 then 1 else 0) := by
  unfold sig
  rw [ct_sgM p t I (by decide), ct_sgM p t I (by decide)]
  rw [smr_congr (p.length + 1) fun r _ => up_iff G ht r, smr_congr (g := fun r => _) (p.length + 1) fun r _ => down_iff G ht r, smr_sub, smr_sub]
  -- what is not there is paired off
  have hf : smr (p.length + 1) (fun r => indP (¬ (r = 0 ∨ p.getD r 0 < p.getD (r - 1) 0) ∧ (p.getD r 0 - r) % (t : Int) = (I : Int))) + indP ((-1 - (p.length : Int)) % (t : Int) = (I : Int)) =
      smr (p.length + 1) (fun r => indP (¬ p.getD (r + 1) 0 < p.getD r 0 ∧ (p.getD r 0 - 1 - r) % (t : Int) = (I : Int))) := by
    rw [smr_first, smr_succ, indP_f (fun h => h.1 (.inl rfl))]
    have e1 : smr p.length (fun k => indP (¬ (k + 1 = 0 ∨ p.getD (k + 1) 0 < p.getD (k + 1 - 1) 0) ∧ (p.getD (k + 1) 0 - ((k + 1 : Nat) : Int)) % (t : Int) = (I : Int))) = smr p.length fun r => indP (¬ p.getD (r + 1) 0 < p.getD r 0 ∧ (p.getD r 0 - 1 - r) % (t : Int) = (I : Int)) := by
      refine smr_congr _ fun k _ => indP_iff ?_
      have hd := down_all G (show k ≤ k + 1 by omega)
      rw [show k + 1 - 1 = k by omega]
      constructor
      · rintro ⟨a, b⟩
        have e : p.getD (k + 1) 0 = p.getD k 0 := by omega
        exact ⟨by omega, by rw [e] at b; rw [show p.getD k 0 - 1 - (k : Int) = p.getD k 0 - ((k + 1 : Nat) : Int) by omega]; exact b⟩
      · rintro ⟨a, b⟩
        have e : p.getD (k + 1) 0 = p.getD k 0 := by omega
        exact ⟨by omega, by rw [e, show p.getD k 0 - ((k + 1 : Nat) : Int) = p.getD k 0 - 1 - (k : Int) by omega]; exact b⟩
    rw [e1]
    have e2 : indP (¬ p.getD (p.length + 1) 0 < p.getD p.length 0 ∧ (p.getD p.length 0 - 1 - (p.length : Int)) % (t : Int) = (I : Int)) = indP ((-1 - (p.length : Int)) % (t : Int) = (I : Int)) := by
      rw [getD_beyond (show p.length ≤ p.length by omega), getD_beyond (show p.length ≤ p.length + 1 by omega)]
      refine indP_iff ⟨fun h => ?_, fun h => ⟨by omega, ?_⟩⟩
      · rw [show -1 - (p.length : Int) = 0 - 1 - p.length by omega]; exact h.2
      · rw [show (0 : Int) - 1 - (p.length : Int) = -1 - p.length by omega]; exact h
    rw [e2]; omega
  have h1 := cnt_cont G (t := t) (i := J) (by omega) hJ _ (Nat.le_refl _)
  have h2 := cnt_cont G (t := t) (i := I) (by omega) hI _ (Nat.le_refl _)
  rw [hJI] at h1
  have hm : ∀ x : Int, (x % (t : Int) = J) ↔ ((x + 1) % (t : Int) = I) := fun x => by
    have g1 := Int.emod_nonneg (x + 1) (show (t : Int) ≠ 0 by omega)
    have := next_mod (t := t) (i := J) (m := ((x + 1) % (t : Int)).toNat) (by omega) hJ (y := x) (by omega)
    rw [this, hJI]; omega
  have e1 : smr p.length (lvS p t J) = smr p.length (fun r => indP ((p.getD r 0 - r) % (t : Int) = (I : Int))) - smr p.length (fun r : Nat => indP ((-(r : Int)) % (t : Int) = (I : Int))) := by
    rw [← smr_sub]
    refine smr_congr _ fun r _ => ?_
    unfold lvS num
    rw [indP_iff (hm _), indP_iff (hm (-(r : Int) - 1)), show p.getD r 0 - (r : Int) - 1 + 1 = p.getD r 0 - r by omega, show -(r : Int) - 1 + 1 = -(r : Int) by omega]
  have e2 : smr p.length (lvS p t I) = smr p.length (fun r => indP ((p.getD r 0 - 1 - r) % (t : Int) = (I : Int))) - smr p.length (fun r : Nat => indP ((-((r + 1 : Nat) : Int)) % (t : Int) = (I : Int))) := by
    rw [← smr_sub]
    refine smr_congr _ fun r _ => ?_
    unfold lvS num
    rw [show p.getD r 0 - (r : Int) - 1 = p.getD r 0 - 1 - r by omega, show -(r : Int) - 1 = -((r + 1 : Nat) : Int) by omega]
  have e3 := tele (fun r => indP ((-(r : Int)) % (t : Int) = (I : Int))) p.length
  rw [smr_sub] at e3
  have e4 : indP ((-((0 : Nat) : Int)) % (t : Int) = (I : Int)) = if I = 0 then 1 else 0 := by
    rw [show (-((0 : Nat) : Int)) % (t : Int) = 0 by simp]
    unfold indP
    by_cases h : I = 0
    · rw [if_pos (by omega), if_pos h]
    · rw [if_neg (by omega), if_neg h]
  rw [e4] at e3
  rw [smr_succ p.length (fun r => indP ((p.getD r 0 - r) % (t : Int) = (I : Int))), smr_succ p.length (fun r => indP ((p.getD r 0 - 1 - r) % (t : Int) = (I : Int)))]
  have e5 : indP ((p.getD p.length 0 - (p.length : Int)) % (t : Int) = (I : Int)) = indP ((-(p.length : Int)) % (t : Int) = (I : Int)) := by
    rw [getD_beyond (Nat.le_refl _), Int.zero_sub]
  have e6 : indP ((p.getD p.length 0 - 1 - (p.length : Int)) % (t : Int) = (I : Int)) = indP ((-1 - (p.length : Int)) % (t : Int) = (I : Int)) := by
    rw [getD_beyond (Nat.le_refl _)]; rfl
  rw [e5, e6]
  omega
end Go.Proofs.Ytdoahfjccpniaaa
