/-
  Several texts in one.
-/
import Derived.Test.YtijfefahogcfmaaGreatR04
import Derived.Test.YtijfefahogcfmaaGreatR28
import Derived.Test.YtijfefahogcfmaaGreatR12
import Derived.Test.YtijfefahogcfmaaGreatR13
/-
  First hooks and partitions tell each other: plain facts.
-/
namespace Go.Proofs.YtijfefahogcfmaaGreat

theorem beads_rises {p : List Int} (G : Good p) : Rises 1 60 (beadsL p p.length) := by
  have hl := beadsL_len p p.length
  have h30 := G.len
  refine ⟨fun j hj => ?_, fun j hj => ?_⟩
  · rw [hl] at hj
    have h1 := G.pos (p.length - 1 - j) (by omega)
    have h2 := G.le (p.length - 1 - j) (by omega)
    unfold beadsL
    rw [fnRow_get _ _ _ hj]
    unfold bead; omega
  · rw [hl] at hj
    unfold beadsL
    rw [fnRow_get _ _ _ (by omega), fnRow_get _ _ _ hj]
    unfold bead
    have := G.down (p.length - 1 - (j + 1)) (by omega)
    rw [show p.length - 1 - (j + 1) + 1 = p.length - 1 - j by omega] at this
    omega
theorem ext_fh {xs ys : List Int} (hl : xs.length = ys.length) (h : ∀ j, j < xs.length → xs.getD j 0 = ys.getD j 0) : xs = ys := by
  apply List.ext_getElem hl
  intro j h1 h2
  have := h j h1
  rw [List.getD_eq_getElem?_getD, List.getElem?_eq_getElem h1, List.getD_eq_getElem?_getD, List.getElem?_eq_getElem h2] at this
  exact this
theorem parts_beads_id {p : List Int} (G : Good p) : partsL (beadsL p p.length) = p := by
  have hu := rises_up (beads_rises G)
  have hl := beadsL_len p p.length
  have hfl : (partsL (beadsL p p.length)).length = p.length := by unfold partsL; rw [bpk_full hu _ (Nat.le_refl _), hl]
  refine ext_fh hfl fun j hj => ?_
  rw [hfl] at hj
  unfold partsL
  rw [bpk_get hu _ (Nat.le_refl _) j (by omega), hl]
  unfold beadsL
  rw [fnRow_get _ _ _ (by omega)]
  unfold bead
  rw [show p.length - 1 - (p.length - 1 - j) = j by omega]
  omega
theorem ff_beads {p : List Int} (G : Good p) : ffOk (beadsL p p.length) = true := by
  simp only [ffOk, Bool.and_eq_true, decide_eq_true_eq]
  refine ⟨by rw [beadsL_len]; exact G.len, rises_Rises.2 (beads_rises G), ?_⟩
  rw [parts_beads_id G]; exact (good_iff p).2 G
theorem beads_parts_id {xs : List Int} (h : ffOk xs = true) : firstF (ffF xs) = xs := by
  rw [ff_t h]
  simp only [ffOk, Bool.and_eq_true, decide_eq_true_eq] at h
  have R := rises_Rises.1 h.2.1
  have hu := rises_up R
  have hpl : (partsL xs).length = xs.length := bpk_full hu _ (Nat.le_refl _)
  rw [show firstF (partsL xs) = beadsL (partsL xs) (partsL xs).length by simp [firstF, h.2.2]]
  refine ext_fh (by rw [beadsL_len, hpl]) fun j hj => ?_
  rw [beadsL_len, hpl] at hj
  rw [hpl]
  unfold beadsL
  rw [fnRow_get _ _ _ hj]
  unfold bead partsL
  rw [bpk_get hu _ (Nat.le_refl _) _ (by omega), show xs.length - 1 - (xs.length - 1 - j) = j by omega]
  omega
end Go.Proofs.YtijfefahogcfmaaGreat
/-
  The rows of AllBoth are the cores for both sizes, each once.
-/
namespace Go.Proofs.YtijfefahogcfmaaGreat
open Go.RowKit

theorem inc_eq : ∀ {L M : List Int}, L.Pairwise (· < ·) → M.Pairwise (· < ·) → (∀ x, x ∈ L ↔ x ∈ M) → L = M
  | [], [], _, _, _ => rfl
  | [], y :: M, _, _, h => absurd ((h y).2 (List.mem_cons_self ..)) (by simp)
  | x :: L, [], _, _, h => absurd ((h x).1 (List.mem_cons_self ..)) (by simp)
  | x :: L, y :: M, h1, h2, h => by
    have e : x = y := by
      rcases List.mem_cons.1 ((h x).1 (List.mem_cons_self ..)) with e | hx
      · exact e
      · rcases List.mem_cons.1 ((h y).2 (List.mem_cons_self ..)) with e | hy
        · exact e.symm
        · have a1 := List.rel_of_pairwise_cons h2 hx
          have a2 := List.rel_of_pairwise_cons h1 hy
          omega
    subst e
    rw [inc_eq h1.of_cons h2.of_cons fun z => ?_]
    constructor
    · intro hz
      rcases List.mem_cons.1 ((h z).1 (List.mem_cons_of_mem _ hz)) with e | hz2
      · have := List.rel_of_pairwise_cons h1 hz; omega
      · exact hz2
    · intro hz
      rcases List.mem_cons.1 ((h z).2 (List.mem_cons_of_mem _ hz)) with e | hz2
      · have := List.rel_of_pairwise_cons h2 hz; omega
      · exact hz2
theorem gaps_up {a b : Int} (hs : sz a b = true) : (gapsL a b).Pairwise (· < ·) := upB_pair _ (sz_nat (p := fun a b => upB (gapsL a b) = true) (by decide +kernel) hs)
theorem up_pair {H : List Int} (h : ∀ j, j < H.length → j = 0 ∨ H.getD (j - 1) 0 < H.getD j 0) : H.Pairwise (· < ·) := by
  have step : ∀ d i, i + d + 1 < H.length → H.getD i 0 < H.getD (i + d + 1) 0 := by
    intro d
    induction d with
    | zero => intro i hi; rcases h (i + 1) hi with h0 | h1
              · omega
              · exact h1
    | succ d ih =>
      intro i hi
      have h1 := ih i (by omega)
      rcases h (i + (d + 1) + 1) hi with h0 | h2
      · omega
      · rw [show i + (d + 1) + 1 - 1 = i + d + 1 by omega] at h2; omega
  rw [List.pairwise_iff_getElem]
  intro i j hi hj hij
  have := step (j - i - 1) i (by omega)
  rw [show i + (j - i - 1) + 1 = j by omega, List.getD_eq_getElem?_getD, List.getD_eq_getElem?_getD, List.getElem?_eq_getElem hi, List.getElem?_eq_getElem hj] at this
  exact this
theorem mem_bsL {a b : Int} {H G : List Int} (ha : 2 ≤ a) (hb : 2 ≤ b) (hG : G.Pairwise (· < ·)) (hsub : ∀ x ∈ H, x ∈ G) (hok : ∀ x ∈ H, hbB H x a = true ∧ hbB H x b = true) :
    ∀ gs pre : List Int, pre ++ gs = G → pre.filter (fun x => decide (x ∈ H)) ++ gs.filter (fun x => decide (x ∈ H)) ∈ bsL a b gs (pre.filter (fun x => decide (x ∈ H))) := by
  intro gs
  induction gs with
  | nil => intro pre _; simp [bsL]
  | cons x gs ih =>
    intro pre hp
    have hp2 : (pre ++ [x]) ++ gs = G := by rw [← hp]; simp
    have ih2 := ih (pre ++ [x]) hp2
    rw [bsL, List.mem_append]
    by_cases hx : x ∈ H
    · right
      have hpx : ∀ s, 2 ≤ s → hbB H x s = true → hbB (pre.filter fun x => decide (x ∈ H)) x s = true := by
        intro s hs h
        unfold hbB at h ⊢
        rw [Bool.or_eq_true, decide_eq_true_eq, decide_eq_true_eq] at h ⊢
        rcases h with h | h
        · exact .inl h
        · right
          rw [List.mem_filter]
          refine ⟨?_, by simpa using h⟩
          have hm := hsub _ h
          rw [← hp] at hm hG
          rcases List.mem_append.1 hm with h1 | h1
          · exact h1
          · rcases List.mem_cons.1 h1 with h2 | h2
            · omega
            · have := List.rel_of_pairwise_cons (List.pairwise_append.1 hG).2.1 h2
              omega
      have hc : (hbB (pre.filter fun x => decide (x ∈ H)) x a && hbB (pre.filter fun x => decide (x ∈ H)) x b) = true := by
        rw [hpx a ha (hok x hx).1, hpx b hb (hok x hx).2]; rfl
      rw [if_pos hc]
      simp only [List.filter_append, List.filter_cons, hx, decide_true, if_true, List.filter_nil, List.append_assoc, List.singleton_append] at ih2 ⊢
      exact ih2
    · left
      simp only [List.filter_append, List.filter_cons, hx, decide_false, Bool.false_eq_true, if_false, List.filter_nil, List.append_nil] at ih2 ⊢
      exact ih2
theorem closed_mem {a b : Int} {H : List Int} (hs : sz a b = true) (h : clB a b H = true) : H ∈ boS a b := by
  obtain ⟨ha, hb, -⟩ := sz_iff.1 hs
  have hj := clB_iff.1 h
  have hat : ∀ x ∈ H, ∃ j, j < H.length ∧ H.getD j 0 = x := by
    intro x hx
    obtain ⟨j, hj, e⟩ := List.getElem_of_mem hx
    exact ⟨j, hj, by rw [List.getD_eq_getElem?_getD, List.getElem?_eq_getElem hj]; exact e⟩
  have hup : H.Pairwise (· < ·) := up_pair fun j hjl => (okC_parts.1 (hj j hjl)).1
  have hsub : ∀ x ∈ H, x ∈ gapsL a b := fun x hx => by obtain ⟨j, hjl, e⟩ := hat x hx; have := (okC_parts.1 (hj j hjl)).2.1; rwa [e] at this
  have hok : ∀ x ∈ H, hbB H x a = true ∧ hbB H x b = true := fun x hx => by obtain ⟨j, hjl, e⟩ := hat x hx; have := (okC_parts.1 (hj j hjl)).2.2; rwa [e] at this
  have hm := mem_bsL ha.1 hb.1 (gaps_up hs) hsub hok (gapsL a b) [] rfl
  have he : (gapsL a b).filter (fun x => decide (x ∈ H)) = H := inc_eq ((gaps_up hs).filter _) hup fun x => by
    rw [List.mem_filter, decide_eq_true_eq]
    exact ⟨fun h => h.2, fun h => ⟨hsub x h, h⟩⟩
  simp only [List.filter_nil, List.nil_append] at hm
  rw [he] at hm
  exact hm
theorem mem_insP {rows : List (List Int)} {p r : List Int} (h : r ∈ rows ∨ r = p) : r ∈ insP rows p := by
  unfold insP insR
  rw [List.mem_append, List.mem_cons]
  rcases h with h | h
  · rw [← List.take_append_drop (kIns rows p rows.length) rows, List.mem_append] at h
    rcases h with h | h
    · exact .inl h
    · exact .inr (.inr h)
  · exact .inr (.inl h)
theorem mem_boK {S : List (List Int)} {H : List Int} : ∀ m, m ≤ S.length → ∀ i, i < m → ffF (S.getD i []) ∈ boK S m
  | 0, _, i, h => absurd h (by omega)
  | m + 1, hm, i, h => by
    rw [boK_succ S m hm]
    by_cases e : i = m
    · subst e; exact mem_insP (.inr rfl)
    · exact mem_insP (.inl (mem_boK (H := H) m (by omega) i (by omega)))
theorem core_mem {a b : Int} {p : List Int} (hs : sz a b = true) (h : ibB p a b = true) : p ∈ boL a b := by
  have hg : good p = true := by rw [ibB, Bool.and_eq_true, Bool.and_eq_true] at h; exact h.1.1
  have G := (good_iff p).1 hg
  have hcl : clB a b (beadsL p p.length) = true := by
    rw [both_eq G hs]
    rw [ibB, Bool.and_eq_true] at h
    exact h.2
  have hm := closed_mem hs hcl
  obtain ⟨i, hi, e⟩ := List.getElem_of_mem hm
  have h1 := mem_boK (S := boS a b) (H := []) _ (Nat.le_refl _) i hi
  rw [List.getD_eq_getElem?_getD, List.getElem?_eq_getElem hi] at h1
  have e2 : ffF ((some (boS a b)[i]).getD []) = p := by
    show ffF (boS a b)[i] = p
    rw [e, ff_t (ff_beads G), parts_beads_id G]
  rw [e2] at h1
  exact h1
def rkChk (a b : Int) : Bool := (boL a b).all (fun p => ibB p a b) && (List.range (boL a b).length).all fun j => (List.range j).all fun i => decide ((boL a b).getD i [] ≠ (boL a b).getD j [])
theorem rkChk_t {a b : Int} (hs : sz a b = true) : rkChk a b = true := sz_nat (p := fun a b => rkChk a b = true) (by decide +kernel) hs
theorem rk_parts {a b : Int} (hs : sz a b = true) : (∀ p, p ∈ boL a b ↔ ibB p a b = true) ∧ ∀ i j, i < j → j < (boL a b).length → (boL a b).getD i [] ≠ (boL a b).getD j [] := by
  have h := rkChk_t hs
  simp only [rkChk, Bool.and_eq_true, List.all_eq_true, List.mem_range, decide_eq_true_eq] at h
  exact ⟨fun p => ⟨fun hp => h.1 p hp, core_mem hs⟩, fun i j hij hj => h.2 j hj i hij⟩
def rkN (L : List (List Int)) (p : List Int) : Nat → Nat
  | 0 => 0
  | k + 1 => if L.getD k [] = p then k else rkN L p k
theorem rkN_t {L : List (List Int)} {p : List Int} {k : Nat} (h : L.getD k [] = p) : rkN L p (k + 1) = k := by rw [rkN, if_pos h]
theorem rkN_f {L : List (List Int)} {p : List Int} {k : Nat} (h : L.getD k [] ≠ p) : rkN L p (k + 1) = rkN L p k := by rw [rkN, if_neg h]
theorem rkN_uniq {L : List (List Int)} {p : List Int} {k : Nat} (h : L.getD k [] = p) : ∀ m, k < m → (∀ j, k < j → j < m → L.getD j [] ≠ p) → rkN L p m = k
  | 0, h0, _ => absurd h0 (by omega)
  | m + 1, h0, h1 => by
    by_cases e : k = m
    · subst e; exact rkN_t h
    · rw [rkN_f (h1 m (by omega) (by omega))]
      exact rkN_uniq h m (by omega) fun j hj hm => h1 j hj (by omega)
end Go.Proofs.YtijfefahogcfmaaGreat
