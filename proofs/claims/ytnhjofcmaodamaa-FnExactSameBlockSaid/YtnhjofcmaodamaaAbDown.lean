/-
  Contracts: an abacus with all beads down, of the model; PushDown of the model.
-/
import Derived.Test.YtnhjofcmaodamaaAbFrom
import Derived.Test.YtnhjofcmaodamaaPush
namespace Go.Proofs.Ytnhjofcmaodamaa
open Go.RowKit

/-- A row whose first numbers are counted up. -/
def prt (r : List Int) (m : Nat) : List Int := fnRow r.length fun j => if j < m then (j : Int) else r.getD j 0
theorem prt_len (r : List Int) (m : Nat) : (prt r m).length = r.length := fnRow_len _ _
theorem prt_zero (r : List Int) : prt r 0 = r := by
  have := rowF_of r
  unfold prt; rw [rowF_ext _ _ (fun j => r.getD j 0) fun j _ => by simp]; exact this
theorem prt_all (r : List Int) : prt r r.length = upTo r.length := by unfold prt upTo; exact rowF_ext _ _ _ fun j hj => by rw [if_pos hj]
theorem prt_get (r : List Int) (m : Nat) (h : m < r.length) : (prt r m).getD m 0 = r.getD m 0 := by unfold prt; rw [fnRow_get _ _ _ h, if_neg (Nat.lt_irrefl _)]
theorem prt_set (r : List Int) (m : Nat) : (prt r m).set m (m : Int) = prt r (m + 1) := by
  unfold prt
  rw [fnRow_set]
  refine rowF_ext _ _ _ fun j _ => ?_
  by_cases e : j = m
  · subst e; simp
  · rw [if_neg e]
    by_cases h : j < m
    · rw [if_pos h, if_pos (by omega)]
    · rw [if_neg h, if_neg (by omega)]
/-- The rows while they are counted up: k of them done, and m numbers of the next one. -/
def dnM (R : Nat → List Int) (k m j : Nat) : List Int := if j < k then upTo (R j).length else if j = k then prt (R j) m else R j
theorem dnM_len (R : Nat → List Int) (k m j : Nat) : (dnM R k m j).length = (R j).length := by
  unfold dnM; split
  · exact upTo_len _
  · split
    · exact prt_len _ _
    · rfl
theorem dnM_start (R : Nat → List Int) (j : Nat) : dnM R 0 0 j = R j := by
  unfold dnM; rw [if_neg (by omega)]; split
  · exact prt_zero _
  · rfl
theorem dnM_next (R : Nat → List Int) (k j : Nat) : dnM R k (R k).length j = dnM R (k + 1) 0 j := by
  unfold dnM
  by_cases h : j < k
  · rw [if_pos h, if_pos (by omega)]
  · rw [if_neg h]
    by_cases e : j = k
    · subst e; rw [if_pos rfl, if_pos (by omega), prt_all]
    · rw [if_neg e, if_neg (by omega)]
      split
      · exact (prt_zero _).symm
      · rfl
theorem dnM_done (R : Nat → List Int) (t j : Nat) (h : j < t) : dnM R t 0 j = upTo (R j).length := by unfold dnM; rw [if_pos h]
theorem dnM_same (R : Nat → List Int) (k m j : Nat) (h : j ≠ k) : dnM R k m j = dnM R k (m + 1) j := by
  unfold dnM; rw [if_neg h, if_neg h]
theorem dnM_own (R : Nat → List Int) (k m : Nat) : dnM R k m k = prt (R k) m := by unfold dnM; rw [if_neg (Nat.lt_irrefl _), if_pos rfl]
theorem sum_take_bd {L : List Int} (h : ∀ j, j < L.length → 0 ≤ L.getD j 0 ∧ L.getD j 0 ≤ 1000) : ∀ m, m ≤ L.length → 0 ≤ (L.take m).sum ∧ (L.take m).sum ≤ 1000 * m
  | 0, _ => by simp
  | m + 1, hm => by
    have ih := sum_take_bd h m (by omega)
    have := h m (by omega)
    rw [take_snoc L m (by omega) _ rfl, List.sum_append]
    simp only [List.sum_cons, List.sum_nil]; omega
theorem tri_bd : ∀ m, m ≤ 1000 → 0 ≤ tri m ∧ tri m ≤ 1000 * m
  | 0, _ => by simp [tri]
  | m + 1, h => by have := tri_bd m (by omega); rw [tri]; omega
def mvS (R : Nat → List Int) : Nat → Int := sumN fun i => (R i).sum - tri (R i).length
theorem mvS_bd {R : Nat → List Int} {t : Nat} (h : ∀ i, i < t → (R i).length ≤ 1000 ∧ ∀ j, j < (R i).length → 0 ≤ (R i).getD j 0 ∧ (R i).getD j 0 ≤ 1000) : ∀ k, k ≤ t → -1000000 * (k : Int) ≤ mvS R k ∧ mvS R k ≤ 1000000 * (k : Int)
  | 0, _ => by simp [mvS, sumN]
  | k + 1, hk => by
    have ih := mvS_bd h k (by omega)
    obtain ⟨h1, h2⟩ := h k (by omega)
    have s := sum_take_bd h2 _ (Nat.le_refl _)
    rw [List.take_of_length_le (Nat.le_refl _)] at s
    have := tri_bd (R k).length h1
    show _ ≤ mvS R k + ((R k).sum - tri (R k).length) ∧ mvS R k + ((R k).sum - tri (R k).length) ≤ _
    omega

set_option maxRecDepth 100000 in
set_option maxHeartbeats 4000000 in
theorem abDown_any (t : Nat) (A : Option Addr) (c : Nat) (xs : List Int) (w : World) (ht : 2 ≤ t ∧ t ≤ 6) (hl : xs.length ≤ 40) (hb : ∀ j, j < xs.length → 0 ≤ xs.getD j 0 ∧ xs.getD j 0 ≤ 1000) (hc : Cells w A xs) :
    Calls Try.prog 91 #[.agg #[.int .i64 t, .slice A xs.length c]] w fun e w' => ∃ A' c', e = .returned (.tuple #[.agg #[.int .i64 t, .slice A' (dwL t xs).length c'], .int .i64 (dwM t xs)]) ∧ Own w' w.heap.size A' c' (dwL t xs) ∧ Below w.heap.size w w' := by
  obtain ⟨w0, hw0⟩ : ∃ w0, w0 = (w.alloc (.cells #[.int .i64 t, .slice A xs.length c] 26)).alloc (.cells #[.int .i64 0, .slice none 0 0] 26) := ⟨_, rfl⟩
  have y0 : Box2 w0 w.heap.size 26 (.int .i64 t) (.slice A xs.length c) := by rw [hw0]; exact (Box2.new w _ _ _).alloc _
  have z0 : Box2 w0 (w.heap.size + 1) 26 (.int .i64 0) (.slice none 0 0) := by
    rw [hw0]; have h := Box2.new (w.alloc (.cells #[.int .i64 t, .slice A xs.length c] 26)) 26 (.int .i64 0) (.slice none 0 0); rw [World.size_alloc] at h; exact h
  have b0 : Below w.heap.size w w0 := by rw [hw0]; exact ((Below.refl _ _).alloc (Nat.le_refl _) _).alloc (by simp) _
  have hs0 : w0.heap.size = w.heap.size + 1 + 1 := by rw [hw0]; simp
  have h0 := y0.cell0
  have h1 := y0.cell1
  rw [hw0] at h0 h1
  have HW := hid hw0
  have HZ := hid z0
  have HAR := hid fun W (h : Cells W A xs) => abRows_any t A c xs W ht hl hb h
  obtain ⟨R, hR⟩ : ∃ R, R = rnL t xs := ⟨_, rfl⟩
  have hrb : ∀ i, i < t → (R i).length ≤ 1000 ∧ ∀ j, j < (R i).length → 0 ≤ (R i).getD j 0 ∧ (R i).getD j 0 ≤ 1000 := by
    intro i _
    rw [hR]
    refine ⟨by have := rnL_len t xs i; omega, fun j hj => ?_⟩
    have hm : (rnL t xs i).getD j 0 ∈ rnL t xs i := mem_getD.2 ⟨j, hj, rfl⟩
    obtain ⟨x, hx⟩ : ∃ x, x = (rnL t xs i).getD j 0 := ⟨_, rfl⟩
    rw [← hx] at hm ⊢
    unfold rnL at hm
    obtain ⟨y, hy, rfl⟩ := List.mem_map.1 hm
    obtain ⟨k, hk, e⟩ := mem_getD.1 (List.mem_filter.1 hy).1
    have hb := hb k hk
    rw [e] at hb
    have h3 : 0 ≤ y / (t : Int) := Int.ediv_nonneg hb.1 (by omega)
    have h4 : y / (t : Int) ≤ y := Int.ediv_le_self _ hb.1
    omega
  have HRB := hid hrb
  have HMB := hid (mvS_bd hrb)
  have hrows : (List.range t).map (fun i => upTo (R i).length) = (List.range t).map (fun i => upTo (R i).length) := rfl
  obtain ⟨rows', hrw⟩ : ∃ rows', rows' = (List.range t).map (fun i => upTo (R i).length) := ⟨_, rfl⟩
  have hrl : rows'.length = t := by rw [hrw]; simp
  have hrg : ∀ i, i < t → rows'.getD i [] = upTo (R i).length := fun i hi => by rw [hrw]; simp [List.getD, hi]
  have habf : ∀ n, n ≤ t → abfL t (fun i => rows'.getD i []) n = abfL t (dwR t xs) n := by
    intro n
    induction n with
    | zero => intro _; rfl
    | succ n ih => intro hn; rw [abfL, abfL, ih (by omega), hrg n (by omega), hR]; rfl
  have hdl : (abfL t (dwR t xs) t).length = (dwL t xs).length := (insF_all (dw_nodup t xs)).2.2.symm
  have hdl2 := dwL_len (t := t) (by omega) xs
  have HAF := hid fun A1 c1 W (h : Cells2 W A1 rows') => abFrom_any A1 c1 rows' t W hrl.symm (by omega) (by rw [habf t (Nat.le_refl _)]; exact dw_nodup t xs) (by rw [habf t (Nat.le_refl _), hdl]; omega) (fun i hi => by
    rw [hrg i hi, upTo_len]
    refine ⟨(hrb i hi).1, fun j hj => ?_⟩
    unfold upTo
    rw [fnRow_get _ _ _ hj]; have := (hrb i hi).1; omega) h
  rw [habf t (Nat.le_refl _), hdl] at HAF
  have hmm : dwM t xs = mvS R t := by rw [hR]; rfl
  rw [hmm]
  obtain ⟨D, hD⟩ : ∃ D, D = dwL t xs := ⟨_, rfl⟩
  rw [show insF (abfL t (dwR t xs) t) = D from hD.symm, ← hD] at HAF
  rw [← hD]
  have HRG := hid hrg; have HRL := hid hrl
  have HRS := hid (show ∀ j, j < t → (rnS t xs).getD j [] = R j from fun j hj => by rw [rnS_get _ _ _ hj, hR])
  obtain ⟨mT, hmT⟩ : ∃ mT, mT = mvS R t := ⟨_, rfl⟩
  rw [← hmT]
  have HMT := hid hmT
  clear hw0 z0 y0 hb hR hrb hrows hrw hrl hrg habf hdl hdl2 hmm hD hmT
  go_enter Try.func91, Try.ntmps91
  go_wp2_with fail
  rw [← HW.out]
  refine (HAR.out _ (hc.below b0)).mono ?_
  rintro e w1 ⟨A1, c1, rfl, o1, b1⟩
  have B1 := Below.next b0 b1
  have hs1 := b1.size
  have HZ1 := hid (HZ.out.next b1)
  obtain ⟨P, C, OA⟩ := o1
  have hout := OA.out
  rw [rnS_len] at hout
  have hA1 : A1 = some ⟨(A1.getD ⟨0, 0, none⟩).block, 0, none⟩ := by
    rcases hout.2 with ⟨_, h⟩ | ⟨g, cap, cur, hv, _⟩
    · omega
    · have : A1 = some ⟨g, 0, none⟩ := by injection hv
      rw [this]; rfl
  obtain ⟨g1, hg1⟩ : ∃ g1, A1 = some ⟨g1, 0, none⟩ := ⟨_, hA1⟩
  subst hg1
  have HO := hid hout
  have HR0 := hid (show ∀ j, j < t → Own w1 w0.heap.size (P j) (C j) (dnM R 0 0 j) from fun j hj => by rw [dnM_start, ← HRS.out j hj]; exact OA.row j (by rw [rnS_len]; exact hj))
  have HCE := hid (show ∀ W : World, W.ownsRow w0.heap.size 22 1 (.slice (some ⟨g1, 0, none⟩) t c1) t (RL P C (rnS t xs)) → ∀ j, j < t → W.cell? ⟨g1, j, none⟩ = some (.slice (P j) (R j).length (C j)) from fun W h j hj => by
    rw [World.ownsRow.cellAt h j (by omega), RL_get P C _ j (by rw [rnS_len]; exact hj), HRS.out j hj])
  have HAP := hid (show ∀ i j, i < t → j < t → i ≠ j → ∀ b, (P i).map Addr.block = some b → (P j).map Addr.block ≠ some b from fun i j hi hj hne b h1 h2 => by
    rcases Nat.lt_or_ge i j with h | h
    · exact OA.apart i j h (by rw [rnS_len]; exact hj) b h1 h2
    · exact OA.apart j i (by omega) (by rw [rnS_len]; exact hi) b h2 h1)
  clear OA hout hA1 h0 h1
  go_wp2_with fail
  go_loopw [5, 14] (fun mv i wr => ∃ k : Nat, k ≤ t ∧ i = .int .i64 k ∧ mv = .int .i64 (mvS R k) ∧ Hid (wr.ownsRow w0.heap.size 22 1 (.slice (some ⟨g1, 0, none⟩) t c1) t (RL P C (rnS t xs))) ∧ Hid (∀ j, j < t → Own wr w0.heap.size (P j) (C j) (dnM R k 0 j)) ∧ Hid (Box2 wr (w.heap.size + 1) 26 (.int .i64 0) (.slice none 0 0)) ∧ Below w.heap.size w wr ∧ w1.heap.size ≤ wr.heap.size) (fun _ i _ => t - (intOf i).toNat)
  case atStart => exact ⟨0, Nat.zero_le _, rfl, rfl, HO, HR0, HZ1, B1, Nat.le_refl _⟩
  case round =>
    obtain ⟨k, hk, rfl, rfl, HOw, HRw, HZw, hbel, hsz⟩ := hrel
    clear HO HR0 HZ1 B1
    have hmb := HMB.out k hk
    by_cases hlt : k < t
    · have hck := HCE.out _ HOw.out k hlt
      have hL := HRB.out k hlt
      have HPO := hid (fun m => dnM_own R k m)
      have HMS := hid (show mvS R (k + 1) = mvS R k + ((R k).sum - tri (R k).length) from rfl)
      have HNX := hid (fun j => dnM_next R k j)
      have HSA := hid (fun m j h => dnM_same R k m j h)
      have HSB := hid (sum_take_bd hL.2)
      have hL1 := hL.1
      have HL2 := hid hL.2
      have HTS := hid (fun m (hm : m < (R k).length) => take_snoc (R k) m hm _ rfl)
      have HTA := hid (show (R k).take (R k).length = R k from List.take_of_length_le (Nat.le_refl _))
      obtain ⟨L, hLd⟩ : ∃ L, L = R k := ⟨_, rfl⟩
      rw [← hLd] at hck HPO HMS HNX HSB hL1 HL2 HTS HTA
      obtain ⟨v, hv⟩ : ∃ v, v = mvS R k := ⟨_, rfl⟩
      rw [← hv] at hmb HMS ⊢
      have HV := hid hv
      have HLD := hid hLd
      clear hL hLd hv
      obtain ⟨wo, rfl⟩ : ∃ wo, wo = wr := ⟨_, rfl⟩
      go_wp2_with fail
      go_loopw [5, 21] (fun mv j wi => ∃ m : Nat, m ≤ L.length ∧ j = .int .i64 m ∧ (∃ z : Int, mv = .int .i64 z ∧ z = v + ((L.take m).sum - tri m)) ∧ Hid (wi.ownsRow w0.heap.size 22 1 (.slice (some ⟨g1, 0, none⟩) t c1) t (RL P C (rnS t xs))) ∧ Hid (∀ j, j < t → Own wi w0.heap.size (P j) (C j) (dnM R k m j)) ∧ Hid (Box2 wi (w.heap.size + 1) 26 (.int .i64 0) (.slice none 0 0)) ∧ Below w.heap.size w wi ∧ w1.heap.size ≤ wi.heap.size) (fun _ j _ => L.length - (intOf j).toNat)
      case atStart => exact ⟨0, Nat.zero_le _, rfl, ⟨v, rfl, by simp [tri]⟩, HOw, HRw, HZw, hbel, hsz⟩
      case round =>
        obtain ⟨m, hm, rfl, ⟨z, rfl, hz⟩, HOi, HRi, HZi, hbi, hsi⟩ := hrel
        clear HOw HRw HZw
        have HZE := hid hz
        have hzb : -100000000 ≤ z ∧ z ≤ 100000000 := by
          have := HSB.out m hm; have := tri_bd m (by omega); omega
        clear hz
        by_cases hml : m < L.length
        · have hrow := HRi.out k hlt
          rw [HPO.out m] at hrow
          obtain ⟨g2, hg2, hgb, hgl⟩ := hrow.at_ (by rw [prt_len]; omega)
          rw [hg2] at hrow
          have hck2 := HCE.out _ HOi.out k hlt
          rw [hg2, ← HLD.out] at hck2
          rw [hg2]
          have hcm := own_get hrow (k := m) (by rw [prt_len]; exact hml)
          rw [prt_get L m hml] at hcm
          have hfz := own_froz hrow m
          have hst := own_len (own_set hrow m (m : Int)) (prt_set L m)
          have hxb := HL2.out m hml
          have hts := HTS.out m hml
          have HZN := hid (show z + (L.getD m 0 - m) = v + ((L.take (m + 1)).sum - tri (m + 1)) by
            rw [hts, List.sum_append, tri, HZE.out]; simp only [List.sum_cons, List.sum_nil]; omega)
          obtain ⟨x, hx⟩ : ∃ x, x = L.getD m 0 := ⟨_, rfl⟩
          rw [← hx] at hcm hxb HZN
          have HG2 := hid hg2
          have hne : g1 ≠ g2 := fun e => by
            have := row_ne HOi.out (HRi.out k hlt)
            rw [HG2.out, e] at this; exact this rfl
          have HO5 := hid (ownsRow_keep (w' := wr.setCell ⟨g2, m, none⟩ (.int .i64 m)) HOi.out fun b hb _ => Below.heap_setCell _ _ _ b (by
            have hgb1 : g1 = b := by simpa using hb
            exact fun e => hne (hgb1.trans e)))
          have HR5 := hid (show ∀ j, j < t → Own (wr.setCell ⟨g2, m, none⟩ (.int .i64 m)) w0.heap.size (P j) (C j) (dnM R k (m + 1) j) from fun j hj => by
            by_cases hjk : j = k
            · subst hjk
              rw [HPO.out (m + 1), HG2.out]; exact hst
            · rw [← HSA.out m j hjk]
              refine (HRi.out j hj).keep fun b hb _ => Below.heap_setCell _ _ _ b (fun e => ?_)
              exact HAP.out k j hlt hj (fun e => hjk e.symm) b (by rw [HG2.out, e]; rfl) hb)
          have HZ5 := hid (HZi.out.other (g' := g2) (k := m) (by omega) (.int .i64 m))
          have hb5 : Below w.heap.size w (wr.setCell ⟨g2, m, none⟩ (.int .i64 m)) := hbi.setCell (by simp; omega) _
          clear hrow hts hst hx hg2
          go_wp2_with fail
          go_roundw
          case rel => exact ⟨m + 1, by omega, by go_num, ⟨_, rfl, HZN.out⟩, HO5, HR5, HZ5, hb5, by simp; omega⟩
          case measure => simp [intOf]; omega
        · have hmn : m = L.length := by omega
          subst hmn
          have hz2 : z = mvS R (k + 1) := by rw [HZE.out, HTA.out, HMS.out]
          have HR5 := hid (show ∀ j, j < t → Own wr w0.heap.size (P j) (C j) (dnM R (k + 1) 0 j) from fun j hj => by rw [← HNX.out j]; exact HRi.out j hj)
          have HZ2 := hid hz2
          clear hz2
          go_wp2_with fail
          go_roundw
          case rel => exact ⟨k + 1, by omega, by go_num, by rw [HZ2.out], HOi, HR5, HZi, hbi, hsi⟩
          case measure => simp [intOf]; omega
    · have hkl : k = t := by omega
      subst hkl
      have hcells : Cells2 wr (some ⟨g1, 0, none⟩) rows' := ⟨P, C, fun _ => ⟨g1, 0, rfl, fun j hj => by
        have hj' : j < k := by rw [HRL.out] at hj; exact hj
        rw [Nat.zero_add, HCE.out _ HOw.out j hj', HRG.out j hj', upTo_len]⟩, fun j hj => by
        have hj' : j < k := by rw [HRL.out] at hj; exact hj
        have h := (HRw.out j hj').cells
        rw [dnM_done R k j hj', ← HRG.out j hj'] at h; exact h⟩
      have HC := hid hcells
      rw [← HMT.out] at hmb ⊢
      clear hcells
      go_wp2_with fail
      refine (HAF.out _ _ _ HC.out).mono ?_
      rintro e w3 ⟨A3, c3, rfl, o3, b3⟩
      have B3 := Below.next hbel b3
      have hs3 := b3.size
      have z3 := HZw.out.next b3
      have f1 := z3.cell0
      have f2 := z3.froz 0
      have z4 := z3.set0 (.int .i64 k)
      have f3 := z4.cell1
      have f4 := z4.froz 1
      have Z5 := hid (z4.set1 (.slice A3 D.length c3))
      have HO6 := hid (own_set_other (g := w.heap.size + 1) (k := 1) (u := .slice A3 D.length c3) (own_set_other (g := w.heap.size + 1) (k := 0) (u := .int .i64 k) o3 (by omega)) (by omega))
      clear z3 z4 o3
      go_wp2_with fail
      refine bodyPost_ret (results_cell2 rfl _ _ _ (w.heap.size + 1) 26 #[.int .i64 k, .slice A3 D.length c3] (0, 0) _ rfl Z5.out Try.underlying26 rfl (by kernel_rfl)) rfl ⟨A3, c3, rfl, Own.more HO6.out (by omega), (B3.setCell (by simp) _).setCell (by simp) _⟩
end Go.Proofs.Ytnhjofcmaodamaa
