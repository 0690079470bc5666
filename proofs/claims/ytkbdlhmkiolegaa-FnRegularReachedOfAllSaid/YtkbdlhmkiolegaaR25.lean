/-
  Several texts in one.
-/
import Derived.Test.YtkbdlhmkiolegaaR24
import Derived.Test.YtkbdlhmkiolegaaR15
import Derived.Test.YtkbdlhmkiolegaaR12
import Derived.Test.YtkbdlhmkiolegaaCU
import Derived.Test.YtkbdlhmkiolegaaCW
import Derived.Lib.SliceRun
import Derived.Laws.IdiomCopy
import Derived.Shelf.SlSortCmp.Whole1
import Derived.Shelf.SlGeneric
import Derived.Test.YtkbdlhmkiolegaaCB
/-
  Contracts: ReachedByArrows of the model.
-/
namespace Go.Proofs.Ytkbdlhmkiolegaa
open Go.RowKit

theorem push_slice {w : World} {B : Nat} {v : Value} {rows : List (List Int)} {P : Nat → Option Addr} {C : Nat → Nat} (h : Push w B v rows P C) : ∃ A c, v = .slice A rows.length c := by
  obtain ⟨A, c, e, _⟩ := h.own2
  exact ⟨A, c, e⟩
theorem push_low {w : World} {B B' : Nat} {v : Value} {rows : List (List Int)} {P : Nat → Option Addr} {C : Nat → Nat} (h : Push w B v rows P C) (hB : B' ≤ B) : Push w B' v rows P C :=
  ⟨ownsRow_moreA h.out hB, fun j hj => (h.row j hj).more hB, h.apart⟩

end Go.Proofs.Ytkbdlhmkiolegaa
/-
  Contract: rows that are sorted are cut to their different ones (slices.CompactFunc with slices.Equal).
-/
namespace Go.Proofs.Ytkbdlhmkiolegaa
open Go.RowKit

theorem ki_all {L : List (List Int)} : ∀ {k : Nat}, (∀ j, j < k → keB L j = true) → ki L k = List.range k
  | 0, _ => rfl
  | k + 1, h => by rw [ki_yes (h k (by omega)), ki_all fun j hj => h j (by omega), List.range_succ]
theorem kp_all {L : List (List Int)} (h : ∀ j, j < L.length → keB L j = true) : kp L L.length = L := by
  unfold kp
  rw [ki_all h]
  apply List.ext_getElem
  · simp
  · intro i h1 h2
    simp [List.getD, h2]
theorem ki_mono {L : List (List Int)} {m i j : Nat} (hij : i < j) (hj : j < (ki L m).length) : (ki L m).getD i 0 < (ki L m).getD j 0 := by
  have h := List.pairwise_iff_getElem.1 ((List.pairwise_lt_range (n := m)).filter (keB L)) i j (by unfold ki at hj; omega) hj hij
  rw [List.getD_eq_getElem?_getD, List.getD_eq_getElem?_getD, List.getElem?_eq_getElem hj, List.getElem?_eq_getElem (show i < (ki L m).length by omega)]
  exact h
theorem ki_lt {L : List (List Int)} {m j : Nat} (hj : j < (ki L m).length) : (ki L m).getD j 0 < m := by
  rw [List.getD_eq_getElem?_getD, List.getElem?_eq_getElem hj]
  exact List.mem_range.1 (List.mem_filter.1 (List.getElem_mem hj)).1
theorem kp_get {L : List (List Int)} {m j : Nat} (hj : j < (ki L m).length) : (kp L m).getD j [] = L.getD ((ki L m).getD j 0) [] := by
  unfold kp
  rw [List.getD_eq_getElem?_getD, List.getElem?_map, List.getElem?_eq_getElem hj, List.getD_eq_getElem?_getD (l := ki L m), List.getElem?_eq_getElem hj]; rfl
theorem kp_length (L : List (List Int)) (m : Nat) : (kp L m).length = (ki L m).length := by unfold kp; rw [List.length_map]

/-! The cells of the outer row: the row Z j lies at j. -/
def zl (P : Nat → Option Addr) (C : Nat → Nat) (L : List (List Int)) (Z : Nat → Nat) : List Value := (List.range L.length).map fun j => .slice (P (Z j)) (L.getD (Z j) []).length (C (Z j))
theorem zl_get (P : Nat → Option Addr) (C : Nat → Nat) (L : List (List Int)) (Z : Nat → Nat) (j : Nat) (h : j < L.length) : (zl P C L Z)[j]? = some (.slice (P (Z j)) (L.getD (Z j) []).length (C (Z j))) := by simp [zl, h]
theorem zl_set (P : Nat → Option Addr) (C : Nat → Nat) (L : List (List Int)) (Z : Nat → Nat) (k i : Nat) : (zl P C L Z).set k (.slice (P i) (L.getD i []).length (C i)) = zl P C L (setAt Z k i) := by
  apply List.ext_getElem?
  intro j
  rw [List.getElem?_set]
  by_cases hj : j < L.length
  · rw [zl_get _ _ _ (setAt Z k i) j hj]
    by_cases e : k = j
    · subst e
      rw [if_pos rfl, if_pos (by simp [zl]; exact hj), setAt_eq]
    · rw [if_neg e, zl_get _ _ _ Z j hj, setAt_ne Z i (Ne.symm e)]
  · have h1 : (zl P C L Z)[j]? = none := List.getElem?_eq_none (by simp [zl]; omega)
    have h2 : (zl P C L (setAt Z k i))[j]? = none := List.getElem?_eq_none (by simp [zl]; omega)
    rw [h1, h2]
    by_cases e : k = j
    · rw [if_pos e, if_neg (by simp [zl]; omega)]
    · rw [if_neg e]
structure CS (w wr : World) (B g c : Nat) (L : List (List Int)) (P : Nat → Option Addr) (C : Nat → Nat) (Z : Nat → Nat) : Prop where
  out : wr.ownsRow B 22 1 (.slice (some ⟨g, 0, none⟩) L.length c) L.length (zl P C L Z)
  keep : ∀ b, b ≠ g → wr.heap[b]? = w.heap[b]?
  below : ∀ B0 w0, B0 ≤ g → Below B0 w0 w → Below B0 w0 wr
theorem CS.drew {w wr : World} {B g c : Nat} {L : List (List Int)} {P : Nat → Option Addr} {C Z : Nat → Nat} (h : CS w wr B g c L P C Z) (n : Nat) : CS w (wr.drewN n) B g c L P C Z :=
  ⟨h.out, h.keep, fun B0 w0 h1 h2 => below_drewN (h.below B0 w0 h1 h2) n⟩
theorem CS.set {w wr : World} {B g c : Nat} {L : List (List Int)} {P : Nat → Option Addr} {C Z : Nat → Nat} (h : CS w wr B g c L P C Z) (k i : Nat) : CS w (wr.setCell ⟨g, k, none⟩ (.slice (P i) (L.getD i []).length (C i))) B g c L P C (setAt Z k i) := by
  refine ⟨?_, fun b hb => (Below.heap_setCell _ _ _ b hb).trans (h.keep b hb), fun B0 w0 h1 h2 => (h.below B0 w0 h1 h2).setCell h1 _⟩
  have h2 := (World.ownsRow.stored h.out k (.slice (P i) (L.getD i []).length (C i))).1
  rw [zl_set] at h2
  exact h2
theorem CS.get {w wr : World} {B g c : Nat} {L : List (List Int)} {P : Nat → Option Addr} {C Z : Nat → Nat} (h : CS w wr B g c L P C Z) (j : Nat) (hj : j < L.length) : wr.cell? ⟨g, j, none⟩ = some (.slice (P (Z j)) (L.getD (Z j) []).length (C (Z j))) := by
  rw [World.ownsRow.cellAt h.out j (by omega), zl_get _ _ _ _ j hj]
theorem CS.froz {w wr : World} {B g c : Nat} {L : List (List Int)} {P : Nat → Option Addr} {C Z : Nat → Nat} (h : CS w wr B g c L P C Z) (j : Nat) : wr.frozen? ⟨g, j, none⟩ = false := World.ownsRow.frozenAt h.out j
theorem CS.row {w wr : World} {B g c : Nat} {L : List (List Int)} {P : Nat → Option Addr} {C Z : Nat → Nat} (h : CS w wr B g c L P C Z) (hp : Push w B (.slice (some ⟨g, 0, none⟩) L.length c) L P C) (j : Nat) (hj : j < L.length) : Own wr B (P j) (C j) (L.getD j []) :=
  (hp.row j hj).keep fun b hb _ => h.keep b fun e => row_ne' hp.out (hp.row j hj) b hb (by rw [e]; rfl)
theorem ownsRow_wiped {B e g n c : Nat} : ∀ (vs : List Value) (o : Nat) (w : World) (xs : List Value), w.ownsRow B e 1 (.slice (some ⟨g, 0, none⟩) n c) n xs → ∃ ys, (w.setCells g o vs).ownsRow B e 1 (.slice (some ⟨g, 0, none⟩) n c) n ys ∧ ∀ j, j < o → ys[j]? = xs[j]?
  | [], _, _, xs, h => ⟨xs, h, fun _ _ => rfl⟩
  | v :: r, o, w, xs, h => by
    obtain ⟨ys, h1, h2⟩ := ownsRow_wiped r (o + 1) _ _ (World.ownsRow.stored h o v).1
    refine ⟨ys, h1, fun j hj => ?_⟩
    rw [h2 j (by omega), List.getElem?_set, if_neg (by omega)]
theorem wiped_other (g b : Nat) (hne : b ≠ g) : ∀ (vs : List Value) (o : Nat) (w : World), (w.setCells g o vs).heap[b]? = w.heap[b]?
  | [], _, _ => rfl
  | v :: r, o, w => by rw [World.setCells, wiped_other g b hne r]; exact Below.heap_setCell _ _ _ b hne
theorem wiped_below (g : Nat) : ∀ (vs : List Value) (o : Nat) (w W : World) (m : Nat), Below m w W → m ≤ g → Below m w (W.setCells g o vs)
  | [], _, _, _, _, h, _ => h
  | _ :: r, o, w, _, m, h, hg => wiped_below g r (o + 1) w _ m (h.setCell hg _) hg
theorem ownsRow_front {w : World} {B e g n c : Nat} {xs : List Value} (h : w.ownsRow B e 1 (.slice (some ⟨g, 0, none⟩) n c) n xs) (k : Nat) (hk : k ≤ n) : w.ownsRow B e 1 (.slice (some ⟨g, 0, none⟩) k c) k (xs.take k) := by
  have hl := h.1
  refine ⟨by rw [List.length_take]; omega, ?_⟩
  rcases h.2 with ⟨hv, _⟩ | ⟨g', cap, cur, hv, hB, hh, hn, hmx, hcs, htk⟩
  · simp at hv
  · have e1 : c = cap := by injection hv
    have e2 : g = g' := by injection hv with h1; injection h1 with h1; injection h1
    subst e1 e2
    refine .inr ⟨g, c, cur, rfl, hB, hh, by omega, hmx, hcs, ?_⟩
    rw [← htk, List.take_take]
    congr 1
    omega
/-- What is left behind the cut. -/
theorem CS.done {w wr : World} {B g c : Nat} {L : List (List Int)} {P : Nat → Option Addr} {C Z : Nat → Nat} (h : CS w wr B g c L P C Z) (hp : Push w B (.slice (some ⟨g, 0, none⟩) L.length c) L P C) {K : Nat} (hK : K = (ki L L.length).length) (hZ : ∀ j, j < K → Z j = (ki L L.length).getD j 0) (vs : List Value) :
    Push (wr.setCells g K vs) B (.slice (some ⟨g, 0, none⟩) K c) (kp L L.length) (fun j => P ((ki L L.length).getD j 0)) (fun j => C ((ki L L.length).getD j 0)) := by
  have hKl : K ≤ L.length := by rw [hK]; exact ki_len _ _
  obtain ⟨ys, h1, h2⟩ := ownsRow_wiped vs K wr _ h.out
  have h3 := ownsRow_front h1 K hKl
  refine ⟨?_, fun j hj => ?_, fun i j hij hj b hb => ?_⟩
  · rw [kp_length, ← hK]
    have e : RL (fun j => P ((ki L L.length).getD j 0)) (fun j => C ((ki L L.length).getD j 0)) (kp L L.length) = ys.take K := by
      apply List.ext_getElem?
      intro j
      by_cases hj : j < K
      · rw [RL_get _ _ _ j (by rw [kp_length]; omega), List.getElem?_take, if_pos hj, h2 j hj, zl_get _ _ _ _ j (by omega), hZ j hj, kp_get (by omega)]
      · rw [List.getElem?_eq_none (by rw [RL_len, kp_length]; omega), List.getElem?_take, if_neg hj]
    rw [e]
    exact h3
  · rw [kp_length] at hj
    rw [kp_get hj]
    have hlt := ki_lt hj
    refine (hp.row _ hlt).keep fun b hb _ => ?_
    have hne : b ≠ g := fun e => row_ne' hp.out (hp.row _ hlt) b hb (by rw [e]; rfl)
    exact (wiped_other g b hne vs K wr).trans (h.keep b hne)
  · rw [kp_length] at hj
    exact hp.apart _ _ (ki_mono hij hj) (ki_lt hj) b hb

theorem keB_no {L : List (List Int)} {m : Nat} (hm : 1 ≤ m) (h : L.getD m [] = L.getD (m - 1) []) : keB L m = false := by
  unfold keB
  rw [decide_eq_false (show ¬ m = 0 by omega), decide_eq_false (fun hh => hh h)]; rfl
theorem keB_yes {L : List (List Int)} {m : Nat} (h : ¬ L.getD m [] = L.getD (m - 1) []) : keB L m = true := by
  unfold keB
  rw [decide_eq_true (p := ¬ L.getD m [] = L.getD (m - 1) []) h, Bool.or_true]
theorem zeroInts (w : World) : (zeroValue 22).run Try.prog w = .ok (.slice none 0 0) w := by kernel_rfl

set_option maxRecDepth 100000 in
set_option maxHeartbeats 4000000 in
theorem compact_any (w : World) (B g c : Nat) (L : List (List Int)) (P : Nat → Option Addr) (C : Nat → Nat) (hl : L.length ≤ 100000) (hr : ∀ j, j < L.length → (L.getD j []).length ≤ 1048576) (hp : Push w B (.slice (some ⟨g, 0, none⟩) L.length c) L P C) :
    Calls Try.prog 45 #[.slice (some ⟨g, 0, none⟩) L.length c, .func (.func 46) #[] #[]] w fun e w' => ∃ v P' C', e = .returned v ∧ Push w' B v (kp L L.length) P' C' ∧ ∀ B0 w0, B0 ≤ g → Below B0 w0 w → Below B0 w0 w' := by
  have hcap := (push_cells hp).2.1
  have h0 : CS w w B g c L P C id := ⟨hp.out, fun _ _ => rfl, fun _ _ _ h => h⟩
  have HP := hid hp
  have HR := hid hr
  have HALL := hid (kp_all (L := L))
  have H0 := hid h0
  clear hp hr h0
  by_cases h2 : L.length < 2
  · have HK := hid (HALL.out fun j hj => by
      have : j = 0 := by omega
      subst this; rfl)
    go_enter Try.func45, Try.ntmps45
    go_wp2_with fail
    go_ret
    exact ⟨_, P, C, rfl, by rw [HK.out]; exact HP.out, fun _ _ _ h => h⟩
  go_enter Try.func45, Try.ntmps45
  go_wp2_with fail
  go_loopw [5] (fun kv wr => ∃ k q : Nat, 1 ≤ k ∧ k ≤ L.length ∧ kv = .int .i64 k ∧ Hid (∀ j, j < k → keB L j = true) ∧ wr = w.drewN q) (fun kv _ => L.length - (intOf kv).toNat)
  case atStart => exact ⟨1, 0, Nat.le_refl _, by omega, rfl, hid fun j hj => by rw [show j = 0 by omega]; rfl, rfl⟩
  case round =>
    obtain ⟨k, q, hk1, hk, rfl, HA, hwq⟩ := hrel
    by_cases hlt : k < L.length
    · have hcs : CS w wr B g c L P C id := by rw [hwq]; exact H0.out.drew q
      have hck := hcs.get k hlt
      have hck1 := hcs.get (k - 1) (by omega)
      have hkt : ((k : Int) - 1).toNat = k - 1 := by omega
      have HQ := hid fun n b h => equal_b (P k) (P (k - 1)) (C k) (C (k - 1)) (L.getD k []) (L.getD (k - 1) []) (wr.drewN n) (HR.out k hlt) (HR.out (k - 1) (by omega)) (hcs.drew n |>.row HP.out k hlt).cells (hcs.drew n |>.row HP.out (k - 1) (by omega)).cells b h
      have HNO := hid (keB_no (L := L) hk1)
      have HYE := hid (keB_yes (L := L) (m := k))
      simp only [id] at hck hck1
      obtain ⟨x, hx⟩ : ∃ x, x = L.getD k [] := ⟨_, rfl⟩
      obtain ⟨y, hy⟩ : ∃ y, y = L.getD (k - 1) [] := ⟨_, rfl⟩
      rw [← hx] at hck HQ HNO HYE
      rw [← hy] at hck1 HQ HNO HYE
      have HCS := hid hcs
      have HWQ := hid hwq
      clear hx hy hwq hcs
      by_cases hxy : x = y
      · have HQT := hid fun n => HQ.out n true (decide_eq_true hxy)
        have HKN := hid (HNO.out hxy)
        clear hxy
        go_wp2_with fail
        go_quiet ((go_at_call 46; exact Calls.quiet_of (HQT.out _)))
        have hcut0 := fun W => run_cut_lo (some ⟨g, 0, none⟩) L.length c k (by omega) W
        rw [cutA_some (show k < c by omega)] at hcut0
        have hadd : (⟨g, 0, none⟩ : Addr).add k = ⟨g, k, none⟩ := addr_add0 g k
        rw [hadd] at hcut0
        obtain ⟨wd, hwd⟩ : ∃ wd, wd = wr.drewN nq := ⟨_, rfl⟩
        have HCD := hid (show CS w wd B g c L P C id by rw [hwd]; exact HCS.out.drew nq)
        rw [← hwd]
        have HKA := hid (show ki L (k + 1) = List.range k by rw [ki_no HKN.out, ki_all HA.out])
        clear hwd hadd hck hck1
        go_wp2_with fail
        go_loopw [5, 7] (fun kv jv wr => ∃ (kk k2 : Nat) (Z : Nat → Nat), 1 ≤ k2 ∧ k + k2 ≤ L.length ∧ kk + 1 ≤ k + k2 ∧ kv = .int .i64 kk ∧ jv = .int .i64 k2 ∧ Hid (CS w wr B g c L P C Z) ∧ Hid (kk = (ki L (k + k2)).length) ∧ Hid (∀ j, j < kk → Z j = (ki L (k + k2)).getD j 0) ∧ Hid (∀ j, k + k2 - 1 ≤ j → Z j = j)) (fun _ jv _ => L.length - (intOf jv).toNat)
        case atStart => exact ⟨k, 1, id, Nat.le_refl _, by omega, Nat.le_refl _, rfl, rfl, HCD, hid (by rw [HKA.out, List.length_range]), hid (fun j hj => by rw [HKA.out]; simp [List.getD, hj]), hid (fun _ _ => rfl)⟩
        case round =>
          obtain ⟨kk, k2, Z, hk2, hkl, hkk, rfl, rfl, HC2, HK2, HZ1, HZ2⟩ := hrel
          obtain ⟨wi, rfl⟩ : ∃ wi : World, wi = wr := ⟨_, rfl⟩
          by_cases hlt2 : k + k2 < L.length
          · obtain ⟨m, hm⟩ : ∃ m, m = k + k2 := ⟨_, rfl⟩
            have hcm := HC2.out.get m (by omega)
            have hcp := HC2.out.get (m - 1) (by omega)
            rw [HZ2.out m (by omega)] at hcm
            rw [HZ2.out (m - 1) (by omega)] at hcp
            have hfk := HC2.out.froz kk
            have hck2 := HC2.out.get kk (by omega)
            have hst := HC2.out.set kk m
            have HQ2 := hid fun n b h => equal_b (P m) (P (m - 1)) (C m) (C (m - 1)) (L.getD m []) (L.getD (m - 1) []) (wi.drewN n) (HR.out m (by omega)) (HR.out (m - 1) (by omega)) (HC2.out.drew n |>.row HP.out m (by omega)).cells (HC2.out.drew n |>.row HP.out (m - 1) (by omega)).cells b h
            have HSD := hid fun n => ((HC2.out.drew n).set kk m)
            have HNO2 := hid (keB_no (L := L) (show 1 ≤ m by omega))
            have HYE2 := hid (keB_yes (L := L) (m := m))
            obtain ⟨u, hu⟩ : ∃ u, u = L.getD m [] := ⟨_, rfl⟩
            obtain ⟨v, hv⟩ : ∃ v, v = L.getD (m - 1) [] := ⟨_, rfl⟩
            obtain ⟨old, ho⟩ : ∃ old, old = Value.slice (P (Z kk)) (L.getD (Z kk) []).length (C (Z kk)) := ⟨_, rfl⟩
            rw [← ho] at hck2
            rw [← hu] at hcm HQ2 HNO2 HYE2 hst HSD
            rw [← hv] at hcp HQ2 HNO2 HYE2
            obtain ⟨Pm, hPm⟩ : ∃ a, a = P m := ⟨_, rfl⟩
            obtain ⟨Cm, hCm⟩ : ∃ a, a = C m := ⟨_, rfl⟩
            obtain ⟨Pp, hPp⟩ : ∃ a, a = P (m - 1) := ⟨_, rfl⟩
            obtain ⟨Cp, hCp⟩ : ∃ a, a = C (m - 1) := ⟨_, rfl⟩
            rw [← hPm, ← hCm] at hcm HQ2 HSD
            rw [← hPp, ← hCp] at hcp HQ2
            rw [hm] at hcm
            rw [show m - 1 = k + (k2 - 1) by omega] at hcp
            have HM := hid hm
            have hk2t : ((k2 : Int) - 1).toNat = k2 - 1 := by omega
            have hkm : kk < m := by omega
            have hml : m < L.length := by omega
            clear hu hv ho hPm hCm hPp hCp hm hst
            by_cases huv : u = v
            · have HQT2 := hid fun n => HQ2.out n true (decide_eq_true huv)
              have HKE := hid (HNO2.out huv)
              clear huv
              go_wp2_with fail
              go_quiet ((go_at_call 46; exact Calls.quiet_of (HQT2.out _)))
              go_wp2_with fail
              go_roundw
              case rel =>
                refine ⟨kk, k2 + 1, Z, by omega, by omega, by omega, rfl, by go_num, hid (HC2.out.drew _), hid ?_, hid ?_, hid ?_⟩
                · rw [show k + (k2 + 1) = k + k2 + 1 by omega, ← HM.out, ki_no HKE.out, HM.out]; exact HK2.out
                · rw [show k + (k2 + 1) = k + k2 + 1 by omega, ← HM.out, ki_no HKE.out, HM.out]; exact HZ1.out
                · exact fun j hj => HZ2.out j (by omega)
              case measure => simp [intOf]; omega
            · have HQT2 := hid fun n => HQ2.out n false (decide_eq_false huv)
              have HKE := hid (HYE2.out huv)
              clear huv
              have hkkl : (kk : Int) < (L.length : Int) := by omega
              go_wp2_with fail
              go_quiet ((go_at_call 46; exact Calls.quiet_of (HQT2.out _)))
              have HSE := hid (HSD.out nq)
              obtain ⟨wd2, hwd2⟩ : ∃ wd, wd = wi.drewN nq := ⟨_, rfl⟩
              rw [← hwd2] at HSE ⊢
              have hcm3 : wd2.cell? ⟨g, k + k2, none⟩ = some (.slice Pm u.length Cm) := by rw [hwd2]; exact hcm
              have hck3 : wd2.cell? ⟨g, kk, none⟩ = some old := by rw [hwd2]; exact hck2
              have hfk3 : wd2.frozen? ⟨g, kk, none⟩ = false := by rw [hwd2]; exact hfk
              clear hwd2 hcm hcp hck2 hfk
              go_wp2_with fail
              go_roundw
              case rel =>
                refine ⟨kk + 1, k2 + 1, setAt Z kk m, by omega, by omega, by omega, by go_num, by go_num, HSE, hid ?_, hid ?_, hid ?_⟩
                · rw [show k + (k2 + 1) = k + k2 + 1 by omega, ← HM.out, ki_yes HKE.out, List.length_append, List.length_singleton, HM.out, ← HK2.out]
                · intro j hj
                  have hl2 := HK2.out
                  rw [← HM.out] at hl2
                  rw [show k + (k2 + 1) = k + k2 + 1 by omega, ← HM.out, ki_yes HKE.out]
                  by_cases e : j = kk
                  · subst e
                    rw [setAt_eq, hl2, List.getD_eq_getElem?_getD, List.getElem?_append_right (Nat.le_refl _)]
                    simp
                  · rw [setAt_ne Z m e, HZ1.out j (by omega), ← HM.out, List.getD_eq_getElem?_getD, List.getD_eq_getElem?_getD, List.getElem?_append_left (by omega)]
                · intro j hj
                  rw [setAt_ne Z m (by omega)]
                  exact HZ2.out j (by omega)
              case measure => simp [intOf]; omega
          · have hend : k + k2 = L.length := by omega
            have hK := HK2.out
            rw [hend] at hK
            have hZ := HZ1.out
            rw [hend] at hZ
            have HDN := hid (HC2.out.done HP.out hK hZ (List.replicate (L.length - kk) (.slice none 0 0)))
            have hcl : ∀ ty, (Builtin.clear_ #[23] ty #[.slice (some ⟨g, kk, none⟩) (L.length - kk) (c - kk)]).run Try.prog wi = .ok (.tuple #[]) (wi.setCells g kk (List.replicate (L.length - kk) (.slice none 0 0))) :=
              fun ty => Lib.run_clear_slice wi 23 22 ty (.slice none 0 0) Try.underlying23 zeroInts rfl rfl g kk (L.length - kk) (c - kk) (by omega) (fun j hj => by rw [HC2.out.get (kk + j) (by omega)]; rfl) (fun j _ => HC2.out.froz (kk + j))
            have hcut1 := fun W => run_cut_lo (some ⟨g, 0, none⟩) L.length c kk (by omega) W
            rw [cutA_some (show kk < c by omega)] at hcut1
            have hadd : (⟨g, 0, none⟩ : Addr).add kk = ⟨g, kk, none⟩ := addr_add0 g kk
            rw [hadd] at hcut1
            have hcut2 := fun W => run_cut_hi (some ⟨g, 0, none⟩) L.length c kk (by omega) W
            clear hend hK hZ hadd hcut0
            go_wp2_with fail
            go_ret
            exact ⟨_, _, _, rfl, HDN.out, fun B0 w0 h1 h2 => wiped_below g _ _ _ _ _ (HC2.out.below B0 w0 h1 h2) h1⟩
      · have HQF := hid fun n => HQ.out n false (decide_eq_false hxy)
        have HKY := hid (HYE.out hxy)
        clear hxy
        go_wp2_with fail
        go_quiet ((go_at_call 46; exact Calls.quiet_of (HQF.out _)))
        go_wp2_with fail
        go_roundw
        case rel => exact ⟨k + 1, q + nq, by omega, by omega, by go_num, hid fun j hj => by
          by_cases e : j = k
          · rw [e]; exact HKY.out
          · exact HA.out j (by omega), by rw [HWQ.out, World.drewN_drewN]⟩
        case measure => simp [intOf]; omega
    · have hke : k = L.length := by omega
      subst hwq
      have HK := hid (HALL.out fun j hj => HA.out j (by omega))
      clear hke
      go_wp2_with fail
      go_ret
      exact ⟨_, P, C, rfl, by rw [HK.out]; exact HP.out.below (below_drew' w q), fun B0 w0 h1 h2 => below_drewN h2 q⟩
end Go.Proofs.Ytkbdlhmkiolegaa
/-
  The library's contract laid at this program: sortF.
-/
namespace Go.Proofs.Ytkbdlhmkiolegaa
open Go.RowKit Go.Shelf Go.Sort

def sortFRen : Go.Shelf.Ren := ⟨fun | 6 => 43 | 15 => 56 | 14 => 55 | 28 => 73 | 29 => 74 | 20 => 65 | 21 => 66 | 22 => 67 | 23 => 68 | 24 => 69 | 25 => 70 | 26 => 71 | 27 => 72 | 46 => 85 | 47 => 86 | 48 => 87 | 49 => 88 | 50 => 89 | 57 => 94 | n => n, fun | 22 => 23 | 24 => 22 | 25 => 60 | 3 => 3 | 39 => 72 | 0 => 0 | 53 => 92 | 55 => 94 | 4 => 4 | 46 => 85 | 45 => 84 | 50 => 89 | 5 => 5 | 9 => 9 | 66 => 102 | 70 => 106 | 76 => 109 | 77 => 110 | n => n, fun | n => n⟩
theorem sortFLays : Go.Proofs.SlLaysF.n6 Try.prog sortFRen := {
  mixed := by kernel_rfl
  f6 := ⟨Try.f43.name, by decide, Try.func43.trans (congrArg some (by kernel_rfl))⟩
  f14 := ⟨Try.f55.name, by decide, Try.func55.trans (congrArg some (by kernel_rfl))⟩
  f15 := Try.func56.trans (congrArg some (by kernel_rfl))
  f20 := ⟨Try.f65.name, by decide, Try.func65.trans (congrArg some (by kernel_rfl))⟩
  f21 := ⟨Try.f66.name, by decide, Try.func66.trans (congrArg some (by kernel_rfl))⟩
  f22 := ⟨Try.f67.name, by decide, Try.func67.trans (congrArg some (by kernel_rfl))⟩
  f23 := ⟨Try.f68.name, by decide, Try.func68.trans (congrArg some (by kernel_rfl))⟩
  f24 := ⟨Try.f69.name, by decide, Try.func69.trans (congrArg some (by kernel_rfl))⟩
  f25 := ⟨Try.f70.name, by decide, Try.func70.trans (congrArg some (by kernel_rfl))⟩
  f26 := ⟨Try.f71.name, by decide, Try.func71.trans (congrArg some (by kernel_rfl))⟩
  f27 := ⟨Try.f72.name, by decide, Try.func72.trans (congrArg some (by kernel_rfl))⟩
  f28 := Try.func73.trans (congrArg some (by kernel_rfl))
  f29 := Try.func74.trans (congrArg some (by kernel_rfl))
  f46 := ⟨Try.f85.name, by decide, Try.func85.trans (congrArg some (by kernel_rfl))⟩
  f47 := Try.func86.trans (congrArg some (by kernel_rfl))
  f48 := Try.func87.trans (congrArg some (by kernel_rfl))
  f49 := ⟨Try.f88.name, by decide, Try.func88.trans (congrArg some (by kernel_rfl))⟩
  f50 := ⟨Try.f89.name, by decide, Try.func89.trans (congrArg some (by kernel_rfl))⟩
  f57 := ⟨Try.f94.name, by decide, Try.func94.trans (congrArg some (by kernel_rfl))⟩
  t0 := Try.underlying0
  a0 := Try.isAgg0
  z0 := Try.sizeOf0
  v0 := Try.zeroValue0
  t3 := Try.underlying3
  a3 := Try.isAgg3
  z3 := Try.sizeOf3
  v3 := Try.zeroValue3
  t4 := Try.underlying4
  a4 := Try.isAgg4
  z4 := Try.sizeOf4
  v4 := Try.zeroValue4
  t5 := Try.underlying5
  a5 := Try.isAgg5
  z5 := Try.sizeOf5
  v5 := Try.zeroValue5
  t9 := Try.underlying9
  a9 := Try.isAgg9
  z9 := Try.sizeOf9
  v9 := Try.zeroValue9
  t22 := Try.underlying23
  a22 := Try.isAgg23
  z22 := Try.sizeOf23
  v22 := Try.zeroValue23
  a24 := Try.isAgg22
  z24 := Try.sizeOf22
  t25 := Try.underlying60
  a25 := Try.isAgg60
  z25 := Try.sizeOf60
  v25 := Try.zeroValue60
  t39 := Try.underlying72
  a39 := Try.isAgg72
  z39 := Try.sizeOf72
  v39 := Try.zeroValue72
  t45 := Try.underlying84
  a45 := Try.isAgg84
  z45 := Try.sizeOf84
  v45 := Try.zeroValue84
  t46 := Try.underlying85
  a46 := Try.isAgg85
  z46 := Try.sizeOf85
  v46 := Try.zeroValue85
  t50 := Try.underlying89
  a50 := Try.isAgg89
  z50 := Try.sizeOf89
  v50 := Try.zeroValue89
  t53 := Try.underlying92
  a53 := Try.isAgg92
  z53 := Try.sizeOf92
  v53 := Try.zeroValue92
  t55 := Try.underlying94
  a55 := Try.isAgg94
  z55 := Try.sizeOf94
  v55 := Try.zeroValue94
  t66 := Try.underlying102
  a66 := Try.isAgg102
  z66 := Try.sizeOf102
  v66 := Try.zeroValue102
  t70 := Try.underlying106
  a70 := Try.isAgg106
  z70 := Try.sizeOf106
  v70 := Try.zeroValue106
  t76 := Try.underlying109
  a76 := Try.isAgg109
  z76 := Try.sizeOf109
  v76 := Try.zeroValue109
  t77 := Try.underlying110
  a77 := Try.isAgg110
  z77 := Try.sizeOf110
  v77 := Try.zeroValue110 }
end Go.Proofs.Ytkbdlhmkiolegaa
