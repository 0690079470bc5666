/-
  First hooks: contracts of FirstHooks and FromFirstHooks on both sides.
-/
import Derived.Test.YtnjhjdidohdkmaaCB
namespace Go.Proofs.Ytnjhjdidohdkmaa
open Go.RowKit

def firstF (p : List Int) : List Int := if good p then beadsL p p.length else []
theorem bound_FirstHooks (xs : List Int) : (firstF xs).length ≤ 1048576 := by
  unfold firstF
  split
  · rename_i h; have := ((good_iff xs).1 h).len; rw [beadsL_len]; omega
  · exact Nat.zero_le _
theorem beadsL_take (p : List Int) (m : Nat) (h : m < p.length) : (beadsL p p.length).take (m + 1) = (beadsL p p.length).take m ++ [(m : Int) + p.getD (p.length - 1 - m) 0] := by
  have hl := beadsL_len p p.length
  rw [List.take_succ_eq_append_getElem (by omega)]
  have e : (beadsL p p.length).getD m 0 = (m : Int) + p.getD (p.length - 1 - m) 0 := by unfold beadsL; rw [fnRow_get _ _ _ h]; rfl
  rw [List.getD_eq_getElem?_getD, List.getElem?_eq_getElem (by omega)] at e
  rw [← e]; rfl

set_option maxRecDepth 100000 in
set_option maxHeartbeats 800000 in
theorem FirstHooks_b (A : Option Addr) (c : Nat) (xs : List Int) (w : World) (hl : xs.length ≤ 1048576) (hc : Cells w A xs) (t : Bool) (ht : good xs = t) :
    Calls Try.prog 61 #[.slice A xs.length c] w fun e w' => ∃ A' c', e = .returned (.tuple #[.slice A' (firstF xs).length c', .bool t]) ∧ Own w' w.heap.size A' c' (firstF xs) ∧ Below w.heap.size w w' := by
  have HG := hid ht
  cases t
  · rw [show firstF xs = [] by simp [firstF, ht]]
    clear ht
    go_enter Try.func61, Try.ntmps61
    go_wp2_with (go_at_call 42; refine (IsPartition_b _ _ _ _ hl hc _ HG.out).mono ?_; rintro e w' ⟨rfl, rfl⟩)
    go_ret2
    exact ⟨none, 0, rfl, own_nil _ _, Below.refl _ _⟩
  · have G := (good_iff xs).1 ht
    have h30 := G.len
    have HB := hid (parts_bd G)
    rw [show firstF xs = beadsL xs xs.length by simp [firstF, ht], beadsL_len]
    clear ht G
    go_enter Try.func61, Try.ntmps61
    go_wp2_with (first | (go_at_call 42; refine (IsPartition_b _ _ _ _ hl hc _ HG.out).mono ?_; rintro e w' ⟨rfl, rfl⟩) | (go_at_call 84; refine (beadsFor_any _ _ _ xs.length _ (by omega) (by omega) HB.out hc).mono ?_; rintro e w2 ⟨A2, c2, rfl, o2, b2⟩))
    go_ret2
    exact ⟨A2, c2, rfl, o2, b2⟩
theorem impl_FirstHooks (A : Option Addr) (c : Nat) (xs : List Int) (w : World) (hl : xs.length ≤ 1048576) (hc : Cells w A xs) :
    Calls Try.prog 61 #[.slice A xs.length c] w fun e w' => ∃ A' c', e = .returned (.tuple #[.slice A' (firstF xs).length c', .bool (good xs)]) ∧ Own w' w.heap.size A' c' (firstF xs) ∧ Below w.heap.size w w' := FirstHooks_b A c xs w hl hc _ rfl

/-! FromFirstHooks -/
def ffOk (xs : List Int) : Bool := decide (xs.length ≤ 30) && (rises 1 60 xs && good (partsL xs))
def ffF (xs : List Int) : List Int := if ffOk xs then partsL xs else []
theorem bound_FromFirstHooks (xs : List Int) : (ffF xs).length ≤ 1048576 := by
  unfold ffF
  split
  · rename_i h
    simp only [ffOk, Bool.and_eq_true, decide_eq_true_eq] at h
    have := partsL_len xs; omega
  · exact Nat.zero_le _
theorem rises_up {hi : Int} {xs : List Int} (R : Rises 1 hi xs) : ∀ j, j < xs.length → (j : Int) < xs.getD j 0
  | 0, h => by have := (R.bd 0 h).1; omega
  | j + 1, h => by have := rises_up R j (by omega); have := R.up j h; omega
theorem bpk_full {xs : List Int} (h : ∀ j, j < xs.length → (j : Int) < xs.getD j 0) : ∀ k, k ≤ xs.length → (bpk xs k).length = k
  | 0, _ => rfl
  | k + 1, hk => by rw [bpk_yes rfl rfl (h _ (by omega)), List.length_append, bpk_full h k (by omega)]; rfl
theorem bpk_get {xs : List Int} (h : ∀ j, j < xs.length → (j : Int) < xs.getD j 0) : ∀ k, k ≤ xs.length → ∀ j, j < k → (bpk xs k).getD j 0 = xs.getD (xs.length - 1 - j) 0 - (xs.length - 1 - j : Nat)
  | 0, _, j, hj => by omega
  | k + 1, hk, j, hj => by
    have hl := bpk_full h k (by omega)
    rw [bpk_yes rfl rfl (h _ (by omega)), List.getD_eq_getElem?_getD, List.getElem?_append]
    by_cases e : j < k
    · rw [if_pos (by omega), ← List.getD_eq_getElem?_getD]; exact bpk_get h k (by omega) j e
    · have e2 : j = k := by omega
      subst e2
      rw [if_neg (by omega), hl, Nat.sub_self]; rfl
theorem ff_same {xs : List Int} (h0 : 0 < xs.length → 1 ≤ xs.getD 0 0) : goodB xs = ffOk xs := by
  cases e : ffOk xs
  · cases e2 : goodB xs
    · rfl
    · exfalso
      have G := goodB_iff.1 e2
      have hge : ∀ j, j < xs.length → 1 ≤ xs.getD j 0 := by
        intro j
        induction j with
        | zero => exact h0
        | succ j ih => intro h; have := ih (by omega); have := G.rise.up j h; omega
      have R1 : Rises 1 1000 xs := ⟨fun j hj => ⟨hge j hj, (G.rise.bd j hj).2⟩, G.rise.up⟩
      have hu := rises_up R1
      have hl := bpk_full hu xs.length (Nat.le_refl _)
      have h30 := G.parts.len
      have hll : (partsL xs).length = xs.length := hl
      have R : Rises 1 60 xs := ⟨fun j hj => by
        refine ⟨hge j hj, ?_⟩
        have h1 := bpk_get hu xs.length (Nat.le_refl _) (xs.length - 1 - j) (by omega)
        rw [show xs.length - 1 - (xs.length - 1 - j) = j by omega] at h1
        have h2 := G.parts.le (xs.length - 1 - j) (by omega)
        rw [show partsL xs = bpk xs xs.length from rfl, h1] at h2
        omega, G.rise.up⟩
      have h3 : xs.length ≤ 30 := by omega
      have : ffOk xs = true := by simp only [ffOk, Bool.and_eq_true, decide_eq_true_eq]; exact ⟨h3, rises_Rises.2 R, (good_iff _).2 G.parts⟩
      rw [this] at e; cases e
  · simp only [ffOk, Bool.and_eq_true, decide_eq_true_eq] at e
    have R := rises_Rises.1 e.2.1
    exact goodB_iff.2 ⟨by omega, ⟨fun j hj => by have := R.bd j hj; omega, R.up⟩, (good_iff _).1 e.2.2⟩
theorem ff_low {xs : List Int} (h : 0 < xs.length) (h0 : xs.getD 0 0 < 1) : ffOk xs = false := by
  cases e : ffOk xs
  · rfl
  · exfalso
    simp only [ffOk, Bool.and_eq_true, decide_eq_true_eq] at e
    have := ((rises_Rises.1 e.2.1).bd 0 h).1
    omega

set_option maxRecDepth 100000 in
set_option maxHeartbeats 800000 in
theorem parts_any (A : Option Addr) (c : Nat) (xs : List Int) (w : World) (hl : xs.length ≤ 1000) (hb : ∀ j, j < xs.length → 0 ≤ xs.getD j 0 ∧ xs.getD j 0 ≤ 1000) (hc : Cells w A xs) :
    Calls Try.prog 25 #[.slice A xs.length c] w fun e w' => ∃ A' c', e = .returned (.slice A' (partsL xs).length c') ∧ Own w' w.heap.size A' c' (partsL xs) ∧ Below w.heap.size w w' := by
  have HP := hid (partsOf_any A c xs w hl hb hc)
  clear hb
  obtain ⟨g, hg⟩ : ∃ g, g = partsL xs := ⟨_, rfl⟩
  rw [← hg] at HP ⊢
  clear hg
  go_enter Try.func25, Try.ntmps25
  go_wp2_with (go_at_call 46; refine HP.out.mono ?_; rintro e w2 ⟨A2, c2, rfl, o2, b2⟩)
  go_ret
  exact ⟨A2, c2, rfl, o2, b2⟩

theorem ff_f {xs : List Int} (h : ffOk xs = false) : ffF xs = [] := by simp [ffF, h]
theorem ff_t {xs : List Int} (h : ffOk xs = true) : ffF xs = partsL xs := by simp [ffF, h]
theorem rises_c {xs : List Int} (A : Option Addr) (c : Nat) (W : World) (b : Bool) (h : rises 1 60 xs = b) (hl : xs.length ≤ 1048576) (hc : Cells W A xs) :
    Calls Try.prog 57 #[.slice A xs.length c, .int .i64 1, .int .i64 60] W fun e w' => e = .returned (.bool b) ∧ W = w' := by
  subst h; exact l1Rising_any A xs c 1 60 W hl hc

set_option maxRecDepth 100000 in
set_option maxHeartbeats 2000000 in
theorem boFrom_any (A : Option Addr) (c : Nat) (xs : List Int) (w : World) (hl : xs.length ≤ 1048576) (hc : Cells w A xs) :
    Calls Try.prog 32 #[.slice A xs.length c] w fun e w' => ∃ A' c', e = .returned (.tuple #[.slice A' (ffF xs).length c', .bool (ffOk xs)]) ∧ Own w' w.heap.size A' c' (ffF xs) ∧ Below w.heap.size w w' := by
  obtain ⟨i0, hi, hz0, hz1, hz2⟩ := info_parts Try.infoInt
  by_cases h30 : 30 < xs.length
  · have e : ffOk xs = false := by simp [ffOk]; omega
    rw [ff_f e, e]
    clear e
    go_enter Try.func32, Try.ntmps32
    go_wp2_with fail
    go_ret2
    exact ⟨none, 0, rfl, own_nil _ _, Below.refl _ _⟩
  have h30' : xs.length ≤ 30 := by omega
  clear h30
  cases hr : rises 1 60 xs
  · have e : ffOk xs = false := by simp [ffOk, hr]
    rw [ff_f e, e]
    have HR := hid fun W (h : Cells W A xs) => rises_c A c W _ hr hl h
    clear e hr
    go_enter Try.func32, Try.ntmps32
    go_wp2_with (go_at_call 57; refine (HR.out _ hc).mono ?_; rintro e w1 ⟨rfl, rfl⟩)
    go_ret2
    exact ⟨none, 0, rfl, own_nil _ _, Below.refl _ _⟩
  have R := rises_Rises.1 hr
  have HR := hid fun W (h : Cells W A xs) => rises_c A c W _ hr hl h
  have HU := hid (rises_up R)
  have HBD := hid R.bd
  have HL := hid (bpk_full (rises_up R))
  have HOK := hid (show ffOk xs = good (partsL xs) by simp [ffOk, hr, h30'])
  have HFF := hid (show ffF xs = if good (partsL xs) then partsL xs else [] by unfold ffF; rw [HOK.out])
  obtain ⟨Rs, hRs⟩ : ∃ Rs, Rs = ffF xs := ⟨_, rfl⟩
  obtain ⟨Bo, hBo⟩ : ∃ Bo, Bo = ffOk xs := ⟨_, rfl⟩
  rw [← hRs] at HFF ⊢
  rw [← hBo] at HOK ⊢
  clear hr R hRs hBo
  go_enter Try.func32, Try.ntmps32
  go_wp2_with (go_at_call 57; refine (HR.out _ hc).mono ?_; rintro e w1 ⟨rfl, rfl⟩)
  go_loopw [4, 5] (fun v i wr => ∃ k : Nat, k ≤ xs.length ∧ i = .int .i64 ((xs.length : Int) - 1 - k) ∧ (∃ A' c', v = .slice A' (bpk xs k).length c' ∧ Own wr w.heap.size A' c' (bpk xs k)) ∧ Below w.heap.size w wr) (fun _ i _ => (intOf i + 1).toNat)
  case atStart => exact ⟨0, Nat.zero_le _, by simp, ⟨none, 0, rfl, own_nil _ _⟩, Below.refl _ _⟩
  case round =>
    obtain ⟨k, hk, rfl, ⟨Ag, cg, rfl, ho⟩, hb1⟩ := hrel
    by_cases hlt : k < xs.length
    · obtain ⟨b, o, rfl, hck⟩ := (hc.below hb1).get (j := xs.length - 1 - k) (by omega)
      have hxb := HBD.out (xs.length - 1 - k) (by omega)
      have hxu := HU.out (xs.length - 1 - k) (by omega)
      have HS := hid (bpk_yes (xs := xs) (k := k) rfl rfl hxu)
      have hil : (xs.length : Int) - 1 - k = ((xs.length - 1 - k : Nat) : Int) := by omega
      have hll : (bpk xs k).length = k := HL.out k (by omega)
      obtain ⟨i, hi2⟩ : ∃ i, i = xs.length - 1 - k := ⟨_, rfl⟩
      rw [hil]
      rw [← hi2] at hck hxb HS hxu ⊢
      have HIK := hid (show (i : Int) = xs.length - 1 - k by omega)
      have hin : i < xs.length := by omega
      obtain ⟨x, hx⟩ : ∃ x, x = xs.getD i 0 := ⟨_, rfl⟩
      rw [← hx] at hck hxb HS hxu
      obtain ⟨f, hF⟩ : ∃ f, f = bpk xs k := ⟨_, rfl⟩
      rw [← hF] at ho HS hll ⊢
      have HO := hid ho
      have hl60 : f.length ≤ 60 := by omega
      have hcs := hb1.size
      clear hF ho hx hil hi2 hll
      go_wp2_with (at_builtin; refine wpList_append_own _ rfl _ _ 27 rfl w.heap.size 3 i0 (.int .i64 0) 1 8 Try.underlying27 hi hz0 hz1 hz2 rfl (by decide) _ _ _ rfl (HO.out.alloc _) ⟨wr.heap.size, 0, none⟩ 1 1 [.int .i64 (x - i)] rfl rfl one_at (one_cell _) (by unfold maxLen; omega) (by omega) (by simp; omega) ?_)
      intro v' w4 hown' hgrow _
      have hb2 : Below w.heap.size w w4 := (hb1.alloc hb1.size _).grown hgrow (by simp; omega) (fun q hq => (HO.out.lt q hq).1)
      have hown2 := own_snoc (zs := bpk xs (k + 1)) HS.out hown'
      obtain ⟨A3, c3, rfl, ho3⟩ := own_form hown2 rfl
      have HO3 := hid ho3
      clear hgrow hown' hown2 ho3
      go_wp2_with fail
      go_roundw
      case rel => exact ⟨k + 1, by omega, by congr 1; have := HIK.out; omega, ⟨A3, c3, rfl, HO3.out⟩, hb2⟩
      case measure => show ((i : Int) - 1 + 1).toNat < ((i : Int) + 1).toNat; omega
    · have hkl : k = xs.length := by omega
      subst hkl
      have hpp : bpk xs xs.length = partsL xs := rfl
      have hpl := HL.out xs.length (Nat.le_refl _)
      rw [hpp] at ho hpl ⊢
      obtain ⟨P, hP⟩ : ∃ P, P = partsL xs := ⟨_, rfl⟩
      rw [← hP] at ho hpl HOK HFF ⊢
      have HO := hid ho
      have hPl : P.length ≤ 1048576 := by omega
      clear hP hpp ho hpl
      cases hg : good P
      · rw [hg] at HOK
        rw [hg, if_neg (by simp)] at HFF
        have HG := hid hg
        clear hg
        go_wp2_with (go_at_call 58; refine (ptGood_b _ _ _ _ hPl HO.out.cells _ HG.out).mono ?_; rintro e w' ⟨rfl, n, rfl⟩)
        go_ret2
        exact ⟨none, 0, by rw [HOK.out, HFF.out]; rfl, by rw [HFF.out]; exact own_nil _ _, Below.next hb1 (below_drew' _ _)⟩
      · rw [hg] at HOK
        rw [hg, if_pos rfl] at HFF
        have HG := hid hg
        clear hg
        go_wp2_with (go_at_call 58; refine (ptGood_b _ _ _ _ hPl HO.out.cells _ HG.out).mono ?_; rintro e w' ⟨rfl, n, rfl⟩)
        go_ret2
        exact ⟨Ag, cg, by rw [HOK.out, HFF.out]; rfl, by rw [HFF.out]; exact HO.out.drewN n, Below.next hb1 (below_drew' _ _)⟩
end Go.Proofs.Ytnjhjdidohdkmaa
