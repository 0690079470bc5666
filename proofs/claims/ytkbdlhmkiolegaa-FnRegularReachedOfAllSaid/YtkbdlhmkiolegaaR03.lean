/-
  Several texts in one.
-/
import Derived.Test.YtkbdlhmkiolegaaCB
import Derived.Test.YtkbdlhmkiolegaaR02
/-
  First hooks: contracts of FirstHooks and FromFirstHooks on both sides.
-/
namespace Go.Proofs.Ytkbdlhmkiolegaa
open Go.RowKit

def firstF (p : List Int) : List Int := if good p then beadsL p p.length else []
theorem bound_FirstHooks (xs : List Int) : (firstF xs).length ≤ 1048576 := by
  unfold firstF
  split
  · rename_i h; have := ((good_iff xs).1 h).len; rw [beadsL_len]; omega
  · exact Nat.zero_le _
theorem beadsL_take (p : List Int) (m : Nat) (h : m < p.length) : (beadsL p p.length).take (m + 1) = (beadsL p p.length).take m ++ [(m : Int) + p.getD (p.length - 1 - m) 0] := by
  have hl := beadsL_len p p.length
  rw [List.take_succ_eq_append_getElem (by omega)]
  have e : (beadsL p p.length).getD m 0 = (m : Int) + p.getD (p.length - 1 - m) 0 := by unfold beadsL; rw [fnRow_get _ _ _ h]; rfl
  rw [List.getD_eq_getElem?_getD, List.getElem?_eq_getElem (by omega)] at e
  rw [← e]; rfl

/-! FromFirstHooks -/
def ffOk (xs : List Int) : Bool := decide (xs.length ≤ 30) && (rises 1 60 xs && good (partsL xs))
def ffF (xs : List Int) : List Int := if ffOk xs then partsL xs else []
theorem bound_FromFirstHooks (xs : List Int) : (ffF xs).length ≤ 1048576 := by
  unfold ffF
  split
  · rename_i h
    simp only [ffOk, Bool.and_eq_true, decide_eq_true_eq] at h
    have := partsL_len xs; omega
  · exact Nat.zero_le _
theorem rises_up {hi : Int} {xs : List Int} (R : Rises 1 hi xs) : ∀ j, j < xs.length → (j : Int) < xs.getD j 0
  | 0, h => by have := (R.bd 0 h).1; omega
  | j + 1, h => by have := rises_up R j (by omega); have := R.up j h; omega
theorem bpk_full {xs : List Int} (h : ∀ j, j < xs.length → (j : Int) < xs.getD j 0) : ∀ k, k ≤ xs.length → (bpk xs k).length = k
  | 0, _ => rfl
  | k + 1, hk => by rw [bpk_yes rfl rfl (h _ (by omega)), List.length_append, bpk_full h k (by omega)]; rfl
theorem bpk_get {xs : List Int} (h : ∀ j, j < xs.length → (j : Int) < xs.getD j 0) : ∀ k, k ≤ xs.length → ∀ j, j < k → (bpk xs k).getD j 0 = xs.getD (xs.length - 1 - j) 0 - (xs.length - 1 - j : Nat)
  | 0, _, j, hj => by omega
  | k + 1, hk, j, hj => by
    have hl := bpk_full h k (by omega)
    rw [bpk_yes rfl rfl (h _ (by omega)), List.getD_eq_getElem?_getD, List.getElem?_append]
    by_cases e : j < k
    · rw [if_pos (by omega), ← List.getD_eq_getElem?_getD]; exact bpk_get h k (by omega) j e
    · have e2 : j = k := by omega
      subst e2
      rw [if_neg (by omega), hl, Nat.sub_self]; rfl
theorem ff_same {xs : List Int} (h0 : 0 < xs.length → 1 ≤ xs.getD 0 0) : goodB xs = ffOk xs := by
  cases e : ffOk xs
  · cases e2 : goodB xs
    · rfl
    · exfalso
      have G := goodB_iff.1 e2
      have hge : ∀ j, j < xs.length → 1 ≤ xs.getD j 0 := by
        intro j
        induction j with
        | zero => exact h0
        | succ j ih => intro h; have := ih (by omega); have := G.rise.up j h; omega
      have R1 : Rises 1 1000 xs := ⟨fun j hj => ⟨hge j hj, (G.rise.bd j hj).2⟩, G.rise.up⟩
      have hu := rises_up R1
      have hl := bpk_full hu xs.length (Nat.le_refl _)
      have h30 := G.parts.len
      have hll : (partsL xs).length = xs.length := hl
      have R : Rises 1 60 xs := ⟨fun j hj => by
        refine ⟨hge j hj, ?_⟩
        have h1 := bpk_get hu xs.length (Nat.le_refl _) (xs.length - 1 - j) (by omega)
        rw [show xs.length - 1 - (xs.length - 1 - j) = j by omega] at h1
        have h2 := G.parts.le (xs.length - 1 - j) (by omega)
        rw [show partsL xs = bpk xs xs.length from rfl, h1] at h2
        omega, G.rise.up⟩
      have h3 : xs.length ≤ 30 := by omega
      have : ffOk xs = true := by simp only [ffOk, Bool.and_eq_true, decide_eq_true_eq]; exact ⟨h3, rises_Rises.2 R, (good_iff _).2 G.parts⟩
      rw [this] at e; cases e
  · simp only [ffOk, Bool.and_eq_true, decide_eq_true_eq] at e
    have R := rises_Rises.1 e.2.1
    exact goodB_iff.2 ⟨by omega, ⟨fun j hj => by have := R.bd j hj; omega, R.up⟩, (good_iff _).1 e.2.2⟩
theorem ff_low {xs : List Int} (h : 0 < xs.length) (h0 : xs.getD 0 0 < 1) : ffOk xs = false := by
  cases e : ffOk xs
  · rfl
  · exfalso
    simp only [ffOk, Bool.and_eq_true, decide_eq_true_eq] at e
    have := ((rises_Rises.1 e.2.1).bd 0 h).1
    omega

theorem ff_f {xs : List Int} (h : ffOk xs = false) : ffF xs = [] := by simp [ffF, h]
theorem ff_t {xs : List Int} (h : ffOk xs = true) : ffF xs = partsL xs := by simp [ffF, h]
end Go.Proofs.Ytkbdlhmkiolegaa
/-
  GreatestBoth on both sides.
-/
namespace Go.Proofs.Ytkbdlhmkiolegaa
open Go.RowKit

theorem gaps_okN : ∀ a < 8, ∀ b < 8, sz ((a : Nat) : Int) ((b : Nat) : Int) = true → ffOk (gapsL (a : Int) (b : Int)) = true := by decide +kernel
theorem sz_nat {p : Int → Int → Prop} (h : ∀ a < 8, ∀ b < 8, sz ((a : Nat) : Int) ((b : Nat) : Int) = true → p (a : Int) (b : Int)) {a b : Int} (hs : sz a b = true) : p a b := by
  obtain ⟨ha, hb, -⟩ := sz_iff.1 hs
  have := h a.toNat (by omega) b.toNat (by omega)
  rw [Int.toNat_of_nonneg (by omega), Int.toNat_of_nonneg (by omega)] at this
  exact this hs
theorem gaps_ok {a b : Int} (hs : sz a b = true) : ffOk (gapsL a b) = true := sz_nat (p := fun a b => ffOk (gapsL a b) = true) gaps_okN hs
def greatF (a b : Int) : List Int := if sz a b then partsL (gapsL a b) else []
theorem gapsL_len {a b : Int} (hs : sz a b = true) : (gapsL a b).length ≤ 30 := by
  have := gaps_ok hs
  simp only [ffOk, Bool.and_eq_true, decide_eq_true_eq] at this
  exact this.1
theorem bound_GreatestBoth (a b : Int) : (greatF a b).length ≤ 1048576 := by
  unfold greatF
  split
  · rename_i h
    have := gapsL_len h
    have := partsL_len (gapsL a b); omega
  · exact Nat.zero_le _

end Go.Proofs.Ytkbdlhmkiolegaa
/-
  Whether a list has a number: slices.Contains at []int and at firstHooks, the model's l1Has.
-/
namespace Go.Proofs.Ytkbdlhmkiolegaa
open Go.RowKit

set_option maxHeartbeats 400000 in
theorem Index2_any (A : Option Addr) (xs : List Int) (c : Nat) (n : Int) (w : World) (hl : xs.length ≤ 1048576) (hc : Cells w A xs) :
    Calls Try.prog 93 #[.slice A xs.length c, .int .i64 n] w fun e w' => (∃ i : Int, e = .returned (.int .i64 i) ∧ (0 ≤ i ↔ n ∈ xs)) ∧ w = w' := by
  go_enter Try.func93, Try.ntmps93
  go_wp2
  go_loop [5, 8] (fun _ i => ∃ k : Nat, k ≤ xs.length ∧ i = .int .i64 k ∧ Hid (∀ j, j < k → xs.getD j 0 ≠ n)) (fun _ i => xs.length - (intOf i).toNat)
  case atStart => exact ⟨0, Nat.zero_le _, rfl, hid fun j hj => by omega⟩
  case round =>
    obtain ⟨k, hk, rfl, HN⟩ := hrel
    by_cases hlt : k < xs.length
    · obtain ⟨b, o, rfl, hcc⟩ := hc (by omega)
      have hck := hcc k hlt
      clear hcc hc
      have hmem : xs.getD k 0 ∈ xs := by rw [List.getD_eq_getElem?_getD, List.getElem?_eq_getElem hlt]; exact List.getElem_mem hlt
      obtain ⟨x, hx⟩ : ∃ x, x = xs.getD k 0 := ⟨_, rfl⟩
      rw [← hx] at hck hmem
      have HX := hid hx; clear hx
      by_cases he : n = x
      · have HM := hid hmem
        have heb : (n == x) = true := beq_iff_eq.2 he
        have HE := hid he; clear he hmem
        go_wp2
        go_ret
        exact ⟨⟨_, rfl, fun _ => HE.out ▸ HM.out, fun _ => by omega⟩, rfl⟩
      · have heb : (n == x) = false := beq_eq_false_iff_ne.2 he
        have HE := hid he; clear he hmem
        go_wp2
        go_round
        case rel =>
          refine ⟨k + 1, by omega, by go_num, hid fun j hj => ?_⟩
          by_cases h : j < k
          · exact HN.out j h
          · have : j = k := by omega
            subst this; rw [← HX.out]; exact fun e => HE.out e.symm
        case measure => simp [intOf]; omega
    · go_wp2
      go_ret
      refine ⟨⟨_, rfl, fun h => absurd h (by omega), fun hm => ?_⟩, rfl⟩
      exfalso
      obtain ⟨j, hj, e⟩ := List.getElem_of_mem hm
      refine HN.out j (by omega) ?_
      rw [List.getD_eq_getElem?_getD, List.getElem?_eq_getElem hj]
      exact e
theorem Contains2_any (A : Option Addr) (xs : List Int) (c : Nat) (n : Int) (w : World) (hl : xs.length ≤ 1048576) (hc : Cells w A xs) :
    Calls Try.prog 82 #[.slice A xs.length c, .int .i64 n] w fun e w' => e = .returned (.bool (decide (n ∈ xs))) ∧ w = w' := by
  go_enter Try.func82, Try.ntmps82
  go_wp2_with (go_at_call 93; refine (Index2_any _ _ _ _ _ hl hc).mono ?_; rintro e w' ⟨⟨i, rfl, hi⟩, rfl⟩)
  go_ret
  exact ⟨ret_bool (by simp), rfl⟩
theorem Contains2_b (A : Option Addr) (xs : List Int) (c : Nat) (n : Int) (w : World) (hl : xs.length ≤ 1048576) (hc : Cells w A xs) (b : Bool) (h : decide (n ∈ xs) = b) :
    Calls Try.prog 82 #[.slice A xs.length c, .int .i64 n] w fun e w' => e = .returned (.bool b) ∧ w = w' := by
  subst h; exact Contains2_any A xs c n w hl hc
/-- Whether n - s is among the hooks, or n is at most s. -/
def hbB (xs : List Int) (n s : Int) : Bool := decide (n ≤ s) || decide (n - s ∈ xs)
end Go.Proofs.Ytkbdlhmkiolegaa
