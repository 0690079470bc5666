/-
  Contract: the partition of a border word, the program's side.
-/
import Derived.Test.YtaonkebjakanjaaFromS
import Derived.Test.YtaonkebjakanjaaStep
import Derived.Test.YtaonkebjakanjaaCB
import Derived.Lib.ConvBytes
namespace Go.Proofs.Ytaonkebjakanjaa
open Go.RowKit

theorem rise_any (c : Int) (w : World) : Calls Try.prog 35 #[.int .u8 c] w fun e w' => e = .returned (.int .i64 (if c = 85 then 1 else 0)) ∧ w = w' := by
  by_cases h : c = 85
  · rw [if_pos h]
    go_enter Try.func35, Try.ntmps35
    go_wp2
    go_ret
    exact ⟨rfl, rfl⟩
  · rw [if_neg h]
    go_enter Try.func35, Try.ntmps35
    go_wp2
    go_ret
    exact ⟨rfl, rfl⟩
def ups (l : List UInt8) : Nat := l.count 85
theorem ups_next (s : ByteArray) (k : Nat) (h : k < s.size) : (ups ((bl s).take (k + 1)) : Int) = ups ((bl s).take k) + (if ((s[k].toNat : Int) = 85) then 1 else 0) := by
  unfold ups
  rw [List.take_succ_eq_append_getElem (by rw [bl_len]; exact h), List.count_append, bl_get s k h]
  by_cases e : s[k] = 85
  · rw [e]; simp
  · have : ¬ ((s[k].toNat : Int) = 85) := fun e' => e (UInt8.toNat_inj.1 (by have : (85 : UInt8).toNat = 85 := rfl; omega))
    simp [e, this]

set_option maxRecDepth 100000 in
set_option maxHeartbeats 1000000 in
theorem sumUps (s : ByteArray) (b c : Nat) (w : World) (hl : s.size ≤ 60) (hc : ∀ j (h : j < s.size), w.cell? ⟨b, j, none⟩ = some (.int .u8 s[j].toNat)) :
    Calls Try.prog 34 #[.slice (some ⟨b, 0, none⟩) s.size c, .func (.func 35) #[] #[]] w fun e w' => e = .returned (.int .i64 (ups (bl s) : Nat)) ∧ w = w' := by
  have HC := hid hc; clear hc
  go_enter Try.func34, Try.ntmps34
  go_wp2_with fail
  go_loop [5, 10] (fun t i => ∃ k : Nat, k ≤ s.size ∧ i = .int .i64 k ∧ t = .int .i64 (ups ((bl s).take k) : Nat)) (fun _ i => s.size - (intOf i).toNat)
  case atStart => exact ⟨0, Nat.zero_le _, rfl, by simp [ups]⟩
  case round =>
    obtain ⟨k, hk, rfl, rfl⟩ := hrel
    have hub : ups ((bl s).take k) ≤ 60 := by
      have h1 := List.count_le_length (a := (85 : UInt8)) (l := (bl s).take k)
      have h2 : ((bl s).take k).length ≤ 60 := by rw [List.length_take, bl_len]; omega
      unfold ups; omega
    by_cases hlt : k < s.size
    · have hck := HC.out k hlt
      have hn := ups_next s k hlt
      obtain ⟨x, hx⟩ : ∃ x : Int, x = (s[k].toNat : Int) := ⟨_, rfl⟩
      rw [← hx] at hck hn
      obtain ⟨d, hd⟩ : ∃ d : Int, d = (if x = 85 then 1 else 0) := ⟨_, rfl⟩
      have hd1 : 0 ≤ d ∧ d ≤ 1 := by rw [hd]; split <;> omega
      rw [← hd] at hn
      obtain ⟨u, hu⟩ : ∃ u, u = ups ((bl s).take k) := ⟨_, rfl⟩
      rw [← hu] at hn hub ⊢
      have HN := hid hn
      have HD := hid hd
      clear hx hn hd hu
      go_wp2_with (go_at_call 35; refine (rise_any _ _).mono ?_; rintro e w' ⟨rfl, rfl⟩; rw [← HD.out])
      go_round
      case rel => exact ⟨k + 1, by omega, by go_num, by rw [HN.out]⟩
      case measure => simp [intOf]; omega
    · have htk : (bl s).take k = bl s := List.take_of_length_le (by rw [bl_len]; omega)
      have HT := hid htk
      clear htk
      go_wp2_with fail
      go_ret
      exact ⟨ret_int (by rw [HT.out]), rfl⟩

instance (l : List UInt8) : Decidable (ends l) := by unfold ends; infer_instance
def endsB (s : ByteArray) : Bool := decide (ends (bl s))

theorem ends_nil {s : ByteArray} (h : s.size = 0) : endsB s = true := by
  have : bl s = [] := List.eq_nil_of_length_eq_zero (by rw [bl_len]; exact h)
  simp [endsB, ends, this]
theorem ends_pos {s : ByteArray} (h : 0 < s.size) : endsB s = (decide ((s[0].toNat : Int) = 82) && decide ((s[s.size - 1].toNat : Int) = 85)) := by
  have h0 : (bl s).head? = some s[0] := by
    rw [List.head?_eq_getElem?, List.getElem?_eq_getElem (by rw [bl_len]; exact h), bl_get s 0 h]
  have h1 : (bl s).getLast? = some s[s.size - 1] := by
    rw [List.getLast?_eq_getElem?, bl_len, List.getElem?_eq_getElem (by rw [bl_len]; omega), bl_get s (s.size - 1) (by omega)]
  have hne : bl s ≠ [] := fun e => by have := bl_len s; rw [e] at this; simp at this; omega
  have e2 : ∀ c : UInt8, (c = 82 ↔ (c.toNat : Int) = 82) := fun c => ⟨fun e => by rw [e]; rfl, fun e => UInt8.toNat_inj.1 (by have : (82 : UInt8).toNat = 82 := rfl; omega)⟩
  have e5 : ∀ c : UInt8, (c = 85 ↔ (c.toNat : Int) = 85) := fun c => ⟨fun e => by rw [e]; rfl, fun e => UInt8.toNat_inj.1 (by have : (85 : UInt8).toNat = 85 := rfl; omega)⟩
  have key : ends (bl s) ↔ (s[0].toNat : Int) = 82 ∧ (s[s.size - 1].toNat : Int) = 85 := by
    unfold ends
    rw [h0, h1, Option.some.injEq, Option.some.injEq, e2, e5]
    exact ⟨fun h => h.elim (fun e => absurd e hne) id, .inr⟩
  unfold endsB
  rw [Bool.eq_iff_iff, decide_eq_true_iff, key]
  simp

set_option maxRecDepth 100000 in
set_option maxHeartbeats 1000000 in
theorem hasEnds_any (s : ByteArray) (w : World) (hl : s.size ≤ 60) :
    Calls Try.prog 33 #[.string s] w fun e w' => e = .returned (.bool (endsB s)) ∧ w = w' := by
  by_cases h0 : s.size = 0
  · rw [ends_nil h0]
    have hs : s = ⟨#[]⟩ := by rw [← strOf_bl s, List.eq_nil_of_length_eq_zero (l := bl s) (by rw [bl_len]; exact h0)]; rfl
    subst hs
    go_enter Try.func33, Try.ntmps33
    go_wp2
    go_ret
    exact ⟨rfl, rfl⟩
  · have hp : 0 < s.size := by omega
    rw [ends_pos hp]
    have hbn : ¬ s.toList = [] := by
      rw [ByteArray.toList_eq]
      intro e
      have := bl_len s
      rw [show bl s = [] from e] at this
      simp at this; omega
    have hbe : s.toList.isEmpty = false := by cases h : s.toList with | nil => exact absurd h hbn | cons _ _ => rfl
    have hw1 : IntKind.i64.wrap ((s.size : Int) - 1) = ((s.size - 1 : Nat) : Int) := by rw [IntWalk.i64_in _ (by omega)]; omega
    obtain ⟨m, hm⟩ : ∃ m, m = s.size - 1 := ⟨_, rfl⟩
    have hmp : m < s.size := by omega
    have e3 : s[s.size - 1] = s[m] := by simp [hm]
    rw [e3]
    rw [← hm] at hw1
    have HM := hid hm
    clear hm e3
    by_cases ha : (s[0].toNat : Int) = 82
    · by_cases hb : (s[m].toNat : Int) = 85
      · rw [decide_eq_true ha, decide_eq_true hb]
        go_enter Try.func33, Try.ntmps33
        go_wp2
        go_ret
        exact ⟨rfl, rfl⟩
      · rw [decide_eq_true ha, decide_eq_false hb]
        go_enter Try.func33, Try.ntmps33
        go_wp2
        go_ret
        exact ⟨ret_bool (by rw [Bool.true_and]; exact beq_false_of_ne hb), rfl⟩
    · rw [decide_eq_false ha]
      go_enter Try.func33, Try.ntmps33
      go_wp2
      go_ret
      exact ⟨rfl, rfl⟩

theorem ok_ends {s : ByteArray} (h : endsB s = false) : fromOK s = false := by
  cases hk : fromOK s
  · rfl
  · simp only [fromOK, Bool.and_eq_true, decide_eq_true_eq] at hk
    obtain ⟨_, hr, hg, hw⟩ := hk
    have := (fb_ends (bl s) ((ruB_iff _).1 hr) ((good_iff _).1 hg)).1 hw
    simp [endsB, this] at h
theorem ok_good {s : ByteArray} (h60 : s.size ≤ 60) (he : endsB s = true) (hr : RU (bl s)) : fromOK s = good (fromP s) := by
  have hen : ends (bl s) := by simpa [endsB] using he
  unfold fromOK
  rw [decide_eq_true h60, (ruB_iff _).2 hr]
  cases hg : good (fromP s)
  · rfl
  · have hw : wordL (fromP s) = bl s := (fb_ends (bl s) hr ((good_iff _).1 hg)).2 hen
    rw [decide_eq_true hw]; rfl
/-- The row while it is being filled. -/
def half (K : Nat) (p : List Int) : List Int := List.replicate (K - p.length) 0 ++ p
theorem half_len (K : Nat) (p : List Int) (h : p.length ≤ K) : (half K p).length = K := by simp [half]; omega
theorem half_set (K : Nat) (p : List Int) (x : Int) (h : p.length < K) : (half K p).set (K - p.length - 1) x = half K (x :: p) := by
  unfold half
  obtain ⟨m, hm⟩ : ∃ m, K - p.length = m + 1 := ⟨K - p.length - 1, by omega⟩
  rw [hm, Nat.add_sub_cancel, List.length_cons, show K - (p.length + 1) = m by omega, List.replicate_succ', List.append_assoc]
  rw [List.set_append_right _ _ (by simp)]
  simp
theorem half_nil (K : Nat) : half K [] = List.replicate K 0 := by simp [half]
theorem half_full (p : List Int) (K : Nat) (h : p.length = K) : half K p = p := by simp [half, h]
theorem ups_fb (l : List UInt8) : (fb l).1.length = ups l := (fb_len l).1
theorem ups_take (l : List UInt8) (k : Nat) : ups (l.take k) ≤ ups l := (List.take_sublist k l).count_le 85
theorem ups_lt (s : ByteArray) (k : Nat) (h : k < s.size) (h5 : s[k] = 85) : ups ((bl s).take k) < ups (bl s) := by
  have h1 := ups_next s k h
  rw [h5] at h1
  have h2 := ups_take (bl s) (k + 1)
  have h3 : (((85 : UInt8).toNat : Int) = 85) := rfl
  rw [if_pos h3] at h1
  omega
theorem stepU (w : World) : Calls Try.prog 28 #[.int .u8 85] w fun e w' => e = .returned (.func (.func 44) #[] #[]) ∧ w = w' := stepOf_any 85 w
theorem stepR (w : World) : Calls Try.prog 28 #[.int .u8 82] w fun e w' => e = .returned (.func (.func 45) #[] #[]) ∧ w = w' := stepOf_any 82 w
theorem stepN (c : Int) (w : World) (h1 : ¬ c = 85) (h2 : ¬ c = 82) : Calls Try.prog 28 #[.int .u8 c] w fun e w' => e = .returned .nilFunc ∧ w = w' := by
  have := stepOf_any c w
  rw [if_neg h1, if_neg h2] at this
  exact this
end Go.Proofs.Ytaonkebjakanjaa
