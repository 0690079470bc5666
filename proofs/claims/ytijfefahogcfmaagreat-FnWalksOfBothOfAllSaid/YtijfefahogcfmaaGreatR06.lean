/-
  Several texts in one.
-/
import Derived.Test.YtijfefahogcfmaaGreatR04
import Derived.Test.YtijfefahogcfmaaGreatR05
import Derived.Test.YtijfefahogcfmaaGreatR01
import Derived.Test.YtijfefahogcfmaaGreatR02
/-
  Closed gaps: contracts of isClosed (program) and boClosed (model), AreClosedHooks on both sides.
-/
namespace Go.Proofs.YtijfefahogcfmaaGreat
open Go.RowKit

/-- Whether the number at j, behind the one before it, is a gap that the others allow. -/
def okC (a b : Int) (xs : List Int) (j : Nat) : Bool := (decide (j = 0) || decide (xs.getD (j - 1) 0 < xs.getD j 0)) && (decide (xs.getD j 0 ∈ gapsL a b) && (hbB xs (xs.getD j 0) a && hbB xs (xs.getD j 0) b))
def clB (a b : Int) (xs : List Int) : Bool := (List.range xs.length).all (okC a b xs)
theorem clB_iff {a b : Int} {xs : List Int} : clB a b xs = true ↔ ∀ j, j < xs.length → okC a b xs j = true := by
  unfold clB; rw [List.all_eq_true]
  exact ⟨fun h j hj => h j (List.mem_range.2 hj), fun h j hj => h j (List.mem_range.1 hj)⟩
theorem clB_no {a b : Int} {xs : List Int} {k : Nat} (hk : k < xs.length) (h : okC a b xs k = false) : clB a b xs = false := by
  cases e : clB a b xs
  · rfl
  · have := clB_iff.1 e k hk; rw [this] at h; cases h
theorem mem_gapsL {a b x : Int} : x ∈ gapsL a b ↔ 1 ≤ x ∧ x < a * b ∧ sumA a b x = false := by
  unfold gapsL gpL
  simp only [List.mem_map, List.mem_filter, List.mem_range, gpN, Bool.and_eq_true, decide_eq_true_eq, Bool.not_eq_true']
  constructor
  · rintro ⟨n, ⟨h1, h2, h3⟩, rfl⟩
    exact ⟨by omega, by omega, h3⟩
  · rintro ⟨h1, h2, h3⟩
    exact ⟨x.toNat, ⟨by omega, by omega, by rw [Int.toNat_of_nonneg (by omega)]; exact h3⟩, Int.toNat_of_nonneg (by omega)⟩
theorem okC_parts {a b : Int} {xs : List Int} {j : Nat} : okC a b xs j = true ↔ (j = 0 ∨ xs.getD (j - 1) 0 < xs.getD j 0) ∧ xs.getD j 0 ∈ gapsL a b ∧ hbB xs (xs.getD j 0) a = true ∧ hbB xs (xs.getD j 0) b = true := by
  simp only [okC, Bool.and_eq_true, Bool.or_eq_true, decide_eq_true_eq]
theorem gpL_mono (f : Nat → Bool) (k : Nat) : ∀ m, (gpL f k).length ≤ (gpL f (k + m)).length
  | 0 => Nat.le_refl _
  | m + 1 => by
    have := gpL_mono f k m
    cases h : f (k + m)
    · rw [show k + (m + 1) = (k + m) + 1 from rfl, gpL_f h]; exact this
    · rw [show k + (m + 1) = (k + m) + 1 from rfl, gpL_t h, List.length_append]; omega
theorem gpL_mono' (f : Nat → Bool) {k m : Nat} (h : k ≤ m) : (gpL f k).length ≤ (gpL f m).length := by
  have := gpL_mono f k (m - k); rwa [show k + (m - k) = m by omega] at this
theorem cl_rank {a b : Int} {xs : List Int} (h : clB a b xs = true) : ∀ j, j < xs.length → j + 1 ≤ (gpL (gpN a b) ((xs.getD j 0).toNat + 1)).length
  | 0, hj => by
    obtain ⟨-, hm, -⟩ := okC_parts.1 (clB_iff.1 h 0 hj)
    obtain ⟨h1, h2, h3⟩ := mem_gapsL.1 hm
    rw [gpL_t (by simp only [gpN]; rw [Int.toNat_of_nonneg (by omega), h3, decide_eq_true (by omega)]; rfl), List.length_append]
    show 0 + 1 ≤ _ + 1
    omega
  | j + 1, hj => by
    have ih := cl_rank h j (by omega)
    obtain ⟨ho, hm, -⟩ := okC_parts.1 (clB_iff.1 h (j + 1) hj)
    obtain ⟨h1, h2, h3⟩ := mem_gapsL.1 hm
    have hlt : xs.getD j 0 < xs.getD (j + 1) 0 := by
      rcases ho with ho | ho
      · omega
      · exact ho
    have hm2 := (okC_parts.1 (clB_iff.1 h j (by omega))).2.1
    have h4 := (mem_gapsL.1 hm2).1
    have := gpL_mono' (gpN a b) (k := (xs.getD j 0).toNat + 1) (m := (xs.getD (j + 1) 0).toNat) (by omega)
    rw [gpL_t (k := (xs.getD (j + 1) 0).toNat) (by simp only [gpN]; rw [Int.toNat_of_nonneg (by omega), h3, decide_eq_true (by omega)]; rfl), List.length_append]
    show _ ≤ _ + 1
    omega
theorem cl_len {a b : Int} {xs : List Int} (hs : sz a b = true) (h : clB a b xs = true) : xs.length ≤ 30 := by
  rcases Nat.eq_zero_or_pos xs.length with h0 | h0
  · omega
  have h1 := cl_rank h (xs.length - 1) (by omega)
  have hm := (okC_parts.1 (clB_iff.1 h (xs.length - 1) (by omega))).2.1
  obtain ⟨h2, h3, -⟩ := mem_gapsL.1 hm
  have h4 := gpL_mono' (gpN a b) (k := (xs.getD (xs.length - 1) 0).toNat + 1) (m := (a * b).toNat) (by omega)
  have h5 := gapsL_len hs
  unfold gapsL at h5
  omega
theorem cl_rises {a b : Int} {xs : List Int} (h : clB a b xs = true) : Rises 1 (a * b) xs := by
  refine ⟨fun j hj => ?_, fun j hj => ?_⟩
  · have := mem_gapsL.1 (okC_parts.1 (clB_iff.1 h j hj)).2.1
    omega
  · rcases (okC_parts.1 (clB_iff.1 h (j + 1) hj)).1 with ho | ho
    · omega
    · exact ho
/-- The other side's test of one number. -/
def okS (a b : Int) (xs : List Int) (x : Int) : Bool := !(sumA a b x) && (hbB xs x a && hbB xs x b)
def clS (a b : Int) (xs : List Int) : Bool := decide (xs.length ≤ 30) && (rises 1 (a * b) xs && (List.range xs.length).all fun j => okS a b xs (xs.getD j 0))
theorem sum_ab {a b : Int} (hs : sz a b = true) : sumA a b (a * b) = true := sz_nat (p := fun a b => sumA a b (a * b) = true) (by decide +kernel) hs
theorem clS_eq {a b : Int} {xs : List Int} (hs : sz a b = true) : clS a b xs = clB a b xs := by
  rw [Bool.eq_iff_iff]
  simp only [clS, Bool.and_eq_true, decide_eq_true_eq, List.all_eq_true, List.mem_range, okS, Bool.not_eq_true', rises_Rises]
  constructor
  · rintro ⟨-, R, h⟩
    refine clB_iff.2 fun j hj => okC_parts.2 ⟨?_, ?_, (h j hj).2⟩
    · rcases Nat.eq_zero_or_pos j with h0 | h0
      · exact .inl h0
      · have := R.up (j - 1) (by omega)
        rw [show j - 1 + 1 = j by omega] at this
        exact .inr this
    · have h1 := R.bd j hj
      refine mem_gapsL.2 ⟨h1.1, ?_, (h j hj).1⟩
      by_cases e : xs.getD j 0 = a * b
      · exfalso; have := (h j hj).1; rw [e, sum_ab hs] at this; cases this
      · omega
  · intro h
    refine ⟨cl_len hs h, cl_rises h, fun j hj => ?_⟩
    obtain ⟨-, h1, h2⟩ := okC_parts.1 (clB_iff.1 h j hj)
    exact ⟨(mem_gapsL.1 h1).2.2, h2⟩

/-! The model's side. -/
theorem l1Rising_b (A : Option Addr) (xs : List Int) (c : Nat) (lo hi : Int) (w : World) (hl : xs.length ≤ 1048576) (hc : Cells w A xs) (b : Bool) (h : rises lo hi xs = b) :
    Calls Tryz.prog 55 #[.slice A xs.length c, .int .i64 lo, .int .i64 hi] w fun e w' => e = .returned (.bool b) ∧ w = w' := by
  subst h; exact l1Rising_any A xs c lo hi w hl hc
theorem boGap_b (a b x : Int) (w : World) (ha : 2 ≤ a ∧ a ≤ 7) (hb : 2 ≤ b ∧ b ≤ 7) (hx : 1 ≤ x ∧ x < 100) (t : Bool) (h : sumA b a x = t) :
    Calls Tryz.prog 56 #[.int .i64 x, .int .i64 a, .int .i64 b] w fun e w' => e = .returned (.bool (!t)) ∧ w = w' := by
  subst h; exact boGap_any a b x w ha hb hx

set_option maxRecDepth 100000 in
set_option maxHeartbeats 4000000 in
theorem boClosed_any (A : Option Addr) (c : Nat) (a b : Int) (xs : List Int) (w : World) (hs : sz a b = true) (hl : xs.length ≤ 1048576) (hc : Cells w A xs) :
    Calls Tryz.prog 32 #[.slice A xs.length c, .int .i64 a, .int .i64 b] w fun e w' => e = .returned (.bool (clB a b xs)) ∧ w = w' := by
  rw [← clS_eq hs]
  obtain ⟨ha, hb, -⟩ := sz_iff.1 hs
  obtain ⟨p1, p2⟩ := ab49 ha hb
  by_cases h30 : 30 < xs.length
  · have e : clS a b xs = false := by simp [clS]; omega
    rw [e]
    clear e hs
    go_enter Tryz.func32, Tryz.ntmps32
    go_wp2_with fail
    go_ret
    exact ⟨rfl, rfl⟩
  have h30' : xs.length ≤ 30 := by omega
  clear h30
  cases hr : rises 1 (a * b) xs
  · have e : clS a b xs = false := by simp [clS, hr]
    rw [e]
    have HR := hid hr
    clear e hr hs
    go_enter Tryz.func32, Tryz.ntmps32
    go_wp2_with (go_at_call 55; refine (l1Rising_b _ _ _ _ _ _ hl hc _ HR.out).mono ?_; rintro e w1 ⟨rfl, rfl⟩)
    go_ret
    exact ⟨rfl, rfl⟩
  have HR := hid hr
  have HBD := hid (rises_Rises.1 hr).bd
  have HS := hid (show clS a b xs = (List.range xs.length).all fun j => okS a b xs (xs.getD j 0) by simp [clS, hr, h30'])
  have HZ := hid hs
  clear hr hs
  obtain ⟨R, hR⟩ : ∃ R, R = clS a b xs := ⟨_, rfl⟩
  rw [← hR] at HS ⊢
  clear hR
  go_enter Tryz.func32, Tryz.ntmps32
  go_wp2_with (go_at_call 55; refine (l1Rising_b _ _ _ _ _ _ hl hc _ HR.out).mono ?_; rintro e w1 ⟨rfl, rfl⟩)
  go_loop [8, 22] (fun _ i => ∃ k : Nat, k ≤ xs.length ∧ i = .int .i64 k ∧ Hid (∀ j, j < k → okS a b xs (xs.getD j 0) = true)) (fun _ i => xs.length - (intOf i).toNat)
  case atStart => exact ⟨0, Nat.zero_le _, rfl, hid fun j hj => by omega⟩
  case round =>
    obtain ⟨k, hk, rfl, HD⟩ := hrel
    by_cases hlt : k < xs.length
    · have hc0 := hc
      obtain ⟨bb, o, hAe, hck⟩ := hc0.get hlt
      have hxb := HBD.out k hlt
      have HNO := hid fun (h : okS a b xs (xs.getD k 0) = false) => show R = false by
        rw [HS.out, List.all_eq_false]; exact ⟨k, List.mem_range.2 hlt, by rw [h]; exact Bool.false_ne_true⟩
      have HYES := hid fun (h : okS a b xs (xs.getD k 0) = true) => show ∀ j, j < k + 1 → okS a b xs (xs.getD j 0) = true by
        intro j hj
        by_cases e : j = k
        · rw [e]; exact h
        · exact HD.out j (by omega)
      obtain ⟨x, hx⟩ : ∃ x, x = xs.getD k 0 := ⟨_, rfl⟩
      rw [← hx] at hck hxb HNO HYES
      have hx100 : 1 ≤ x ∧ x < 100 := by omega
      have hsw := sumA_swap HZ.out (x := x) ⟨by omega, by omega⟩
      clear hx hc0
      cases hf : sumA b a x
      · rw [hsw] at hf
        have HF := hid (hsw.trans hf)
        cases hA1 : hbB xs x a
        · have hxa : a < x ∧ decide (x - a ∈ xs) = false := by
            simp only [hbB, Bool.or_eq_false_iff, decide_eq_false_iff_not] at hA1; exact ⟨by omega, by simp [hA1.2]⟩
          obtain ⟨hxa1, hxa2⟩ := hxa
          have HM := hid hxa2
          have HN := hid (HNO.out (by simp [okS, hA1]))
          clear hA1 hxa2 hf hsw
          subst hAe
          go_wp2_with (first | (go_at_call 56; refine (boGap_b _ _ _ _ ha hb hx100 _ HF.out).mono ?_; rintro e w' ⟨rfl, rfl⟩) | (go_at_call 42; refine (l1Has2_b _ _ _ _ _ hl hc _ HM.out).mono ?_; rintro e w' ⟨rfl, rfl⟩))
          go_ret
          exact ⟨ret_bool HN.out.symm, rfl⟩
        cases hB1 : hbB xs x b
        · have hxa : b < x ∧ decide (x - b ∈ xs) = false := by
            simp only [hbB, Bool.or_eq_false_iff, decide_eq_false_iff_not] at hB1; exact ⟨by omega, by simp [hB1.2]⟩
          obtain ⟨hxa1, hxa2⟩ := hxa
          have HM := hid hxa2
          have HN := hid (HNO.out (by simp [okS, hB1]))
          have HA1 := hid hA1
          clear hA1 hxa2 hf hsw hB1
          subst hAe
          by_cases hxa : x ≤ a
          · go_wp2_with (first | (go_at_call 56; refine (boGap_b _ _ _ _ ha hb hx100 _ HF.out).mono ?_; rintro e w' ⟨rfl, rfl⟩) | (go_at_call 42; refine (l1Has2_b _ _ _ _ _ hl hc _ HM.out).mono ?_; rintro e w' ⟨rfl, rfl⟩))
            go_ret
            exact ⟨ret_bool HN.out.symm, rfl⟩
          · have HM1 := hid (show decide (x - a ∈ xs) = true by have := HA1.out; simpa [hbB, hxa] using this)
            go_wp2_with (go_at_call 56; refine (boGap_b _ _ _ _ ha hb hx100 _ HF.out).mono ?_; rintro e w' ⟨rfl, rfl⟩)
            refine (l1Has2_b _ _ _ _ _ hl hc _ HM1.out).mono ?_
            rintro e w' ⟨rfl, rfl⟩
            go_wp2_with fail
            refine (l1Has2_b _ _ _ _ _ hl hc _ HM.out).mono ?_
            rintro e w' ⟨rfl, rfl⟩
            go_wp2_with fail
            go_ret
            exact ⟨ret_bool HN.out.symm, rfl⟩
        have HY := hid (HYES.out (by simp [okS, HF.out ▸ hsw.symm, hA1, hB1]))
        have HA1 := hid hA1; have HB1 := hid hB1
        clear hA1 hB1 hf hsw
        subst hAe
        by_cases hxa : x ≤ a
        · by_cases hxb2 : x ≤ b
          · go_wp2_with (go_at_call 56; refine (boGap_b _ _ _ _ ha hb hx100 _ HF.out).mono ?_; rintro e w' ⟨rfl, rfl⟩)
            go_round
            case rel => exact ⟨k + 1, by omega, by go_num, HY⟩
            case measure => simp [intOf]; omega
          · have HM2 := hid (show decide (x - b ∈ xs) = true by have := HB1.out; simpa [hbB, hxb2] using this)
            go_wp2_with (go_at_call 56; refine (boGap_b _ _ _ _ ha hb hx100 _ HF.out).mono ?_; rintro e w' ⟨rfl, rfl⟩)
            refine (l1Has2_b _ _ _ _ _ hl hc _ HM2.out).mono ?_
            rintro e w' ⟨rfl, rfl⟩
            go_wp2_with fail
            go_round
            case rel => exact ⟨k + 1, by omega, by go_num, HY⟩
            case measure => simp [intOf]; omega
        · by_cases hxb2 : x ≤ b
          · have HM1 := hid (show decide (x - a ∈ xs) = true by have := HA1.out; simpa [hbB, hxa] using this)
            go_wp2_with (go_at_call 56; refine (boGap_b _ _ _ _ ha hb hx100 _ HF.out).mono ?_; rintro e w' ⟨rfl, rfl⟩)
            refine (l1Has2_b _ _ _ _ _ hl hc _ HM1.out).mono ?_
            rintro e w' ⟨rfl, rfl⟩
            go_wp2_with fail
            go_round
            case rel => exact ⟨k + 1, by omega, by go_num, HY⟩
            case measure => simp [intOf]; omega
          · have HM1 := hid (show decide (x - a ∈ xs) = true by have := HA1.out; simpa [hbB, hxa] using this)
            have HM2 := hid (show decide (x - b ∈ xs) = true by have := HB1.out; simpa [hbB, hxb2] using this)
            go_wp2_with (go_at_call 56; refine (boGap_b _ _ _ _ ha hb hx100 _ HF.out).mono ?_; rintro e w' ⟨rfl, rfl⟩)
            refine (l1Has2_b _ _ _ _ _ hl hc _ HM1.out).mono ?_
            rintro e w' ⟨rfl, rfl⟩
            go_wp2_with fail
            refine (l1Has2_b _ _ _ _ _ hl hc _ HM2.out).mono ?_
            rintro e w' ⟨rfl, rfl⟩
            go_wp2_with fail
            go_round
            case rel => exact ⟨k + 1, by omega, by go_num, HY⟩
            case measure => simp [intOf]; omega
      · rw [hsw] at hf
        have HF := hid (hsw.trans hf)
        have HN := hid (HNO.out (by simp [okS, hf]))
        clear hf hsw
        subst hAe
        go_wp2_with (go_at_call 56; refine (boGap_b _ _ _ _ ha hb hx100 _ HF.out).mono ?_; rintro e w' ⟨rfl, rfl⟩)
        go_ret
        exact ⟨ret_bool HN.out.symm, rfl⟩
    · go_wp2_with fail
      go_ret
      exact ⟨ret_bool (by rw [HS.out]; symm; exact List.all_eq_true.2 fun j hj => HD.out j (by have := List.mem_range.1 hj; omega)), rfl⟩

/-! The program's side. -/
set_option maxRecDepth 100000 in
set_option maxHeartbeats 800000 in
theorem allows_b (A : Option Addr) (c : Nat) (a b x : Int) (xs : List Int) (w : World) (ha : 2 ≤ a ∧ a ≤ 7) (hb : 2 ≤ b ∧ b ≤ 7) (hx : -100 ≤ x ∧ x ≤ 100) (hl : xs.length ≤ 1048576) (hc : Cells w A xs) (t : Bool) (h : (hbB xs x a && hbB xs x b) = t) :
    Calls Tryz.prog 62 #[.agg #[.slice A xs.length c, .int .i64 a, .int .i64 b], .int .i64 x] w fun e w' => e = .returned (.bool t) ∧ Below w.heap.size w w' := by
  have b1 : Below w.heap.size w (w.alloc (.cells #[.slice A xs.length c, .int .i64 a, .int .i64 b] 35)) := (Below.refl _ _).alloc (Nat.le_refl _) _
  cases hA : hbB xs x a
  · have e : t = false := by rw [← h, hA]; rfl
    subst e
    have HA := hid hA
    clear h hA
    go_enter Tryz.func62, Tryz.ntmps62
    go_wp2_with fail
    refine (hasBelow_b _ _ _ _ _ _ hl (hc.below b1) hx (by omega) _ HA.out).mono ?_
    rintro e w' ⟨rfl, rfl⟩
    go_wp2_with fail
    go_ret
    exact ⟨rfl, b1⟩
  · have e : hbB xs x b = t := by rw [← h, hA]; rfl
    have HA := hid hA
    have HB := hid e
    clear h hA e
    go_enter Tryz.func62, Tryz.ntmps62
    go_wp2_with fail
    refine (hasBelow_b _ _ _ _ _ _ hl (hc.below b1) hx (by omega) _ HA.out).mono ?_
    rintro e w' ⟨rfl, rfl⟩
    go_wp2_with fail
    refine (hasBelow_b _ _ _ _ _ _ hl (hc.below b1) hx (by omega) _ HB.out).mono ?_
    rintro e w' ⟨rfl, rfl⟩
    go_wp2_with fail
    go_ret
    exact ⟨rfl, b1⟩

/-- A block of three cells: a core for two sizes. -/
def Box3 (W : World) (g : Nat) (t : TypeId) (a b c : Value) : Prop := W.heap[g]? = some (.cells #[a, b, c] t (0, 0))
theorem Box3.lt {W : World} {g : Nat} {t : TypeId} {a b c : Value} (h : Box3 W g t a b c) : g < W.heap.size := (Array.getElem?_eq_some_iff.1 h).1
theorem Box3.cell0 {W : World} {g : Nat} {t : TypeId} {a b c : Value} (h : Box3 W g t a b c) : W.cell? ⟨g, 0, none⟩ = some a := by simp [World.cell?, show W.heap[g]? = _ from h]
theorem Box3.cell1 {W : World} {g : Nat} {t : TypeId} {a b c : Value} (h : Box3 W g t a b c) : W.cell? ⟨g, 1, none⟩ = some b := by simp [World.cell?, show W.heap[g]? = _ from h]
theorem Box3.cell2 {W : World} {g : Nat} {t : TypeId} {a b c : Value} (h : Box3 W g t a b c) : W.cell? ⟨g, 2, none⟩ = some c := by simp [World.cell?, show W.heap[g]? = _ from h]
theorem Box3.new (W : World) (t : TypeId) (a b c : Value) : Box3 (W.alloc (.cells #[a, b, c] t)) W.heap.size t a b c := World.alloc_heap_new W _
theorem Box3.next {W W' : World} {g : Nat} {t : TypeId} {a b c : Value} (h : Box3 W g t a b c) (hb : Below W.heap.size W W') : Box3 W' g t a b c := (hb.block g h.lt).trans h
theorem Box3.froz {W : World} {g : Nat} {t : TypeId} {a b c : Value} (h : Box3 W g t a b c) (k : Nat) : W.frozen? ⟨g, k, none⟩ = false := by simp [World.frozen?, show W.heap[g]? = _ from h]
theorem Box3.keep {W W' : World} {g : Nat} {t : TypeId} {a b c : Value} (h : Box3 W g t a b c) (hk : W'.heap[g]? = W.heap[g]?) : Box3 W' g t a b c := hk.trans h
theorem Box3.alloc {W : World} {g : Nat} {t : TypeId} {a b c : Value} (h : Box3 W g t a b c) (o : Obj) : Box3 (W.alloc o) g t a b c := h.keep ((World.grownBy_alloc W o none).block g h.lt (by simp))
theorem Box3.set0 {W : World} {g : Nat} {t : TypeId} {a b c : Value} (v : Value) (h : Box3 W g t a b c) : Box3 (W.setCell ⟨g, 0, none⟩ v) g t v b c := by
  obtain ⟨hlt, hk⟩ := Array.getElem?_eq_some_iff.1 h
  show (W.heap.modify g _)[g]? = _
  rw [Array.getElem?_eq_getElem (by rw [Array.size_modify]; exact hlt), Array.getElem_modify_self, hk]
  rfl
theorem Box3.set1 {W : World} {g : Nat} {t : TypeId} {a b c : Value} (v : Value) (h : Box3 W g t a b c) : Box3 (W.setCell ⟨g, 1, none⟩ v) g t a v c := by
  obtain ⟨hlt, hk⟩ := Array.getElem?_eq_some_iff.1 h
  show (W.heap.modify g _)[g]? = _
  rw [Array.getElem?_eq_getElem (by rw [Array.size_modify]; exact hlt), Array.getElem_modify_self, hk]
  rfl
theorem Box3.set2 {W : World} {g : Nat} {t : TypeId} {a b c : Value} (v : Value) (h : Box3 W g t a b c) : Box3 (W.setCell ⟨g, 2, none⟩ v) g t a b v := by
  obtain ⟨hlt, hk⟩ := Array.getElem?_eq_some_iff.1 h
  show (W.heap.modify g _)[g]? = _
  rw [Array.getElem?_eq_getElem (by rw [Array.size_modify]; exact hlt), Array.getElem_modify_self, hk]
  rfl
theorem Box3.other {W : World} {g g' k : Nat} {t : TypeId} {a b c : Value} (h : Box3 W g t a b c) (hne : g ≠ g') (v : Value) : Box3 (W.setCell ⟨g', k, none⟩ v) g t a b c := h.keep (Below.heap_setCell _ _ _ g (fun e => hne (by rw [e])))

set_option maxRecDepth 100000 in
set_option maxHeartbeats 4000000 in
theorem isClosed_any (A : Option Addr) (c : Nat) (a b : Int) (xs : List Int) (w : World) (hs : sz a b = true) (hl : xs.length ≤ 1048576) (hc : Cells w A xs) :
    Calls Tryz.prog 36 #[.agg #[.slice A xs.length c, .int .i64 a, .int .i64 b]] w fun e w' => e = .returned (.bool (clB a b xs)) ∧ Below w.heap.size w w' := by
  obtain ⟨ha, hb, -⟩ := sz_iff.1 hs
  obtain ⟨p1, p2⟩ := ab49 ha hb
  have hgl := gapsL_len hs
  have b1 : Below w.heap.size w (w.alloc (.cells #[.slice A xs.length c, .int .i64 a, .int .i64 b] 35)) := (Below.refl _ _).alloc (Nat.le_refl _) _
  have X := hid (Box3.new w 35 (.slice A xs.length c) (.int .i64 a) (.int .i64 b))
  have HG := hid fun W => gaps_any a b W ha hb
  have HNO := hid fun k hk (h : okC a b xs k = false) => clB_no hk h
  have HIN := hid fun x (h : x ∈ gapsL a b) => mem_gapsL.1 h
  have HOK := hid fun j => okC_parts (a := a) (b := b) (xs := xs) (j := j)
  have HEND := hid (clB_iff (a := a) (b := b) (xs := xs)).2
  obtain ⟨R, hR⟩ : ∃ R, R = clB a b xs := ⟨_, rfl⟩
  obtain ⟨G, hG⟩ : ∃ G, G = gapsL a b := ⟨_, rfl⟩
  obtain ⟨O, hO⟩ : ∃ O, O = okC a b xs := ⟨_, rfl⟩
  rw [← hR] at HNO HEND ⊢
  rw [← hG] at hgl HG HIN HOK
  rw [← hO] at HNO HOK HEND
  have hgl2 : G.length ≤ 1048576 := by omega
  clear hR hG hO hs
  go_enter Tryz.func36, Tryz.ntmps36
  go_wp2_with (go_at_call 60; refine (HG.out _).mono ?_; rintro e w2 ⟨A2, c2, rfl, o2, b2⟩; have Y := X.out.next b2; have y0 := Y.cell0; have y1 := Y.cell1; have y2 := Y.cell2)
  have B2 := Below.next b1 b2
  have Y' := hid Y
  clear X Y y0 y1 y2 b1 b2
  go_loopw [4, 5, 12] (fun _ _ i wr => ∃ k : Nat, k ≤ xs.length ∧ i = .int .i64 k ∧ Hid (∀ j, j < k → O j = true) ∧ Below w2.heap.size w2 wr) (fun _ _ i _ => xs.length - (intOf i).toNat)
  case atStart => exact ⟨0, Nat.zero_le _, rfl, hid fun j hj => by omega, Below.refl _ _⟩
  case round =>
    obtain ⟨k, hk, rfl, HD, hbel⟩ := hrel
    have Z := Y'.out.next hbel
    have y0 := Z.cell0
    have y1 := Z.cell1
    have y2 := Z.cell2
    have hcr : Cells wr A xs := hc.later (Below.next B2 hbel)
    by_cases hlt : k < xs.length
    · have hc0 := hcr
      obtain ⟨bb, o, hAe, hck⟩ := hc0.get hlt
      have HN := hid (HNO.out k hlt)
      have HK := hid (HOK.out k)
      have HYES := hid fun (h : O k = true) => show ∀ j, j < k + 1 → O j = true by
        intro j hj
        by_cases e : j = k
        · rw [e]; exact h
        · exact HD.out j (by omega)
      have HC1 := hid fun (h : 0 < k) => hc0.get (show k - 1 < xs.length by omega)
      obtain ⟨x, hx⟩ : ∃ x, x = xs.getD k 0 := ⟨_, rfl⟩
      rw [← hx] at hck HK
      clear hx hc0
      by_cases hk0 : k < 1
      · have HK0 := hid (show k = 0 by omega)
        clear HC1
        subst hAe
        cases hm : decide (x ∈ G)
        · have HM := hid hm
          have HF := hid (HN.out (by
            cases e : O k
            · rfl
            · exact absurd (HK.out.1 e).2.1 (by simpa using hm)))
          clear hm
          go_wp2_with (go_at_call 61; refine (Contains2_b _ _ _ _ _ hgl2 (o2.below hbel).cells _ HM.out).mono ?_; rintro e w' ⟨rfl, rfl⟩)
          go_ret
          exact ⟨ret_bool HF.out.symm, Below.next B2 hbel⟩
        have hmem : x ∈ G := by simpa using hm
        obtain ⟨hx1, hx2, -⟩ := HIN.out x hmem
        have HM := hid hm
        have HMEM := hid hmem
        clear hm hmem
        cases ht : (hbB xs x a && hbB xs x b)
        · have HT := hid ht
          have HF := hid (HN.out (by
            cases e : O k
            · rfl
            · have h2 := (HK.out.1 e).2.2
              rw [h2.1, h2.2] at ht; cases ht))
          clear ht
          go_wp2_with (first | (go_at_call 61; refine (Contains2_b _ _ _ _ _ hgl2 (o2.below hbel).cells _ HM.out).mono ?_; rintro e w' ⟨rfl, rfl⟩) | (go_at_call 62; refine (allows_b _ _ _ _ _ _ _ ha hb (by omega) hl hcr _ HT.out).mono ?_; rintro e w4 ⟨rfl, b4⟩))
          go_ret
          exact ⟨ret_bool HF.out.symm, Below.next B2 (Below.next hbel b4)⟩
        · have HT := hid ht
          have HF := hid (HYES.out (HK.out.2 ⟨.inl HK0.out, HMEM.out, by simpa using ht⟩))
          clear ht
          go_wp2_with (first | (go_at_call 61; refine (Contains2_b _ _ _ _ _ hgl2 (o2.below hbel).cells _ HM.out).mono ?_; rintro e w' ⟨rfl, rfl⟩) | (go_at_call 62; refine (allows_b _ _ _ _ _ _ _ ha hb (by omega) hl hcr _ HT.out).mono ?_; rintro e w4 ⟨rfl, b4⟩))
          go_roundw
          case rel => exact ⟨k + 1, by omega, by go_num, HF, Below.next hbel b4⟩
          case measure => simp [intOf]; omega
      have hkp : 0 < k := by omega
      obtain ⟨b2, o2', hAe2, hck2⟩ := HC1.out hkp
      obtain ⟨y, hy⟩ : ∃ y, y = xs.getD (k - 1) 0 := ⟨_, rfl⟩
      rw [← hy] at hck2 HK
      have hek : ((k : Int) - 1).toNat = k - 1 := by omega
      subst hAe
      obtain ⟨rfl, rfl⟩ : bb = b2 ∧ o = o2' := by injection hAe2 with h; injection h with h1 h2; exact ⟨h1, h2⟩
      clear hAe2 hy HC1 hk0
      by_cases hxy : x ≤ y
      · have HF := hid (HN.out (by
          cases e : O k
          · rfl
          · rcases (HK.out.1 e).1 with h | h <;> omega))
        go_wp2_with fail
        go_ret
        exact ⟨ret_bool HF.out.symm, Below.next B2 hbel⟩
      have HXY := hid (show y < x by omega)
      cases hm : decide (x ∈ G)
      · have HM := hid hm
        have HF := hid (HN.out (by
          cases e : O k
          · rfl
          · exact absurd (HK.out.1 e).2.1 (by simpa using hm)))
        clear hm
        go_wp2_with (go_at_call 61; refine (Contains2_b _ _ _ _ _ hgl2 (o2.below hbel).cells _ HM.out).mono ?_; rintro e w' ⟨rfl, rfl⟩)
        go_ret
        exact ⟨ret_bool HF.out.symm, Below.next B2 hbel⟩
      have hmem : x ∈ G := by simpa using hm
      obtain ⟨hx1, hx2, -⟩ := HIN.out x hmem
      have HM := hid hm
      have HMEM := hid hmem
      clear hm hmem
      cases ht : (hbB xs x a && hbB xs x b)
      · have HT := hid ht
        have HF := hid (HN.out (by
          cases e : O k
          · rfl
          · have h2 := (HK.out.1 e).2.2
            rw [h2.1, h2.2] at ht; cases ht))
        clear ht
        go_wp2_with (first | (go_at_call 61; refine (Contains2_b _ _ _ _ _ hgl2 (o2.below hbel).cells _ HM.out).mono ?_; rintro e w' ⟨rfl, rfl⟩) | (go_at_call 62; refine (allows_b _ _ _ _ _ _ _ ha hb (by omega) hl hcr _ HT.out).mono ?_; rintro e w4 ⟨rfl, b4⟩))
        go_ret
        exact ⟨ret_bool HF.out.symm, Below.next B2 (Below.next hbel b4)⟩
      · have HT := hid ht
        have HF := hid (HYES.out (HK.out.2 ⟨.inr HXY.out, HMEM.out, by simpa using ht⟩))
        clear ht
        go_wp2_with (first | (go_at_call 61; refine (Contains2_b _ _ _ _ _ hgl2 (o2.below hbel).cells _ HM.out).mono ?_; rintro e w' ⟨rfl, rfl⟩) | (go_at_call 62; refine (allows_b _ _ _ _ _ _ _ ha hb (by omega) hl hcr _ HT.out).mono ?_; rintro e w4 ⟨rfl, b4⟩))
        go_roundw
        case rel => exact ⟨k + 1, by omega, by go_num, HF, Below.next hbel b4⟩
        case measure => simp [intOf]; omega
    · have HE := hid (HEND.out fun j hj => HD.out j (by omega))
      go_wp2_with fail
      go_ret
      exact ⟨ret_bool HE.out.symm, Below.next B2 hbel⟩
end Go.Proofs.YtijfefahogcfmaaGreat
/-
  Plain facts on levels: the check, the size of their core, turned ones. No program in this text.
-/
namespace Go.Proofs.YtijfefahogcfmaaGreat

theorem sum_abs (xs : List Int) (hi : Int) (h : ∀ j, j < xs.length → -hi ≤ xs.getD j 0 ∧ xs.getD j 0 ≤ hi) : -(xs.length * hi) ≤ xs.sum ∧ xs.sum ≤ xs.length * hi := by
  induction xs with
  | nil => simp
  | cons x t ih =>
    have h0 := h 0 (by simp)
    have ht := ih (fun j hj => by have := h (j + 1) (by simp; omega); simpa using this)
    simp only [List.getD_cons_zero] at h0
    simp only [List.sum_cons, List.length_cons]
    rw [show ((t.length + 1 : Nat) : Int) * hi = t.length * hi + hi from by rw [Int.natCast_add, Int.add_mul]; simp]
    omega
theorem sum_take_abs (xs : List Int) (hi : Int) (h : ∀ j, j < xs.length → -hi ≤ xs.getD j 0 ∧ xs.getD j 0 ≤ hi) (h0 : 0 ≤ hi) (k : Nat) : -(xs.length * hi) ≤ (xs.take k).sum ∧ (xs.take k).sum ≤ xs.length * hi := by
  have := sum_abs (xs.take k) hi (fun j hj => by
    have hj' : j < k ∧ j < xs.length := by rw [List.length_take] at hj; omega
    have := h j hj'.2
    rw [List.getD_eq_getElem?_getD, List.getElem?_take, if_pos hj'.1, ← List.getD_eq_getElem?_getD]
    exact this)
  have hl : (xs.take k).length ≤ xs.length := by simp; omega
  have : ((xs.take k).length : Int) * hi ≤ xs.length * hi := Int.mul_le_mul_of_nonneg_right (by omega) h0
  omega

def levB (xs : List Int) : Bool := inB 2 6 (xs.length : Int) && (xs.all (inB (-10) 10) && decide (xs.sum = 0))
structure Lev (xs : List Int) : Prop where
  lo : 2 ≤ xs.length
  hi : xs.length ≤ 6
  bd : ∀ j, j < xs.length → -10 ≤ xs.getD j 0 ∧ xs.getD j 0 ≤ 10
  sum : xs.sum = 0
theorem all_bd {lo hi : Int} {xs : List Int} (h : xs.all (inB lo hi) = true) (j : Nat) (hj : j < xs.length) : lo ≤ xs.getD j 0 ∧ xs.getD j 0 ≤ hi := by
  rw [List.all_eq_true] at h
  exact inB_iff.1 (h _ (by rw [List.getD_eq_getElem?_getD, List.getElem?_eq_getElem hj]; exact List.getElem_mem hj))
theorem levB_iff {xs : List Int} : levB xs = true ↔ Lev xs := by
  constructor
  · intro h
    simp only [levB, Bool.and_eq_true, decide_eq_true_eq] at h
    obtain ⟨h1, h2, h3⟩ := h
    have := inB_iff.1 h1
    exact ⟨by omega, by omega, fun j hj => all_bd h2 j hj, h3⟩
  · intro h
    simp only [levB, Bool.and_eq_true, decide_eq_true_eq]
    refine ⟨inB_iff.2 ⟨by have := h.lo; omega, by have := h.hi; omega⟩, ?_, h.sum⟩
    rw [List.all_eq_true]
    intro x hx
    obtain ⟨j, hj, rfl⟩ := List.getElem_of_mem hx
    have a := h.bd j hj
    rw [List.getD_eq_getElem?_getD, List.getElem?_eq_getElem hj] at a
    exact inB_iff.2 a
theorem lev_no_len {xs : List Int} (h : inB 2 6 (xs.length : Int) = false) : levB xs = false := by simp [levB, h]
theorem lev_no_all {xs : List Int} (h : xs.all (inB (-10) 10) = false) : levB xs = false := by simp [levB, h]
theorem lev_sum {xs : List Int} (h : inB 2 6 (xs.length : Int) = true) (h2 : xs.all (inB (-10) 10) = true) : levB xs = decide (xs.sum = 0) := by simp [levB, h, h2]

def sqSum (xs : List Int) : Nat → Int
  | 0 => 0
  | k + 1 => sqSum xs k + xs.getD k 0 * xs.getD k 0
def ixSum (xs : List Int) : Nat → Int
  | 0 => 0
  | k + 1 => ixSum xs k + (k : Int) * xs.getD k 0
theorem sq_bd {x : Int} (h : -10 ≤ x ∧ x ≤ 10) : 0 ≤ x * x ∧ x * x ≤ 100 := by
  have : x = -10 ∨ x = -9 ∨ x = -8 ∨ x = -7 ∨ x = -6 ∨ x = -5 ∨ x = -4 ∨ x = -3 ∨ x = -2 ∨ x = -1 ∨ x = 0 ∨ x = 1 ∨ x = 2 ∨ x = 3 ∨ x = 4 ∨ x = 5 ∨ x = 6 ∨ x = 7 ∨ x = 8 ∨ x = 9 ∨ x = 10 := by omega
  rcases this with rfl | rfl | rfl | rfl | rfl | rfl | rfl | rfl | rfl | rfl | rfl | rfl | rfl | rfl | rfl | rfl | rfl | rfl | rfl | rfl | rfl <;> decide
theorem sq_par (x : Int) : (x * x - x) % 2 = 0 := by
  rcases Int.emod_two_eq x with h | h
  · obtain ⟨m, rfl⟩ : ∃ m, x = 2 * m := ⟨x / 2, by omega⟩
    rw [show 2 * m * (2 * m) - 2 * m = 2 * (2 * m * m - m) by rw [Int.mul_sub]; simp only [Int.mul_assoc, Int.mul_left_comm]]
    omega
  · obtain ⟨m, rfl⟩ : ∃ m, x = 2 * m + 1 := ⟨x / 2, by omega⟩
    have e : (2 * m + 1) * (2 * m + 1) = 2 * (2 * (m * m)) + 2 * m + 2 * m + 1 := by
      rw [Int.add_mul, Int.mul_add, show 2 * m * (2 * m) = 2 * (2 * (m * m)) by simp only [Int.mul_assoc, Int.mul_left_comm]]
      omega
    rw [e]
    omega
theorem ix_bd {x : Int} (h : -10 ≤ x ∧ x ≤ 10) (k : Nat) (hk : k ≤ 6) : -60 ≤ (k : Int) * x ∧ (k : Int) * x ≤ 60 := by
  have : k = 0 ∨ k = 1 ∨ k = 2 ∨ k = 3 ∨ k = 4 ∨ k = 5 ∨ k = 6 := by omega
  rcases this with rfl | rfl | rfl | rfl | rfl | rfl | rfl <;> simp <;> omega
theorem sqSum_bd {xs : List Int} (L : Lev xs) (k : Nat) (hk : k ≤ xs.length) : 0 ≤ sqSum xs k ∧ sqSum xs k ≤ 100 * k := by
  induction k with
  | zero => simp [sqSum]
  | succ k ih =>
    have := ih (by omega)
    have := sq_bd (L.bd k (by omega))
    simp only [sqSum]; omega
theorem ixSum_bd {xs : List Int} (L : Lev xs) (k : Nat) (hk : k ≤ xs.length) : -(60 * k) ≤ ixSum xs k ∧ ixSum xs k ≤ 60 * k := by
  induction k with
  | zero => simp [ixSum]
  | succ k ih =>
    have := ih (by omega)
    have := ix_bd (L.bd k (by omega)) k (by have := L.hi; omega)
    simp only [ixSum]; omega
theorem sqSum_par (xs : List Int) (k : Nat) (hk : k ≤ xs.length) : (sqSum xs k - (xs.take k).sum) % 2 = 0 := by
  induction k with
  | zero => simp [sqSum]
  | succ k ih =>
    have := ih (by omega)
    have := sq_par (xs.getD k 0)
    rw [sum_take_succ xs k (by omega)]
    simp only [sqSum]; omega
theorem sqSum_even {xs : List Int} (L : Lev xs) : sqSum xs xs.length % 2 = 0 := by
  have := sqSum_par xs xs.length (Nat.le_refl _)
  rw [List.take_of_length_le (Nat.le_refl _), L.sum] at this
  omega
/-- The size of the core, as the program makes it. -/
def sizeL (xs : List Int) : Int := sqSum xs xs.length / 2 * xs.length + ixSum xs xs.length
def sizeF (xs : List Int) : Int := if levB xs then sizeL xs else 0
theorem half_mul {xs : List Int} (L : Lev xs) : (xs.length : Int) * sqSum xs xs.length / 2 = sqSum xs xs.length / 2 * xs.length := by
  obtain ⟨m, hm⟩ : ∃ m, sqSum xs xs.length = 2 * m := ⟨sqSum xs xs.length / 2, by have := sqSum_even L; omega⟩
  rw [hm, Int.mul_left_comm, Int.mul_ediv_cancel_left _ (by decide), Int.mul_ediv_cancel_left _ (by decide), Int.mul_comm]
theorem mul6_bd (t : Nat) (h : t ≤ 6) (s : Int) (hs : 0 ≤ s ∧ s ≤ 600) : 0 ≤ (t : Int) * s ∧ (t : Int) * s ≤ 3600 := by
  have : t = 0 ∨ t = 1 ∨ t = 2 ∨ t = 3 ∨ t = 4 ∨ t = 5 ∨ t = 6 := by omega
  rcases this with rfl | rfl | rfl | rfl | rfl | rfl | rfl <;> simp <;> omega

def turnL (xs : List Int) : List Int := fnRow xs.length fun m => -xs.getD (xs.length - 1 - m) 0
def turnF (xs : List Int) : List Int := if levB xs then turnL xs else []
theorem turnL_len (xs : List Int) : (turnL xs).length = xs.length := fnRow_len _ _
def turnK (xs : List Int) (k : Nat) : List Int := fnRow xs.length fun m => if xs.length - 1 - m < k then -xs.getD (xs.length - 1 - m) 0 else 0
theorem turnK_zero (xs : List Int) : turnK xs 0 = fnRow xs.length (fun _ => 0) := rowF_ext _ _ _ fun j _ => by simp
theorem turnK_all (xs : List Int) : turnK xs xs.length = turnL xs := rowF_ext _ _ _ fun j hj => by rw [if_pos (by omega)]
theorem turnK_len (xs : List Int) (k : Nat) : (turnK xs k).length = xs.length := fnRow_len _ _
theorem turnK_succ (xs : List Int) (k : Nat) (hk : k < xs.length) : (turnK xs k).set (xs.length - 1 - k) (-xs.getD k 0) = turnK xs (k + 1) := by
  unfold turnK
  rw [fnRow_set]
  refine rowF_ext _ _ _ fun j hj => ?_
  by_cases h : j = xs.length - 1 - k
  · subst h
    rw [if_pos rfl, if_pos (by omega), show xs.length - 1 - (xs.length - 1 - k) = k by omega]
  · rw [if_neg h]
    by_cases h2 : xs.length - 1 - j < k
    · rw [if_pos h2, if_pos (by omega)]
    · rw [if_neg h2, if_neg (by omega)]
theorem take_snoc (ys : List Int) (k : Nat) (h : k < ys.length) (x : Int) (hx : ys.getD k 0 = x) : ys.take (k + 1) = ys.take k ++ [x] := by
  rw [List.take_succ_eq_append_getElem h]
  rw [List.getD_eq_getElem?_getD, List.getElem?_eq_getElem h] at hx
  rw [← hx]; rfl
theorem bound_TurnLevels (xs : List Int) : (turnF xs).length ≤ 1048576 := by
  unfold turnF; split
  · rename_i h; have := (levB_iff.1 h).hi; rw [turnL_len]; omega
  · simp
end Go.Proofs.YtijfefahogcfmaaGreat
