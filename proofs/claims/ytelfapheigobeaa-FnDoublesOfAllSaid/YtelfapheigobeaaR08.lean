/-
  Several texts in one.
-/
import Derived.Test.YtelfapheigobeaaCE
import Derived.Test.YtelfapheigobeaaR01
import Derived.Test.YtelfapheigobeaaBeadMath
/-
  Contracts: one bead of a board moved down (the first one that can be), and all of them.
-/
namespace Go.Proofs.Ytelfapheigobeaa
open Go.RowKit

/-- Whether a bead of a line can be moved down by a row. -/
def dnOk (f : Nat → Bool) (r : Nat) : Bool := canPut f r ((r : Int) - 1)
def dnR (f : Nat → Bool) (r : Nat) : Nat → Bool := putR f r ((r : Int) - 1)
theorem dnR_no {f : Nat → Bool} {r : Nat} (h : dnOk f r = false) : dnR f r = f := by unfold dnR putR; unfold dnOk at h; rw [h]; simp
theorem dnOk_iff {f : Nat → Bool} {r : Nat} (hr : r < 36) : dnOk f r = true ↔ 0 < r ∧ f r = true ∧ f (r - 1) = false := by
  unfold dnOk canPut
  simp only [Bool.and_eq_true, decide_eq_true_eq, Int.toNat_natCast, Bool.not_eq_true']
  rw [show ((r : Int) - 1).toNat = r - 1 by omega]
  constructor
  · rintro ⟨h1, h2, h3, h4⟩; exact ⟨by omega, h3, h4⟩
  · rintro ⟨h1, h2, h3⟩; exact ⟨by omega, by omega, h2, h3⟩
theorem dnR_yes {f : Nat → Bool} {r : Nat} (h : dnOk f r = true) : dnR f r = updB (updB f r false) (r - 1) true := by
  unfold dnR putR; unfold dnOk at h; rw [h]
  simp only [if_true, Int.toNat_natCast]
  rw [show ((r : Int) - 1).toNat = r - 1 by omega]
/-- A board lowered: the same if no bead can go down, or one of them down. -/
def Low (t : Nat) (F G : Nat → Bool) : Prop :=
  (G = F ∧ ∀ i, i < t → ∀ r, r < 36 → dnOk (lnB F i) r = false) ∨ ∃ i r, i < t ∧ r < 36 ∧ dnOk (lnB F i) r = true ∧ G = setLn F i (dnR (lnB F i) r)

/-- A part of a block loaded at once, its cells told by a function. -/
theorem wpList_load_midc {P : Program} {ops : Array Oper} {rest : List Oper} {op : Oper} {a : Act} {w : World} {Q : Exit → Act → World → Prop} (hgd : op.guard = none) (ty : TypeId) (x : Operand) (ho : op.op = .load ty x)
    (b o : Nat) (hx : a.eval x = .pointer (some ⟨b, o, none⟩)) (n : Nat) (c : Nat → Value) (d : TypeDesc) (hc : w.rangeAt b o (caL n c))
    (hu : P.underlying ty = some d) (hd : d.isRow = true) (hi : (P.info? ty).map (·.size) = some (caL n c).length)
    (h : wpList P ops Q rest (a.put op.dst (.agg (ca n c))) w) : wpList P ops Q (op :: rest) a w :=
  wpList_load_mid hgd ty x ho b o hx (caL n c) d hc hu hd hi h

set_option maxRecDepth 100000 in
set_option maxHeartbeats 8000000 in
theorem lowered_any (t : Nat) (F : Nat → Bool) (w : World) (ht : 2 ≤ t ∧ t ≤ 6) :
    Calls Try.prog 60 #[bdV t F] w fun e w' => ∃ G, e = .returned (bdV t G) ∧ Low t F G ∧ Below w.heap.size w w' := by
  have hz := Try.bdZero
  have hzr := Try.rnZero
  unfold bdV at hz ⊢
  unfold rnV at hzr
  obtain ⟨w0, hw0⟩ : ∃ w0, w0 = ((w.alloc (.cells (ca 217 (brdV t F)) 58)).alloc (.cells (ca 217 (brdV 0 fun _ => false)) 58)) := ⟨_, rfl⟩
  have x1 : Blk w0 w.heap.size 58 217 (brdV t F) := by rw [hw0]; exact (Blk.new w 58 217 (brdV t F)).alloc _
  have x2 : Blk w0 (w.heap.size + 1) 58 217 (brdV 0 fun _ => false) := by
    rw [hw0]
    have h := Blk.new (w.alloc (.cells (ca 217 (brdV t F)) 58)) 58 217 (brdV 0 fun _ => false)
    rw [World.size_alloc] at h; exact h
  have hb : Below w.heap.size w w0 := by rw [hw0]; exact ((Below.refl _ _).alloc (Nat.le_refl _) _).alloc (by simp) _
  have hc0 : w0.cell? ⟨w.heap.size, 0, none⟩ = some (.int .i64 t) := x1.cell (k := 0) (by omega)
  have hw0s : w0.heap.size = w.heap.size + 2 := by rw [hw0]; simp
  have X1 := hid x1; have X2 := hid x2
  have HW := hid hw0
  clear hw0 x1 x2
  go_enter Try.func60, Try.ntmps60
  go_upto_region 1 with fail
  rw [← HW.out]
  go_wp2_with fail
  go_loopw [9] (fun i wr => ∃ k : Nat, k ≤ t ∧ i = .int .i64 k ∧ Hid (∀ i, i < k → ∀ r, r < 36 → dnOk (lnB F i) r = false) ∧ Hid (Blk wr w.heap.size 58 217 (brdV t F)) ∧ Hid (Blk wr (w.heap.size + 1) 58 217 (brdV 0 fun _ => false)) ∧ Below w.heap.size w wr ∧ w.heap.size + 2 ≤ wr.heap.size) (fun i _ => t - (intOf i).toNat)
  case atStart => exact ⟨0, Nat.zero_le _, rfl, hid fun i hi => absurd hi (Nat.not_lt_zero _), X1, X2, hb, by omega⟩
  case round =>
    obtain ⟨k, hk, rfl, HNO, HX, HR, hbel, hsz⟩ := hrel
    clear X1 X2 HW hb hw0s hc0
    by_cases hlt : k < t
    · have hi6 : k < 6 := by omega
      obtain ⟨f, hf⟩ : ∃ f, f = lnB F k := ⟨_, rfl⟩
      have hrg : wr.rangeAt w.heap.size (1 + k * 36) (caL 36 (bitV f)) := HX.out.range (1 + k * 36) 36 (by omega) (bitV f) (fun j hj => by rw [hf]; unfold brdV bitV lnB; rw [if_neg (by omega)]; congr 2; omega)
      have hu := Try.underlying55
      have hinf : (Try.prog.info? 55).map (·.size) = some (caL 36 (bitV f)).length := by rw [caL_len]; exact Try.rnSize
      have L0 := hid (Blk.new wr 55 36 (bitV fun _ => false))
      obtain ⟨wo, hwo⟩ : ∃ wo, wo = (wr.alloc (.cells (ca 36 (bitV fun _ => false)) 55)).setRow wr.heap.size (ca 36 (bitV f)) := ⟨_, rfl⟩
      have L1 : Hid (Blk wo wr.heap.size 55 36 (bitV f)) := hid (by rw [hwo]; exact setRow_blk L0.out (bitV f))
      have brw : Below wr.heap.size wr wo := by rw [hwo]; exact setRow_below ((Below.refl _ _).alloc (Nat.le_refl _) _) (Nat.le_refl _) _
      have X1 := hid (HX.out.next brw)
      have X2 := hid (HR.out.next brw)
      have hbo : Below w.heap.size w wo := Below.next hbel brw
      have hso : wo.heap.size = wr.heap.size + 1 := by rw [hwo]; simp
      have HWO := hid hwo
      clear hwo brw
      have HF := hid hf
      clear hf
      go_wp2_with (first | (refine wpList_load_midc rfl 55 _ rfl w.heap.size (1 + k * 36) rfl 36 (bitV f) _ hrg hu rfl hinf ?_) | (refine wpList_store_row rfl 55 _ _ rfl wr.heap.size _ rfl rfl 55 _ L0.out (by rw [ca_size]; exact Try.rnSize) (by rw [ca_size, ca_size]) (ca_one fun _ _ => rfl) ?_))
      rw [← HWO.out]
      obtain ⟨g4, hg4⟩ : ∃ g4, g4 = wr.heap.size := ⟨_, rfl⟩
      rw [← hg4] at L1 hsz hso ⊢
      clear hrg hinf L0 HWO hg4 HX HR hbel
      go_loopw [16] (fun j wi => ∃ m : Nat, m ≤ 36 ∧ j = .int .i64 m ∧ Hid (∀ r, r < m → dnOk f r = false) ∧ Hid (Blk wi w.heap.size 58 217 (brdV t F)) ∧ Hid (Blk wi (w.heap.size + 1) 58 217 (brdV 0 fun _ => false)) ∧ Hid (Blk wi g4 55 36 (bitV f)) ∧ Below w.heap.size w wi ∧ g4 + 1 ≤ wi.heap.size) (fun j _ => 36 - (intOf j).toNat)
      case atStart => exact ⟨0, Nat.zero_le _, rfl, hid fun r hr => absurd hr (Nat.not_lt_zero _), X1, X2, L1, hbo, by omega⟩
      case round =>
        obtain ⟨m, hm, rfl, HNM, HX, HR, HL, hbi, hsi⟩ := hrel
        clear X1 X2 L1 hbo
        by_cases hlm : m < 36
        · have HPU := hid fun W => rnPut_any f m ((m : Int) - 1) W hlm
          obtain ⟨f2, hf2⟩ : ∃ f2, f2 = dnR f m := ⟨_, rfl⟩
          rw [show putR f m ((m : Int) - 1) = f2 from hf2.symm] at HPU
          have HF2 := hid hf2
          clear hf2
          unfold rnV at HPU
          have hsz1 := hbi.size
          go_wp2_with (first | (refine wpList_load_row rfl 55 _ rfl g4 rfl 55 _ (0, 0) _ HL.out Try.underlying55 rfl (by rw [ca_size]; exact Try.rnSize) ?_))
          refine (HPU.out _).mono ?_
          rintro e w2 ⟨rfl, b2⟩
          have hs2 := b2.size
          have L0 := hid (Blk.new w2 55 36 (bitV fun _ => false))
          obtain ⟨w3, hw3⟩ : ∃ w3, w3 = (w2.alloc (.cells (ca 36 (bitV fun _ => false)) 55)).setRow w2.heap.size (ca 36 (bitV f2)) := ⟨_, rfl⟩
          have L6 : Blk w3 w2.heap.size 55 36 (bitV f2) := by rw [hw3]; exact setRow_blk L0.out (bitV f2)
          have b23 : Below w2.heap.size w2 w3 := by rw [hw3]; exact setRow_below ((Below.refl _ _).alloc (Nat.le_refl _) _) (Nat.le_refl _) _
          have X1 := hid ((HX.out.next b2).next b23)
          have X2 := hid ((HR.out.next b2).next b23)
          have L4 := hid ((HL.out.next b2).next b23)
          have B3 : Below w.heap.size w w3 := Below.next (Below.next hbi b2) b23
          have hs3 : w3.heap.size = w2.heap.size + 1 := by rw [hw3]; simp
          have l6 := L6
          have l4 := L4.out
          rw [hw3] at l6 l4
          have HL6 := hid l6; have HL4 := hid l4; have HL6' := hid L6
          have HW3 := hid hw3
          clear hw3 b23 L6 l6 l4 HX HR HL hbi
          cases hdn : dnOk f m
          · have hff : f2 = f := by rw [HF2.out]; exact dnR_no hdn
            have heq := fun W => run_neq_rn f2 f W true (by rw [hff]; simp)
            unfold rnV at heq
            have HD := hid hdn
            clear hdn hff
            go_wp2_with (first | (refine wpList_store_row rfl 55 _ _ rfl w2.heap.size _ rfl rfl 55 _ L0.out (by rw [ca_size]; exact Try.rnSize) (by rw [ca_size, ca_size]) (ca_one fun _ _ => rfl) ?_) | (refine wpList_load_row rfl 55 _ rfl w2.heap.size rfl 55 _ (0, 0) _ HL6.out Try.underlying55 rfl (by rw [ca_size]; exact Try.rnSize) ?_) | (refine wpList_load_row rfl 55 _ rfl g4 rfl 55 _ (0, 0) _ HL4.out Try.underlying55 rfl (by rw [ca_size]; exact Try.rnSize) ?_))
            rw [← HW3.out]
            go_roundw
            case rel => exact ⟨m + 1, by omega, by go_num, hid fun r hr => by
              rcases Nat.lt_or_ge r m with h | h
              · exact HNM.out r h
              · rw [show r = m by omega]; exact HD.out, X1, X2, L4, B3, by omega⟩
            case measure => simp [intOf]; omega
          · have heq := fun W => run_neq_rn f2 f W false (by
              rw [HF2.out]
              obtain ⟨h1, h2, h3⟩ := (dnOk_iff hlm).1 hdn
              refine ⟨fun h => (by cases h), fun h => ?_⟩
              have h4 := h m hlm
              rw [dnR_yes hdn] at h4
              unfold updB at h4
              rw [if_neg (by omega), if_pos rfl, h2] at h4
              cases h4)
            unfold rnV at heq
            have HD := hid hdn
            clear hdn
            obtain ⟨F2, hF2⟩ : ∃ F2, F2 = setLn F k f2 := ⟨_, rfl⟩
            have hth : w3.there w.heap.size (1 + k * 36) (ca 36 (bitV f2)).size := by rw [ca_size]; exact X1.out.there (1 + k * 36) 36 (by omega)
            have hinf2 : (Try.prog.info? 55).map (·.size) = some (ca 36 (bitV f2)).size := by rw [ca_size]; exact Try.rnSize
            obtain ⟨w4, hw4⟩ : ∃ w4, w4 = w3.setCells w.heap.size (1 + k * 36) (ca 36 (bitV f2)).toList := ⟨_, rfl⟩
            have hwl : w4 = w3.setCells w.heap.size (1 + k * 36) (caL 36 (bitV f2)) := hw4
            have y1 : Blk w4 w.heap.size 58 217 (brdV t F2) := by rw [hwl, hF2]; exact (X1.out.setMid (1 + k * 36) 36 (bitV f2)).to fun j _ => setLn_mid t F k f2 j
            have y2 : Blk w4 (w.heap.size + 1) 58 217 (brdV 0 fun _ => false) := by rw [hwl]; exact X2.out.otherL (by omega) _
            have B4 : Below w.heap.size w w4 := by rw [hwl]; exact setCells_below _ _ _ _ _ _ B3 (Nat.le_refl _)
            have HW4 := hid hw4
            have HY1 := hid y1; have HY2 := hid y2
            have HF2' := hid hF2
            have HTH := hid hth
            clear hw4 hwl y1 y2 hF2 hth
            go_wp2_with (first | (refine wpList_store_row rfl 55 _ _ rfl w2.heap.size _ rfl rfl 55 _ L0.out (by rw [ca_size]; exact Try.rnSize) (by rw [ca_size, ca_size]) (ca_one fun _ _ => rfl) ?_) | (refine wpList_load_row rfl 55 _ rfl w2.heap.size rfl 55 _ (0, 0) _ HL6.out Try.underlying55 rfl (by rw [ca_size]; exact Try.rnSize) ?_) | (refine wpList_load_row rfl 55 _ rfl g4 rfl 55 _ (0, 0) _ HL4.out Try.underlying55 rfl (by rw [ca_size]; exact Try.rnSize) ?_))
            rw [← HW3.out]
            have hsc := run_storeCells_cells (P := Try.prog) w.heap.size (1 + k * 36) (ca 36 (bitV f2)).toList 0 w3 (fun j hj => by simpa using (HTH.out j (by simpa using hj)).1) (fun j hj => by simpa using (HTH.out j (by simpa using hj)).2) (bit_one 36 f2)
            simp only [Nat.add_zero] at hsc
            rw [hsc, ← HW4.out]
            have z3 := setRow_blk HY2.out (brdV t F2)
            go_wp2_with (first | (refine wpList_load_row rfl 58 _ rfl w.heap.size rfl 58 _ (0, 0) _ HY1.out Try.underlying58 rfl (by rw [ca_size]; exact Try.bdSize) ?_) | (refine wpList_store_row rfl 58 _ _ rfl (w.heap.size + 1) _ rfl rfl 58 _ HY2.out (by rw [ca_size]; exact Try.bdSize) (by rw [ca_size, ca_size]) (brd_one _ _) ?_))
            refine bodyPost_ret (v := bdV t F2) ?_ rfl ⟨F2, rfl, Or.inr ⟨k, m, hlt, hlm, by rw [← HF.out]; exact HD.out, by rw [HF2'.out, HF2.out, HF.out]⟩, setRow_below B4 (by omega) _⟩
            exact results_cell_row rfl _ _ (w.heap.size + 1) 58 _ (0, 0) _ rfl z3 Try.underlying58 rfl (by rw [ca_size]; exact Try.bdSize)
        · have hm36 : m = 36 := by omega
          subst hm36
          go_wp2_with fail
          go_roundw
          case rel => exact ⟨k + 1, by omega, by go_num, hid fun i hi => by
            rcases Nat.lt_or_ge i k with h | h
            · exact HNO.out i h
            · rw [show i = k by omega, ← HF.out]; exact HNM.out, HX, HR, hbi, by omega⟩
          case measure => simp [intOf]; omega
    · have hkt : k = t := by omega
      subst hkt
      have z3 := setRow_blk HR.out (brdV k F)
      go_wp2_with (first | (refine wpList_load_row rfl 58 _ rfl w.heap.size rfl 58 _ (0, 0) _ HX.out Try.underlying58 rfl (by rw [ca_size]; exact Try.bdSize) ?_) | (refine wpList_store_row rfl 58 _ _ rfl (w.heap.size + 1) _ rfl rfl 58 _ HR.out (by rw [ca_size]; exact Try.bdSize) (by rw [ca_size, ca_size]) (brd_one _ _) ?_))
      refine bodyPost_ret (v := bdV k F) ?_ rfl ⟨F, rfl, Or.inl ⟨rfl, HNO.out⟩, setRow_below hbel (by omega) _⟩
      exact results_cell_row rfl _ _ (w.heap.size + 1) 58 _ (0, 0) _ rfl z3 Try.underlying58 rfl (by rw [ca_size]; exact Try.bdSize)
end Go.Proofs.Ytelfapheigobeaa
/-
  Plain facts on levels: the check, the size of their core, turned ones. No program in this text.
-/
namespace Go.Proofs.Ytelfapheigobeaa

theorem sum_abs (xs : List Int) (hi : Int) (h : ∀ j, j < xs.length → -hi ≤ xs.getD j 0 ∧ xs.getD j 0 ≤ hi) : -(xs.length * hi) ≤ xs.sum ∧ xs.sum ≤ xs.length * hi := by
  induction xs with
  | nil => simp
  | cons x t ih =>
    have h0 := h 0 (by simp)
    have ht := ih (fun j hj => by have := h (j + 1) (by simp; omega); simpa using this)
    simp only [List.getD_cons_zero] at h0
    simp only [List.sum_cons, List.length_cons]
    rw [show ((t.length + 1 : Nat) : Int) * hi = t.length * hi + hi from by rw [Int.natCast_add, Int.add_mul]; simp]
    omega
theorem sum_take_abs (xs : List Int) (hi : Int) (h : ∀ j, j < xs.length → -hi ≤ xs.getD j 0 ∧ xs.getD j 0 ≤ hi) (h0 : 0 ≤ hi) (k : Nat) : -(xs.length * hi) ≤ (xs.take k).sum ∧ (xs.take k).sum ≤ xs.length * hi := by
  have := sum_abs (xs.take k) hi (fun j hj => by
    have hj' : j < k ∧ j < xs.length := by rw [List.length_take] at hj; omega
    have := h j hj'.2
    rw [List.getD_eq_getElem?_getD, List.getElem?_take, if_pos hj'.1, ← List.getD_eq_getElem?_getD]
    exact this)
  have hl : (xs.take k).length ≤ xs.length := by simp; omega
  have : ((xs.take k).length : Int) * hi ≤ xs.length * hi := Int.mul_le_mul_of_nonneg_right (by omega) h0
  omega

def levB (xs : List Int) : Bool := inB 2 6 (xs.length : Int) && (xs.all (inB (-10) 10) && decide (xs.sum = 0))
structure Lev (xs : List Int) : Prop where
  lo : 2 ≤ xs.length
  hi : xs.length ≤ 6
  bd : ∀ j, j < xs.length → -10 ≤ xs.getD j 0 ∧ xs.getD j 0 ≤ 10
  sum : xs.sum = 0
theorem all_bd {lo hi : Int} {xs : List Int} (h : xs.all (inB lo hi) = true) (j : Nat) (hj : j < xs.length) : lo ≤ xs.getD j 0 ∧ xs.getD j 0 ≤ hi := by
  rw [List.all_eq_true] at h
  exact inB_iff.1 (h _ (by rw [List.getD_eq_getElem?_getD, List.getElem?_eq_getElem hj]; exact List.getElem_mem hj))
theorem levB_iff {xs : List Int} : levB xs = true ↔ Lev xs := by
  constructor
  · intro h
    simp only [levB, Bool.and_eq_true, decide_eq_true_eq] at h
    obtain ⟨h1, h2, h3⟩ := h
    have := inB_iff.1 h1
    exact ⟨by omega, by omega, fun j hj => all_bd h2 j hj, h3⟩
  · intro h
    simp only [levB, Bool.and_eq_true, decide_eq_true_eq]
    refine ⟨inB_iff.2 ⟨by have := h.lo; omega, by have := h.hi; omega⟩, ?_, h.sum⟩
    rw [List.all_eq_true]
    intro x hx
    obtain ⟨j, hj, rfl⟩ := List.getElem_of_mem hx
    have a := h.bd j hj
    rw [List.getD_eq_getElem?_getD, List.getElem?_eq_getElem hj] at a
    exact inB_iff.2 a
theorem lev_no_len {xs : List Int} (h : inB 2 6 (xs.length : Int) = false) : levB xs = false := by simp [levB, h]
theorem lev_no_all {xs : List Int} (h : xs.all (inB (-10) 10) = false) : levB xs = false := by simp [levB, h]
theorem lev_sum {xs : List Int} (h : inB 2 6 (xs.length : Int) = true) (h2 : xs.all (inB (-10) 10) = true) : levB xs = decide (xs.sum = 0) := by simp [levB, h, h2]

def sqSum (xs : List Int) : Nat → Int
  | 0 => 0
  | k + 1 => sqSum xs k + xs.getD k 0 * xs.getD k 0
def ixSum (xs : List Int) : Nat → Int
  | 0 => 0
  | k + 1 => ixSum xs k + (k : Int) * xs.getD k 0
theorem sq_bd {x : Int} (h : -10 ≤ x ∧ x ≤ 10) : 0 ≤ x * x ∧ x * x ≤ 100 := by
  have : x = -10 ∨ x = -9 ∨ x = -8 ∨ x = -7 ∨ x = -6 ∨ x = -5 ∨ x = -4 ∨ x = -3 ∨ x = -2 ∨ x = -1 ∨ x = 0 ∨ x = 1 ∨ x = 2 ∨ x = 3 ∨ x = 4 ∨ x = 5 ∨ x = 6 ∨ x = 7 ∨ x = 8 ∨ x = 9 ∨ x = 10 := by omega
  rcases this with rfl | rfl | rfl | rfl | rfl | rfl | rfl | rfl | rfl | rfl | rfl | rfl | rfl | rfl | rfl | rfl | rfl | rfl | rfl | rfl | rfl <;> decide
theorem sq_par (x : Int) : (x * x - x) % 2 = 0 := by
  rcases Int.emod_two_eq x with h | h
  · obtain ⟨m, rfl⟩ : ∃ m, x = 2 * m := ⟨x / 2, by omega⟩
    rw [show 2 * m * (2 * m) - 2 * m = 2 * (2 * m * m - m) by rw [Int.mul_sub]; simp only [Int.mul_assoc, Int.mul_left_comm]]
    omega
  · obtain ⟨m, rfl⟩ : ∃ m, x = 2 * m + 1 := ⟨x / 2, by omega⟩
    have e : (2 * m + 1) * (2 * m + 1) = 2 * (2 * (m * m)) + 2 * m + 2 * m + 1 := by
      rw [Int.add_mul, Int.mul_add, show 2 * m * (2 * m) = 2 * (2 * (m * m)) by simp only [Int.mul_assoc, Int.mul_left_comm]]
      omega
    rw [e]
    omega
theorem ix_bd {x : Int} (h : -10 ≤ x ∧ x ≤ 10) (k : Nat) (hk : k ≤ 6) : -60 ≤ (k : Int) * x ∧ (k : Int) * x ≤ 60 := by
  have : k = 0 ∨ k = 1 ∨ k = 2 ∨ k = 3 ∨ k = 4 ∨ k = 5 ∨ k = 6 := by omega
  rcases this with rfl | rfl | rfl | rfl | rfl | rfl | rfl <;> simp <;> omega
theorem sqSum_bd {xs : List Int} (L : Lev xs) (k : Nat) (hk : k ≤ xs.length) : 0 ≤ sqSum xs k ∧ sqSum xs k ≤ 100 * k := by
  induction k with
  | zero => simp [sqSum]
  | succ k ih =>
    have := ih (by omega)
    have := sq_bd (L.bd k (by omega))
    simp only [sqSum]; omega
theorem ixSum_bd {xs : List Int} (L : Lev xs) (k : Nat) (hk : k ≤ xs.length) : -(60 * k) ≤ ixSum xs k ∧ ixSum xs k ≤ 60 * k := by
  induction k with
  | zero => simp [ixSum]
  | succ k ih =>
    have := ih (by omega)
    have := ix_bd (L.bd k (by omega)) k (by have := L.hi; omega)
    simp only [ixSum]; omega
theorem sqSum_par (xs : List Int) (k : Nat) (hk : k ≤ xs.length) : (sqSum xs k - (xs.take k).sum) % 2 = 0 := by
  induction k with
  | zero => simp [sqSum]
  | succ k ih =>
    have := ih (by omega)
    have := sq_par (xs.getD k 0)
    rw [sum_take_succ xs k (by omega)]
    simp only [sqSum]; omega
theorem sqSum_even {xs : List Int} (L : Lev xs) : sqSum xs xs.length % 2 = 0 := by
  have := sqSum_par xs xs.length (Nat.le_refl _)
  rw [List.take_of_length_le (Nat.le_refl _), L.sum] at this
  omega
/-- The size of the core, as the program makes it. -/
def sizeL (xs : List Int) : Int := sqSum xs xs.length / 2 * xs.length + ixSum xs xs.length
def sizeF (xs : List Int) : Int := if levB xs then sizeL xs else 0
theorem half_mul {xs : List Int} (L : Lev xs) : (xs.length : Int) * sqSum xs xs.length / 2 = sqSum xs xs.length / 2 * xs.length := by
  obtain ⟨m, hm⟩ : ∃ m, sqSum xs xs.length = 2 * m := ⟨sqSum xs xs.length / 2, by have := sqSum_even L; omega⟩
  rw [hm, Int.mul_left_comm, Int.mul_ediv_cancel_left _ (by decide), Int.mul_ediv_cancel_left _ (by decide), Int.mul_comm]
theorem mul6_bd (t : Nat) (h : t ≤ 6) (s : Int) (hs : 0 ≤ s ∧ s ≤ 600) : 0 ≤ (t : Int) * s ∧ (t : Int) * s ≤ 3600 := by
  have : t = 0 ∨ t = 1 ∨ t = 2 ∨ t = 3 ∨ t = 4 ∨ t = 5 ∨ t = 6 := by omega
  rcases this with rfl | rfl | rfl | rfl | rfl | rfl | rfl <;> simp <;> omega

def turnL (xs : List Int) : List Int := fnRow xs.length fun m => -xs.getD (xs.length - 1 - m) 0
def turnF (xs : List Int) : List Int := if levB xs then turnL xs else []
theorem turnL_len (xs : List Int) : (turnL xs).length = xs.length := fnRow_len _ _
def turnK (xs : List Int) (k : Nat) : List Int := fnRow xs.length fun m => if xs.length - 1 - m < k then -xs.getD (xs.length - 1 - m) 0 else 0
theorem turnK_zero (xs : List Int) : turnK xs 0 = fnRow xs.length (fun _ => 0) := rowF_ext _ _ _ fun j _ => by simp
theorem turnK_all (xs : List Int) : turnK xs xs.length = turnL xs := rowF_ext _ _ _ fun j hj => by rw [if_pos (by omega)]
theorem turnK_len (xs : List Int) (k : Nat) : (turnK xs k).length = xs.length := fnRow_len _ _
theorem turnK_succ (xs : List Int) (k : Nat) (hk : k < xs.length) : (turnK xs k).set (xs.length - 1 - k) (-xs.getD k 0) = turnK xs (k + 1) := by
  unfold turnK
  rw [fnRow_set]
  refine rowF_ext _ _ _ fun j hj => ?_
  by_cases h : j = xs.length - 1 - k
  · subst h
    rw [if_pos rfl, if_pos (by omega), show xs.length - 1 - (xs.length - 1 - k) = k by omega]
  · rw [if_neg h]
    by_cases h2 : xs.length - 1 - j < k
    · rw [if_pos h2, if_pos (by omega)]
    · rw [if_neg h2, if_neg (by omega)]
theorem take_snoc (ys : List Int) (k : Nat) (h : k < ys.length) (x : Int) (hx : ys.getD k 0 = x) : ys.take (k + 1) = ys.take k ++ [x] := by
  rw [List.take_succ_eq_append_getElem h]
  rw [List.getD_eq_getElem?_getD, List.getElem?_eq_getElem h] at hx
  rw [← hx]; rfl
theorem bound_TurnLevels (xs : List Int) : (turnF xs).length ≤ 1048576 := by
  unfold turnF; split
  · rename_i h; have := (levB_iff.1 h).hi; rw [turnL_len]; omega
  · simp
end Go.Proofs.Ytelfapheigobeaa
