/-
  Several texts in one.
-/
import Derived.Test.YtndcegnlgdanmaaCE
import Derived.Test.YtndcegnlgdanmaaCB
import Derived.Test.YtndcegnlgdanmaaCA
/-
  Contracts: one bead of a board moved down (the first one that can be), and all of them.
-/
namespace Go.Proofs.Ytndcegnlgdanmaa
open Go.RowKit

/-- Whether a bead of a line can be moved down by a row. -/
def dnOk (f : Nat → Bool) (r : Nat) : Bool := canPut f r ((r : Int) - 1)
def dnR (f : Nat → Bool) (r : Nat) : Nat → Bool := putR f r ((r : Int) - 1)
theorem dnR_no {f : Nat → Bool} {r : Nat} (h : dnOk f r = false) : dnR f r = f := by unfold dnR putR; unfold dnOk at h; rw [h]; simp
theorem dnOk_iff {f : Nat → Bool} {r : Nat} (hr : r < 36) : dnOk f r = true ↔ 0 < r ∧ f r = true ∧ f (r - 1) = false := by
  unfold dnOk canPut
  simp only [Bool.and_eq_true, decide_eq_true_eq, Int.toNat_natCast, Bool.not_eq_true']
  rw [show ((r : Int) - 1).toNat = r - 1 by omega]
  constructor
  · rintro ⟨h1, h2, h3, h4⟩; exact ⟨by omega, h3, h4⟩
  · rintro ⟨h1, h2, h3⟩; exact ⟨by omega, by omega, h2, h3⟩
theorem dnR_yes {f : Nat → Bool} {r : Nat} (h : dnOk f r = true) : dnR f r = updB (updB f r false) (r - 1) true := by
  unfold dnR putR; unfold dnOk at h; rw [h]
  simp only [if_true, Int.toNat_natCast]
  rw [show ((r : Int) - 1).toNat = r - 1 by omega]
/-- A board lowered: the same if no bead can go down, or one of them down. -/
def Low (t : Nat) (F G : Nat → Bool) : Prop :=
  (G = F ∧ ∀ i, i < t → ∀ r, r < 36 → dnOk (lnB F i) r = false) ∨ ∃ i r, i < t ∧ r < 36 ∧ dnOk (lnB F i) r = true ∧ G = setLn F i (dnR (lnB F i) r)

/-- A part of a block loaded at once, its cells told by a function. -/
theorem wpList_load_midc {P : Program} {ops : Array Oper} {rest : List Oper} {op : Oper} {a : Act} {w : World} {Q : Exit → Act → World → Prop} (hgd : op.guard = none) (ty : TypeId) (x : Operand) (ho : op.op = .load ty x)
    (b o : Nat) (hx : a.eval x = .pointer (some ⟨b, o, none⟩)) (n : Nat) (c : Nat → Value) (d : TypeDesc) (hc : w.rangeAt b o (caL n c))
    (hu : P.underlying ty = some d) (hd : d.isRow = true) (hi : (P.info? ty).map (·.size) = some (caL n c).length)
    (h : wpList P ops Q rest (a.put op.dst (.agg (ca n c))) w) : wpList P ops Q (op :: rest) a w :=
  wpList_load_mid hgd ty x ho b o hx (caL n c) d hc hu hd hi h

set_option maxRecDepth 100000 in
set_option maxHeartbeats 8000000 in
theorem lowered_any (t : Nat) (F : Nat → Bool) (w : World) (ht : 2 ≤ t ∧ t ≤ 6) :
    Calls Try.prog 72 #[bdV t F] w fun e w' => ∃ G, e = .returned (bdV t G) ∧ Low t F G ∧ Below w.heap.size w w' := by
  have hz := Try.bdZero
  have hzr := Try.rnZero
  unfold bdV at hz ⊢
  unfold rnV at hzr
  obtain ⟨w0, hw0⟩ : ∃ w0, w0 = ((w.alloc (.cells (ca 217 (brdV t F)) 60)).alloc (.cells (ca 217 (brdV 0 fun _ => false)) 60)) := ⟨_, rfl⟩
  have x1 : Blk w0 w.heap.size 60 217 (brdV t F) := by rw [hw0]; exact (Blk.new w 60 217 (brdV t F)).alloc _
  have x2 : Blk w0 (w.heap.size + 1) 60 217 (brdV 0 fun _ => false) := by
    rw [hw0]
    have h := Blk.new (w.alloc (.cells (ca 217 (brdV t F)) 60)) 60 217 (brdV 0 fun _ => false)
    rw [World.size_alloc] at h; exact h
  have hb : Below w.heap.size w w0 := by rw [hw0]; exact ((Below.refl _ _).alloc (Nat.le_refl _) _).alloc (by simp) _
  have hc0 : w0.cell? ⟨w.heap.size, 0, none⟩ = some (.int .i64 t) := x1.cell (k := 0) (by omega)
  have hw0s : w0.heap.size = w.heap.size + 2 := by rw [hw0]; simp
  have X1 := hid x1; have X2 := hid x2
  have HW := hid hw0
  clear hw0 x1 x2
  go_enter Try.func72, Try.ntmps72
  go_upto_region 1 with fail
  rw [← HW.out]
  go_wp2_with fail
  go_loopw [9] (fun i wr => ∃ k : Nat, k ≤ t ∧ i = .int .i64 k ∧ Hid (∀ i, i < k → ∀ r, r < 36 → dnOk (lnB F i) r = false) ∧ Hid (Blk wr w.heap.size 60 217 (brdV t F)) ∧ Hid (Blk wr (w.heap.size + 1) 60 217 (brdV 0 fun _ => false)) ∧ Below w.heap.size w wr ∧ w.heap.size + 2 ≤ wr.heap.size) (fun i _ => t - (intOf i).toNat)
  case atStart => exact ⟨0, Nat.zero_le _, rfl, hid fun i hi => absurd hi (Nat.not_lt_zero _), X1, X2, hb, by omega⟩
  case round =>
    obtain ⟨k, hk, rfl, HNO, HX, HR, hbel, hsz⟩ := hrel
    clear X1 X2 HW hb hw0s hc0
    by_cases hlt : k < t
    · have hi6 : k < 6 := by omega
      obtain ⟨f, hf⟩ : ∃ f, f = lnB F k := ⟨_, rfl⟩
      have hrg : wr.rangeAt w.heap.size (1 + k * 36) (caL 36 (bitV f)) := HX.out.range (1 + k * 36) 36 (by omega) (bitV f) (fun j hj => by rw [hf]; unfold brdV bitV lnB; rw [if_neg (by omega)]; congr 2; omega)
      have hu := Try.underlying57
      have hinf : (Try.prog.info? 57).map (·.size) = some (caL 36 (bitV f)).length := by rw [caL_len]; exact Try.rnSize
      have L0 := hid (Blk.new wr 57 36 (bitV fun _ => false))
      obtain ⟨wo, hwo⟩ : ∃ wo, wo = (wr.alloc (.cells (ca 36 (bitV fun _ => false)) 57)).setRow wr.heap.size (ca 36 (bitV f)) := ⟨_, rfl⟩
      have L1 : Hid (Blk wo wr.heap.size 57 36 (bitV f)) := hid (by rw [hwo]; exact setRow_blk L0.out (bitV f))
      have brw : Below wr.heap.size wr wo := by rw [hwo]; exact setRow_below ((Below.refl _ _).alloc (Nat.le_refl _) _) (Nat.le_refl _) _
      have X1 := hid (HX.out.next brw)
      have X2 := hid (HR.out.next brw)
      have hbo : Below w.heap.size w wo := Below.next hbel brw
      have hso : wo.heap.size = wr.heap.size + 1 := by rw [hwo]; simp
      have HWO := hid hwo
      clear hwo brw
      have HF := hid hf
      clear hf
      go_wp2_with (first | (refine wpList_load_midc rfl 57 _ rfl w.heap.size (1 + k * 36) rfl 36 (bitV f) _ hrg hu rfl hinf ?_) | (refine wpList_store_row rfl 57 _ _ rfl wr.heap.size _ rfl rfl 57 _ L0.out (by rw [ca_size]; exact Try.rnSize) (by rw [ca_size, ca_size]) (ca_one fun _ _ => rfl) ?_))
      rw [← HWO.out]
      obtain ⟨g4, hg4⟩ : ∃ g4, g4 = wr.heap.size := ⟨_, rfl⟩
      rw [← hg4] at L1 hsz hso ⊢
      clear hrg hinf L0 HWO hg4 HX HR hbel
      go_loopw [16] (fun j wi => ∃ m : Nat, m ≤ 36 ∧ j = .int .i64 m ∧ Hid (∀ r, r < m → dnOk f r = false) ∧ Hid (Blk wi w.heap.size 60 217 (brdV t F)) ∧ Hid (Blk wi (w.heap.size + 1) 60 217 (brdV 0 fun _ => false)) ∧ Hid (Blk wi g4 57 36 (bitV f)) ∧ Below w.heap.size w wi ∧ g4 + 1 ≤ wi.heap.size) (fun j _ => 36 - (intOf j).toNat)
      case atStart => exact ⟨0, Nat.zero_le _, rfl, hid fun r hr => absurd hr (Nat.not_lt_zero _), X1, X2, L1, hbo, by omega⟩
      case round =>
        obtain ⟨m, hm, rfl, HNM, HX, HR, HL, hbi, hsi⟩ := hrel
        clear X1 X2 L1 hbo
        by_cases hlm : m < 36
        · have HPU := hid fun W => rnPut_any f m ((m : Int) - 1) W hlm
          obtain ⟨f2, hf2⟩ : ∃ f2, f2 = dnR f m := ⟨_, rfl⟩
          rw [show putR f m ((m : Int) - 1) = f2 from hf2.symm] at HPU
          have HF2 := hid hf2
          clear hf2
          unfold rnV at HPU
          have hsz1 := hbi.size
          go_wp2_with (first | (refine wpList_load_row rfl 57 _ rfl g4 rfl 57 _ (0, 0) _ HL.out Try.underlying57 rfl (by rw [ca_size]; exact Try.rnSize) ?_))
          refine (HPU.out _).mono ?_
          rintro e w2 ⟨rfl, b2⟩
          have hs2 := b2.size
          have L0 := hid (Blk.new w2 57 36 (bitV fun _ => false))
          obtain ⟨w3, hw3⟩ : ∃ w3, w3 = (w2.alloc (.cells (ca 36 (bitV fun _ => false)) 57)).setRow w2.heap.size (ca 36 (bitV f2)) := ⟨_, rfl⟩
          have L6 : Blk w3 w2.heap.size 57 36 (bitV f2) := by rw [hw3]; exact setRow_blk L0.out (bitV f2)
          have b23 : Below w2.heap.size w2 w3 := by rw [hw3]; exact setRow_below ((Below.refl _ _).alloc (Nat.le_refl _) _) (Nat.le_refl _) _
          have X1 := hid ((HX.out.next b2).next b23)
          have X2 := hid ((HR.out.next b2).next b23)
          have L4 := hid ((HL.out.next b2).next b23)
          have B3 : Below w.heap.size w w3 := Below.next (Below.next hbi b2) b23
          have hs3 : w3.heap.size = w2.heap.size + 1 := by rw [hw3]; simp
          have l6 := L6
          have l4 := L4.out
          rw [hw3] at l6 l4
          have HL6 := hid l6; have HL4 := hid l4; have HL6' := hid L6
          have HW3 := hid hw3
          clear hw3 b23 L6 l6 l4 HX HR HL hbi
          cases hdn : dnOk f m
          · have hff : f2 = f := by rw [HF2.out]; exact dnR_no hdn
            have heq := fun W => run_neq_rn f2 f W true (by rw [hff]; simp)
            unfold rnV at heq
            have HD := hid hdn
            clear hdn hff
            go_wp2_with (first | (refine wpList_store_row rfl 57 _ _ rfl w2.heap.size _ rfl rfl 57 _ L0.out (by rw [ca_size]; exact Try.rnSize) (by rw [ca_size, ca_size]) (ca_one fun _ _ => rfl) ?_) | (refine wpList_load_row rfl 57 _ rfl w2.heap.size rfl 57 _ (0, 0) _ HL6.out Try.underlying57 rfl (by rw [ca_size]; exact Try.rnSize) ?_) | (refine wpList_load_row rfl 57 _ rfl g4 rfl 57 _ (0, 0) _ HL4.out Try.underlying57 rfl (by rw [ca_size]; exact Try.rnSize) ?_))
            rw [← HW3.out]
            go_roundw
            case rel => exact ⟨m + 1, by omega, by go_num, hid fun r hr => by
              rcases Nat.lt_or_ge r m with h | h
              · exact HNM.out r h
              · rw [show r = m by omega]; exact HD.out, X1, X2, L4, B3, by omega⟩
            case measure => simp [intOf]; omega
          · have heq := fun W => run_neq_rn f2 f W false (by
              rw [HF2.out]
              obtain ⟨h1, h2, h3⟩ := (dnOk_iff hlm).1 hdn
              refine ⟨fun h => (by cases h), fun h => ?_⟩
              have h4 := h m hlm
              rw [dnR_yes hdn] at h4
              unfold updB at h4
              rw [if_neg (by omega), if_pos rfl, h2] at h4
              cases h4)
            unfold rnV at heq
            have HD := hid hdn
            clear hdn
            obtain ⟨F2, hF2⟩ : ∃ F2, F2 = setLn F k f2 := ⟨_, rfl⟩
            have hth : w3.there w.heap.size (1 + k * 36) (ca 36 (bitV f2)).size := by rw [ca_size]; exact X1.out.there (1 + k * 36) 36 (by omega)
            have hinf2 : (Try.prog.info? 57).map (·.size) = some (ca 36 (bitV f2)).size := by rw [ca_size]; exact Try.rnSize
            obtain ⟨w4, hw4⟩ : ∃ w4, w4 = w3.setCells w.heap.size (1 + k * 36) (ca 36 (bitV f2)).toList := ⟨_, rfl⟩
            have hwl : w4 = w3.setCells w.heap.size (1 + k * 36) (caL 36 (bitV f2)) := hw4
            have y1 : Blk w4 w.heap.size 60 217 (brdV t F2) := by rw [hwl, hF2]; exact (X1.out.setMid (1 + k * 36) 36 (bitV f2)).to fun j _ => setLn_mid t F k f2 j
            have y2 : Blk w4 (w.heap.size + 1) 60 217 (brdV 0 fun _ => false) := by rw [hwl]; exact X2.out.otherL (by omega) _
            have B4 : Below w.heap.size w w4 := by rw [hwl]; exact setCells_below _ _ _ _ _ _ B3 (Nat.le_refl _)
            have HW4 := hid hw4
            have HY1 := hid y1; have HY2 := hid y2
            have HF2' := hid hF2
            have HTH := hid hth
            clear hw4 hwl y1 y2 hF2 hth
            go_wp2_with (first | (refine wpList_store_row rfl 57 _ _ rfl w2.heap.size _ rfl rfl 57 _ L0.out (by rw [ca_size]; exact Try.rnSize) (by rw [ca_size, ca_size]) (ca_one fun _ _ => rfl) ?_) | (refine wpList_load_row rfl 57 _ rfl w2.heap.size rfl 57 _ (0, 0) _ HL6.out Try.underlying57 rfl (by rw [ca_size]; exact Try.rnSize) ?_) | (refine wpList_load_row rfl 57 _ rfl g4 rfl 57 _ (0, 0) _ HL4.out Try.underlying57 rfl (by rw [ca_size]; exact Try.rnSize) ?_))
            rw [← HW3.out]
            have hsc := run_storeCells_cells (P := Try.prog) w.heap.size (1 + k * 36) (ca 36 (bitV f2)).toList 0 w3 (fun j hj => by simpa using (HTH.out j (by simpa using hj)).1) (fun j hj => by simpa using (HTH.out j (by simpa using hj)).2) (bit_one 36 f2)
            simp only [Nat.add_zero] at hsc
            rw [hsc, ← HW4.out]
            have z3 := setRow_blk HY2.out (brdV t F2)
            go_wp2_with (first | (refine wpList_load_row rfl 60 _ rfl w.heap.size rfl 60 _ (0, 0) _ HY1.out Try.underlying60 rfl (by rw [ca_size]; exact Try.bdSize) ?_) | (refine wpList_store_row rfl 60 _ _ rfl (w.heap.size + 1) _ rfl rfl 60 _ HY2.out (by rw [ca_size]; exact Try.bdSize) (by rw [ca_size, ca_size]) (brd_one _ _) ?_))
            refine bodyPost_ret (v := bdV t F2) ?_ rfl ⟨F2, rfl, Or.inr ⟨k, m, hlt, hlm, by rw [← HF.out]; exact HD.out, by rw [HF2'.out, HF2.out, HF.out]⟩, setRow_below B4 (by omega) _⟩
            exact results_cell_row rfl _ _ (w.heap.size + 1) 60 _ (0, 0) _ rfl z3 Try.underlying60 rfl (by rw [ca_size]; exact Try.bdSize)
        · have hm36 : m = 36 := by omega
          subst hm36
          go_wp2_with fail
          go_roundw
          case rel => exact ⟨k + 1, by omega, by go_num, hid fun i hi => by
            rcases Nat.lt_or_ge i k with h | h
            · exact HNO.out i h
            · rw [show i = k by omega, ← HF.out]; exact HNM.out, HX, HR, hbi, by omega⟩
          case measure => simp [intOf]; omega
    · have hkt : k = t := by omega
      subst hkt
      have z3 := setRow_blk HR.out (brdV k F)
      go_wp2_with (first | (refine wpList_load_row rfl 60 _ rfl w.heap.size rfl 60 _ (0, 0) _ HX.out Try.underlying60 rfl (by rw [ca_size]; exact Try.bdSize) ?_) | (refine wpList_store_row rfl 60 _ _ rfl (w.heap.size + 1) _ rfl rfl 60 _ HR.out (by rw [ca_size]; exact Try.bdSize) (by rw [ca_size, ca_size]) (brd_one _ _) ?_))
      refine bodyPost_ret (v := bdV k F) ?_ rfl ⟨F, rfl, Or.inl ⟨rfl, HNO.out⟩, setRow_below hbel (by omega) _⟩
      exact results_cell_row rfl _ _ (w.heap.size + 1) 60 _ (0, 0) _ rfl z3 Try.underlying60 rfl (by rw [ca_size]; exact Try.bdSize)
end Go.Proofs.Ytndcegnlgdanmaa
/-
  Contracts: the model's insertion into a row that rises.
-/
namespace Go.Proofs.Ytndcegnlgdanmaa
open Go.RowKit

theorem IL_oneX (xs : List Int) : ∀ u ∈ IL xs, u.oneCell' = true := by
  intro u hu
  obtain ⟨x, _, rfl⟩ := List.mem_map.1 hu
  rfl
theorem Cells.at' {w : World} {A : Option Addr} {xs : List Int} (h : Cells w A xs) {j : Nat} (hj : j < xs.length) : ∃ b o, A = some ⟨b, o, none⟩ ∧ w.cell? ⟨b, o + j, none⟩ = some (.int .i64 (xs.getD j 0)) := by
  obtain ⟨b, o, e, hh⟩ := h (by omega)
  exact ⟨b, o, e, hh j hj⟩
/-- The row with one number more, ahead of the first one that is not less. -/
def insL : List Int → Int → List Int
  | [], x => [x]
  | y :: r, x => if y < x then y :: insL r x else x :: y :: r
theorem insL_len (xs : List Int) (x : Int) : (insL xs x).length = xs.length + 1 := by
  induction xs with
  | nil => rfl
  | cons y r ih => unfold insL; split <;> simp [ih]
theorem insL_at (xs : List Int) (x : Int) (k : Nat) (hk : k ≤ xs.length) (h1 : ∀ j, j < k → xs.getD j 0 < x) (h2 : k < xs.length → ¬ xs.getD k 0 < x) : xs.take k ++ x :: xs.drop k = insL xs x := by
  induction xs generalizing k with
  | nil => simp at hk; subst hk; rfl
  | cons y r ih =>
    cases k with
    | zero =>
      have := h2 (by simp)
      rw [List.getD_cons_zero] at this
      unfold insL
      rw [if_neg this]; rfl
    | succ k =>
      have h0 := h1 0 (by omega)
      rw [List.getD_cons_zero] at h0
      unfold insL
      rw [if_pos h0, ← ih k (by simpa using hk) (fun j hj => by simpa using h1 (j + 1) (by omega)) (fun hj => by simpa using h2 (by simp; omega))]
      rfl

theorem news_at {w W : World} {A : Option Addr} {xs : List Int} {b o : Nat} (hc : Cells w A xs) (hA : A = some ⟨b, o, none⟩) (hW : Below w.heap.size w W) (j : Nat) (hj : j < xs.length) : W.cell? ⟨b, o + j, none⟩ = some (.int .i64 (xs.getD j 0)) := by
  obtain ⟨b', o', he, hcc'⟩ := hc (by omega)
  rw [hA] at he
  injection he with he; injection he with h1 h2
  subst h1; subst h2
  have h := hcc' j hj
  rw [hW.cell (World.block_lt_of_cell? w _ h), h]
theorem addr_add (b o j : Nat) : (⟨b, o, none⟩ : Addr).add j = ⟨b, o + j, none⟩ := by unfold Addr.add; split <;> simp_all
theorem news_take {w W : World} {xs : List Int} {b o : Nat} (hc : Cells w (some ⟨b, o, none⟩) xs) (hW : Below w.heap.size w W) (k : Nat) : ∀ j u, (IL (xs.take k))[j]? = some u → W.cell? ((⟨b, o, none⟩ : Addr).add j) = some u := by
  intro j u hu
  have hj : j < (xs.take k).length := by have := (List.getElem?_eq_some_iff.1 hu).1; simpa [IL] using this
  rw [List.length_take] at hj
  rw [addr_add, news_at hc rfl hW j (by omega), ← hu, IL_get _ j (by rw [List.length_take]; exact hj)]
  congr 2
  rw [List.getD_eq_getElem?_getD, List.getD_eq_getElem?_getD, List.getElem?_take, if_pos (by omega)]
theorem news_drop {w W : World} {xs : List Int} {b o : Nat} (hc : Cells w (some ⟨b, o, none⟩) xs) (hW : Below w.heap.size w W) (k : Nat) (ad : Addr) (had : k < xs.length → ad = ⟨b, o + k, none⟩) : ∀ j u, (IL (xs.drop k))[j]? = some u → W.cell? (ad.add j) = some u := by
  intro j u hu
  have hj : j < (xs.drop k).length := by have := (List.getElem?_eq_some_iff.1 hu).1; simpa [IL] using this
  rw [List.length_drop] at hj
  rw [had (by omega), addr_add, Nat.add_assoc, news_at hc rfl hW (k + j) (by omega), ← hu, IL_get _ j (by rw [List.length_drop]; exact hj)]
  congr 2
  rw [List.getD_eq_getElem?_getD, List.getD_eq_getElem?_getD, List.getElem?_drop]

end Go.Proofs.Ytndcegnlgdanmaa
