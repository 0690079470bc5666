/-
  Contracts: a bead put to another place of a board (made by genputb.py).
-/
import Derived.Test.YtnhjofcmaodamaaBrdPut
import Derived.Test.YtnhjofcmaodamaaBrdOf
import Derived.Deep.RegionHeld3
import Derived.Deep.CutRange
namespace Go.Proofs.Ytnhjofcmaodamaa
open Go.RowKit

/-- A line of a board; a line put in its place. -/
def lnB (F : Nat → Bool) (i : Nat) : Nat → Bool := fun r => F (36 * i + r)
def setLn (F : Nat → Bool) (i : Nat) (f : Nat → Bool) : Nat → Bool := fun k => if 36 * i ≤ k ∧ k < 36 * i + 36 then f (k - 36 * i) else F k
theorem line36 (f : Nat → Bool) : #[bitV f 0, bitV f 1, bitV f 2, bitV f 3, bitV f 4, bitV f 5, bitV f 6, bitV f 7, bitV f 8, bitV f 9, bitV f 10, bitV f 11, bitV f 12, bitV f 13, bitV f 14, bitV f 15, bitV f 16, bitV f 17, bitV f 18, bitV f 19, bitV f 20, bitV f 21, bitV f 22, bitV f 23, bitV f 24, bitV f 25, bitV f 26, bitV f 27, bitV f 28, bitV f 29, bitV f 30, bitV f 31, bitV f 32, bitV f 33, bitV f 34, bitV f 35] = ca 36 (bitV f) := rfl
theorem setLn_mid (t : Int) (F : Nat → Bool) (i : Nat) (f : Nat → Bool) (j : Nat) : midV (brdV t F) (1 + i * 36) 36 (bitV f) j = brdV t (setLn F i f) j := by
  unfold midV brdV setLn bitV
  by_cases h : 1 + i * 36 ≤ j ∧ j < 1 + i * 36 + 36
  · rw [if_pos h, if_neg (by omega), if_pos (by omega)]
    congr 2; omega
  · rw [if_neg h]
    by_cases h0 : j = 0
    · rw [if_pos h0, if_pos h0]
    · rw [if_neg h0, if_neg h0, if_neg (by omega)]

set_option maxRecDepth 100000 in
set_option maxHeartbeats 8000000 in
theorem brdPut_in (t : Nat) (F : Nat → Bool) (a b : Nat) (w : World) (ht : 2 ≤ t ∧ t ≤ 6) (hab : a < t * 36) (hbb : b < 1000000) :
    Calls Try.prog 88 #[bdV t F, .int .i64 a, .int .i64 b] w fun e w' => e = .returned (bdV t (setLn F (a % t) (putR (lnB F (a % t)) (a / t : Nat) (b / t : Nat)))) ∧ Below w.heap.size w w' := by
  have hz := Try.bdZero
  have hml : a % t < t := Nat.mod_lt _ (by omega)
  have hdl : a / t < 36 := by rw [Nat.div_lt_iff_lt_mul (by omega)]; omega
  have htm : Int.tmod (a : Int) (t : Int) = ((a % t : Nat) : Int) := by rfl
  have htd : Int.tdiv (a : Int) (t : Int) = ((a / t : Nat) : Int) := by rfl
  have htd2 : Int.tdiv (b : Int) (t : Int) = ((b / t : Nat) : Int) := by rfl
  have hbd : b / t ≤ b := Nat.div_le_self _ _
  obtain ⟨i, hi⟩ : ∃ i, i = a % t := ⟨_, rfl⟩
  obtain ⟨r, hr⟩ : ∃ r, r = a / t := ⟨_, rfl⟩
  obtain ⟨s, hs⟩ : ∃ s, s = b / t := ⟨_, rfl⟩
  rw [← hi] at hml htm ⊢
  rw [← hr] at hdl htd ⊢
  rw [← hs] at htd2 hbd ⊢
  clear hi hr hs
  have hi6 : i < 6 := by omega
  unfold bdV at hz ⊢
  obtain ⟨w0, hw0⟩ : ∃ w0, w0 = ((w.alloc (.cells (ca 217 (brdV t F)) 77)).alloc (.cells (ca 217 (brdV 0 fun _ => false)) 77)) := ⟨_, rfl⟩
  have x1 : Blk w0 w.heap.size 77 217 (brdV t F) := by rw [hw0]; exact (Blk.new w 77 217 (brdV t F)).alloc _
  have x2 : Blk w0 (w.heap.size + 1) 77 217 (brdV 0 fun _ => false) := by
    rw [hw0]
    have h := Blk.new (w.alloc (.cells (ca 217 (brdV t F)) 77)) 77 217 (brdV 0 fun _ => false)
    rw [World.size_alloc] at h; exact h
  have hb : Below w.heap.size w w0 := by rw [hw0]; exact ((Below.refl _ _).alloc (Nat.le_refl _) _).alloc (by simp) _
  have hc0 : w0.cell? ⟨w.heap.size, 0, none⟩ = some (.int .i64 t) := x1.cell (k := 0) (by omega)
  have hw0s : w0.heap.size = w.heap.size + 2 := by rw [hw0]; simp
  have HW := hid hw0
  clear hw0
  obtain ⟨f, hf⟩ : ∃ f, f = lnB F i := ⟨_, rfl⟩
  rw [← hf]
  have hrg : w0.drew.rangeAt w.heap.size (1 + i * 36) (caL 36 (bitV f)) := (show Blk w0.drew _ _ _ _ from x1).range (1 + i * 36) 36 (by omega) (bitV f) (fun k hk => by rw [hf]; unfold brdV bitV lnB; rw [if_neg (by omega)]; congr 2; omega)
  have hu82 := Try.underlying74
  have hinf : (Try.prog.info? 74).map (·.size) = some (caL 36 (bitV f)).length := by rw [caL_len]; exact Try.rnSize
  have hc0d : w0.drew.cell? ⟨w.heap.size, 0, none⟩ = some (.int .i64 t) := hc0
  have hne : ¬ (t : Int) = 0 := by omega
  have hwr : IntKind.i64.wrap (r : Int) = r := IntWalk.i64_in _ (by omega)
  have hws : IntKind.i64.wrap (s : Int) = s := IntWalk.i64_in _ (by omega)
  have hcall : ∀ W (b : Int), b = s → Calls Try.prog 159 #[rnV f, .int .i64 r, .int .i64 b] W fun e w' => e = .returned (rnV (putR f r s)) ∧ Below W.heap.size W w' := by rintro W b rfl; exact rnPut_any f r s W hdl
  obtain ⟨f2, hf2⟩ : ∃ f2, f2 = putR f r s := ⟨_, rfl⟩
  rw [← hf2] at hcall ⊢
  change ∀ W (b : Int), b = s → Calls Try.prog 159 #[.agg (caL 36 (bitV f)).toArray, .int .i64 r, .int .i64 b] W fun e w' => e = .returned (.agg (caL 36 (bitV f2)).toArray) ∧ Below W.heap.size W w' at hcall
  obtain ⟨F2, hF2⟩ : ∃ F2, F2 = setLn F i f2 := ⟨_, rfl⟩
  rw [← hF2]
  have X1 := hid x1; have X2 := hid x2; have HB := hid hb; have HC := hid hcall
  have HM : ∀ W, Blk W w.heap.size 77 217 (brdV t F) → Blk W (w.heap.size + 1) 77 217 (brdV 0 fun _ => false) → Below w.heap.size w W → W.there w.heap.size (1 + i * 36) 36 ∧ Blk (W.setCells w.heap.size (1 + i * 36) (caL 36 (bitV f2))) w.heap.size 77 217 (brdV t F2) ∧ Blk (W.setCells w.heap.size (1 + i * 36) (caL 36 (bitV f2))) (w.heap.size + 1) 77 217 (brdV 0 fun _ => false) ∧ Below w.heap.size w (W.setCells w.heap.size (1 + i * 36) (caL 36 (bitV f2))) := fun W y1 y2 yb =>
    ⟨y1.there (1 + i * 36) 36 (by omega), (y1.setMid (1 + i * 36) 36 (bitV f2)).to fun k _ => by rw [hF2]; exact setLn_mid t F i f2 k, y2.otherL (by omega) _, setCells_below _ _ _ _ _ _ yb (Nat.le_refl _)⟩
  have HMM := hid HM
  have hinf2 : (Try.prog.info? 74).map (·.size) = some (caL 36 (bitV f2)).length := by rw [caL_len]; exact Try.rnSize
  have hl2 : (caL 36 (bitV f2)).length = 36 := caL_len _ _
  have ho2 : ∀ v ∈ caL 36 (bitV f2), v.oneCell' = true := bit_one 36 f2
  clear x1 x2 hb hf hF2 hf2 hcall HM
  go_enter Try.func88, Try.ntmps88
  go_upto_region 1 with fail
  rw [← HW.out]
  go_wp2_with fail
  refine wp_region_any (by kernel_rfl) ?_
  change wpAny _ _ _ _ _ _ _ (World.drew _)
  apply wpAny_take (i := 0) (v := .pointer (some ⟨w.heap.size, 1 + i * 36, none⟩))
  case hi => simp only [List.getElem?_toArray, List.getElem?_cons_zero]; rfl
  case hs => kernel_rfl
  case hf => kernel_rfl
  case hr => kernel_rfl
  case hQ => exact fun _ _ _ h => h
  case hy => exact Or.inl ⟨by rfl, fun W => by first | (go_simp; done) | (go_simp; omega)⟩
  simp only [Act.put, List.setIfInBounds_toArray, List.set_cons_zero, List.set_cons_succ]
  apply wpAny_take (i := 1) (v := .pointer (some ⟨w.heap.size, 1 + i * 36, none⟩))
  case hi => simp only [List.getElem?_toArray, List.getElem?_cons_succ, List.getElem?_cons_zero]; rfl
  case hs => kernel_rfl
  case hf => kernel_rfl
  case hr => kernel_rfl
  case hQ => exact fun _ _ _ h => h
  case hy => exact Or.inl ⟨by rfl, fun W => by first | (go_simp; done) | (go_simp; omega)⟩
  simp only [Act.put, List.setIfInBounds_toArray, List.set_cons_zero, List.set_cons_succ]
  apply wpAny_take (i := 2) (v := .pointer (some ⟨w.heap.size, 1 + i * 36, none⟩))
  case hi => simp only [List.getElem?_toArray, List.getElem?_cons_succ, List.getElem?_cons_zero]; rfl
  case hs => kernel_rfl
  case hf => kernel_rfl
  case hr => kernel_rfl
  case hQ => exact fun _ _ _ h => h
  case hy => exact Or.inl ⟨by rfl, fun W => by first | (go_simp; done) | (go_simp; omega)⟩
  simp only [Act.put, List.setIfInBounds_toArray, List.set_cons_zero, List.set_cons_succ]
  apply wpAny_take (i := 4) (v := .int .i64 a)
  case hi => simp only [List.getElem?_toArray, List.getElem?_cons_succ, List.getElem?_cons_zero]; rfl
  case hs => kernel_rfl
  case hf => kernel_rfl
  case hr => kernel_rfl
  case hQ => exact fun _ _ _ h => h
  case hy => exact Or.inl ⟨by rfl, fun W => by first | (go_simp; done) | (go_simp; omega)⟩
  simp only [Act.put, List.setIfInBounds_toArray, List.set_cons_zero, List.set_cons_succ]
  apply wpAny_take (i := 5) (v := .pointer (some ⟨w.heap.size, 0, none⟩))
  case hi => simp only [List.getElem?_toArray, List.getElem?_cons_succ, List.getElem?_cons_zero]; rfl
  case hs => kernel_rfl
  case hf => kernel_rfl
  case hr => kernel_rfl
  case hQ => exact fun _ _ _ h => h
  case hy => exact Or.inl ⟨by rfl, fun W => by first | (go_simp; done) | (go_simp; omega)⟩
  simp only [Act.put, List.setIfInBounds_toArray, List.set_cons_zero, List.set_cons_succ]
  apply wpAny_take (i := 8) (v := .int .i64 b)
  case hi => simp only [List.getElem?_toArray, List.getElem?_cons_succ, List.getElem?_cons_zero]; rfl
  case hs => kernel_rfl
  case hf => kernel_rfl
  case hr => kernel_rfl
  case hQ => exact fun _ _ _ h => h
  case hy => exact Or.inl ⟨by rfl, fun W => by first | (go_simp; done) | (go_simp; omega)⟩
  simp only [Act.put, List.setIfInBounds_toArray, List.set_cons_zero, List.set_cons_succ]
  apply wpAny_take (i := 9) (v := .pointer (some ⟨w.heap.size, 0, none⟩))
  case hi => simp only [List.getElem?_toArray, List.getElem?_cons_succ, List.getElem?_cons_zero]; rfl
  case hs => kernel_rfl
  case hf => kernel_rfl
  case hr => kernel_rfl
  case hQ => exact fun _ _ _ h => h
  case hy => exact Or.inl ⟨by rfl, fun W => by first | (go_simp; done) | (go_simp; omega)⟩
  simp only [Act.put, List.setIfInBounds_toArray, List.set_cons_zero, List.set_cons_succ]
  refine wpAny_ready (rs := [3, 6, 10]) (by kernel_rfl) (by simp) ?_
  apply AllReady.cons
  case ho => simp only [List.getElem?_toArray, List.getElem?_cons_succ, List.getElem?_cons_zero]; rfl
  case h =>
    intro K hK
    rw [if_pos (by rfl)]
    refine wp_load_mid 74 _ rfl w.heap.size (1 + i * 36) rfl (caL 36 (bitV f)) _ hrg hu82 rfl hinf ?_
    refine hK _ _ ?_
    clear hK K
    try simp only [Act.put, List.setIfInBounds_toArray, List.set_cons_zero, List.set_cons_succ]
    refine wpAny_ready (rs := [6, 10]) (by kernel_rfl) (by simp) ?_
    apply AllReady.cons
    case ho => simp only [List.getElem?_toArray, List.getElem?_cons_succ, List.getElem?_cons_zero]; rfl
    case h =>
      intro K hK
      go_simp
      refine hK _ _ ?_
      clear hK K
      try simp only [Act.put, List.setIfInBounds_toArray, List.set_cons_zero, List.set_cons_succ]
      apply wpAny_take (i := 7) (v := .int .i64 r)
      case hi => simp only [List.getElem?_toArray, List.getElem?_cons_succ, List.getElem?_cons_zero]; rfl
      case hs => kernel_rfl
      case hf => kernel_rfl
      case hr => kernel_rfl
      case hQ => exact fun _ _ _ h => h
      case hy => exact Or.inl ⟨by rfl, fun W => by first | (go_simp; done) | (go_simp; omega)⟩
      simp only [Act.put, List.setIfInBounds_toArray, List.set_cons_zero, List.set_cons_succ]
      refine wpAny_ready (rs := [10]) (by kernel_rfl) (by simp) ?_
      apply AllReady.cons
      case ho => simp only [List.getElem?_toArray, List.getElem?_cons_succ, List.getElem?_cons_zero]; rfl
      case h =>
        intro K hK
        go_simp
        refine hK _ _ ?_
        clear hK K
        try simp only [Act.put, List.setIfInBounds_toArray, List.set_cons_zero, List.set_cons_succ]
        apply wpAny_take (i := 11) (v := .int .i64 s)
        case hi => simp only [List.getElem?_toArray, List.getElem?_cons_succ, List.getElem?_cons_zero]; rfl
        case hs => kernel_rfl
        case hf => kernel_rfl
        case hr => kernel_rfl
        case hQ => exact fun _ _ _ h => h
        case hy => exact Or.inl ⟨by rfl, fun W => by first | (go_simp; done) | (go_simp; omega)⟩
        simp only [Act.put, List.setIfInBounds_toArray, List.set_cons_zero, List.set_cons_succ]
        refine wpAny_ready (rs := [12]) (by kernel_rfl) (by simp) ?_
        apply AllReady.cons
        case ho => simp only [List.getElem?_toArray, List.getElem?_cons_succ, List.getElem?_cons_zero]; rfl
        case hs => exact AllReady.nil
        intro K hK
        go_simp
        refine (HC.out _ _ (by first | exact hws | rfl)).mono ?_
        rintro e w4 ⟨rfl, b4⟩
        refine hK _ _ ?_
        clear hK K
        try simp only [Act.put, List.setIfInBounds_toArray, List.set_cons_zero, List.set_cons_succ]
        have hq := HMM.out w4 ((show Blk w0.drew _ _ _ _ from X1.out).next b4) ((show Blk w0.drew _ _ _ _ from X2.out).next b4) (Below.next (below_drewN HB.out 1) b4)
        have hth := hq.1
        have HQ := hid hq.2
        clear hq
        refine wpAny_ready (rs := [13]) (by kernel_rfl) (by simp) ?_
        apply AllReady.cons
        case ho => simp only [List.getElem?_toArray, List.getElem?_cons_succ, List.getElem?_cons_zero]; rfl
        case hs => exact AllReady.nil
        intro K hK
        go_simp
        refine hK _ _ ?_
        clear hK K
        try simp only [Act.put, List.setIfInBounds_toArray, List.set_cons_zero, List.set_cons_succ]
        refine wpAny_ready (rs := [14]) (by kernel_rfl) (by simp) ?_
        apply AllReady.cons
        case ho => simp only [List.getElem?_toArray, List.getElem?_cons_succ, List.getElem?_cons_zero]; rfl
        case hs => exact AllReady.nil
        intro K hK
        rw [if_pos (by rfl)]
        refine wp_store_mid 74 _ _ rfl w.heap.size (1 + i * 36) (caL 36 (bitV f2)).toArray rfl rfl (by rw [show (caL 36 (bitV f2)).toArray.size = 36 from caL_len 36 (bitV f2)]; exact hth) hinf2 (all_oneCell_toArray ho2) ?_
        refine hK _ _ ?_
        clear hK K
        try simp only [Act.put]
        refine wpAny_done (by kernel_rfl) ?_ _
        go_wp2_with (first | (refine wpList_load_row rfl 77 _ rfl w.heap.size rfl 77 _ (0, 0) _ HQ.out.1 Try.underlying77 rfl (by rw [ca_size]; exact Try.bdSize) ?_) | (refine wpList_store_row rfl 77 _ _ rfl (w.heap.size + 1) _ rfl rfl 77 _ HQ.out.2.1 (by rw [ca_size]; exact Try.bdSize) (by rw [ca_size, ca_size]) (brd_one _ _) ?_))
        have z3 := setRow_blk HQ.out.2.1 (brdV t F2)
        refine bodyPost_ret (v := bdV t F2) ?_ rfl ⟨rfl, setRow_below HQ.out.2.2 (by omega) _⟩
        exact results_cell_row rfl _ _ (w.heap.size + 1) 77 _ (0, 0) _ rfl z3 Try.underlying77 rfl (by rw [ca_size]; exact Try.bdSize)
      exact AllReady.nil
    apply AllReady.cons
    case ho => simp only [List.getElem?_toArray, List.getElem?_cons_succ, List.getElem?_cons_zero]; rfl
    case h =>
      intro K hK
      go_simp
      refine hK _ _ ?_
      clear hK K
      try simp only [Act.put, List.setIfInBounds_toArray, List.set_cons_zero, List.set_cons_succ]
      apply wpAny_take (i := 11) (v := .int .i64 s)
      case hi => simp only [List.getElem?_toArray, List.getElem?_cons_succ, List.getElem?_cons_zero]; rfl
      case hs => kernel_rfl
      case hf => kernel_rfl
      case hr => kernel_rfl
      case hQ => exact fun _ _ _ h => h
      case hy => exact Or.inl ⟨by rfl, fun W => by first | (go_simp; done) | (go_simp; omega)⟩
      simp only [Act.put, List.setIfInBounds_toArray, List.set_cons_zero, List.set_cons_succ]
      refine wpAny_ready (rs := [6]) (by kernel_rfl) (by simp) ?_
      apply AllReady.cons
      case ho => simp only [List.getElem?_toArray, List.getElem?_cons_succ, List.getElem?_cons_zero]; rfl
      case h =>
        intro K hK
        go_simp
        refine hK _ _ ?_
        clear hK K
        try simp only [Act.put, List.setIfInBounds_toArray, List.set_cons_zero, List.set_cons_succ]
        apply wpAny_take (i := 7) (v := .int .i64 r)
        case hi => simp only [List.getElem?_toArray, List.getElem?_cons_succ, List.getElem?_cons_zero]; rfl
        case hs => kernel_rfl
        case hf => kernel_rfl
        case hr => kernel_rfl
        case hQ => exact fun _ _ _ h => h
        case hy => exact Or.inl ⟨by rfl, fun W => by first | (go_simp; done) | (go_simp; omega)⟩
        simp only [Act.put, List.setIfInBounds_toArray, List.set_cons_zero, List.set_cons_succ]
        refine wpAny_ready (rs := [12]) (by kernel_rfl) (by simp) ?_
        apply AllReady.cons
        case ho => simp only [List.getElem?_toArray, List.getElem?_cons_succ, List.getElem?_cons_zero]; rfl
        case hs => exact AllReady.nil
        intro K hK
        go_simp
        refine (HC.out _ _ (by first | exact hws | rfl)).mono ?_
        rintro e w4 ⟨rfl, b4⟩
        refine hK _ _ ?_
        clear hK K
        try simp only [Act.put, List.setIfInBounds_toArray, List.set_cons_zero, List.set_cons_succ]
        have hq := HMM.out w4 ((show Blk w0.drew _ _ _ _ from X1.out).next b4) ((show Blk w0.drew _ _ _ _ from X2.out).next b4) (Below.next (below_drewN HB.out 1) b4)
        have hth := hq.1
        have HQ := hid hq.2
        clear hq
        refine wpAny_ready (rs := [13]) (by kernel_rfl) (by simp) ?_
        apply AllReady.cons
        case ho => simp only [List.getElem?_toArray, List.getElem?_cons_succ, List.getElem?_cons_zero]; rfl
        case hs => exact AllReady.nil
        intro K hK
        go_simp
        refine hK _ _ ?_
        clear hK K
        try simp only [Act.put, List.setIfInBounds_toArray, List.set_cons_zero, List.set_cons_succ]
        refine wpAny_ready (rs := [14]) (by kernel_rfl) (by simp) ?_
        apply AllReady.cons
        case ho => simp only [List.getElem?_toArray, List.getElem?_cons_succ, List.getElem?_cons_zero]; rfl
        case hs => exact AllReady.nil
        intro K hK
        rw [if_pos (by rfl)]
        refine wp_store_mid 74 _ _ rfl w.heap.size (1 + i * 36) (caL 36 (bitV f2)).toArray rfl rfl (by rw [show (caL 36 (bitV f2)).toArray.size = 36 from caL_len 36 (bitV f2)]; exact hth) hinf2 (all_oneCell_toArray ho2) ?_
        refine hK _ _ ?_
        clear hK K
        try simp only [Act.put]
        refine wpAny_done (by kernel_rfl) ?_ _
        go_wp2_with (first | (refine wpList_load_row rfl 77 _ rfl w.heap.size rfl 77 _ (0, 0) _ HQ.out.1 Try.underlying77 rfl (by rw [ca_size]; exact Try.bdSize) ?_) | (refine wpList_store_row rfl 77 _ _ rfl (w.heap.size + 1) _ rfl rfl 77 _ HQ.out.2.1 (by rw [ca_size]; exact Try.bdSize) (by rw [ca_size, ca_size]) (brd_one _ _) ?_))
        have z3 := setRow_blk HQ.out.2.1 (brdV t F2)
        refine bodyPost_ret (v := bdV t F2) ?_ rfl ⟨rfl, setRow_below HQ.out.2.2 (by omega) _⟩
        exact results_cell_row rfl _ _ (w.heap.size + 1) 77 _ (0, 0) _ rfl z3 Try.underlying77 rfl (by rw [ca_size]; exact Try.bdSize)
      exact AllReady.nil
    exact AllReady.nil
  apply AllReady.cons
  case ho => simp only [List.getElem?_toArray, List.getElem?_cons_succ, List.getElem?_cons_zero]; rfl
  case h =>
    intro K hK
    go_simp
    refine hK _ _ ?_
    clear hK K
    try simp only [Act.put, List.setIfInBounds_toArray, List.set_cons_zero, List.set_cons_succ]
    apply wpAny_take (i := 7) (v := .int .i64 r)
    case hi => simp only [List.getElem?_toArray, List.getElem?_cons_succ, List.getElem?_cons_zero]; rfl
    case hs => kernel_rfl
    case hf => kernel_rfl
    case hr => kernel_rfl
    case hQ => exact fun _ _ _ h => h
    case hy => exact Or.inl ⟨by rfl, fun W => by first | (go_simp; done) | (go_simp; omega)⟩
    simp only [Act.put, List.setIfInBounds_toArray, List.set_cons_zero, List.set_cons_succ]
    refine wpAny_ready (rs := [3, 10]) (by kernel_rfl) (by simp) ?_
    apply AllReady.cons
    case ho => simp only [List.getElem?_toArray, List.getElem?_cons_succ, List.getElem?_cons_zero]; rfl
    case h =>
      intro K hK
      rw [if_pos (by rfl)]
      refine wp_load_mid 74 _ rfl w.heap.size (1 + i * 36) rfl (caL 36 (bitV f)) _ hrg hu82 rfl hinf ?_
      refine hK _ _ ?_
      clear hK K
      try simp only [Act.put, List.setIfInBounds_toArray, List.set_cons_zero, List.set_cons_succ]
      refine wpAny_ready (rs := [10]) (by kernel_rfl) (by simp) ?_
      apply AllReady.cons
      case ho => simp only [List.getElem?_toArray, List.getElem?_cons_succ, List.getElem?_cons_zero]; rfl
      case h =>
        intro K hK
        go_simp
        refine hK _ _ ?_
        clear hK K
        try simp only [Act.put, List.setIfInBounds_toArray, List.set_cons_zero, List.set_cons_succ]
        apply wpAny_take (i := 11) (v := .int .i64 s)
        case hi => simp only [List.getElem?_toArray, List.getElem?_cons_succ, List.getElem?_cons_zero]; rfl
        case hs => kernel_rfl
        case hf => kernel_rfl
        case hr => kernel_rfl
        case hQ => exact fun _ _ _ h => h
        case hy => exact Or.inl ⟨by rfl, fun W => by first | (go_simp; done) | (go_simp; omega)⟩
        simp only [Act.put, List.setIfInBounds_toArray, List.set_cons_zero, List.set_cons_succ]
        refine wpAny_ready (rs := [12]) (by kernel_rfl) (by simp) ?_
        apply AllReady.cons
        case ho => simp only [List.getElem?_toArray, List.getElem?_cons_succ, List.getElem?_cons_zero]; rfl
        case hs => exact AllReady.nil
        intro K hK
        go_simp
        refine (HC.out _ _ (by first | exact hws | rfl)).mono ?_
        rintro e w4 ⟨rfl, b4⟩
        refine hK _ _ ?_
        clear hK K
        try simp only [Act.put, List.setIfInBounds_toArray, List.set_cons_zero, List.set_cons_succ]
        have hq := HMM.out w4 ((show Blk w0.drew _ _ _ _ from X1.out).next b4) ((show Blk w0.drew _ _ _ _ from X2.out).next b4) (Below.next (below_drewN HB.out 1) b4)
        have hth := hq.1
        have HQ := hid hq.2
        clear hq
        refine wpAny_ready (rs := [13]) (by kernel_rfl) (by simp) ?_
        apply AllReady.cons
        case ho => simp only [List.getElem?_toArray, List.getElem?_cons_succ, List.getElem?_cons_zero]; rfl
        case hs => exact AllReady.nil
        intro K hK
        go_simp
        refine hK _ _ ?_
        clear hK K
        try simp only [Act.put, List.setIfInBounds_toArray, List.set_cons_zero, List.set_cons_succ]
        refine wpAny_ready (rs := [14]) (by kernel_rfl) (by simp) ?_
        apply AllReady.cons
        case ho => simp only [List.getElem?_toArray, List.getElem?_cons_succ, List.getElem?_cons_zero]; rfl
        case hs => exact AllReady.nil
        intro K hK
        rw [if_pos (by rfl)]
        refine wp_store_mid 74 _ _ rfl w.heap.size (1 + i * 36) (caL 36 (bitV f2)).toArray rfl rfl (by rw [show (caL 36 (bitV f2)).toArray.size = 36 from caL_len 36 (bitV f2)]; exact hth) hinf2 (all_oneCell_toArray ho2) ?_
        refine hK _ _ ?_
        clear hK K
        try simp only [Act.put]
        refine wpAny_done (by kernel_rfl) ?_ _
        go_wp2_with (first | (refine wpList_load_row rfl 77 _ rfl w.heap.size rfl 77 _ (0, 0) _ HQ.out.1 Try.underlying77 rfl (by rw [ca_size]; exact Try.bdSize) ?_) | (refine wpList_store_row rfl 77 _ _ rfl (w.heap.size + 1) _ rfl rfl 77 _ HQ.out.2.1 (by rw [ca_size]; exact Try.bdSize) (by rw [ca_size, ca_size]) (brd_one _ _) ?_))
        have z3 := setRow_blk HQ.out.2.1 (brdV t F2)
        refine bodyPost_ret (v := bdV t F2) ?_ rfl ⟨rfl, setRow_below HQ.out.2.2 (by omega) _⟩
        exact results_cell_row rfl _ _ (w.heap.size + 1) 77 _ (0, 0) _ rfl z3 Try.underlying77 rfl (by rw [ca_size]; exact Try.bdSize)
      exact AllReady.nil
    apply AllReady.cons
    case ho => simp only [List.getElem?_toArray, List.getElem?_cons_succ, List.getElem?_cons_zero]; rfl
    case h =>
      intro K hK
      go_simp
      refine hK _ _ ?_
      clear hK K
      try simp only [Act.put, List.setIfInBounds_toArray, List.set_cons_zero, List.set_cons_succ]
      apply wpAny_take (i := 11) (v := .int .i64 s)
      case hi => simp only [List.getElem?_toArray, List.getElem?_cons_succ, List.getElem?_cons_zero]; rfl
      case hs => kernel_rfl
      case hf => kernel_rfl
      case hr => kernel_rfl
      case hQ => exact fun _ _ _ h => h
      case hy => exact Or.inl ⟨by rfl, fun W => by first | (go_simp; done) | (go_simp; omega)⟩
      simp only [Act.put, List.setIfInBounds_toArray, List.set_cons_zero, List.set_cons_succ]
      refine wpAny_ready (rs := [3]) (by kernel_rfl) (by simp) ?_
      apply AllReady.cons
      case ho => simp only [List.getElem?_toArray, List.getElem?_cons_succ, List.getElem?_cons_zero]; rfl
      case h =>
        intro K hK
        rw [if_pos (by rfl)]
        refine wp_load_mid 74 _ rfl w.heap.size (1 + i * 36) rfl (caL 36 (bitV f)) _ hrg hu82 rfl hinf ?_
        refine hK _ _ ?_
        clear hK K
        try simp only [Act.put, List.setIfInBounds_toArray, List.set_cons_zero, List.set_cons_succ]
        refine wpAny_ready (rs := [12]) (by kernel_rfl) (by simp) ?_
        apply AllReady.cons
        case ho => simp only [List.getElem?_toArray, List.getElem?_cons_succ, List.getElem?_cons_zero]; rfl
        case hs => exact AllReady.nil
        intro K hK
        go_simp
        refine (HC.out _ _ (by first | exact hws | rfl)).mono ?_
        rintro e w4 ⟨rfl, b4⟩
        refine hK _ _ ?_
        clear hK K
        try simp only [Act.put, List.setIfInBounds_toArray, List.set_cons_zero, List.set_cons_succ]
        have hq := HMM.out w4 ((show Blk w0.drew _ _ _ _ from X1.out).next b4) ((show Blk w0.drew _ _ _ _ from X2.out).next b4) (Below.next (below_drewN HB.out 1) b4)
        have hth := hq.1
        have HQ := hid hq.2
        clear hq
        refine wpAny_ready (rs := [13]) (by kernel_rfl) (by simp) ?_
        apply AllReady.cons
        case ho => simp only [List.getElem?_toArray, List.getElem?_cons_succ, List.getElem?_cons_zero]; rfl
        case hs => exact AllReady.nil
        intro K hK
        go_simp
        refine hK _ _ ?_
        clear hK K
        try simp only [Act.put, List.setIfInBounds_toArray, List.set_cons_zero, List.set_cons_succ]
        refine wpAny_ready (rs := [14]) (by kernel_rfl) (by simp) ?_
        apply AllReady.cons
        case ho => simp only [List.getElem?_toArray, List.getElem?_cons_succ, List.getElem?_cons_zero]; rfl
        case hs => exact AllReady.nil
        intro K hK
        rw [if_pos (by rfl)]
        refine wp_store_mid 74 _ _ rfl w.heap.size (1 + i * 36) (caL 36 (bitV f2)).toArray rfl rfl (by rw [show (caL 36 (bitV f2)).toArray.size = 36 from caL_len 36 (bitV f2)]; exact hth) hinf2 (all_oneCell_toArray ho2) ?_
        refine hK _ _ ?_
        clear hK K
        try simp only [Act.put]
        refine wpAny_done (by kernel_rfl) ?_ _
        go_wp2_with (first | (refine wpList_load_row rfl 77 _ rfl w.heap.size rfl 77 _ (0, 0) _ HQ.out.1 Try.underlying77 rfl (by rw [ca_size]; exact Try.bdSize) ?_) | (refine wpList_store_row rfl 77 _ _ rfl (w.heap.size + 1) _ rfl rfl 77 _ HQ.out.2.1 (by rw [ca_size]; exact Try.bdSize) (by rw [ca_size, ca_size]) (brd_one _ _) ?_))
        have z3 := setRow_blk HQ.out.2.1 (brdV t F2)
        refine bodyPost_ret (v := bdV t F2) ?_ rfl ⟨rfl, setRow_below HQ.out.2.2 (by omega) _⟩
        exact results_cell_row rfl _ _ (w.heap.size + 1) 77 _ (0, 0) _ rfl z3 Try.underlying77 rfl (by rw [ca_size]; exact Try.bdSize)
      exact AllReady.nil
    exact AllReady.nil
  apply AllReady.cons
  case ho => simp only [List.getElem?_toArray, List.getElem?_cons_succ, List.getElem?_cons_zero]; rfl
  case h =>
    intro K hK
    go_simp
    refine hK _ _ ?_
    clear hK K
    try simp only [Act.put, List.setIfInBounds_toArray, List.set_cons_zero, List.set_cons_succ]
    apply wpAny_take (i := 11) (v := .int .i64 s)
    case hi => simp only [List.getElem?_toArray, List.getElem?_cons_succ, List.getElem?_cons_zero]; rfl
    case hs => kernel_rfl
    case hf => kernel_rfl
    case hr => kernel_rfl
    case hQ => exact fun _ _ _ h => h
    case hy => exact Or.inl ⟨by rfl, fun W => by first | (go_simp; done) | (go_simp; omega)⟩
    simp only [Act.put, List.setIfInBounds_toArray, List.set_cons_zero, List.set_cons_succ]
    refine wpAny_ready (rs := [3, 6]) (by kernel_rfl) (by simp) ?_
    apply AllReady.cons
    case ho => simp only [List.getElem?_toArray, List.getElem?_cons_succ, List.getElem?_cons_zero]; rfl
    case h =>
      intro K hK
      rw [if_pos (by rfl)]
      refine wp_load_mid 74 _ rfl w.heap.size (1 + i * 36) rfl (caL 36 (bitV f)) _ hrg hu82 rfl hinf ?_
      refine hK _ _ ?_
      clear hK K
      try simp only [Act.put, List.setIfInBounds_toArray, List.set_cons_zero, List.set_cons_succ]
      refine wpAny_ready (rs := [6]) (by kernel_rfl) (by simp) ?_
      apply AllReady.cons
      case ho => simp only [List.getElem?_toArray, List.getElem?_cons_succ, List.getElem?_cons_zero]; rfl
      case h =>
        intro K hK
        go_simp
        refine hK _ _ ?_
        clear hK K
        try simp only [Act.put, List.setIfInBounds_toArray, List.set_cons_zero, List.set_cons_succ]
        apply wpAny_take (i := 7) (v := .int .i64 r)
        case hi => simp only [List.getElem?_toArray, List.getElem?_cons_succ, List.getElem?_cons_zero]; rfl
        case hs => kernel_rfl
        case hf => kernel_rfl
        case hr => kernel_rfl
        case hQ => exact fun _ _ _ h => h
        case hy => exact Or.inl ⟨by rfl, fun W => by first | (go_simp; done) | (go_simp; omega)⟩
        simp only [Act.put, List.setIfInBounds_toArray, List.set_cons_zero, List.set_cons_succ]
        refine wpAny_ready (rs := [12]) (by kernel_rfl) (by simp) ?_
        apply AllReady.cons
        case ho => simp only [List.getElem?_toArray, List.getElem?_cons_succ, List.getElem?_cons_zero]; rfl
        case hs => exact AllReady.nil
        intro K hK
        go_simp
        refine (HC.out _ _ (by first | exact hws | rfl)).mono ?_
        rintro e w4 ⟨rfl, b4⟩
        refine hK _ _ ?_
        clear hK K
        try simp only [Act.put, List.setIfInBounds_toArray, List.set_cons_zero, List.set_cons_succ]
        have hq := HMM.out w4 ((show Blk w0.drew _ _ _ _ from X1.out).next b4) ((show Blk w0.drew _ _ _ _ from X2.out).next b4) (Below.next (below_drewN HB.out 1) b4)
        have hth := hq.1
        have HQ := hid hq.2
        clear hq
        refine wpAny_ready (rs := [13]) (by kernel_rfl) (by simp) ?_
        apply AllReady.cons
        case ho => simp only [List.getElem?_toArray, List.getElem?_cons_succ, List.getElem?_cons_zero]; rfl
        case hs => exact AllReady.nil
        intro K hK
        go_simp
        refine hK _ _ ?_
        clear hK K
        try simp only [Act.put, List.setIfInBounds_toArray, List.set_cons_zero, List.set_cons_succ]
        refine wpAny_ready (rs := [14]) (by kernel_rfl) (by simp) ?_
        apply AllReady.cons
        case ho => simp only [List.getElem?_toArray, List.getElem?_cons_succ, List.getElem?_cons_zero]; rfl
        case hs => exact AllReady.nil
        intro K hK
        rw [if_pos (by rfl)]
        refine wp_store_mid 74 _ _ rfl w.heap.size (1 + i * 36) (caL 36 (bitV f2)).toArray rfl rfl (by rw [show (caL 36 (bitV f2)).toArray.size = 36 from caL_len 36 (bitV f2)]; exact hth) hinf2 (all_oneCell_toArray ho2) ?_
        refine hK _ _ ?_
        clear hK K
        try simp only [Act.put]
        refine wpAny_done (by kernel_rfl) ?_ _
        go_wp2_with (first | (refine wpList_load_row rfl 77 _ rfl w.heap.size rfl 77 _ (0, 0) _ HQ.out.1 Try.underlying77 rfl (by rw [ca_size]; exact Try.bdSize) ?_) | (refine wpList_store_row rfl 77 _ _ rfl (w.heap.size + 1) _ rfl rfl 77 _ HQ.out.2.1 (by rw [ca_size]; exact Try.bdSize) (by rw [ca_size, ca_size]) (brd_one _ _) ?_))
        have z3 := setRow_blk HQ.out.2.1 (brdV t F2)
        refine bodyPost_ret (v := bdV t F2) ?_ rfl ⟨rfl, setRow_below HQ.out.2.2 (by omega) _⟩
        exact results_cell_row rfl _ _ (w.heap.size + 1) 77 _ (0, 0) _ rfl z3 Try.underlying77 rfl (by rw [ca_size]; exact Try.bdSize)
      exact AllReady.nil
    apply AllReady.cons
    case ho => simp only [List.getElem?_toArray, List.getElem?_cons_succ, List.getElem?_cons_zero]; rfl
    case h =>
      intro K hK
      go_simp
      refine hK _ _ ?_
      clear hK K
      try simp only [Act.put, List.setIfInBounds_toArray, List.set_cons_zero, List.set_cons_succ]
      apply wpAny_take (i := 7) (v := .int .i64 r)
      case hi => simp only [List.getElem?_toArray, List.getElem?_cons_succ, List.getElem?_cons_zero]; rfl
      case hs => kernel_rfl
      case hf => kernel_rfl
      case hr => kernel_rfl
      case hQ => exact fun _ _ _ h => h
      case hy => exact Or.inl ⟨by rfl, fun W => by first | (go_simp; done) | (go_simp; omega)⟩
      simp only [Act.put, List.setIfInBounds_toArray, List.set_cons_zero, List.set_cons_succ]
      refine wpAny_ready (rs := [3]) (by kernel_rfl) (by simp) ?_
      apply AllReady.cons
      case ho => simp only [List.getElem?_toArray, List.getElem?_cons_succ, List.getElem?_cons_zero]; rfl
      case h =>
        intro K hK
        rw [if_pos (by rfl)]
        refine wp_load_mid 74 _ rfl w.heap.size (1 + i * 36) rfl (caL 36 (bitV f)) _ hrg hu82 rfl hinf ?_
        refine hK _ _ ?_
        clear hK K
        try simp only [Act.put, List.setIfInBounds_toArray, List.set_cons_zero, List.set_cons_succ]
        refine wpAny_ready (rs := [12]) (by kernel_rfl) (by simp) ?_
        apply AllReady.cons
        case ho => simp only [List.getElem?_toArray, List.getElem?_cons_succ, List.getElem?_cons_zero]; rfl
        case hs => exact AllReady.nil
        intro K hK
        go_simp
        refine (HC.out _ _ (by first | exact hws | rfl)).mono ?_
        rintro e w4 ⟨rfl, b4⟩
        refine hK _ _ ?_
        clear hK K
        try simp only [Act.put, List.setIfInBounds_toArray, List.set_cons_zero, List.set_cons_succ]
        have hq := HMM.out w4 ((show Blk w0.drew _ _ _ _ from X1.out).next b4) ((show Blk w0.drew _ _ _ _ from X2.out).next b4) (Below.next (below_drewN HB.out 1) b4)
        have hth := hq.1
        have HQ := hid hq.2
        clear hq
        refine wpAny_ready (rs := [13]) (by kernel_rfl) (by simp) ?_
        apply AllReady.cons
        case ho => simp only [List.getElem?_toArray, List.getElem?_cons_succ, List.getElem?_cons_zero]; rfl
        case hs => exact AllReady.nil
        intro K hK
        go_simp
        refine hK _ _ ?_
        clear hK K
        try simp only [Act.put, List.setIfInBounds_toArray, List.set_cons_zero, List.set_cons_succ]
        refine wpAny_ready (rs := [14]) (by kernel_rfl) (by simp) ?_
        apply AllReady.cons
        case ho => simp only [List.getElem?_toArray, List.getElem?_cons_succ, List.getElem?_cons_zero]; rfl
        case hs => exact AllReady.nil
        intro K hK
        rw [if_pos (by rfl)]
        refine wp_store_mid 74 _ _ rfl w.heap.size (1 + i * 36) (caL 36 (bitV f2)).toArray rfl rfl (by rw [show (caL 36 (bitV f2)).toArray.size = 36 from caL_len 36 (bitV f2)]; exact hth) hinf2 (all_oneCell_toArray ho2) ?_
        refine hK _ _ ?_
        clear hK K
        try simp only [Act.put]
        refine wpAny_done (by kernel_rfl) ?_ _
        go_wp2_with (first | (refine wpList_load_row rfl 77 _ rfl w.heap.size rfl 77 _ (0, 0) _ HQ.out.1 Try.underlying77 rfl (by rw [ca_size]; exact Try.bdSize) ?_) | (refine wpList_store_row rfl 77 _ _ rfl (w.heap.size + 1) _ rfl rfl 77 _ HQ.out.2.1 (by rw [ca_size]; exact Try.bdSize) (by rw [ca_size, ca_size]) (brd_one _ _) ?_))
        have z3 := setRow_blk HQ.out.2.1 (brdV t F2)
        refine bodyPost_ret (v := bdV t F2) ?_ rfl ⟨rfl, setRow_below HQ.out.2.2 (by omega) _⟩
        exact results_cell_row rfl _ _ (w.heap.size + 1) 77 _ (0, 0) _ rfl z3 Try.underlying77 rfl (by rw [ca_size]; exact Try.bdSize)
      exact AllReady.nil
    exact AllReady.nil
  exact AllReady.nil
end Go.Proofs.Ytnhjofcmaodamaa
