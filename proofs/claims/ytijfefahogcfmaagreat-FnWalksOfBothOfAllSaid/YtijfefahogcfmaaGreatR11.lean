/-
  Several texts in one.
-/
import Derived.Test.YtijfefahogcfmaaGreatR06
import Derived.Test.YtijfefahogcfmaaGreatR10
import Derived.Test.YtijfefahogcfmaaGreatCB
import Derived.Deep.RegionHeld3
import Derived.Deep.CutRange
/-
  Cores for two sizes: hooks that no size divides, beads that go down, closed gaps: the same. The model's boIs.
-/
namespace Go.Proofs.YtijfefahogcfmaaGreat
open Go.RowKit

/-- Each first hook is less than t, or is one more t. -/
def dnB (xs : List Int) (t : Int) : Bool := (beadsL xs xs.length).all fun x => decide (x < t) || decide (x - t ∈ beadsL xs xs.length)
theorem mem_beads {xs : List Int} {x : Int} : x ∈ beadsL xs xs.length ↔ ∃ r, r < xs.length ∧ x = num xs r + xs.length := by
  unfold beadsL fnRow bead num
  simp only [List.mem_map, List.mem_range]
  constructor
  · rintro ⟨j, hj, rfl⟩
    refine ⟨xs.length - 1 - j, by omega, ?_⟩
    omega
  · rintro ⟨r, hr, rfl⟩
    refine ⟨xs.length - 1 - r, by omega, ?_⟩
    rw [show xs.length - 1 - (xs.length - 1 - r) = r by omega]
    omega
theorem bead_pos {xs : List Int} (G : Good xs) {x : Int} (h : x ∈ beadsL xs xs.length) : 1 ≤ x ∧ x < 60 := by
  obtain ⟨r, hr, rfl⟩ := mem_beads.1 h
  have h1 := G.pos r hr
  have h2 := G.le r hr
  have h3 := G.len
  unfold num; omega
theorem num_high {xs : List Int} {r : Nat} (h : xs.length ≤ r) : num xs r = -(r : Int) - 1 := by
  unfold num
  rw [List.getD_eq_getElem?_getD, List.getElem?_eq_none (by omega)]
  simp
theorem dnB_iff {xs : List Int} {t : Int} (ht : 0 < t) : dnB xs t = true ↔ Dn xs t := by
  unfold dnB
  rw [List.all_eq_true]
  constructor
  · intro h r
    by_cases hr : r < xs.length
    · have hm : num xs r + xs.length ∈ beadsL xs xs.length := mem_beads.2 ⟨r, hr, rfl⟩
      have h1 := h _ hm
      simp only [Bool.or_eq_true, decide_eq_true_eq] at h1
      rcases h1 with h1 | h1
      · refine ⟨(t - num xs r - 1).toNat, ?_⟩
        rw [num_high (by omega)]
        omega
      · obtain ⟨s, hs, e⟩ := mem_beads.1 h1
        exact ⟨s, by omega⟩
    · refine ⟨(t + r).toNat, ?_⟩
      rw [num_high (by omega), num_high (by omega)]
      omega
  · intro h x hx
    obtain ⟨r, hr, e⟩ := mem_beads.1 hx
    obtain ⟨s, hs⟩ := h r
    simp only [Bool.or_eq_true, decide_eq_true_eq]
    by_cases h1 : x < t
    · exact .inl h1
    · refine .inr (mem_beads.2 ⟨s, ?_, by omega⟩)
      by_cases hsl : s < xs.length
      · exact hsl
      · rw [num_high (by omega)] at hs
        omega
theorem hook_dvd_no {xs : List Int} {t : Int} (G : Good xs) (ht : 0 < t) (hd : dnB xs t = true) {r c : Nat} (hr : r < xs.length) (hc : c < ((hooksR xs).getD r []).length) : ¬ Int.tmod (((hooksR xs).getD r []).getD c 0) t = 0 := by
  intro h
  obtain ⟨e, hlt⟩ := hook_at hr hc
  rw [e] at h
  exact dn_no_div G ht ((dnB_iff ht).1 hd) r c hr hlt (Int.emod_eq_zero_of_dvd (Int.dvd_of_tmod_eq_zero h))
theorem hook_dvd_yes {xs : List Int} {t : Int} (G : Good xs) (ht : 0 < t) (h : ∀ r, r < xs.length → ∀ c, c < ((hooksR xs).getD r []).length → ¬ Int.tmod (((hooksR xs).getD r []).getD c 0) t = 0) : dnB xs t = true := by
  refine (dnB_iff ht).2 (no_hook_dn G ht fun r c hr hc e => ?_)
  have hin := hook_in hr hc
  refine h r hr c hin ?_
  rw [(hook_at hr hin).1, e, Int.tmod_self]

/-! Closed gaps. -/
theorem sumA_ij {a b x : Int} (hb : 0 < b) (h : sumA a b x = true) : ∃ i j : Nat, x = i * a + j * b := by
  unfold sumA at h
  rw [List.any_eq_true] at h
  obtain ⟨i, -, h⟩ := h
  simp only [Bool.and_eq_true, decide_eq_true_eq, beq_iff_eq] at h
  obtain ⟨h1, h2⟩ := h
  have h3 := Int.mul_ediv_add_emod (x - i * a) b
  rw [h2] at h3
  have h4 : 0 ≤ (x - i * a) / b := Int.ediv_nonneg (by omega) (by omega)
  refine ⟨i, ((x - i * a) / b).toNat, ?_⟩
  rw [Int.toNat_of_nonneg h4, Int.mul_comm ((x - i * a) / b) b]
  omega
theorem no_sum {xs : List Int} {a b : Int} (G : Good xs) (ha : 0 < a) (hb : 0 < b) (hda : dnB xs a = true) (hdb : dnB xs b = true) : ∀ (i j : Nat) (y : Int), y ∈ beadsL xs xs.length → y = i * a + j * b → False := by
  have stp : ∀ t, dnB xs t = true → ∀ y, y ∈ beadsL xs xs.length → t ≤ y → y - t ∈ beadsL xs xs.length := by
    intro t ht y hy hle
    have := List.all_eq_true.1 ht y hy
    simp only [Bool.or_eq_true, decide_eq_true_eq] at this
    rcases this with h | h
    · omega
    · exact h
  intro i
  induction i with
  | zero =>
    intro j
    induction j with
    | zero => intro y hy e; have := (bead_pos G hy).1; simp at e; omega
    | succ j ih =>
      intro y hy e
      have e2 : y = j * b + b := by rw [e, Int.natCast_add, Int.add_mul]; simp
      have hnn : 0 ≤ (j : Int) * b := Int.mul_nonneg (by omega) (by omega)
      exact ih (y - b) (stp b hdb y hy (by omega)) (by simp; omega)
  | succ i ih =>
    intro j y hy e
    have e2 : y = i * a + a + j * b := by rw [e, Int.natCast_add, Int.add_mul]; simp
    have h1 : 0 ≤ (j : Int) * b := Int.mul_nonneg (by omega) (by omega)
    have h2 : 0 ≤ (i : Int) * a := Int.mul_nonneg (by omega) (by omega)
    exact ih j (y - a) (stp a hda y hy (by omega)) (by omega)
theorem big_sum {a b x : Int} (hs : sz a b = true) (h1 : a * b ≤ x) (h2 : x < 64) : sumA a b x = true := by
  have := sz_nat (p := fun a b => ∀ x < 64, a * b ≤ ((x : Nat) : Int) → sumA a b x = true) (by decide +kernel) hs
  obtain ⟨ha, hb, -⟩ := sz_iff.1 hs
  have hp := (ab49 ha hb).1
  have h3 := this x.toNat (by omega)
  rw [Int.toNat_of_nonneg (by omega)] at h3
  exact h3 h1
theorem self_sum {a b : Int} (hs : sz a b = true) : sumA a b a = true ∧ sumA a b b = true := sz_nat (p := fun a b => sumA a b a = true ∧ sumA a b b = true) (by decide +kernel) hs
theorem beads_up {xs : List Int} (G : Good xs) {j : Nat} (hj : j + 1 < xs.length) : (beadsL xs xs.length).getD j 0 < (beadsL xs xs.length).getD (j + 1) 0 := by
  unfold beadsL
  rw [fnRow_get _ _ _ (by omega), fnRow_get _ _ _ hj]
  unfold bead
  have := G.down (xs.length - 1 - (j + 1)) (by omega)
  rw [show xs.length - 1 - (j + 1) + 1 = xs.length - 1 - j by omega] at this
  omega
theorem both_eq {xs : List Int} {a b : Int} (G : Good xs) (hs : sz a b = true) : clB a b (beadsL xs xs.length) = (dnB xs a && dnB xs b) := by
  obtain ⟨ha, hb, -⟩ := sz_iff.1 hs
  rw [Bool.eq_iff_iff, Bool.and_eq_true]
  have hl := beadsL_len xs xs.length
  constructor
  · intro h
    have key : ∀ t, (t = a ∨ t = b) → dnB xs t = true := by
      intro t ht
      refine List.all_eq_true.2 fun x hx => ?_
      obtain ⟨j, hj, e⟩ := List.getElem_of_mem hx
      have hg : (beadsL xs xs.length).getD j 0 = x := by rw [List.getD_eq_getElem?_getD, List.getElem?_eq_getElem hj]; exact e
      obtain ⟨-, h2, h3, h4⟩ := okC_parts.1 (clB_iff.1 h j hj)
      rw [hg] at h2 h3 h4
      obtain ⟨g1, g2, g3⟩ := mem_gapsL.1 h2
      have hne : x ≠ t := by
        rintro rfl
        obtain ⟨s1, s2⟩ := self_sum hs
        rcases ht with rfl | rfl
        · rw [s1] at g3; cases g3
        · rw [s2] at g3; cases g3
      have h5 : hbB (beadsL xs xs.length) x t = true := by
        rcases ht with rfl | rfl
        · exact h3
        · exact h4
      simp only [hbB, Bool.or_eq_true, decide_eq_true_eq] at h5 ⊢
      rcases h5 with h5 | h5
      · exact .inl (by omega)
      · exact .inr h5
    exact ⟨key a (.inl rfl), key b (.inr rfl)⟩
  · rintro ⟨hda, hdb⟩
    refine clB_iff.2 fun j hj => okC_parts.2 ⟨?_, ?_, ?_⟩
    · rcases Nat.eq_zero_or_pos j with h0 | h0
      · exact .inl h0
      · have := beads_up G (j := j - 1) (by omega)
        rw [show j - 1 + 1 = j by omega] at this
        exact .inr this
    · have hm : (beadsL xs xs.length).getD j 0 ∈ beadsL xs xs.length := by rw [List.getD_eq_getElem?_getD, List.getElem?_eq_getElem hj]; exact List.getElem_mem hj
      obtain ⟨p1, p2⟩ := bead_pos G hm
      have hno : sumA a b ((beadsL xs xs.length).getD j 0) = false := by
        cases e : sumA a b ((beadsL xs xs.length).getD j 0)
        · rfl
        · obtain ⟨i, k, e2⟩ := sumA_ij (by omega) e
          exact (no_sum G (by omega) (by omega) hda hdb i k _ hm e2).elim
      refine mem_gapsL.2 ⟨p1, ?_, hno⟩
      by_cases h : a * b ≤ (beadsL xs xs.length).getD j 0
      · rw [big_sum hs h (by omega)] at hno; cases hno
      · omega
    · have hm : (beadsL xs xs.length).getD j 0 ∈ beadsL xs xs.length := by rw [List.getD_eq_getElem?_getD, List.getElem?_eq_getElem hj]; exact List.getElem_mem hj
      have key : ∀ t, dnB xs t = true → hbB (beadsL xs xs.length) ((beadsL xs xs.length).getD j 0) t = true := by
        intro t ht
        have := List.all_eq_true.1 ht _ hm
        simp only [hbB, Bool.or_eq_true, decide_eq_true_eq] at this ⊢
        rcases this with h | h
        · exact .inl (by omega)
        · exact .inr h
      exact ⟨key a hda, key b hdb⟩
end Go.Proofs.YtijfefahogcfmaaGreat
/-
  Contracts: bothCoreOf, IsBothCore, AreClosedHooks of the program.
-/
namespace Go.Proofs.YtijfefahogcfmaaGreat
open Go.RowKit

set_option maxRecDepth 100000 in
set_option maxHeartbeats 2000000 in
theorem bothCoreOf_no (A : Option Addr) (c : Nat) (xs : List Int) (a b : Int) (w : World) (hl : xs.length ≤ 1048576) (hc : Cells w A xs) (hno : (good xs && sz a b) = false) :
    Calls Tryz.prog 14 #[.slice A xs.length c, .int .i64 a, .int .i64 b] w fun e w' => e = .returned (.tuple #[.agg #[.slice none 0 0, .int .i64 0, .int .i64 0], .bool false, .bool false]) ∧ Below w.heap.size w w' := by
  have y0 := Box3.new w 35 (.slice none 0 0) (.int .i64 0) (.int .i64 0)
  have b0 : Below w.heap.size w (w.alloc (.cells #[.slice none 0 0, .int .i64 0, .int .i64 0] 35)) := (Below.refl _ _).alloc (Nat.le_refl _) _
  have HF := hid fun W (h : Cells W A xs) => FirstHooks_b A c xs W hl h _ rfl
  cases hg : good xs
  · rw [hg] at HF
    clear hno hg
    obtain ⟨f, hf⟩ : ∃ f, f = firstF xs := ⟨_, rfl⟩
    rw [← hf] at HF
    clear hf
    go_enter Tryz.func14, Tryz.ntmps14
    go_wp2_with fail
    refine (HF.out _ (hc.below b0)).mono ?_
    rintro e w1 ⟨A1, c1, rfl, o1, b1⟩
    have y1 := y0.next b1
    have f0 := y1.froz 0
    have e0 := y1.cell0
    have y2 := y1.set0 (.slice none 0 0)
    have f1 := y2.froz 1
    have e1 := y2.cell1
    have y3 := y2.set1 (.int .i64 0)
    have f2 := y3.froz 2
    have e2 := y3.cell2
    have y4 := y3.set2 (.int .i64 0)
    clear y0 y1 y2 y3
    go_wp2_with fail
    refine bodyPost_ret (results_cell3 rfl _ _ _ w.heap.size 35 #[.slice none 0 0, .int .i64 0, .int .i64 0] (0, 0) _ rfl y4 Tryz.underlying35 rfl (by kernel_rfl)) rfl ⟨rfl, (((Below.next b0 b1).setCell (Nat.le_refl _) _).setCell (Nat.le_refl _) _).setCell (Nat.le_refl _) _⟩
  · have hz : sz a b = false := by rw [hg] at hno; simpa using hno
    rw [hg] at HF
    have HZ := hid hz
    clear hno hg hz
    obtain ⟨f, hf⟩ : ∃ f, f = firstF xs := ⟨_, rfl⟩
    rw [← hf] at HF
    clear hf
    go_enter Tryz.func14, Tryz.ntmps14
    go_wp2_with fail
    refine (HF.out _ (hc.below b0)).mono ?_
    rintro e w1 ⟨A1, c1, rfl, o1, b1⟩
    go_wp2_with fail
    refine (AreSizes_b _ _ _ _ HZ.out).mono ?_
    rintro e w2 ⟨rfl, b2⟩
    have B2 := Below.next b1 b2
    have y1 := y0.next B2
    have f0 := y1.froz 0
    have e0 := y1.cell0
    have y2 := y1.set0 (.slice none 0 0)
    have f1 := y2.froz 1
    have e1 := y2.cell1
    have y3 := y2.set1 (.int .i64 0)
    have f2 := y3.froz 2
    have e2 := y3.cell2
    have y4 := y3.set2 (.int .i64 0)
    clear y0 y1 y2 y3
    go_wp2_with fail
    refine bodyPost_ret (results_cell3 rfl _ _ _ w.heap.size 35 #[.slice none 0 0, .int .i64 0, .int .i64 0] (0, 0) _ rfl y4 Tryz.underlying35 rfl (by kernel_rfl)) rfl ⟨rfl, (((Below.next b0 B2).setCell (Nat.le_refl _) _).setCell (Nat.le_refl _) _).setCell (Nat.le_refl _) _⟩

set_option maxRecDepth 100000 in
set_option maxHeartbeats 8000000 in
theorem bothCoreOf_yes (A : Option Addr) (c : Nat) (xs : List Int) (a b : Int) (w : World) (hl : xs.length ≤ 1048576) (hc : Cells w A xs) (hg : good xs = true) (hs : sz a b = true) :
    Calls Tryz.prog 14 #[.slice A xs.length c, .int .i64 a, .int .i64 b] w fun e w' => ∃ A' c', e = .returned (.tuple #[.agg #[.slice A' xs.length c', .int .i64 a, .int .i64 b], .bool (clB a b (beadsL xs xs.length)), .bool true]) ∧ Own w' w.heap.size A' c' (beadsL xs xs.length) ∧ Below w.heap.size w w' := by
  have y0 := hid (Box3.new w 35 (.slice none 0 0) (.int .i64 0) (.int .i64 0))
  have b0 : Below w.heap.size w (w.alloc (.cells #[.slice none 0 0, .int .i64 0, .int .i64 0] 35)) := (Below.refl _ _).alloc (Nat.le_refl _) _
  have hbl := beadsL_len xs xs.length
  have hl30 := ((good_iff xs).1 hg).len
  have HF := hid fun W (h : Cells W A xs) => FirstHooks_b A c xs W hl h _ hg
  rw [show firstF xs = beadsL xs xs.length by simp [firstF, hg], hbl] at HF
  have HC := hid fun A c W (h : Cells W A (beadsL xs xs.length)) => isClosed_any A c a b (beadsL xs xs.length) W hs (by omega) h
  rw [hbl] at HC
  obtain ⟨L, hL⟩ : ∃ L, L = beadsL xs xs.length := ⟨_, rfl⟩
  obtain ⟨R, hR⟩ : ∃ R, R = clB a b (beadsL xs xs.length) := ⟨_, rfl⟩
  rw [← hR] at HC ⊢
  rw [← hL] at HF HC hbl ⊢
  have HZ := hid hs
  have HBL := hid hbl
  clear hL hR hg hs hbl
  obtain ⟨n, hn⟩ : ∃ n, n = xs.length := ⟨_, rfl⟩
  go_enter Tryz.func14, Tryz.ntmps14
  go_wp2_with fail
  refine (HF.out _ (hc.below b0)).mono ?_
  rintro e w1 ⟨A1, c1, rfl, o1, b1⟩
  go_wp2_with fail
  refine (AreSizes_b _ _ _ _ HZ.out).mono ?_
  rintro e w2 ⟨rfl, b2⟩
  have Y2 := hid (y0.out.next (Below.next b1 b2))
  have O2 := hid (o1.below b2)
  have B2 := Below.next b0 (Below.next b1 b2)
  have ok1 := o1.block
  have b1s := b1.size
  have b2s := b2.size
  clear o1 hc HF HZ
  have Z3 := hid (Box3.new w2 35 (.slice A1 xs.length c1) (.int .i64 a) (.int .i64 b))
  have hgw : w.heap.size < w2.heap.size := Y2.out.lt
  have Y5 := hid (Y2.out.alloc (.cells #[.slice A1 xs.length c1, .int .i64 a, .int .i64 b] 35))
  have B5 := B2.alloc B2.size (.cells #[.slice A1 xs.length c1, .int .i64 a, .int .i64 b] 35)
  have O5 := hid (O2.out.below ((Below.refl w2.heap.size w2).alloc (Nat.le_refl _) (.cells #[.slice A1 xs.length c1, .int .i64 a, .int .i64 b] 35)))
  go_upto_region 5 with fail
  obtain ⟨W, hW⟩ : ∃ W, W = w2.alloc (.cells #[.slice A1 xs.length c1, .int .i64 a, .int .i64 b] 35) := ⟨_, rfl⟩
  rw [← hW] at Z3 Y5 B5 O5 ⊢
  clear hW
  have hgz : w.heap.size ≠ w2.heap.size := by omega
  have k1 : W.drew.cell? ⟨w2.heap.size, 0, none⟩ = some (.slice A1 xs.length c1) := Z3.out.cell0
  have k2 : W.drew.cell? ⟨w2.heap.size, 1, none⟩ = some (.int .i64 a) := Z3.out.cell1
  have k3 : W.drew.cell? ⟨w2.heap.size, 2, none⟩ = some (.int .i64 b) := Z3.out.cell2
  have yd : Box3 W.drew w.heap.size 35 (.slice none 0 0) (.int .i64 0) (.int .i64 0) := Y5.out
  have zd : Box3 W.drew w2.heap.size 35 (.slice A1 xs.length c1) (.int .i64 a) (.int .i64 b) := Z3.out
  have bd : Below w.heap.size w W.drew := below_drewN B5 1
  have od : Own W.drew (w.alloc (.cells #[.slice none 0 0, .int .i64 0, .int .i64 0] 35)).heap.size A1 c1 L := O5.out
  have hcd : Cells W.drew A1 L := od.cells
  have YD := hid yd; have OD := hid od; have ZD := hid zd
  have f0 := yd.froz 0
  have g0 := yd.cell0
  have y1 := yd.set0 (.slice A1 xs.length c1)
  have f1 := y1.froz 1
  have g1 := y1.cell1
  have y2 := y1.set1 (.int .i64 a)
  have f2 := y2.froz 2
  have g2 := y2.cell2
  have y3 := y2.set2 (.int .i64 b)
  have zz := ((zd.other (g' := w.heap.size) (k := 0) hgz.symm (.slice A1 xs.length c1)).other (g' := w.heap.size) (k := 1) hgz.symm (.int .i64 a)).other (g' := w.heap.size) (k := 2) hgz.symm (.int .i64 b)
  have m1 := zz.cell0
  have m2 := zz.cell1
  have m3 := zz.cell2
  have Y3 := hid y3
  clear zz zd yd y1 y2 y3 od
  go_region_with (go_at_call 36; refine (HC.out _ _ _ hcd).mono ?_; rintro e w8 ⟨rfl, b8⟩; have y8 := YD.out.next b8; have z8 := ZD.out.next b8; have n0 := z8.cell0; have n1 := z8.cell1; have n2 := z8.cell2; have f3 := y8.froz 0; have g3 := y8.cell0; have y9 := y8.set0 (.slice A1 xs.length c1); have f4 := y9.froz 1; have g4 := y9.cell1; have y10 := y9.set1 (.int .i64 a); have f5 := y10.froz 2; have g5 := y10.cell2; have y11 := y10.set2 (.int .i64 b))
  all_goals go_wp2_with fail
  all_goals
    refine bodyPost_ret (results_cell3 rfl _ _ _ w.heap.size 35 #[.slice A1 xs.length c1, .int .i64 a, .int .i64 b] (0, 0) _ rfl y11 Tryz.underlying35 rfl (by kernel_rfl)) rfl ⟨A1, c1, rfl, ((OD.out.below b8).keep fun q hq _ => ?_).more (by simp), (((Below.next bd b8).setCell (Nat.le_refl _) _).setCell (Nat.le_refl _) _).setCell (Nat.le_refl _) _⟩
    have hq1 := (ok1 q hq).1
    simp at hq1
    exact ((Below.heap_setCell _ _ _ q (by simp; omega)).trans (Below.heap_setCell _ _ _ q (by simp; omega))).trans (Below.heap_setCell _ _ _ q (by simp; omega))

def ibB (xs : List Int) (a b : Int) : Bool := (good xs && sz a b) && (dnB xs a && dnB xs b)
def ibOk (xs : List Int) (a b : Int) : Bool := good xs && sz a b
def acB (xs : List Int) (a b : Int) : Bool := sz a b && clB a b xs
end Go.Proofs.YtijfefahogcfmaaGreat
