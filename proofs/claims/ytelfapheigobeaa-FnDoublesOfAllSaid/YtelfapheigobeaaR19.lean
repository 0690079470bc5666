/-
  Several texts in one.
-/
import Derived.Test.YtelfapheigobeaaBeadMath
import Derived.Test.YtelfapheigobeaaR08
import Derived.Test.YtelfapheigobeaaR10
import Derived.Test.YtelfapheigobeaaR11
import Derived.Test.YtelfapheigobeaaR14
import Derived.Test.YtelfapheigobeaaR18
/-
  Beads of partitions: their parts, and that they are beads.
-/
namespace Go.Proofs.Ytelfapheigobeaa

theorem getD_out {p : List Int} {k : Nat} (h : p.length ≤ k) : p.getD k 0 = 0 := by rw [List.getD_eq_getElem?_getD, List.getElem?_eq_none h]; rfl
theorem bpk_beads {p : List Int} (G : Good p) {n : Nat} : ∀ k, k ≤ n → bpk (beadsL p n) k = p.take k
  | 0, _ => rfl
  | k + 1, h => by
    have ih := bpk_beads G (n := n) k (by omega)
    have hl := beadsL_len p n
    have hx : (beadsL p n).getD (n - 1 - k) 0 = bead p n (n - 1 - k) := fnRow_get _ _ _ (by omega)
    have hb : bead p n (n - 1 - k) = ((n - 1 - k : Nat) : Int) + p.getD k 0 := by unfold bead; rw [show n - 1 - (n - 1 - k) = k by omega]
    by_cases hk : k < p.length
    · have h1 := G.pos k hk
      rw [bpk_yes (i := n - 1 - k) (x := bead p n (n - 1 - k)) (by rw [hl]) hx.symm (by rw [hb]; omega), ih, take_snoc p k hk _ rfl, hb]
      congr 2; omega
    · have h0 := getD_out (p := p) (k := k) (by omega)
      rw [bpk_no (i := n - 1 - k) (x := bead p n (n - 1 - k)) (by rw [hl]) hx.symm (by rw [hb]; omega), ih, List.take_of_length_le (by omega), List.take_of_length_le (by omega)]
theorem partsL_beads {p : List Int} (G : Good p) {n : Nat} (h : p.length ≤ n) : partsL (beadsL p n) = p := by
  unfold partsL; rw [bpk_beads G _ (by rw [beadsL_len]; exact Nat.le_refl _), beadsL_len, List.take_of_length_le h]
theorem part_down {p : List Int} (G : Good p) (i : Nat) : p.getD (i + 1) 0 ≤ p.getD i 0 := by
  by_cases h : i + 1 < p.length
  · exact G.down i h
  · rw [getD_out (k := i + 1) (by omega)]
    by_cases h2 : i < p.length
    · have := G.pos i h2; omega
    · rw [getD_out (k := i) (by omega)]; omega
/-- The beads of a partition are beads. -/
theorem beadsL_goodB {p : List Int} (G : Good p) {n : Nat} (h : p.length ≤ n) (hn : n ≤ 40) : goodB (beadsL p n) = true := by
  refine goodB_iff.2 ⟨by rw [beadsL_len]; exact hn, ⟨fun j hj => ?_, fun j hj => ?_⟩, by rw [partsL_beads G h]; exact G⟩
  · rw [beadsL_len] at hj
    rw [show (beadsL p n).getD j 0 = bead p n j from fnRow_get _ _ _ hj]
    have := bead_bd G n j hj hn; omega
  · rw [beadsL_len] at hj
    rw [show (beadsL p n).getD j 0 = bead p n j from fnRow_get _ _ _ (by omega), show (beadsL p n).getD (j + 1) 0 = bead p n (j + 1) from fnRow_get _ _ _ hj]
    unfold bead
    have := part_down G (n - 1 - (j + 1))
    rw [show n - 1 - (j + 1) + 1 = n - 1 - j by omega] at this
    omega
end Go.Proofs.Ytelfapheigobeaa
/-
  Contracts: CoreOf and WeightOf of the program and of the model.
-/
namespace Go.Proofs.Ytelfapheigobeaa
open Go.RowKit

def coF (xs : List Int) (t : Int) : List Int := if crB xs t then coreL t.toNat xs else []
def coN (xs : List Int) (t : Int) : Int := if crB xs t then wgtN t.toNat xs else 0
theorem co_no {xs : List Int} {t : Int} (h : crB xs t = false) : coF xs t = [] ∧ coN xs t = 0 := by simp [coF, coN, h]
theorem co_yes {xs : List Int} {t : Nat} (h : crB xs t = true) : coF xs t = coreL t xs ∧ coN xs t = wgtN t xs := by simp [coF, coN, h]
theorem coreL_len {t : Nat} (ht : 0 < t) (p : List Int) : (coreL t p).length ≤ p.length := by
  unfold coreL
  have := partsL_len (dwL t (beadsL p p.length))
  rw [dwL_len ht, beadsL_len] at this; exact this
theorem bound_CoreOf (xs : List Int) (t : Int) : (coF xs t).length ≤ 1048576 := by
  unfold coF; split
  · rename_i h
    obtain ⟨hg, ht⟩ := crB_good h
    have := inB_iff.1 ht
    have := coreL_len (t := t.toNat) (by omega) xs
    have := ((good_iff xs).1 hg).len
    omega
  · simp
theorem aba_own {xs : List Int} {t : Int} : abaOk xs t xs.length = crB xs t := by
  unfold abaOk beadsOk crB
  cases hg : good xs
  · simp
  · have hl := ((good_iff xs).1 hg).len
    have : inB xs.length 40 xs.length = true := inB_iff.2 (by omega)
    rw [this]; cases inB 2 6 t <;> rfl

set_option maxRecDepth 100000 in
set_option maxHeartbeats 2000000 in
theorem pushedDown_any (A : Option Addr) (c : Nat) (xs : List Int) (t : Int) (w : World) (hl : xs.length ≤ 1048576) (hc : Cells w A xs) (h64 : I64 t) :
    Calls Try.prog 23 #[.slice A xs.length c, .int .i64 t] w fun e w' => ∃ A' c', e = .returned (.tuple #[.slice A' (coF xs t).length c', .int .i64 (coN xs t), .bool (crB xs t)]) ∧ Own w' w.heap.size A' c' (coF xs t) ∧ Below w.heap.size w w' := by
  have HE := hid fun W (h : Cells W A xs) => impl_AbacusOf A c xs t xs.length W hl h h64 (by unfold I64; omega)
  rw [aba_own] at HE
  cases hcr : crB xs t
  · obtain ⟨e1, e2⟩ := co_no hcr
    rw [e1, e2]
    rw [hcr] at HE
    clear hcr e1 e2
    go_enter Try.func23, Try.ntmps23
    go_wp2_with fail
    refine (HE.out _ hc).mono ?_
    rintro e w1 ⟨A1, c1, rfl, o1, b1⟩
    go_wp2_with fail
    go_ret3
    exact ⟨none, 0, rfl, own_nil _ _, b1.alloc b1.size _⟩
  obtain ⟨hg, ht⟩ := crB_good hcr
  have hin := inB_iff.1 ht
  obtain ⟨t, rfl⟩ : ∃ m : Nat, t = m := ⟨t.toNat, by omega⟩
  have ht2 : 2 ≤ t ∧ t ≤ 6 := by omega
  have G := (good_iff xs).1 hg
  have h30 := G.len
  obtain ⟨e1, e2⟩ := co_yes hcr
  rw [e1, e2]
  have hfl : abaF xs t xs.length = beadsL xs xs.length := by
    unfold abaF; rw [aba_own, hcr, if_pos rfl]; unfold beadsF
    rw [if_pos ⟨hg, by omega, by omega⟩]; simp
  have hR : abaR xs t xs.length = t := by unfold abaR; rw [aba_own, hcr]; rfl
  rw [hfl, hR, hcr] at HE
  have hev : goodB (beadsL xs xs.length) = true := beadsL_goodB G (Nat.le_refl _) (by omega)
  have hab : isAba t (beadsL xs xs.length) = true := by simp [isAba, ht, hev]
  obtain ⟨p1, p2, p3⟩ := ps_yes hab
  have GB := goodB_iff.1 (dw_good ht2 (goodB_iff.1 hev))
  obtain ⟨L, hL⟩ : ∃ L, L = beadsL xs xs.length := ⟨_, rfl⟩
  have hc1 : coreL t xs = partsL (dwL t L) := by rw [hL]; rfl
  have hc2 : wgtN t xs = dwM t L := by rw [hL]; rfl
  rw [hc1, hc2]
  rw [← hL] at HE hab p1 p2 p3 GB
  have hL40 : L.length ≤ 40 := by rw [hL, beadsL_len]; omega
  have HPU := hid fun A1 c1 W (h : Cells W A1 L) => impl_PushDown t A1 c1 L W (by omega) h
  rw [p1, p2, p3, hab] at HPU
  obtain ⟨D, hD⟩ : ∃ D, D = dwL t L := ⟨_, rfl⟩
  obtain ⟨M, hM⟩ : ∃ M, M = dwM t L := ⟨_, rfl⟩
  rw [← hD, ← hM] at HPU ⊢
  rw [← hD] at GB
  have hD40 := GB.len
  have HPA := hid fun A1 c1 W (h : Cells W A1 D) => partsOf_any A1 c1 D W (by omega) GB.rise.bd h
  clear hcr e1 e2 hfl hR hev hab p1 p2 p3 hL hc1 hc2 hD hM GB hin ht G hg
  go_enter Try.func23, Try.ntmps23
  go_wp2_with fail
  refine (HE.out _ hc).mono ?_
  rintro e w1 ⟨A1, c1, rfl, o1, b1⟩
  have y1 := Box2.new w1 41 (.int .i64 t) (.slice A1 L.length c1)
  have hb1 : Below w.heap.size w (w1.alloc (.cells #[.int .i64 t, .slice A1 L.length c1] 41)) := b1.alloc b1.size _
  have f1 := y1.cell0
  have f2 := y1.cell1
  have hsz := hb1.size
  have o2 := o1.cells.below (w' := w1.alloc (.cells #[.int .i64 t, .slice A1 L.length c1] 41)) ((Below.refl _ _).alloc (Nat.le_refl _) _)
  have O2 := hid o2
  clear o1 o2
  go_wp2_with fail
  refine (HPU.out _ _ _ O2.out).mono ?_
  rintro e w2 ⟨A2, c2, rfl, o3, b2⟩
  have B2 := Below.next hb1 b2
  have y2 := Box2.new w2 41 (.int .i64 t) (.slice A2 D.length c2)
  have hb2 : Below w.heap.size w (w2.alloc (.cells #[.int .i64 t, .slice A2 D.length c2] 41)) := B2.alloc B2.size _
  have f3 := y2.cell1
  have O3 := hid (o3.cells.below (w' := w2.alloc (.cells #[.int .i64 t, .slice A2 D.length c2] 41)) ((Below.refl _ _).alloc (Nat.le_refl _) _))
  have hsz2 := hb2.size
  clear f1 f2 o3 y1 y2
  go_wp2_with fail
  refine (HPA.out _ _ _ O3.out).mono ?_
  rintro e w3 ⟨A3, c3, rfl, o4, b3⟩
  have HO := hid (o4.more hsz2)
  have HB := hid (Below.next hb2 b3)
  clear o4
  go_wp2_with fail
  go_ret3
  exact ⟨A3, c3, rfl, HO.out, HB.out⟩

set_option maxHeartbeats 1000000 in
theorem impl_CoreOf (A : Option Addr) (c : Nat) (xs : List Int) (t : Int) (w : World) (hl : xs.length ≤ 1048576) (hc : Cells w A xs) (h64 : I64 t) :
    Calls Try.prog 10 #[.slice A xs.length c, .int .i64 t] w fun e w' => ∃ A' c', e = .returned (.tuple #[.slice A' (coF xs t).length c', .bool (crB xs t)]) ∧ Own w' w.heap.size A' c' (coF xs t) ∧ Below w.heap.size w w' := by
  have HE := hid (pushedDown_any A c xs t w hl hc h64)
  obtain ⟨F, hF⟩ : ∃ F, F = coF xs t := ⟨_, rfl⟩
  obtain ⟨b, hb⟩ : ∃ b, b = crB xs t := ⟨_, rfl⟩
  rw [← hF, ← hb] at HE ⊢
  clear hF hb
  go_enter Try.func10, Try.ntmps10
  go_wp2_with fail
  refine HE.out.mono ?_
  rintro e w1 ⟨A1, c1, rfl, o1, b1⟩
  go_wp2_with fail
  go_ret2
  exact ⟨A1, c1, rfl, o1, b1⟩
end Go.Proofs.Ytelfapheigobeaa
