/-
  Contracts: RankPartition of the model.
-/
import Derived.Test.YthlkfkcaaimceaaRank
namespace Go.Proofs.Ythlkfkcaaimceaa
open Go.RowKit

/-- The model's table stands at A: row m, column j holds T m j. -/
structure RowsAt (w : World) (b o : Nat) (P : Nat → Option Addr) (C : Nat → Nat) (N : Nat) : Prop where
  top : ∀ m, m ≤ N → w.cell? ⟨b, o + m, none⟩ = some (.slice (P m) (N + 1) (C m))
  row : ∀ m, m ≤ N → ∃ b' o', P m = some ⟨b', o', none⟩ ∧ ∀ j, j ≤ N → w.cell? ⟨b', o' + j, none⟩ = some (.int .i64 (T m j))
theorem RowsAt.of {w : World} {B S : Nat} {A : Option Addr} {c N : Nat} (h : Own2 w B S A c (rowsT N (N + 1))) : ∃ b o P C, A = some ⟨b, o, none⟩ ∧ RowsAt w b o P C N := by
  obtain ⟨P, C, h1, h2⟩ := h.cells
  rw [rowsT_len] at h1 h2
  obtain ⟨b, o, rfl, hcc⟩ := h1 (by omega)
  refine ⟨b, o, P, C, rfl, fun m hm => ?_, fun m hm => ?_⟩
  · have hck := hcc m (by omega)
    rw [rowsT_get N (N + 1) m (by omega), rowF_len] at hck
    exact hck
  · have hrow := h2 m (by omega)
    rw [rowsT_get N (N + 1) m (by omega)] at hrow
    obtain ⟨b3, o3, e3, _⟩ := hrow.get (j := 0) (by rw [rowF_len]; omega)
    refine ⟨b3, o3, e3, fun j hj => ?_⟩
    obtain ⟨b4, o4, e4, h4⟩ := hrow.get (j := j) (by rw [rowF_len]; omega)
    rw [e3] at e4
    cases e4
    rw [tF_get m N j (by omega)] at h4
    exact h4
theorem RowsAt.drewN {w : World} {b o : Nat} {P : Nat → Option Addr} {C : Nat → Nat} {N : Nat} (h : RowsAt w b o P C N) (n : Nat) : RowsAt (w.drewN n) b o P C N := ⟨h.top, h.row⟩
theorem RowsAt.below {w w' : World} {b o : Nat} {P : Nat → Option Addr} {C : Nat → Nat} {N : Nat} (h : RowsAt w b o P C N) (hb : Below w.heap.size w w') : RowsAt w' b o P C N := by
  refine ⟨fun m hm => ?_, fun m hm => ?_⟩
  · have := h.top m hm
    rw [← this]; exact World.cell?_of_block (w := w) (hb.block _ (World.block_lt_of_cell? w _ this))
  · obtain ⟨b', o', e, hj⟩ := h.row m hm
    refine ⟨b', o', e, fun j hjn => ?_⟩
    have := hj j hjn
    rw [← this]; exact World.cell?_of_block (w := w) (hb.block _ (World.block_lt_of_cell? w _ this))

set_option maxHeartbeats 400000 in
theorem l1Least_any (a b : Nat) (w : World) :
    Calls Try.prog 119 #[.int .i64 a, .int .i64 b] w fun e w' => e = .returned (.int .i64 ((min a b : Nat) : Int)) ∧ w' = w := by
  by_cases h : a < b
  · rw [Nat.min_eq_left (by omega)]
    have h' : (a : Int) < b := by omega
    clear h
    go_enter Try.func119, Try.ntmps119
    go_wp2
    go_ret
    exact ⟨rfl, rfl⟩
  · rw [Nat.min_eq_right (by omega)]
    have h' : ¬ ((a : Int) < b) := by omega
    clear h
    go_enter Try.func119, Try.ntmps119
    go_wp2
    go_ret
    exact ⟨rfl, rfl⟩

set_option maxRecDepth 100000 in
set_option maxHeartbeats 2000000 in
theorem ptRank_any (A : Option Addr) (c : Nat) (xs : List Int) (w : World) (G : Good xs) (hc : Cells w A xs) :
    Calls Try.prog 117 #[.slice A xs.length c] w fun e w' => e = .returned (.int .i64 (rk xs.sum.toNat xs.sum.toNat xs)) ∧ Below w.heap.size w w' := by
  have HG := hid G
  have hlen := G.len
  have hs0 := G.sum0
  have hs30 := G.sum
  obtain ⟨s, hs⟩ : ∃ s : Nat, xs.sum = s := ⟨xs.sum.toNat, by omega⟩
  have HS := hid hs
  have hst : xs.sum.toNat = s := by omega
  rw [hst]
  have hs30' : s ≤ 30 := by omega
  clear hs0 hs30 hst hs
  go_enter Try.func117, Try.ntmps117
  go_wp2_with fail
  refine (ptSum_any _ _ _ _ hlen HG.out.b1000 hc).mono ?_
  rintro e w1 ⟨rfl, rfl⟩
  rw [HS.out]
  go_wp2_with fail
  refine (ptCounts_any s _ hs30').mono ?_
  rintro e w2 ⟨A2, c2, rfl, o2, b2⟩
  obtain ⟨tb, to, P, C, rfl, ht⟩ := RowsAt.of o2
  have HT := hid ht; clear ht o2
  have hl2 := rowsT_len s (s + 1)
  rw [hl2]
  clear hl2
  go_wp2_with fail
  go_loopw [5, 3, 6, 16] (fun av lv mv i wr => ∃ (k l m : Nat) (a : Int), k ≤ xs.length ∧ i = .int .i64 k ∧ av = .int .i64 a ∧ lv = .int .i64 l ∧ mv = .int .i64 m ∧ Hid ((l : Int) = (xs.drop k).sum) ∧ m ≤ 30 ∧ l ≤ s ∧ Hid (a + rk l m (xs.drop k) = rk s s xs) ∧ -(5604 * (k : Int)) ≤ a ∧ a ≤ 5604 * (k : Int) ∧ Hid (∃ n, wr = w2.drewN n)) (fun _ _ _ i _ => xs.length - (intOf i).toNat)
  case atStart => exact ⟨0, s, s, 0, Nat.zero_le _, rfl, rfl, rfl, rfl, by rw [List.drop_zero]; exact HS.out.symm, hs30', Nat.le_refl _, by rw [List.drop_zero]; exact Int.zero_add _, by omega, by omega, ⟨0, rfl⟩⟩
  case round =>
    obtain ⟨k, l, m, a, hk, rfl, rfl, rfl, rfl, HL, hm30, hls, HA, ha1, ha2, HW⟩ := hrel
    by_cases hlt : k < xs.length
    · obtain ⟨nw, hnw⟩ := HW.out
      have hcr : Cells wr A xs := by rw [hnw]; exact hc.below (below_drewN b2 _)
      have htr : RowsAt wr tb to P C s := by rw [hnw]; exact HT.out.drewN _
      obtain ⟨b, o, rfl, hcc⟩ := hcr (by omega)
      have hck := hcc k hlt
      have hx1 := HG.out.pos k hlt
      have hx2 := HG.out.le k hlt
      have hsd := sum_drop hlt
      have hsn := sum_drop_nonneg HG.out (k + 1)
      have hle := HL.out
      obtain ⟨x, hx⟩ : ∃ x : Nat, xs.getD k 0 = x := ⟨(xs.getD k 0).toNat, by omega⟩
      have hdr := drop_cons xs k hlt
      rw [hx] at hck hx1 hx2 hsd hdr
      have hxl : x ≤ l := by omega
      have hnext : ((l - x : Nat) : Int) = (xs.drop (k + 1)).sum := by omega
      have HN := hid hnext
      have HD := hid hdr
      have hb1 := T_bound l (by omega) m (by omega)
      have hb2 := T_bound l (by omega) x (by omega)
      have hmin := T_min (l := l) (m := m) (by omega) (by omega)
      have hml : min l m ≤ s := by omega
      obtain ⟨y, hy⟩ : ∃ y, y = min l m := ⟨_, rfl⟩
      have hle2 := l1Least_any l m
      rw [← hy] at hmin hml hle2
      have htop := htr.top l hls
      obtain ⟨rb, ro, hpe, hrow⟩ := htr.row l hls
      rw [hpe] at htop
      have hcy := hrow y hml
      have hcx := hrow x (by omega)
      rw [hmin] at hcy
      obtain ⟨u, hu⟩ : ∃ u, u = T l m := ⟨_, rfl⟩
      obtain ⟨v, hv⟩ : ∃ v, v = T l x := ⟨_, rfl⟩
      rw [← hu] at hb1 hcy
      rw [← hv] at hb2 hcx
      have HU := hid hu
      have HV := hid hv
      have HLE := hid hle2
      have HNW := hid hnw
      have hk30 : (k : Int) ≤ 30 := by omega
      have hl1 : (l : Int) < (s : Int) + 1 := by omega
      have hy1 : (y : Int) < (s : Int) + 1 := by omega
      have hx3 : (x : Int) < (s : Int) + 1 := by omega
      clear hsd hsn hle hnext hdr hle2 hu hv hx hnw htr hcr hcc hy hmin hpe hrow
      go_wp2_with fail
      go_quiet ((go_at_call 119; exact Calls.quiet_of_same (HLE.out _)))
      go_wp2_with fail
      go_roundw
      case rel =>
        refine ⟨k + 1, l - x, x, a + ((u : Int) - v), by omega, by go_num, by go_num, by go_num, rfl, HN.out, by omega, by omega, ?_, by omega, by omega, ?_⟩
        · have h := HA.out
          rw [HD.out, rk, Int.toNat_natCast, ← HU.out, ← HV.out, ← Int.add_assoc] at h
          exact h
        · rw [HNW.out]; exact drew2 _ _
      case measure => simp [intOf]; omega
    · have hkl : k = xs.length := by omega
      subst hkl
      have h := HA.out
      rw [List.drop_eq_nil_of_le (Nat.le_refl _), rk, Int.add_zero] at h
      have HH := hid h; clear h
      go_wp2_with fail
      go_ret
      refine ⟨ret_int HH.out, ?_⟩
      obtain ⟨nw, hnw⟩ := HW.out
      rw [hnw]; exact below_drewN b2 _

set_option maxHeartbeats 400000 in
theorem spec_RankPartition (A : Option Addr) (c : Nat) (xs : List Int) (w : World) (hl : xs.length ≤ 1048576) (hc : Cells w A xs) :
    Calls Try.prog 71 #[.slice A xs.length c] w fun e w' => e = .returned (.tuple #[.int .i64 (rankF xs), .bool (good xs)]) ∧ Below w.heap.size w w' := by
  cases hg : good xs
  · rw [rankF_f hg]
    have HB := hid hg; clear hg
    go_enter Try.func71, Try.ntmps71
    go_wp2_with (go_at_call 80; refine (ptGood_b _ _ _ _ hl hc _ HB.out).mono ?_; rintro e w' ⟨rfl, n, rfl⟩)
    go_ret2
    exact ⟨rfl, below_drew' _ _⟩
  rw [rankF_t hg]
  have HG := hid ((good_iff xs).1 hg)
  have HB := hid hg; clear hg
  go_enter Try.func71, Try.ntmps71
  go_wp2_with fail
  refine (ptGood_b _ _ _ _ hl hc _ HB.out).mono ?_
  rintro e w1 ⟨rfl, n1, rfl⟩
  go_wp2_with fail
  refine (ptRank_any _ _ _ _ HG.out (hc.below (below_drew' _ n1))).mono ?_
  rintro e w2 ⟨rfl, b2⟩
  have b3 := (below_drew' w n1).trans b2
  clear b2
  go_wp2_with fail
  go_ret2
  exact ⟨rfl, b3⟩
end Go.Proofs.Ythlkfkcaaimceaa
