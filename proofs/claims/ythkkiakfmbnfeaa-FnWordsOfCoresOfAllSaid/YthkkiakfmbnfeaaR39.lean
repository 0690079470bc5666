/-
  Several texts in one.
-/
import Derived.Test.YthkkiakfmbnfeaaR32
import Derived.Test.YthkkiakfmbnfeaaCB
import Derived.Test.YthkkiakfmbnfeaaR34
import Derived.Test.YthkkiakfmbnfeaaR38
import Derived.Test.YthkkiakfmbnfeaaR08
/-
  Contracts: levels turned (both sides).
-/
namespace Go.Proofs.Ythkkiakfmbnfeaa
open Go.RowKit

theorem turnF_f {xs : List Int} (h : levB xs = false) : turnF xs = [] := by simp [turnF, h]
theorem turnF_t {xs : List Int} (h : levB xs = true) : turnF xs = turnL xs := by simp [turnF, h]

set_option maxRecDepth 100000 in
set_option maxHeartbeats 1000000 in
theorem impl_TurnLevels (A : Option Addr) (c : Nat) (xs : List Int) (w : World) (hl : xs.length ≤ 1048576) (hc : Cells w A xs) :
    Calls Try.prog 13 #[.slice A xs.length c] w fun e w' => ∃ A' c', e = .returned (.tuple #[.slice A' (turnF xs).length c', .bool (levB xs)]) ∧ Own w' w.heap.size A' c' (turnF xs) ∧ Below w.heap.size w w' := by
  cases hg : levB xs
  · rw [turnF_f hg]
    have HG := hid hg; clear hg
    go_enter Try.func13, Try.ntmps13
    go_wp2_with (go_at_call 8; refine (IsLevels_b _ _ _ _ hl hc _ HG.out).mono ?_; rintro e w' ⟨rfl, rfl⟩)
    go_ret2
    exact ⟨none, 0, rfl, own_nil _ _, Below.refl _ _⟩
  rw [turnF_t hg, turnL_len]
  have L := levB_iff.1 hg
  have h6 := L.hi
  have HL := hid L
  have HG := hid hg; clear hg L
  have hmk := run_make_row' (P := Try.prog) 22 3 (.int .i64 0) 8 Try.underlying22 Try.infoInt rfl .i64 .i64 xs.length (by omega) (by omega)
  obtain ⟨w2, hw2⟩ : ∃ w2, w2 = w.alloc (.cells (madeCells #[.int .i64 0] xs.length) 3) := ⟨_, rfl⟩
  have o2 : Own w2 w.heap.size (some ⟨w.heap.size, 0, none⟩) xs.length (turnK xs 0) := by rw [hw2, turnK_zero]; exact own_made w xs.length (by omega)
  have b2 : Below w.heap.size w w2 := by rw [hw2]; exact (Below.refl _ _).alloc (Nat.le_refl _) _
  go_enter Try.func13, Try.ntmps13
  go_wp2_with (go_at_call 8; refine (IsLevels_b _ _ _ _ hl hc _ HG.out).mono ?_; rintro e w' ⟨rfl, rfl⟩)
  rw [← hw2]
  clear hw2
  go_loopw [15] (fun i wr => ∃ k : Nat, k ≤ xs.length ∧ i = .int .i64 k ∧ Own wr w.heap.size (some ⟨w.heap.size, 0, none⟩) xs.length (turnK xs k) ∧ Below w.heap.size w wr) (fun i _ => xs.length - (intOf i).toNat)
  case atStart => exact ⟨0, Nat.zero_le _, rfl, o2, b2⟩
  case round =>
    obtain ⟨k, hk, rfl, hown, hbel⟩ := hrel
    by_cases hlt : k < xs.length
    · obtain ⟨b, o, rfl, hcc⟩ := (hc.later hbel) (by omega)
      have hck := hcc k hlt
      have hxb := HL.out.bd k hlt
      have hcur := own_get hown (k := xs.length - 1 - k) (by rw [turnK_len]; omega)
      have hfz := own_froz hown (xs.length - 1 - k)
      have hst := own_len (own_set hown (xs.length - 1 - k) (-xs.getD k 0)) (turnK_succ xs k hlt)
      have hek : ((xs.length : Int) - 1 - (k : Int)).toNat = xs.length - 1 - k := by omega
      obtain ⟨u, hu⟩ : ∃ u, u = (turnK xs k).getD (xs.length - 1 - k) 0 := ⟨_, rfl⟩
      obtain ⟨x, hx⟩ : ∃ x, x = xs.getD k 0 := ⟨_, rfl⟩
      rw [← hu] at hcur
      rw [← hx] at hck hxb hst
      have HS := hid hst
      clear hcc hst hu hown hx hc o2
      go_wp2_with fail
      go_roundw
      case rel => exact ⟨k + 1, by omega, by go_num, HS.out, hbel.setCell (Nat.le_refl _) _⟩
      case measure => simp [intOf]; omega
    · have hkl : k = xs.length := by omega
      subst hkl
      have HO := hid hown; clear hown
      go_wp2_with fail
      go_ret2
      exact ⟨_, _, rfl, own_len HO.out (turnK_all xs), hbel⟩

set_option maxRecDepth 100000 in
set_option maxHeartbeats 1000000 in
theorem spec_TurnLevels (A : Option Addr) (c : Nat) (xs : List Int) (w : World) (hl : xs.length ≤ 1048576) (hc : Cells w A xs) :
    Calls Try.prog 14 #[.slice A xs.length c] w fun e w' => ∃ A' c', e = .returned (.tuple #[.slice A' (turnF xs).length c', .bool (levB xs)]) ∧ Own w' w.heap.size A' c' (turnF xs) ∧ Below w.heap.size w w' := by
  obtain ⟨i0, hi, hz0, hz1, hz2⟩ := info_parts Try.infoInt
  cases hg : levB xs
  · rw [turnF_f hg]
    have HG := hid hg; clear hg
    go_enter Try.func14, Try.ntmps14
    go_wp2_with (go_at_call 26; refine (chGood_b _ _ _ _ hl hc _ HG.out).mono ?_; rintro e w' ⟨rfl, rfl⟩)
    go_ret2
    exact ⟨none, 0, rfl, own_nil _ _, Below.refl _ _⟩
  rw [turnF_t hg]
  have L := levB_iff.1 hg
  have h6 := L.hi
  have HL := hid L
  have HG := hid hg; clear hg L
  go_enter Try.func14, Try.ntmps14
  go_wp2_with (go_at_call 26; refine (chGood_b _ _ _ _ hl hc _ HG.out).mono ?_; rintro e w' ⟨rfl, rfl⟩)
  go_loopw [4, 11] (fun v i wr => ∃ k : Nat, k ≤ xs.length ∧ i = .int .i64 k ∧ (∃ ys, ys = (turnL xs).take k ∧ ys.length = k ∧ wr.ownsRow w.heap.size 3 1 v ys.length (IL ys)) ∧ Below w.heap.size w wr) (fun _ i _ => xs.length - (intOf i).toNat)
  case atStart => exact ⟨0, Nat.zero_le _, rfl, ⟨[], rfl, rfl, World.ownsRow_nil _ _ _ _⟩, Below.refl _ _⟩
  case round =>
    obtain ⟨k, hk, rfl, ⟨ys, hys, hyl, hown⟩, hbel⟩ := hrel
    have HY := hid hys; clear hys
    have HYL := hid hyl
    by_cases hlt : k < xs.length
    · obtain ⟨b, o, rfl, hcc⟩ := (hc.later hbel) (by omega)
      have hck := hcc (xs.length - 1 - k) (by omega)
      have hxb := HL.out.bd (xs.length - 1 - k) (by omega)
      have HT := hid (take_snoc (turnL xs) k (by rw [turnL_len]; exact hlt) _ (fnRow_get _ _ k hlt))
      have hek : ((xs.length : Int) - 1 - (k : Int)).toNat = xs.length - 1 - k := by omega
      have hyk : ys.length ≤ 6 := by omega
      obtain ⟨x, hx⟩ : ∃ x, x = xs.getD (xs.length - 1 - k) 0 := ⟨_, rfl⟩
      rw [← hx, ← HY.out] at HT
      rw [← hx] at hck hxb
      clear hcc hx hc hyl
      go_wp2_with (at_builtin; refine wpList_append_own _ rfl _ _ 22 rfl w.heap.size 3 i0 (.int .i64 0) 1 8 Try.underlying22 hi hz0 hz1 hz2 rfl (by decide) _ _ _ rfl (hown.alloc _) ⟨wr.heap.size, 0, none⟩ 1 1 [.int .i64 (-x)] rfl rfl one_at (one_cell _) (by unfold maxLen; omega) (by omega) (by have := hbel.size; simp; omega) ?_)
      intro v' w1 hown' hgrow _
      have hb1 : Below w.heap.size w w1 := (hbel.alloc hbel.size _).grown hgrow (by have := hbel.size; simp; omega) (fun q hq => (hown.lt q hq).1)
      have hown2 := own_snoc HT.out hown'
      clear hgrow hown hown'
      go_wp2_with fail
      go_roundw
      case rel => exact ⟨k + 1, by omega, by go_num, ⟨_, rfl, by rw [List.length_take, turnL_len]; omega, hown2⟩, hb1⟩
      case measure => simp [intOf]; omega
    · have hkl : k = xs.length := by omega
      subst hkl
      have hyy : ys = turnL xs := by rw [HY.out, List.take_of_length_le (by rw [turnL_len]; exact Nat.le_refl _)]
      subst hyy
      obtain ⟨A', c', rfl, ho⟩ := own_form hown rfl
      clear hown hyl
      go_wp2_with fail
      go_ret2
      exact ⟨A', c', rfl, ho, hbel⟩
end Go.Proofs.Ythkkiakfmbnfeaa
/-
  What the law on reflected cores needs. No walk in this text.
-/
namespace Go.Proofs.Ythkkiakfmbnfeaa
open Go.RowKit

theorem reflB_parts {xs : List Int} {i : Int} (h : reflB xs i = true) : Lev xs ∧ Lev (reflL xs i.toNat) ∧ 0 ≤ i ∧ i < xs.length := by
  unfold reflB reflA at h
  simp only [Bool.and_eq_true, decide_eq_true_eq] at h
  exact ⟨levB_iff.1 h.1.1, levB_iff.1 h.2, h.1.2.1, h.1.2.2⟩
/-- Reflected levels are levels, and are reflected back. -/
theorem refl_told {xs : List Int} {i : Int} (h : reflB xs i = true) : reflB (reflF xs i) i = true ∧ reflF (reflF xs i) i = xs ∧ levB (reflF xs i) = true ∧ (reflF xs i).length ≤ 6 ∧ xs.length ≤ 6 := by
  obtain ⟨L, L2, h0, h1⟩ := reflB_parts h
  have e := reflF_t h
  have hrr := refl_refl (xs := xs) (i := i.toNat) L.lo (by omega)
  have hb : reflB (reflF xs i) i = true := by
    rw [e]
    unfold reflB reflA
    rw [hrr, levB_iff.2 L2, levB_iff.2 L, reflL_len, decide_eq_true h0, decide_eq_true h1]; rfl
  refine ⟨hb, ?_, by rw [e]; exact levB_iff.2 L2, by rw [e]; exact L2.hi, L.hi⟩
  rw [reflF_t hb, e, hrr]
/-- A reflected core: its levels, and that it is reflected back. -/
theorem rfl_told {p : List Int} {t i : Int} (h : rfOk p t i = true) : Good p ∧ Good (rfF p t i) ∧ I64 t ∧ I64 i ∧ lvOk p t = true ∧ lvOk (rfF p t i) t = true ∧ reflB (lvF p t) i = true ∧ reflF (lvF p t) i = lvF (rfF p t i) t ∧
    rfOk (rfF p t i) t i = true ∧ rfF (rfF p t i) t i = p ∧ isCoreF (rfF p t i) t = true ∧ (lvF p t).length ≤ 6 ∧ (lvF (rfF p t i) t).length ≤ 6 := by
  have e := rf_yes h
  have h' := h
  unfold rfOk rsB at h'
  simp only [Bool.and_eq_true, decide_eq_true_eq] at h'
  obtain ⟨⟨hc, h0, h1⟩, hgq⟩ := h'
  obtain ⟨hg, hin⟩ := crB_good (core_cr hc)
  have hin2 := inB_iff.1 hin
  obtain ⟨T, rfl⟩ : ∃ T : Nat, t = (T : Int) := ⟨t.toNat, by omega⟩
  obtain ⟨I, rfl⟩ : ∃ I : Nat, i = (I : Int) := ⟨i.toNat, by omega⟩
  rw [Int.toNat_natCast] at e hgq
  have ht : 2 ≤ T ∧ T ≤ 6 := by omega
  have hI : I < T := by omega
  have G := (good_iff p).1 hg
  have Gq := (good_iff _).1 hgq
  have D := core_Dn hc
  have hcq := rf_core hc hgq
  have hlp := lv_ok (core_cr hc)
  have hlq := lv_ok (core_cr hcq)
  have hun := rf_undo G ht.1 D Gq
  have hrl := rf_lv G ht hI D Gq
  have hok2 : rfOk (rfL p T I) T I = true := by
    unfold rfOk rsB
    rw [hcq, Int.toNat_natCast, hun, hg, decide_eq_true h0, decide_eq_true h1]; rfl
  have hB : reflB (lvF p T) I = true := by
    rw [lvF_t hlp]
    unfold reflB reflA
    rw [Int.toNat_natCast, ← hrl, lev_all G ht, lev_all Gq ht, lv_len, decide_eq_true h0, decide_eq_true h1]; rfl
  rw [e]
  refine ⟨G, Gq, by unfold I64; omega, by unfold I64; omega, hlp, hlq, hB, ?_, hok2, ?_, hcq, by rw [lvF_t hlp, lv_len]; omega, by rw [lvF_t hlq, lv_len]; omega⟩
  · rw [reflF_t hB, lvF_t hlq, lvF_t hlp, Int.toNat_natCast, hrl]
  · rw [rf_yes hok2, Int.toNat_natCast, hun]
/-- Turned levels. -/
theorem trn_told {xs : List Int} (h : levB xs = true) : turnF xs = turnL xs ∧ levB (turnL xs) = true ∧ turnF (turnL xs) = xs ∧ xs.length ≤ 6 := by
  have L := levB_iff.1 h
  have h2 := turn_lev L
  exact ⟨turnF_t h, h2, by rw [turnF_t h2, turn_turn], L.hi⟩
theorem trn_core {xs : List Int} (h : clOk xs = true) : Good (clF xs) ∧ good (clF xs) = true ∧ conjF (clF xs) = cols (clF xs) ∧ Good (cols (clF xs)) ∧ lvOk (cols (clF xs)) (xs.length : Int) = true ∧ lvF (cols (clF xs)) (xs.length : Int) = turnL xs := by
  obtain ⟨G, f1, f2, f3, f4, f5, f6⟩ := lv_cl h
  have hg := (good_iff _).2 G
  have Gc := cols_good G
  have h' := h
  unfold clOk at h'
  rw [Bool.and_eq_true] at h'
  have L := levB_iff.1 h'.1
  have hl := L.lo
  have hh := L.hi
  have hcr : crB (cols (clF xs)) (xs.length : Int) = true := by
    unfold crB
    rw [(good_iff _).2 Gc, Bool.true_and]; exact inB_iff.2 (by omega)
  have hlo := lv_ok hcr
  refine ⟨G, hg, conjF_t hg, Gc, hlo, ?_⟩
  rw [lvF_t hlo, lv_conj G ⟨hl, hh⟩, f1]
end Go.Proofs.Ythkkiakfmbnfeaa
