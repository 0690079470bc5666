/-
  Several texts in one.
-/
import Derived.Test.YtijfefahogcfmaaGreatR28
import Derived.Test.YtijfefahogcfmaaGreatCB
/-
  BothAt on both sides.
-/
namespace Go.Proofs.YtijfefahogcfmaaGreat
open Go.RowKit

theorem own2_get {w : World} {B S : Nat} {A : Option Addr} {c : Nat} {rows : List (List Int)} (h : Own2 w B S A c rows) {k : Nat} (hk : k < rows.length) : ∃ g Ak ck, A = some ⟨g, 0, none⟩ ∧ w.cell? ⟨g, k, none⟩ = some (.slice Ak (rows.getD k []).length ck) ∧ Own w B Ak ck (rows.getD k []) := by
  obtain ⟨P, C, h⟩ := h
  rcases h.out.2 with ⟨-, h0⟩ | ⟨g, cap, cur, hv, -⟩
  · omega
  · injection hv with h1 _ _
    subst h1
    exact ⟨g, P k, C k, rfl, (Snap.of h.out).2 k _ (RL_get P C rows k hk), h.row k hk⟩

def baOk (a b r : Int) : Bool := decide (0 ≤ r ∧ r < ((abF a b).length : Nat))
def baF (a b r : Int) : List Int := if baOk a b r then (abF a b).getD r.toNat [] else []
theorem ba_no {a b r : Int} (h : baOk a b r = false) : baF a b r = [] := by simp [baF, h]
theorem ba_yes {a b r : Int} (h : baOk a b r = true) : baF a b r = (abF a b).getD r.toNat [] := by simp [baF, h]
theorem boL_row {a b : Int} (hs : sz a b = true) : (boL a b).length ≤ 100 ∧ ∀ r ∈ boL a b, r.length ≤ 30 := by
  obtain ⟨⟨hp, -⟩, ⟨hg, h1, -⟩, -⟩ := ab_parts hs
  exact ⟨by rw [← hp.length_eq]; exact h1, fun r hr => ((good_iff r).1 (hg r (hp.mem_iff.2 hr))).len⟩
theorem abF_len (a b : Int) : (abF a b).length ≤ 100 := by
  cases h : sz a b
  · rw [ab_no h]; exact Nat.zero_le _
  · rw [ab_yes h]; exact (boL_row h).1
theorem bound_BothAt (a b r : Int) : (baF a b r).length ≤ 1048576 := by
  cases h : baOk a b r
  · rw [ba_no h]; exact Nat.zero_le _
  · rw [ba_yes h]
    simp only [baOk, decide_eq_true_eq] at h
    cases hs : sz a b
    · rw [ab_no hs] at h; simp at h; omega
    · rw [ab_yes hs] at h ⊢
      have hl : r.toNat < (boL a b).length := by omega
      have := (boL_row hs).2 ((boL a b).getD r.toNat []) (by rw [List.getD_eq_getElem?_getD, List.getElem?_eq_getElem hl]; exact List.getElem_mem hl)
      omega

set_option maxRecDepth 100000 in
set_option maxHeartbeats 2000000 in
theorem impl_BothAt (a b r : Int) (w : World) (ha : I64 a) (hb : I64 b) (_ : I64 r) :
    Calls Tryz.prog 10 #[.int .i64 a, .int .i64 b, .int .i64 r] w fun e w' => ∃ A' c', e = .returned (.tuple #[.slice A' (baF a b r).length c', .bool (baOk a b r)]) ∧ Own w' w.heap.size A' c' (baF a b r) ∧ Below w.heap.size w w' := by
  have HA := hid fun W => impl_AllBoth a b W ha hb
  have hl := abF_len a b
  cases hs : sz a b
  · have hn : baOk a b r = false := by simp [baOk, ab_no hs]
    rw [ba_no hn, hn]
    rw [hs] at HA
    obtain ⟨L, hL⟩ : ∃ L, L = abF a b := ⟨_, rfl⟩
    rw [← hL] at HA
    clear hs hn hl hL
    go_enter Tryz.func10, Tryz.ntmps10
    go_wp2_with (go_at_call 20; refine (HA.out _).mono ?_; rintro e w1 ⟨A1, c1, rfl, o1, b1⟩)
    go_ret2
    exact ⟨none, 0, rfl, own_nil _ _, b1⟩
  · rw [hs] at HA
    cases hk : baOk a b r
    · rw [ba_no hk]
      simp only [baOk, decide_eq_false_iff_not] at hk
      obtain ⟨L, hL⟩ : ∃ L, L = abF a b := ⟨_, rfl⟩
      rw [← hL] at HA hk hl
      clear hs hL
      by_cases h0 : r < 0
      · go_enter Tryz.func10, Tryz.ntmps10
        go_wp2_with (go_at_call 20; refine (HA.out _).mono ?_; rintro e w1 ⟨A1, c1, rfl, o1, b1⟩)
        go_ret2
        exact ⟨none, 0, rfl, own_nil _ _, b1⟩
      · have hge : (L.length : Int) ≤ r := by omega
        clear hk
        go_enter Tryz.func10, Tryz.ntmps10
        go_wp2_with (go_at_call 20; refine (HA.out _).mono ?_; rintro e w1 ⟨A1, c1, rfl, o1, b1⟩)
        go_ret2
        exact ⟨none, 0, rfl, own_nil _ _, b1⟩
    · rw [ba_yes hk]
      simp only [baOk, decide_eq_true_eq] at hk
      obtain ⟨k, rfl⟩ : ∃ k : Nat, r = k := ⟨r.toNat, by omega⟩
      rw [Int.toNat_natCast]
      obtain ⟨L, hL⟩ : ∃ L, L = abF a b := ⟨_, rfl⟩
      rw [← hL] at HA hk hl ⊢
      have hkl : k < L.length := by omega
      have HGET := hid fun W B S A c (h : Own2 W B S A c L) => own2_get h hkl
      obtain ⟨q, hq⟩ : ∃ q, q = L.getD k [] := ⟨_, rfl⟩
      rw [← hq] at HGET ⊢
      clear hs hL hk hq
      go_enter Tryz.func10, Tryz.ntmps10
      go_wp2_with (go_at_call 20; refine (HA.out _).mono ?_; rintro e w1 ⟨A1, c1, rfl, o1, b1⟩; obtain ⟨g, Ak, ck, rfl, hcell, hown⟩ := HGET.out _ _ _ _ _ o1; have HOW := hid hown; clear hown)
      go_ret2
      exact ⟨Ak, ck, rfl, HOW.out, b1⟩

set_option maxRecDepth 100000 in
set_option maxHeartbeats 2000000 in
theorem spec_BothAt (a b r : Int) (w : World) (_ : I64 a) (_ : I64 b) (_ : I64 r) :
    Calls Tryz.prog 12 #[.int .i64 a, .int .i64 b, .int .i64 r] w fun e w' => ∃ A' c', e = .returned (.tuple #[.slice A' (baF a b r).length c', .bool (baOk a b r)]) ∧ Own w' w.heap.size A' c' (baF a b r) ∧ Below w.heap.size w w' := by
  cases ht : sz a b
  · have hn : baOk a b r = false := by simp [baOk, ab_no ht]
    rw [ba_no hn, hn]
    have HT := hid ht
    clear ht hn
    go_enter Tryz.func12, Tryz.ntmps12
    go_wp2_with (go_at_call 16; refine (boSizes_b _ _ _ _ HT.out).mono ?_; rintro e w1 ⟨rfl, rfl⟩)
    go_ret2
    exact ⟨none, 0, rfl, own_nil _ _, Below.refl _ _⟩
  · have HT := hid ht
    have HA := hid fun W => boAll_any a b W ht
    have hl := abF_len a b
    have HE := hid (show baF a b r = if baOk a b r then (boL a b).getD r.toNat [] else [] by unfold baF; rw [ab_yes ht])
    have HO := hid (show baOk a b r = inB 0 (((boL a b).length : Int) - 1) r by
      unfold baOk; rw [ab_yes ht]
      cases h : inB 0 (((boL a b).length : Int) - 1) r
      · simp only [decide_eq_false_iff_not]; intro h2; have := inB_iff.2 (show 0 ≤ r ∧ r ≤ ((boL a b).length : Int) - 1 by omega); rw [h] at this; cases this
      · have := inB_iff.1 h; simp only [decide_eq_true_eq]; omega)
    rw [ab_yes ht] at hl
    rw [HE.out, HO.out]
    obtain ⟨L, hL⟩ : ∃ L, L = boL a b := ⟨_, rfl⟩
    rw [← hL] at HA hl ⊢
    clear ht hL HE HO
    cases hk : inB 0 ((L.length : Int) - 1) r
    · rw [if_neg (by simp)]
      have HK := hid hk
      clear hk
      go_enter Tryz.func12, Tryz.ntmps12
      go_wp2_with (first | (go_at_call 16; refine (boSizes_b _ _ _ _ HT.out).mono ?_; rintro e w1 ⟨rfl, rfl⟩) | (go_at_call 24; refine (HA.out _).mono ?_; rintro e w2 ⟨A2, c2, rfl, o2, b2⟩) | (go_at_call 30; refine (l1In_b _ _ _ _ _ HK.out).mono ?_; rintro e w3 ⟨rfl, rfl⟩))
      go_ret2
      exact ⟨none, 0, rfl, own_nil _ _, b2⟩
    · rw [if_pos rfl]
      have HK := hid hk
      have hk2 := inB_iff.1 hk
      obtain ⟨k, rfl⟩ : ∃ k : Nat, r = k := ⟨r.toNat, by omega⟩
      rw [Int.toNat_natCast]
      have hkl : k < L.length := by omega
      have HGET := hid fun W B S A c (h : Own2 W B S A c L) => own2_get h hkl
      obtain ⟨q, hq⟩ : ∃ q, q = L.getD k [] := ⟨_, rfl⟩
      rw [← hq] at HGET ⊢
      clear hk hk2 hq
      go_enter Tryz.func12, Tryz.ntmps12
      go_wp2_with (first | (go_at_call 16; refine (boSizes_b _ _ _ _ HT.out).mono ?_; rintro e w1 ⟨rfl, rfl⟩) | (go_at_call 24; refine (HA.out _).mono ?_; rintro e w2 ⟨A2, c2, rfl, o2, b2⟩; obtain ⟨g, Ak, ck, rfl, hcell, hown⟩ := HGET.out _ _ _ _ _ o2; have HOW := hid hown; clear hown) | (go_at_call 30; refine (l1In_b _ _ _ _ _ HK.out).mono ?_; rintro e w3 ⟨rfl, rfl⟩))
      go_ret2
      exact ⟨Ak, ck, rfl, HOW.out, b2⟩
end Go.Proofs.YtijfefahogcfmaaGreat
/-
  Contracts: two rows of ints compared, by the program (Equal) and by the model (made by gensame.py).
-/
namespace Go.Proofs.YtijfefahogcfmaaGreat
open Go.RowKit

theorem rows_ext {xs ys : List Int} (hl : xs.length = ys.length) (h : ∀ j, j < xs.length → xs.getD j 0 = ys.getD j 0) : xs = ys := by
  apply List.ext_getElem hl
  intro j h1 h2
  have := h j h1
  rw [List.getD_eq_getElem?_getD, List.getD_eq_getElem?_getD, List.getElem?_eq_getElem h1, List.getElem?_eq_getElem h2] at this
  exact this

set_option maxHeartbeats 1000000 in
theorem equal_any (A B : Option Addr) (c d : Nat) (xs ys : List Int) (w : World) (hl : xs.length ≤ 1048576) (_ : ys.length ≤ 1048576) (hA : Cells w A xs) (hB : Cells w B ys) :
    Calls Tryz.prog 23 #[.slice A xs.length c, .slice B ys.length d] w fun e w' => e = .returned (.bool (decide (xs = ys))) ∧ ∃ n, w' = w.drewN n := by
  by_cases hlen : xs.length = ys.length
  · have HL := hid hlen
    rw [← hlen]
    clear hlen
    go_enter Tryz.func23, Tryz.ntmps23
    go_wp2_with fail
    go_loopw [13] (fun i wr => ∃ k : Nat, k ≤ xs.length ∧ i = .int .i64 k ∧ Hid (∀ j, j < k → xs.getD j 0 = ys.getD j 0) ∧ ∃ n, wr = w.drewN n) (fun i _ => xs.length - (intOf i).toNat)
    case atStart => exact ⟨0, Nat.zero_le _, rfl, hid fun j hj => absurd hj (Nat.not_lt_zero _), 0, rfl⟩
    case round =>
      obtain ⟨k, hk, rfl, HE, n, rfl⟩ := hrel
      by_cases hlt : k < xs.length
      · obtain ⟨b, o, rfl, hcc⟩ := hA (by omega)
        obtain ⟨b2, o2, rfl, hcc2⟩ := hB (by rw [← HL.out]; omega)
        have hck := hcc k hlt
        have hck2 := hcc2 k (by rw [← HL.out]; exact hlt)
        clear hcc hcc2
        obtain ⟨x, hx⟩ : ∃ x, x = xs.getD k 0 := ⟨_, rfl⟩
        obtain ⟨y, hy⟩ : ∃ y, y = ys.getD k 0 := ⟨_, rfl⟩
        rw [← hx] at hck
        rw [← hy] at hck2
        have HX := hid hx; have HY := hid hy
        clear hx hy
        by_cases he : x = y
        · subst he
          go_wp2_with fail
          go_quiet (fail)
          go_wp2_with fail
          go_roundw
          case rel => exact ⟨k + 1, by omega, by go_num, hid fun j hj => by
            rcases Nat.lt_or_ge j k with h | h
            · exact HE.out j h
            · rw [show j = k by omega, ← HX.out, ← HY.out], _, rfl⟩
          case measure => simp [intOf]; omega
        · have heb : (x != y) = true := by simpa using he
          have heb2 : (x == y) = false := by simpa using he
          have HN := hid he
          clear he
          go_wp2_with fail
          go_quiet (fail)
          go_wp2_with fail
          go_ret
          exact ⟨ret_bool (decide_eq_false fun e => HN.out (by rw [HX.out, HY.out, e])).symm, _, World.drewN_drewN ..⟩
      · go_wp2_with fail
        go_ret
        refine ⟨ret_bool (decide_eq_true ?_).symm, n, rfl⟩
        exact rows_ext HL.out fun j hj => HE.out j (by omega)
  · have h1 : ¬ (xs.length : Int) = (ys.length : Int) := by omega
    have heb : ((xs.length : Int) != (ys.length : Int)) = true := by simpa using h1
    have heb2 : ((xs.length : Int) == (ys.length : Int)) = false := by simpa using h1
    have HN := hid hlen
    clear hlen h1
    go_enter Tryz.func23, Tryz.ntmps23
    go_wp2_with fail
    go_ret
    exact ⟨ret_bool (decide_eq_false fun e => HN.out (by rw [e])).symm, 0, rfl⟩
theorem equal_b (A B : Option Addr) (c d : Nat) (xs ys : List Int) (w : World) (hl : xs.length ≤ 1048576) (hl2 : ys.length ≤ 1048576) (hA : Cells w A xs) (hB : Cells w B ys) (b : Bool) (h : decide (xs = ys) = b) :
    Calls Tryz.prog 23 #[.slice A xs.length c, .slice B ys.length d] w fun e w' => e = .returned (.bool b) ∧ ∃ n, w' = w.drewN n := by
  subst h; exact equal_any A B c d xs ys w hl hl2 hA hB

set_option maxHeartbeats 1000000 in
theorem l1Same_any (A B : Option Addr) (c d : Nat) (xs ys : List Int) (w : World) (hl : xs.length ≤ 1048576) (_ : ys.length ≤ 1048576) (hA : Cells w A xs) (hB : Cells w B ys) :
    Calls Tryz.prog 25 #[.slice A xs.length c, .slice B ys.length d] w fun e w' => e = .returned (.bool (decide (xs = ys))) ∧ ∃ n, w' = w.drewN n := by
  by_cases hlen : xs.length = ys.length
  · have HL := hid hlen
    rw [← hlen]
    clear hlen
    go_enter Tryz.func25, Tryz.ntmps25
    go_wp2_with fail
    go_loopw [13] (fun i wr => ∃ k : Nat, k ≤ xs.length ∧ i = .int .i64 k ∧ Hid (∀ j, j < k → xs.getD j 0 = ys.getD j 0) ∧ ∃ n, wr = w.drewN n) (fun i _ => xs.length - (intOf i).toNat)
    case atStart => exact ⟨0, Nat.zero_le _, rfl, hid fun j hj => absurd hj (Nat.not_lt_zero _), 0, rfl⟩
    case round =>
      obtain ⟨k, hk, rfl, HE, n, rfl⟩ := hrel
      by_cases hlt : k < xs.length
      · obtain ⟨b, o, rfl, hcc⟩ := hA (by omega)
        obtain ⟨b2, o2, rfl, hcc2⟩ := hB (by rw [← HL.out]; omega)
        have hck := hcc k hlt
        have hck2 := hcc2 k (by rw [← HL.out]; exact hlt)
        clear hcc hcc2
        obtain ⟨x, hx⟩ : ∃ x, x = xs.getD k 0 := ⟨_, rfl⟩
        obtain ⟨y, hy⟩ : ∃ y, y = ys.getD k 0 := ⟨_, rfl⟩
        rw [← hx] at hck
        rw [← hy] at hck2
        have HX := hid hx; have HY := hid hy
        clear hx hy
        by_cases he : x = y
        · subst he
          go_wp2_with fail
          go_quiet (fail)
          go_wp2_with fail
          go_roundw
          case rel => exact ⟨k + 1, by omega, by go_num, hid fun j hj => by
            rcases Nat.lt_or_ge j k with h | h
            · exact HE.out j h
            · rw [show j = k by omega, ← HX.out, ← HY.out], _, rfl⟩
          case measure => simp [intOf]; omega
        · have heb : (x != y) = true := by simpa using he
          have heb2 : (x == y) = false := by simpa using he
          have HN := hid he
          clear he
          go_wp2_with fail
          go_quiet (fail)
          go_wp2_with fail
          go_ret
          exact ⟨ret_bool (decide_eq_false fun e => HN.out (by rw [HX.out, HY.out, e])).symm, _, World.drewN_drewN ..⟩
      · go_wp2_with fail
        go_ret
        refine ⟨ret_bool (decide_eq_true ?_).symm, n, rfl⟩
        exact rows_ext HL.out fun j hj => HE.out j (by omega)
  · have h1 : ¬ (xs.length : Int) = (ys.length : Int) := by omega
    have heb : ((xs.length : Int) != (ys.length : Int)) = true := by simpa using h1
    have heb2 : ((xs.length : Int) == (ys.length : Int)) = false := by simpa using h1
    have HN := hid hlen
    clear hlen h1
    go_enter Tryz.func25, Tryz.ntmps25
    go_wp2_with fail
    go_ret
    exact ⟨ret_bool (decide_eq_false fun e => HN.out (by rw [e])).symm, 0, rfl⟩
theorem l1Same_b (A B : Option Addr) (c d : Nat) (xs ys : List Int) (w : World) (hl : xs.length ≤ 1048576) (hl2 : ys.length ≤ 1048576) (hA : Cells w A xs) (hB : Cells w B ys) (b : Bool) (h : decide (xs = ys) = b) :
    Calls Tryz.prog 25 #[.slice A xs.length c, .slice B ys.length d] w fun e w' => e = .returned (.bool b) ∧ ∃ n, w' = w.drewN n := by
  subst h; exact l1Same_any A B c d xs ys w hl hl2 hA hB

end Go.Proofs.YtijfefahogcfmaaGreat
