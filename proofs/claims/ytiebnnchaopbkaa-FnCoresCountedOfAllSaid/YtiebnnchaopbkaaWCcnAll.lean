/-
  The walk of FnCoresCountedOfAll (made by genccn.py).
-/
import Derived.Test.YtiebnnchaopbkaaR31
import Derived.Test.YtiebnnchaopbkaaR30
import Derived.Test.YtiebnnchaopbkaaCI
import Derived.Test.YtiebnnchaopbkaaR32
import Derived.Test.YtiebnnchaopbkaaR21
import Derived.Test.YtiebnnchaopbkaaR33
import Derived.Test.YtiebnnchaopbkaaR34
import Derived.Deep.CutRange
namespace Go.Proofs.Ytiebnnchaopbkaa
open Go.RowKit

theorem row_at9 {w : World} {A : Option Addr} {L : List (List Int)} {k : Nat} (h : Cells2 w A L) (hk : k < L.length) :
    ∃ b o B2 C2, A = some ⟨b, o, none⟩ ∧ w.cell? ⟨b, o + k, none⟩ = some (.slice B2 (L.getD k []).length C2) ∧ Cells w B2 (L.getD k []) := by
  obtain ⟨P, C, h1, h2⟩ := h
  obtain ⟨b, o, rfl, hc⟩ := h1 (by omega)
  exact ⟨b, o, P k, C k, rfl, hc k hk, h2 k hk⟩
theorem cell_later {w w' : World} {ad : Addr} {v : Value} (h : w.cell? ad = some v) (b : Below w.heap.size w w') : w'.cell? ad = some v := by
  rw [← h]; exact World.cell?_of_block (w := w) (b.block _ (World.block_lt_of_cell? w _ h))
theorem cells2_later {w w' : World} {A : Option Addr} {rows : List (List Int)} (h : Cells2 w A rows) (hb : Below w.heap.size w w') : Cells2 w' A rows := by
  obtain ⟨P, C, h1, h2⟩ := h
  refine ⟨P, C, fun h0 => ?_, fun j hj => (h2 j hj).later hb⟩
  obtain ⟨b, o, e, hc⟩ := h1 h0
  exact ⟨b, o, e, fun j hj => cell_later (hc j hj) hb⟩
theorem qSame_n (A B : Option Addr) (c d : Nat) (xs ys : List Int) (w : World) (hl : xs.length ≤ 1048576) (hl2 : ys.length ≤ 1048576) (hA : Cells w A xs) (hB : Cells w B ys) (hne : xs ≠ ys) :
    Calls Try.prog 12 #[.slice A xs.length c, .slice B ys.length d] w fun e w' => e = .returned (.bool false) ∧ Below w.heap.size w w' :=
  (qSame_d A B c d xs ys w hl hl2 hA hB).mono (by rintro e w' ⟨rfl, n, rfl⟩; exact ⟨by rw [decide_eq_false hne], below_drew' _ _⟩)
theorem qRows_ccn (A B : Option Addr) (c d : Nat) (L : List (List Int)) (w : World) (hL : L.length ≤ 10000) (hrow : ∀ k, k < L.length → (L.getD k []).length ≤ 1048576) (hA : Cells2 w A L) (hB : Cells2 w B L) :
    Calls Try.prog 9 #[.slice A L.length c, .slice B L.length d] w fun e w' => e = .returned (.bool true) ∧ Below w.heap.size w w' :=
  (qRows_e A B c d L w hL hrow hA hB).mono (by rintro e w' ⟨rfl, n, rfl⟩; exact ⟨rfl, below_drew' _ _⟩)
set_option maxRecDepth 100000 in
set_option maxHeartbeats 1000000 in
theorem qHas_t (A B : Option Addr) (c d : Nat) (L : List (List Int)) (xs : List Int) (w : World) (hL : L.length ≤ 10000) (hrow : ∀ k, k < L.length → (L.getD k []).length ≤ 1048576) (hl : xs.length ≤ 1048576) (hA : Cells2 w A L) (hB : Cells w B xs) (hm : xs ∈ L) :
    Calls Try.prog 14 #[.slice A L.length c, .slice B xs.length d] w fun e w' => e = .returned (.bool true) ∧ Below w.heap.size w w' := by
  have HM := hid hm
  have HA := hid hA
  have HB := hid hB
  have hb1000 : (L.length : Int) ≤ 10000 := Int.ofNat_le.2 hL
  clear hm hA hB
  go_enter Try.func14, Try.ntmps14
  go_wp2_with fail
  go_loopw [9] (fun iv wr => ∃ k : Nat, k ≤ L.length ∧ iv = .int .i64 k ∧ Hid (∀ j, j < k → L.getD j [] ≠ xs) ∧ Hid (Below w.heap.size w wr)) (fun iv _ => L.length - (intOf iv).toNat)
  case atStart => exact ⟨0, Nat.zero_le _, rfl, hid fun j hj => absurd hj (Nat.not_lt_zero _), hid (Below.refl _ _)⟩
  case round =>
    obtain ⟨k, hk, rfl, HN, HBL⟩ := hrel
    by_cases hlt : k < L.length
    · obtain ⟨b, o, B2, C2, e, q0, R1⟩ := row_at9 (cells2_later HA.out HBL.out) hlt
      cases e
      have hki : (k : Int) < (L.length : Int) := by omega
      have hS := hid fun W (h : Cells W B xs) (h' : Cells W B2 (L.getD k [])) => qSame_d B B2 d C2 xs (L.getD k []) W hl (hrow k hlt) h h'
      have HR1 := hid R1
      have HLT := hid hlt
      have HK := hid hk
      obtain ⟨P, hP⟩ : ∃ P, P = L.getD k [] := ⟨_, rfl⟩
      have HP := hid hP
      rw [← hP] at hS HR1 q0
      clear R1 hP hlt hk
      go_wp2_with fail
      refine (hS.out _ (HB.out.later HBL.out) HR1.out).mono ?_
      rintro e x1 ⟨rfl, q, rfl⟩
      have HBN := hid (Below.next HBL.out (below_drew' _ q))
      by_cases hq : xs = P
      · rw [decide_eq_true hq]
        clear hq
        go_wp2_with fail
        go_ret
        exact ⟨rfl, HBN.out⟩
      · rw [decide_eq_false hq]
        have HQ := hid hq
        clear hq
        go_wp2_with fail
        go_roundw
        case rel => exact ⟨k + 1, HLT.out, congrArg (Value.int .i64) (Int.natCast_succ k).symm, hid (fun j hj => by
          rcases Nat.lt_or_ge j k with h1 | h1
          · exact HN.out j h1
          · have : j = k := by omega
            subst this
            rw [← HP.out]; exact fun e => HQ.out e.symm), HBN⟩
        case measure => have := HLT.out; simp [intOf]; omega
    · exfalso
      obtain ⟨j, hj, e⟩ := List.mem_iff_getElem.1 HM.out
      refine HN.out j (by omega) ?_
      rw [List.getD_eq_getElem?_getD, List.getElem?_eq_getElem hj]; exact e
theorem row_in9 {L : List (List Int)} {k : Nat} (hk : k < L.length) : L.getD k [] ∈ L := by
  rw [List.getD_eq_getElem?_getD, List.getElem?_eq_getElem hk]; exact List.getElem_mem hk
theorem row_ne9 {L : List (List Int)} (hn : L.Nodup) {m k : Nat} (hk : k < L.length) (hmk : m + 1 = k) : L.getD m [] ≠ L.getD k [] := by
  have hm : m < L.length := by omega
  rw [List.getD_eq_getElem?_getD, List.getElem?_eq_getElem hm, List.getD_eq_getElem?_getD, List.getElem?_eq_getElem hk]
  exact (List.pairwise_iff_getElem.1 hn) m k hm hk (by omega)
set_option maxRecDepth 100000 in
set_option maxHeartbeats 16000000 in
theorem walkCoresCountedOfAll (t n m9 k9 : Int) (w : World) (ht64 : I64 t) (hn64 : I64 n) (hm64 : I64 m9) (hk64 : I64 k9) :
    Calls Try.prog 3 #[.int .i64 t, .int .i64 n, .int .i64 m9, .int .i64 k9] w fun e w' => e = .returned (.bool true) ∧ Below w.heap.size w w' := by
  have hlen := cw_len t n
  have hL := lwF_len t n
  have hb1 := bound_CoresWith t n
  have HC1 := hid fun W => impl_CoresWith t n W ht64 hn64
  have HC2 := hid fun W => spec_CoresWith t n W ht64 hn64
  have HL1 := hid fun W => impl_LevelsWith t n W ht64 hn64
  have HL2 := hid fun W => spec_LevelsWith t n W ht64 hn64
  have HN1 := hid fun W => impl_CountCores t n W ht64 hn64
  rw [show lwN t n = ((lwF t n).length : Int) from rfl] at HN1
  have HS1 := hid fun W => impl_CoresBySeries m9 k9 W hm64 hk64
  have HS2 := hid fun W => spec_CoresBySeries m9 k9 W hm64 hk64
  have hcr : ∀ k, k < (cwF t n).length → ((cwF t n).getD k []).length ≤ 1048576 := fun k hk => by
    obtain ⟨v, hv, e⟩ := cw_mem (row_in9 hk)
    rw [← e]; have := (core_lv hv).1.len; omega
  have hvr : ∀ k, k < (lwF t n).length → ((lwF t n).getD k []).length ≤ 1048576 := fun k hk => by
    have := (lwF_lev (row_in9 hk)).1.hi; omega
  have HCC := hid fun A B c d W (hA : Cells2 W A (cwF t n)) (hB : Cells2 W B (cwF t n)) => qRows_ccn A B c d (cwF t n) W (by omega) hcr hA hB
  have HVV := hid fun A B c d W (hA : Cells2 W A (lwF t n)) (hB : Cells2 W B (lwF t n)) => qRows_ccn A B c d (lwF t n) W (by omega) hvr hA hB
  have HSS := hid fun A B c d W (hA : Cells W A (serF m9 k9)) (hB : Cells W B (serF m9 k9)) => qSame_lac A B c d (serF m9 k9) W (bound_CoresBySeries m9 k9) hA hB
  have HSL : Hid (askB m9 k9 = true → ((serF m9 k9).length : Int) = k9 + 1) := hid fun h => ser_len h
  have HK30 : Hid (askB m9 k9 = true → 0 ≤ k9 ∧ k9 ≤ 30) := hid fun h => by obtain ⟨a, b, rfl, rfl, _, _, _⟩ := askB_iff h; omega
  have HROW := hid fun k (hk : k < (cwF t n).length) => (by
    obtain ⟨v, hv, e⟩ := cw_mem (row_in9 hk)
    obtain ⟨G, f1, f2, f3, f4⟩ := core_lv hv
    rw [e] at G f1 f2 f3 f4
    exact ⟨G, f1, f2, by rw [f3]; exact hv, f4, fun m hmk => cw_bef hk hmk⟩ : Good ((cwF t n).getD k []) ∧ ((cwF t n).getD k []).sum = n ∧ lvOk ((cwF t n).getD k []) t = true ∧ lvF ((cwF t n).getD k []) t ∈ lwF t n ∧ isCoreF ((cwF t n).getD k []) t = true ∧ ∀ m, m + 1 = k → befB ((cwF t n).getD m []) ((cwF t n).getD k []) = true)
  have HLEV := hid fun k (hk : k < (lwF t n).length) => (by
    obtain ⟨L, hs, _⟩ := lwF_lev (row_in9 hk)
    have hb := levB_iff.2 L
    exact ⟨by rw [sizeF_t hb, hs], hb, fun m hmk => row_ne9 (lwF_nodup t n) hk hmk⟩ : sizeF ((lwF t n).getD k []) = n ∧ levB ((lwF t n).getD k []) = true ∧ ∀ m, m + 1 = k → (lwF t n).getD m [] ≠ (lwF t n).getD k [])
  have HRL := hid (show ((lwF t n).length : Int) ≤ 10000 by omega)
  have HVR := hid hvr
  rw [hlen] at HC1 HC2 HCC
  have HLEN := hid hlen
  clear hlen hL hb1 hcr hvr
  obtain ⟨lb, hlb⟩ : ∃ b, b = lwOk t n := ⟨_, rfl⟩
  rw [← hlb] at HC1 HC2 HL1 HL2 HN1
  obtain ⟨CL, hCL⟩ : ∃ b, b = cwF t n := ⟨_, rfl⟩
  rw [← hCL] at HC1 HC2 HCC HROW HLEN
  obtain ⟨VL, hVL⟩ : ∃ b, b = lwF t n := ⟨_, rfl⟩
  rw [← hVL] at HC1 HC2 HL1 HL2 HN1 HCC HVV HROW HLEV HRL HVR HLEN
  obtain ⟨sb, hsb⟩ : ∃ b, b = askB m9 k9 := ⟨_, rfl⟩
  rw [← hsb] at HS1 HS2 HSL HK30
  obtain ⟨SL, hSL⟩ : ∃ b, b = serF m9 k9 := ⟨_, rfl⟩
  rw [← hSL] at HS1 HS2 HSS HSL
  have Hlb := hid hlb
  have HVL := hid hVL
  have e1 : (lb != lb) = false := by simp
  have e2 : (sb != sb) = false := by simp
  clear hlb hCL hVL hsb hSL
  have B0 : Below w.heap.size w w := Below.refl _ _
  go_enter Try.func3, Try.ntmps3
  go_wp2_with fail
  refine (HC1.out _).mono ?_
  rintro e w1 ⟨Aa1, ca1, rfl, oa1, b1⟩
  have B1 : Below w.heap.size w w1 := Below.next B0 b1
  go_wp2_with fail
  refine (HC2.out _).mono ?_
  rintro e w2 ⟨Aa2, ca2, rfl, oa2, b2⟩
  have B2 : Below w.heap.size w w2 := Below.next B1 b2
  have oa1_2 := oa1.below b2
  clear oa1
  go_wp2_with fail
  refine (HL1.out _).mono ?_
  rintro e w3 ⟨Av1, cv1, rfl, ov1, b3⟩
  have B3 : Below w.heap.size w w3 := Below.next B2 b3
  have oa1_3 := oa1_2.below b3
  clear oa1_2
  have oa2_3 := oa2.below b3
  clear oa2
  go_wp2_with fail
  refine (HL2.out _).mono ?_
  rintro e w4 ⟨Av2, cv2, rfl, ov2, b4⟩
  have B4 : Below w.heap.size w w4 := Below.next B3 b4
  have oa1_4 := oa1_3.below b4
  clear oa1_3
  have oa2_4 := oa2_3.below b4
  clear oa2_3
  have ov1_4 := ov1.below b4
  clear ov1
  go_wp2_with fail
  refine (HN1.out _).mono ?_
  rintro e w5 ⟨rfl, b5⟩
  have B5 : Below w.heap.size w w5 := Below.next B4 b5
  have oa1_5 := oa1_4.below b5
  clear oa1_4
  have oa2_5 := oa2_4.below b5
  clear oa2_4
  have ov1_5 := ov1_4.below b5
  clear ov1_4
  have ov2_5 := ov2.below b5
  clear ov2
  go_upto_region 6 with fail
  go_cut [108] from 63 to 108 (fun e wx => e = .bool false ∧ Below w5.heap.size w5 wx)
  case first =>
    cases lb
    · skip
      go_wp2_with fail
      refine (HCC.out _ _ _ _ _ oa1_5.cells oa2_5.cells).mono ?_
      rintro e w6 ⟨rfl, b6⟩
      have B6 : Below w.heap.size w w6 := Below.next B5 b6
      have oa1_6 := oa1_5.below b6
      clear oa1_5
      have oa2_6 := oa2_5.below b6
      clear oa2_5
      have ov1_6 := ov1_5.below b6
      clear ov1_5
      have ov2_6 := ov2_5.below b6
      clear ov2_5
      go_wp2_with fail
      refine (HVV.out _ _ _ _ _ ov1_6.cells ov2_6.cells).mono ?_
      rintro e w7 ⟨rfl, b7⟩
      have B7 : Below w.heap.size w w7 := Below.next B6 b7
      have oa1_7 := oa1_6.below b7
      clear oa1_6
      have oa2_7 := oa2_6.below b7
      clear oa2_6
      have ov1_7 := ov1_6.below b7
      clear ov1_6
      have ov2_7 := ov2_6.below b7
      clear ov2_6
      go_wp2_with fail
      go_meet
      case rel => exact ⟨rfl, Below.next (b6) b7⟩
    · skip
      go_wp2_with fail
      refine (HCC.out _ _ _ _ _ oa1_5.cells oa2_5.cells).mono ?_
      rintro e w6 ⟨rfl, b6⟩
      have B6 : Below w.heap.size w w6 := Below.next B5 b6
      have oa1_6 := oa1_5.below b6
      clear oa1_5
      have oa2_6 := oa2_5.below b6
      clear oa2_5
      have ov1_6 := ov1_5.below b6
      clear ov1_5
      have ov2_6 := ov2_5.below b6
      clear ov2_5
      go_wp2_with fail
      refine (HVV.out _ _ _ _ _ ov1_6.cells ov2_6.cells).mono ?_
      rintro e w7 ⟨rfl, b7⟩
      have B7 : Below w.heap.size w w7 := Below.next B6 b7
      have oa1_7 := oa1_6.below b7
      clear oa1_6
      have oa2_7 := oa2_6.below b7
      clear oa2_6
      have ov1_7 := ov1_6.below b7
      clear ov1_6
      have ov2_7 := ov2_6.below b7
      clear ov2_6
      go_wp2_with fail
      go_meet
      case rel => exact ⟨rfl, Below.next (b6) b7⟩
  case rest =>
  obtain ⟨rfl, hcut⟩ := hcut
  obtain ⟨w6, hwc⟩ : ∃ x : World, x = wc := ⟨_, rfl⟩
  rw [← hwc] at hcut ⊢
  clear hwc
  have b6 := hcut
  clear hcut
  have B6 : Below w.heap.size w w6 := Below.next B5 b6
  have oa1_6 := oa1_5.below b6
  clear oa1_5
  have oa2_6 := oa2_5.below b6
  clear oa2_5
  have ov1_6 := ov1_5.below b6
  clear ov1_5
  have ov2_6 := ov2_5.below b6
  clear ov2_5
  go_wp2_with fail
  refine (HS1.out _).mono ?_
  rintro e w7 ⟨As1, cs1, rfl, os1, b7⟩
  have B7 : Below w.heap.size w w7 := Below.next B6 b7
  have oa1_7 := oa1_6.below b7
  clear oa1_6
  have ov1_7 := ov1_6.below b7
  clear ov1_6
  go_wp2_with fail
  refine (HS2.out _).mono ?_
  rintro e w8 ⟨As2, cs2, rfl, os2, b8⟩
  have B8 : Below w.heap.size w w8 := Below.next B7 b8
  have oa1_8 := oa1_7.below b8
  clear oa1_7
  have ov1_8 := ov1_7.below b8
  clear ov1_7
  have os1_8 := os1.below b8
  clear os1
  go_upto_region 10 with fail
  go_cut [139] from 121 to 139 (fun e wx => e = .bool false ∧ Below w8.heap.size w8 wx)
  case first =>
    cases sb
    · skip
      go_wp2_with fail
      refine (HSS.out _ _ _ _ _ os1_8.cells os2.cells).mono ?_
      rintro e w9 ⟨rfl, b9⟩
      have B9 : Below w.heap.size w w9 := Below.next B8 b9
      have oa1_9 := oa1_8.below b9
      clear oa1_8
      have ov1_9 := ov1_8.below b9
      clear ov1_8
      have os1_9 := os1_8.below b9
      clear os1_8
      have os2_9 := os2.below b9
      clear os2
      go_wp2_with fail
      go_meet
      case rel => exact ⟨rfl, b9⟩
    · skip
      have hsl := HSL.out (by first | rfl | trivial)
      have hk30 := HK30.out (by first | rfl | trivial)
      go_wp2_with fail
      refine (HSS.out _ _ _ _ _ os1_8.cells os2.cells).mono ?_
      rintro e w9 ⟨rfl, b9⟩
      have B9 : Below w.heap.size w w9 := Below.next B8 b9
      have oa1_9 := oa1_8.below b9
      clear oa1_8
      have ov1_9 := ov1_8.below b9
      clear ov1_8
      have os1_9 := os1_8.below b9
      clear os1_8
      have os2_9 := os2.below b9
      clear os2
      go_wp2_with fail
      go_meet
      case rel => exact ⟨rfl, b9⟩
  case rest =>
  obtain ⟨rfl, hcut⟩ := hcut
  obtain ⟨w9, hwc⟩ : ∃ x : World, x = wc := ⟨_, rfl⟩
  rw [← hwc] at hcut ⊢
  clear hwc
  have b9 := hcut
  clear hcut
  have B9 : Below w.heap.size w w9 := Below.next B8 b9
  have oa1_9 := oa1_8.below b9
  clear oa1_8
  have ov1_9 := ov1_8.below b9
  clear ov1_8
  have os1_9 := os1_8.below b9
  clear os1_8
  have os2_9 := os2.below b9
  clear os2
  cases lb
  · go_wp2_with fail
    go_ret
    exact ⟨rfl, B9⟩
  obtain ⟨N, hN, k1, k2, k3, k4⟩ := ser_count Hlb.out.symm
  have HO1 := hid fun W => impl_CoresBySeries t n W ht64 hn64
  rw [k1] at HO1
  rw [← HVL.out] at k3
  have HK2 := hid k2
  have HK3 := hid k3
  have HN9 := hid hN
  have hN0 : (0 : Int) ≤ n := by omega
  have hNl : n < ((serF t n).length : Int) := by omega
  have hNt : n.toNat = N := by omega
  obtain ⟨SR, hSR⟩ : ∃ b, b = serF t n := ⟨_, rfl⟩
  rw [← hSR] at HO1 HK2 HK3 hNl
  clear hN k1 k2 k3 k4 hSR
  go_wp2_with fail
  refine (HO1.out _).mono ?_
  rintro e w10 ⟨Ao1, co1, rfl, oo1, b10⟩
  have B10 : Below w.heap.size w w10 := Below.next B9 b10
  have oa1_10 := oa1_9.below b10
  clear oa1_9
  have ov1_10 := ov1_9.below b10
  clear ov1_9
  obtain ⟨b0, o0, e, hc⟩ := oo1.cells (by have := HK2.out; omega)
  cases e
  have q9 := hc N (by have := HK2.out; omega)
  rw [HK3.out] at q9
  clear hc oo1
  have hb1000 : (VL.length : Int) ≤ 10000 := HRL.out
  have HDV := hid ov1_10
  clear ov1_10
  have HDA := hid oa1_10
  clear oa1_10
  go_wp2_with fail
  clear q9 hN0 hNl hNt hb1000
  go_loopw [160] (fun iv wr => ∃ k : Nat, k ≤ VL.length ∧ iv = .int .i64 k ∧ Hid (Below w10.heap.size w10 wr)) (fun iv _ => VL.length - (intOf iv).toNat)
  case atStart => exact ⟨0, Nat.zero_le _, rfl, hid (Below.refl _ _)⟩
  case round =>
    obtain ⟨k, hk, rfl, HBL⟩ := hrel
    by_cases hlt : k < VL.length
    · have hltC : k < CL.length := by rw [HLEN.out]; exact hlt
      obtain ⟨g1, g2, g3, g4, g5, g6⟩ := HROW.out k hltC
      have hgl := g1.len
      have HCA := hid (HDA.out.below HBL.out).cells
      have HCV := hid (HDV.out.below HBL.out).cells
      obtain ⟨b, o, B2, C2, e, q0, R1⟩ := row_at9 HCA.out hltC
      cases e
      have hki : (k : Int) < (VL.length : Int) := by omega
      have hV := hid fun W (h : Cells W B2 (CL.getD k [])) => impl_LevelsOf B2 C2 (CL.getD k []) t W (by omega) h ht64
      rw [g3] at hV
      have hH := hid fun A c AV cV W (hv : Cells2 W AV VL) (h : Cells W A (lvF (CL.getD k []) t)) => qHas_t AV A cV c VL (lvF (CL.getD k []) t) W (by have := HRL.out; omega) HVR.out (bound_LevelsOf _ _) hv h g4
      have hQ := hid fun W (h : Cells W B2 (CL.getD k [])) => qCore_t B2 C2 (CL.getD k []) t W (by omega) h ht64 g5
      have hS := hid fun W (h : Cells W B2 (CL.getD k [])) => qSum_e B2 (CL.getD k []) C2 W hgl (fun j hj => by have := g1.pos j hj; have := g1.le j hj; omega) h
      rw [g2] at hS
      have HR1 := hid R1
      have HLT := hid hlt
      have hb1000 : (VL.length : Int) ≤ 10000 := HRL.out
      obtain ⟨LV, hLV⟩ : ∃ P, P = lvF (CL.getD k []) t := ⟨_, rfl⟩
      rw [← hLV] at hV hH
      clear hLV
      by_cases hk0 : k = 0
      · obtain ⟨P, hP⟩ : ∃ P, P = CL.getD k [] := ⟨_, rfl⟩
        rw [← hP] at hS hQ hV HR1 q0
        subst hk0
        rw [Nat.add_zero] at q0
        clear g1 g2 g3 g4 g5 g6 hgl hP hlt hltC hk R1
        go_wp2_with fail
        refine (hV.out _ HR1.out).mono ?_
        rintro e x1 ⟨A1, c1, rfl, o1, d1⟩
        have HO1 := hid o1
        have HD1 := hid d1
        clear o1 d1
        go_wp2_with fail
        refine (hH.out _ _ _ _ _ (cells2_later HCV.out HD1.out) HO1.out.cells).mono ?_
        rintro e x2 ⟨rfl, d2⟩
        have HD2 := hid (Below.next HD1.out d2)
        clear d2
        go_wp2_with fail
        refine (hQ.out _ (HR1.out.later HD2.out)).mono ?_
        rintro e x3 ⟨rfl, d3⟩
        have HD3 := hid (Below.next HD2.out d3)
        clear d3
        go_wp2_with fail
        refine (hS.out _ (HR1.out.later HD3.out)).mono ?_
        rintro e w' ⟨rfl, rfl⟩
        have HBN := hid (Below.next HBL.out HD3.out)
        go_wp2_with fail
        go_roundw
        case rel => have := HLT.out; exact ⟨1, by omega, rfl, HBN⟩
        case measure => have := HLT.out; simp [intOf]; omega
      · obtain ⟨m, hmk⟩ : ∃ m, m + 1 = k := ⟨k - 1, by omega⟩
        have hmlt : m < CL.length := by omega
        have hbf := g6 m hmk
        obtain ⟨f1, _, _, _, _, _⟩ := HROW.out m hmlt
        have hfl := f1.len
        obtain ⟨b', o', B3, C3, e, q1, R2⟩ := row_at9 HCA.out hmlt
        cases e
        have hkm : (k : Int) - 1 = (m : Int) := by omega
        have hmi : (m : Int) < (VL.length : Int) := by omega
        have hkp : (0 : Int) < (k : Int) := by omega
        have hBF := hid fun W (h : Cells W B3 (CL.getD m [])) (h' : Cells W B2 (CL.getD k [])) => qBefore_any B3 B2 C3 C2 (CL.getD m []) (CL.getD k []) W (by omega) (by omega) h h'
        rw [hbf] at hBF
        have HR2 := hid R2
        obtain ⟨P, hP⟩ : ∃ P, P = CL.getD k [] := ⟨_, rfl⟩
        obtain ⟨P', hP'⟩ : ∃ P, P = CL.getD m [] := ⟨_, rfl⟩
        rw [← hP] at hS hQ hV HR1 q0 hBF
        rw [← hP'] at HR2 q1 hBF
        clear g1 g2 g3 g4 g5 g6 f1 hgl hfl hP hP' hlt hltC hk R1 R2 hbf hmk hmlt hk0
        go_wp2_with fail
        refine (hV.out _ HR1.out).mono ?_
        rintro e x1 ⟨A1, c1, rfl, o1, d1⟩
        have HO1 := hid o1
        have HD1 := hid d1
        clear o1 d1
        go_wp2_with fail
        refine (hH.out _ _ _ _ _ (cells2_later HCV.out HD1.out) HO1.out.cells).mono ?_
        rintro e x2 ⟨rfl, d2⟩
        have HD2 := hid (Below.next HD1.out d2)
        clear d2
        go_wp2_with fail
        refine (hQ.out _ (HR1.out.later HD2.out)).mono ?_
        rintro e x3 ⟨rfl, d3⟩
        have HD3 := hid (Below.next HD2.out d3)
        clear d3
        go_wp2_with fail
        refine (hS.out _ (HR1.out.later HD3.out)).mono ?_
        rintro e w' ⟨rfl, rfl⟩
        have hq1 := cell_later q1 HD3.out
        go_wp2_with fail
        refine (hBF.out _ (HR2.out.later HD3.out) (HR1.out.later HD3.out)).mono ?_
        rintro e x4 ⟨rfl, d4⟩
        have HBN := hid (Below.next (Below.next HBL.out HD3.out) d4)
        clear d4
        go_wp2_with fail
        go_roundw
        case rel => have := HLT.out; exact ⟨k + 1, by omega, congrArg (Value.int .i64) (Int.natCast_succ k).symm, HBN⟩
        case measure => have := HLT.out; simp [intOf]; omega
    · have hge : ¬ (k : Int) < (VL.length : Int) := by omega
      clear hlt hk
      obtain ⟨wo, rfl⟩ : ∃ wo : World, wo = wr := ⟨_, rfl⟩
      have HDV2 := hid (HDV.out.below HBL.out)
      go_wp2_with fail
      go_loopw [208] (fun iv wr => ∃ k : Nat, k ≤ VL.length ∧ iv = .int .i64 k ∧ Hid (Below wo.heap.size wo wr)) (fun iv _ => VL.length - (intOf iv).toNat)
      case atStart => exact ⟨0, Nat.zero_le _, rfl, hid (Below.refl _ _)⟩
      case round =>
        obtain ⟨k, hk, rfl, HBK⟩ := hrel
        by_cases hlt : k < VL.length
        · obtain ⟨g1, g2, g3⟩ := HLEV.out k hlt
          have HCV := hid (HDV2.out.below HBK.out).cells
          obtain ⟨b, o, B2, C2, e, q0, R1⟩ := row_at9 HCV.out hlt
          cases e
          have hki : (k : Int) < (VL.length : Int) := by omega
          have hZ := hid fun W (h : Cells W B2 (VL.getD k [])) => impl_SizeOfLevels B2 C2 (VL.getD k []) W (HVR.out k hlt) h
          rw [g1, g2] at hZ
          have HR1 := hid R1
          have HLT := hid hlt
          have hb1000 : (VL.length : Int) ≤ 10000 := HRL.out
          by_cases hk0 : k = 0
          · obtain ⟨P, hP⟩ : ∃ P, P = VL.getD k [] := ⟨_, rfl⟩
            rw [← hP] at hZ HR1 q0
            subst hk0
            rw [Nat.add_zero] at q0
            clear g1 g2 g3 hP hlt hk R1
            go_wp2_with fail
            refine (hZ.out _ HR1.out).mono ?_
            rintro e x1 ⟨rfl, d1⟩
            have HBN := hid (Below.next HBK.out d1)
            clear d1
            go_wp2_with fail
            go_roundw
            case rel => have := HLT.out; exact ⟨1, by omega, rfl, HBN⟩
            case measure => have := HLT.out; simp [intOf]; omega
          · obtain ⟨m, hmk⟩ : ∃ m, m + 1 = k := ⟨k - 1, by omega⟩
            have hmlt : m < VL.length := by omega
            have hne := g3 m hmk
            obtain ⟨b', o', B3, C3, e, q1, R2⟩ := row_at9 HCV.out hmlt
            cases e
            have hkm : (k : Int) - 1 = (m : Int) := by omega
            have hmi : (m : Int) < (VL.length : Int) := by omega
            have hkp : (0 : Int) < (k : Int) := by omega
            have hBF := hid fun W (h : Cells W B3 (VL.getD m [])) (h' : Cells W B2 (VL.getD k [])) => qSame_n B3 B2 C3 C2 (VL.getD m []) (VL.getD k []) W (HVR.out m hmlt) (HVR.out k hlt) h h' hne
            have HR2 := hid R2
            obtain ⟨P, hP⟩ : ∃ P, P = VL.getD k [] := ⟨_, rfl⟩
            obtain ⟨P', hP'⟩ : ∃ P, P = VL.getD m [] := ⟨_, rfl⟩
            rw [← hP] at hZ HR1 q0 hBF
            rw [← hP'] at HR2 q1 hBF
            clear g1 g2 g3 hP hP' hlt hk R1 R2 hne hmk hmlt hk0
            go_wp2_with fail
            refine (hZ.out _ HR1.out).mono ?_
            rintro e x1 ⟨rfl, d1⟩
            have hq1 := cell_later q1 d1
            have HD1 := hid d1
            clear d1
            go_wp2_with fail
            refine (hBF.out _ (HR2.out.later HD1.out) (HR1.out.later HD1.out)).mono ?_
            rintro e x2 ⟨rfl, d2⟩
            have HBN := hid (Below.next (Below.next HBK.out HD1.out) d2)
            clear d2
            go_wp2_with fail
            go_roundw
            case rel => have := HLT.out; exact ⟨k + 1, by omega, congrArg (Value.int .i64) (Int.natCast_succ k).symm, HBN⟩
            case measure => have := HLT.out; simp [intOf]; omega
        · have hge2 : ¬ (k : Int) < (VL.length : Int) := by omega
          clear hlt hk
          go_wp2_with fail
          go_ret
          exact ⟨rfl, Below.next (Below.next B10 HBL.out) HBK.out⟩
end Go.Proofs.Ytiebnnchaopbkaa
