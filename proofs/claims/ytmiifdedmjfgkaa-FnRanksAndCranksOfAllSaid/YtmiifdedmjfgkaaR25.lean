/-
  Several texts in one.
-/
import Derived.Test.YtmiifdedmjfgkaaR05
import Derived.Test.YtmiifdedmjfgkaaR24
import Derived.Test.YtmiifdedmjfgkaaR03
import Derived.Test.YtmiifdedmjfgkaaR04
import Derived.Test.YtmiifdedmjfgkaaR02
/-
  Contracts: the next number of partitions, of the program.
-/
namespace Go.Proofs.Ytmiifdedmjfgkaa
open Go.RowKit

def ixV (xs : List Int) (i : Int) : Int := if i < 0 then 0 else xs.getD i.toNat 0

set_option maxHeartbeats 400000 in
theorem sumAt1_any (i : Int) (A : Option Addr) (c : Nat) (xs : List Int) (g : Nat) (w : World) (hi : i < xs.length) (hl : xs.length ≤ 1000) (hc : Cells w A xs) (hg : w.cell? ⟨g, 0, none⟩ = some (.slice A xs.length c)) :
    Calls Try.prog 55 #[.int .i64 i, .pointer (some ⟨g, 0, none⟩)] w fun e w' => e = .returned (.int .i64 (ixV xs i)) ∧ w = w' := by
  by_cases h : i < 0
  · have e : ixV xs i = 0 := by simp [ixV, h]
    rw [e]
    go_enter Try.func55, Try.ntmps55
    go_wp2_with fail
    go_ret
    exact ⟨rfl, rfl⟩
  · have e : ixV xs i = xs.getD i.toNat 0 := by simp [ixV, h]
    rw [e]
    obtain ⟨k, rfl⟩ : ∃ k : Nat, i = k := ⟨i.toNat, by omega⟩
    have hk : k < xs.length := by omega
    obtain ⟨b, o, rfl, hcc⟩ := hc (by omega)
    have hck := hcc k hk
    rw [Int.toNat_natCast]
    obtain ⟨x, hx⟩ : ∃ x, x = xs.getD k 0 := ⟨_, rfl⟩
    rw [← hx] at hck ⊢
    clear hx hcc hc e
    go_enter Try.func55, Try.ntmps55
    go_wp2_with fail
    go_ret
    exact ⟨rfl, rfl⟩

set_option maxHeartbeats 400000 in
theorem sumIx_any (A : Option Addr) (c : Nat) (xs : List Int) (B : Option Addr) (d : Nat) (is : List Int) (g : Nat) (w : World) (hl : xs.length ≤ 1000) (hil : is.length ≤ 30) (hc : Cells w A xs) (hb : Cells w B is)
    (hx : ∀ i ∈ is, i < xs.length) (hv : ∀ i ∈ is, 0 ≤ ixV xs i ∧ ixV xs i ≤ 5000000000000) (hg : w.cell? ⟨g, 0, none⟩ = some (.slice A xs.length c)) :
    Calls Try.prog 48 #[.slice B is.length d, .func (.func 55) #[] #[.pointer (some ⟨g, 0, none⟩)]] w fun e w' => e = .returned (.int .i64 ((is.map (ixV xs)).sum)) ∧ w = w' := by
  have HV := hid hv
  have HX := hid hx
  clear hv hx
  go_enter Try.func48, Try.ntmps48
  go_wp2_with fail
  go_loop [5, 10] (fun s i => ∃ k : Nat, k ≤ is.length ∧ i = .int .i64 k ∧ s = .int .i64 ((is.map (ixV xs)).take k).sum) (fun _ i => is.length - (intOf i).toNat)
  case atStart => exact ⟨0, Nat.zero_le _, rfl, by simp⟩
  case round =>
    obtain ⟨k, hk, rfl, rfl⟩ := hrel
    have hmem : ∀ j, j < is.length → is.getD j 0 ∈ is := fun j hj => by
      rw [List.getD_eq_getElem?_getD, List.getElem?_eq_getElem hj]; exact List.getElem_mem _
    have hsb := sum_take_bound (is.map (ixV xs)) 5000000000000 (fun j hj => by
      rw [List.length_map] at hj
      rw [map_get is (ixV xs) j hj]
      exact HV.out _ (hmem j hj)) (by omega) k
    rw [List.length_map] at hsb
    obtain ⟨s, hs⟩ : ∃ s, s = ((is.map (ixV xs)).take k).sum := ⟨_, rfl⟩
    rw [← hs] at hsb ⊢
    have HS := hid hs; clear hs
    by_cases hlt : k < is.length
    · obtain ⟨b, o, rfl, hcc⟩ := hb (by omega)
      have hck := hcc k hlt
      have hxb := HV.out _ (hmem k hlt)
      have hib := HX.out _ (hmem k hlt)
      have HXX := hid (map_get is (ixV xs) k hlt)
      obtain ⟨i, hi⟩ : ∃ i, i = is.getD k 0 := ⟨_, rfl⟩
      rw [← hi] at hck hxb hib HXX
      have HC := hid (sumAt1_any i A c xs g w hib hl hc hg)
      obtain ⟨y, hy⟩ : ∃ y, y = ixV xs i := ⟨_, rfl⟩
      rw [← hy] at hxb HC HXX
      clear hcc hb hi hy hmem hib
      go_wp2_with (go_at_call 55; refine HC.out.mono ?_; rintro e w' ⟨rfl, rfl⟩)
      go_round
      case rel => exact ⟨k + 1, by omega, by go_num, by rw [sum_take_succ (is.map (ixV xs)) k (by simpa using hlt), ← HS.out, HXX.out]⟩
      case measure => simp [intOf]; omega
    · clear hmem
      go_wp2_with fail
      go_ret
      exact ⟨ret_int (by rw [HS.out, List.take_of_length_le (by simp; omega)]), rfl⟩

set_option maxHeartbeats 400000 in
theorem sumAt_any (A : Option Addr) (c : Nat) (xs : List Int) (B : Option Addr) (d : Nat) (is : List Int) (w : World) (hl : xs.length ≤ 1000) (hil : is.length ≤ 30) (hc : Cells w A xs) (hb : Cells w B is)
    (hx : ∀ i ∈ is, i < xs.length) (hv : ∀ i ∈ is, 0 ≤ ixV xs i ∧ ixV xs i ≤ 5000000000000) :
    Calls Try.prog 54 #[.slice A xs.length c, .slice B is.length d] w fun e w' => e = .returned (.int .i64 ((is.map (ixV xs)).sum)) ∧ Below w.heap.size w w' := by
  obtain ⟨w2, hw2⟩ : ∃ w2, w2 = w.alloc (.cells #[.slice A xs.length c] 22) := ⟨_, rfl⟩
  have b2 : Below w.heap.size w w2 := by rw [hw2]; exact (Below.refl _ _).alloc (Nat.le_refl _) _
  have h1 : w2.cell? ⟨w.heap.size, 0, none⟩ = some (.slice A xs.length c) := by
    rw [hw2]; exact cell_one_new w (.slice A xs.length c) 22 0 (.slice A xs.length c) rfl
  have HS := hid (sumIx_any A c xs B d is w.heap.size w2 hl hil (hc.below b2) (hb.below b2) hx hv h1)
  have HW := hid hw2
  clear hw2 h1 hx hv
  go_enter Try.func54, Try.ntmps54
  go_wp2_with fail
  rw [← HW.out]
  refine HS.out.mono ?_
  rintro e w3 ⟨rfl, rfl⟩
  go_wp2_with fail
  go_ret
  exact ⟨rfl, b2⟩

theorem pnt_q : ∀ k, k < 13 → pnt ((k : Nat) : Int) = qA k ∧ pnt (-((k : Nat) : Int)) = qB k := by decide +kernel
theorem sgn_q : ∀ k, k < 13 → sgn ((k : Nat) : Int) = sg1 k := by decide +kernel
theorem ixV_pq {n : Nat} (q : Nat) (h1 : 1 ≤ q) : ixV (pnT.take n) ((n : Int) - q) = pq n q := by
  unfold ixV pq
  by_cases h : q ≤ n
  · rw [if_neg (by omega), if_pos h, show ((n : Int) - q).toNat = n - q by omega]
    rw [List.getD_eq_getElem?_getD, List.getD_eq_getElem?_getD, List.getElem?_take_of_lt (by omega)]
  · rw [if_pos (by omega), if_neg h]
theorem pnT_take_len {n : Nat} (hn : n < 202) : (pnT.take n).length = n := by rw [List.length_take, pnT_len]; omega

set_option maxRecDepth 100000 in
set_option maxHeartbeats 2000000 in
theorem nextNumber_any (A : Option Addr) (c n : Nat) (w : World) (h1 : 1 ≤ n) (hn : n < 201) (hc : Cells w A (pnT.take n)) :
    Calls Try.prog 47 #[.slice A n c] w fun e w' => e = .returned (.int .i64 (pnT.getD n 0)) ∧ Below w.heap.size w w' := by
  have HC := hid hc; clear hc
  obtain ⟨V, hV⟩ : ∃ V, V = pnT.getD n 0 := ⟨_, rfl⟩
  rw [← hV]
  have HV := hid hV
  clear hV
  go_enter Try.func47, Try.ntmps47
  go_wp2_with fail
  go_loopw [4, 5] (fun s i wr => ∃ k : Nat, k ≤ 11 ∧ i = .int .i64 ((k : Int) + 1) ∧ s = .int .i64 (nxS n k) ∧ Below w.heap.size w wr) (fun _ i _ => 20 - (intOf i).toNat)
  case atStart => exact ⟨0, by omega, rfl, rfl, Below.refl _ _⟩
  case round =>
    obtain ⟨k, hk, rfl, rfl, hbel⟩ := hrel
    have hq := q_bd (k + 1) (by omega)
    have hpA := pentagonal_any ((k : Int) + 1) wr (by omega)
    have e1 : pnt ((k : Int) + 1) = qA (k + 1) := (pnt_q (k + 1) (by omega)).1
    have e2 : pnt (-((k : Int) + 1)) = qB (k + 1) := (pnt_q (k + 1) (by omega)).2
    have HPA := hid fun wx => (e1 ▸ pentagonal_any ((k : Int) + 1) wx (by omega) : Calls Try.prog 52 #[.int .i64 ((k : Int) + 1)] wx fun e w' => e = .returned (.int .i64 (qA (k + 1))) ∧ wx = w')
    have HPB := hid fun wx => (e2 ▸ pentagonal_any (-((k : Int) + 1)) wx (by omega) : Calls Try.prog 52 #[.int .i64 (-((k : Int) + 1))] wx fun e w' => e = .returned (.int .i64 (qB (k + 1))) ∧ wx = w')
    have hsb := nxS_bd n hn k (by omega)
    have hsb2 := nxS_bd n hn (k + 1) (by omega)
    have hse := nxS_end n hn k (by omega)
    have hss := nxS_succ n k
    have hg := sg1_or (k + 1)
    have hgs : sgn ((k : Int) + 1) = sg1 (k + 1) := sgn_q (k + 1) (by omega)
    have HES := hid fun wx => (hgs ▸ evenSign_any ((k : Int) + 1) wx (by omega) (by omega) : Calls Try.prog 53 #[.int .i64 ((k : Int) + 1)] wx fun e w' => e = .returned (.int .i64 (sg1 (k + 1))) ∧ wx = w')
    obtain ⟨qa, hqa⟩ : ∃ q, q = qA (k + 1) := ⟨_, rfl⟩
    obtain ⟨qb, hqb⟩ : ∃ q, q = qB (k + 1) := ⟨_, rfl⟩
    obtain ⟨s, hs⟩ : ∃ s, s = nxS n k := ⟨_, rfl⟩
    obtain ⟨g, hgg⟩ : ∃ g, g = sg1 (k + 1) := ⟨_, rfl⟩
    rw [← hqa, ← hqb] at hq
    rw [← hqa] at HPA hse
    rw [← hqb] at HPB
    rw [← hgg] at hg HES
    rw [← hs] at hsb hse ⊢
    rw [← hqa, ← hqb, ← hs, ← hgg] at hss
    have ha := pq_bd (n := n) qa hn
    have hb := pq_bd (n := n) qb hn
    clear hpA e1 e2 hgs hqa hqb hs hgg
    by_cases hlt : qa ≤ n
    · have hiA := ixV_pq (n := n) qa (by omega)
      have hiB := ixV_pq (n := n) qb (by omega)
      have HSA := hid fun (B : Option Addr) (d : Nat) (wx : World) (hbx : Below w.heap.size w wx) (hcx : Cells wx B [(n : Int) - qa, (n : Int) - qb]) => sumAt_any A c (pnT.take n) B d [(n : Int) - qa, (n : Int) - qb] wx (by rw [pnT_take_len (by omega)]; omega) (by simp) (HC.out.later hbx) hcx
        (by intro i hi; rw [pnT_take_len (by omega)]; simp at hi; omega) (by intro i hi; simp at hi; rcases hi with rfl | rfl; (· rw [hiA]; exact ha); (· rw [hiB]; exact hb))
      rw [pnT_take_len (by omega)] at HSA
      simp only [List.map_cons, List.map_nil, List.sum_cons, List.sum_nil, hiA, hiB] at HSA
      obtain ⟨a, hae⟩ : ∃ a, a = pq n qa := ⟨_, rfl⟩
      obtain ⟨b, hbe⟩ : ∃ b, b = pq n qb := ⟨_, rfl⟩
      rw [← hae] at ha HSA hss
      rw [← hbe] at hb HSA hss
      have HSS := hid hss
      obtain ⟨s2, hs2⟩ : ∃ s2, s2 = nxS n (k + 1) := ⟨_, rfl⟩
      rw [← hs2] at HSS hsb2 hss
      have HS2 := hid hs2
      have hbl := hbel
      clear hiA hiB hae hbe hs2 hse
      rcases hg with rfl | rfl
      · go_wp2_with (first | (go_at_call 52; refine (HPA.out _).mono ?_; rintro e w' ⟨rfl, rfl⟩) | (go_at_call 52; refine (HPB.out _).mono ?_; rintro e w' ⟨rfl, rfl⟩) | (go_at_call 53; refine (HES.out _).mono ?_; rintro e w' ⟨rfl, rfl⟩))
        have hO2 : Own (wr.alloc (.cells #[.int .i64 ((n : Int) - qa), .int .i64 ((n : Int) - qb)] 3)) wr.heap.size (some ⟨wr.heap.size, 0, none⟩) 2 [(n : Int) - qa, (n : Int) - qb] := World.ownsRow_lit (base := wr.heap.size) (e := 3) (size := 1) wr #[.int .i64 ((n : Int) - qa), .int .i64 ((n : Int) - qb)] 2 (Nat.le_refl _) (by unfold maxLen; omega) rfl
        have hbA := hbel.alloc hbel.size (.cells #[.int .i64 ((n : Int) - qa), .int .i64 ((n : Int) - qb)] 3)
        refine (HSA.out _ _ _ hbA hO2.cells).mono ?_
        rintro e w5 ⟨rfl, b5⟩
        have HB5 := hid (hbA.trans (b5.mono hbA.size))
        clear hO2 hbA b5
        go_wp2_with fail
        go_roundw
        case rel => exact ⟨k + 1, by omega, by go_num, by rw [← HS2.out, HSS.out]; congr 1; omega, HB5.out⟩
        case measure => simp [intOf]; omega
      · go_wp2_with (first | (go_at_call 52; refine (HPA.out _).mono ?_; rintro e w' ⟨rfl, rfl⟩) | (go_at_call 52; refine (HPB.out _).mono ?_; rintro e w' ⟨rfl, rfl⟩) | (go_at_call 53; refine (HES.out _).mono ?_; rintro e w' ⟨rfl, rfl⟩))
        have hO2 : Own (wr.alloc (.cells #[.int .i64 ((n : Int) - qa), .int .i64 ((n : Int) - qb)] 3)) wr.heap.size (some ⟨wr.heap.size, 0, none⟩) 2 [(n : Int) - qa, (n : Int) - qb] := World.ownsRow_lit (base := wr.heap.size) (e := 3) (size := 1) wr #[.int .i64 ((n : Int) - qa), .int .i64 ((n : Int) - qb)] 2 (Nat.le_refl _) (by unfold maxLen; omega) rfl
        have hbA := hbel.alloc hbel.size (.cells #[.int .i64 ((n : Int) - qa), .int .i64 ((n : Int) - qb)] 3)
        refine (HSA.out _ _ _ hbA hO2.cells).mono ?_
        rintro e w5 ⟨rfl, b5⟩
        have HB5 := hid (hbA.trans (b5.mono hbA.size))
        clear hO2 hbA b5
        go_wp2_with fail
        go_roundw
        case rel => exact ⟨k + 1, by omega, by go_num, by rw [← HS2.out, HSS.out]; congr 1; omega, HB5.out⟩
        case measure => simp [intOf]; omega
    · have hfin := hse (by omega)
      have HF := hid (hfin.trans HV.out.symm)
      clear hse hfin hss hsb2
      go_wp2_with (go_at_call 52; refine (HPA.out _).mono ?_; rintro e w' ⟨rfl, rfl⟩)
      go_ret
      exact ⟨ret_int HF.out, hbel⟩
end Go.Proofs.Ytmiifdedmjfgkaa
/-
  Contracts: what numbers of partitions are asked for, on both sides.
-/
namespace Go.Proofs.Ytmiifdedmjfgkaa
open Go.RowKit

def nmB (n : Int) : Bool := inB 0 200 n
theorem nmB_nat {n : Int} (h : nmB n = true) : ∃ m : Nat, n = m ∧ m ≤ 200 := by
  have := inB_iff.1 h
  exact ⟨n.toNat, by omega, by omega⟩
set_option maxHeartbeats 1000000 in
theorem isNumbered_b (n : Int) (w : World) (b : Bool) (h : nmB n = b) : Calls Try.prog 46 #[.int .i64 n] w fun e w' => e = .returned (.bool b) ∧ w = w' := by
  subst h
  by_cases h0 : 0 ≤ n
  · by_cases h1 : n ≤ 200
    · go_enter Try.func46, Try.ntmps46
      go_wp2_with fail
      go_ret
      exact ⟨ret_bool (by simp [nmB, inB, h0, h1]), rfl⟩
    · go_enter Try.func46, Try.ntmps46
      go_wp2_with fail
      go_ret
      exact ⟨ret_bool (by simp [nmB, inB, h0, h1]), rfl⟩
  · go_enter Try.func46, Try.ntmps46
    go_wp2_with fail
    go_ret
    exact ⟨ret_bool (by simp [nmB, inB]; omega), rfl⟩
end Go.Proofs.Ytmiifdedmjfgkaa
