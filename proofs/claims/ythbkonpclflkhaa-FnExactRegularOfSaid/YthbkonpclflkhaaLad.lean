/-
  Contracts: cells counted on ladders, the program's side.
-/
import Derived.Test.YthbkonpclflkhaaLadMath
import Derived.Test.YthbkonpclflkhaaReg
import Derived.Test.YthbkonpclflkhaaStrip
import Derived.Test.YthbkonpclflkhaaCB
import Derived.Deep.RegionWith
namespace Go.Proofs.Ythbkonpclflkhaa
open Go.RowKit

theorem made_row (w : World) (n : Nat) (hn : n ≤ 1000) : Own (w.alloc (.cells (madeCells #[.int .i64 0] n) 3)) w.heap.size (some ⟨w.heap.size, 0, none⟩) n (fnRow n fun _ => 0) := by
  have h := World.ownsRow_lit (base := w.heap.size) (e := 3) (size := 1) w (madeCells #[.int .i64 0] n) n (Nat.le_refl _) (by unfold maxLen; omega) (by rw [size_madeCells]; omega)
  rw [toList_madeCells_one] at h
  unfold Own
  rw [fnRow_len]
  have e : IL (fnRow n fun _ => 0) = List.replicate n (.int .i64 0) := by
    unfold IL fnRow
    rw [List.map_map]
    apply List.ext_getElem?
    intro j
    simp [List.getElem?_map, List.getElem?_replicate]
    by_cases hj : j < n
    · simp [hj]
    · simp [hj]
  rw [e]
  exact h
theorem fnRow_ext (n : Nat) {f g : Nat → Int} (h : ∀ j, j < n → f j = g j) : fnRow n f = fnRow n g := by
  unfold fnRow
  apply List.map_congr_left
  intro j hj
  exact h j (List.mem_range.1 hj)
/-- One more on a ladder. -/
theorem lad_step {xs : List Int} {s : Nat} (hs : 1 ≤ s) (L r c : Nat) :
    (fnRow L fun l => ((cntT xs s r l + if onL s l r c then 1 else 0 : Nat) : Int)).set (r + s * c) (((cntT xs s r (r + s * c) + if onL s (r + s * c) r c then 1 else 0 : Nat) : Int) + 1) = fnRow L fun l => ((cntT xs s r l + if onL s l r (c + 1) then 1 else 0 : Nat) : Int) := by
  rw [fnRow_set]
  refine fnRow_ext L fun l _ => ?_
  have := onL_succ hs l r c
  by_cases e : l = r + s * c
  · rw [if_pos e, e]
    rw [e] at this
    rw [if_pos rfl] at this
    omega
  · rw [if_neg e]
    rw [if_neg e] at this
    omega
theorem lad_start {xs : List Int} {s : Nat} (L r : Nat) : (fnRow L fun l => ((cntT xs s r l + if onL s l r 0 then 1 else 0 : Nat) : Int)) = fnRow L fun l => ((cntT xs s r l : Nat) : Int) :=
  fnRow_ext L fun l _ => by rw [onL_zero]; simp
theorem lad_end {xs : List Int} {s : Nat} (L r : Nat) : (fnRow L fun l => ((cntT xs s r l + if onL s l r (pt xs r) then 1 else 0 : Nat) : Int)) = fnRow L fun l => ((cntT xs s (r + 1) l : Nat) : Int) := rfl
theorem mul_5 {s c : Nat} (hs : s ≤ 5) (hc : c ≤ 30) : s * c ≤ 150 := by
  have := Nat.mul_le_mul hs hc; omega

set_option maxRecDepth 100000 in
set_option maxHeartbeats 4000000 in
theorem ladderCounts_any (A : Option Addr) (c : Nat) (xs : List Int) (s : Nat) (w : World) (G : Good xs) (hs : 1 ≤ s ∧ s ≤ 5) (hc : Cells w A xs) :
    Calls Try.prog 105 #[.slice A xs.length c, .int .i64 ((s + 1 : Nat) : Int)] w fun e w' => ∃ g c', e = .returned (.slice (some ⟨g, 0, none⟩) (30 + s * 30 + 1) c') ∧ Own w' w.heap.size (some ⟨g, 0, none⟩) c' (fnRow (30 + s * 30 + 1) fun l => ((cnt8 xs s l : Nat) : Int)) ∧ Below w.heap.size w w' := by
  have hlen := G.len
  have HLD := hid fun W (r c : Nat) (hr : r ≤ 30) (hc : c ≤ 30) => (by
    have h := ladder_any r c ((s + 1 : Nat) : Int) W (by omega) (by omega) (by omega)
    rw [show (r : Int) + (((s + 1 : Nat) : Int) - 1) * c = ((r + s * c : Nat) : Int) by rw [show ((s + 1 : Nat) : Int) - 1 = (s : Int) by omega]; simp] at h
    exact h : Calls Try.prog 103 #[.agg #[.int .i64 r, .int .i64 c], .int .i64 ((s + 1 : Nat) : Int)] W fun e w' => e = .returned (.int .i64 ((r + s * c : Nat) : Int)) ∧ Below W.heap.size W w')
  have HP := hid G.part
  have HPS := hid G.pos
  have h30 := HLD.out w 30 30 (by omega) (by omega)
  have hs150 := mul_5 hs.2 (Nat.le_refl 30)
  obtain ⟨L, hL⟩ : ∃ L, L = 30 + s * 30 + 1 := ⟨_, rfl⟩
  have hL182 : L ≤ 182 := by omega
  obtain ⟨y, hy⟩ : ∃ y, y = 30 + s * 30 := ⟨_, rfl⟩
  rw [← hy] at h30
  have H30 := hid h30
  have hyL : (y : Int) + 1 = (L : Int) := by omega
  have hy1000 : y ≤ 1000 := by omega
  rw [← hL]
  have HLE := hid hL
  have hmk := run_make_row' (P := Try.prog) 22 3 (.int .i64 0) 8 Try.underlying22 Try.infoInt rfl .i64 .i64 L (by omega) (by omega)
  obtain ⟨t, ht⟩ : ∃ t : Nat, t = s + 1 := ⟨_, rfl⟩
  rw [← ht] at HLD H30 ⊢
  have HEND := hid (show (fnRow L fun l => ((cntT xs s xs.length l : Nat) : Int)) = fnRow L fun l => ((cnt8 xs s l : Nat) : Int) from rfl)
  clear h30 hy hL G ht
  go_enter Try.func105, Try.ntmps105
  go_wp2_with fail
  refine H30.out.mono ?_
  rintro e w1 ⟨rfl, b1⟩
  have HM := hid (made_row w1 L (by omega))
  have HB1 := hid b1
  clear b1
  go_wp2_with fail
  have HB0 := hid ((HB1.out.alloc HB1.out.size (.cells (madeCells #[.int .i64 0] L) 3)))
  have HZ1 := hid HB1.out.size
  obtain ⟨g, hg⟩ : ∃ g, g = w1.heap.size := ⟨_, rfl⟩
  have HG := hid hg
  rw [← hg] at HM
  rw [← hg]
  clear hg
  go_loopw [16] (fun kv wr => ∃ r : Nat, r ≤ xs.length ∧ kv = .int .i64 r ∧ Hid (Own wr g (some ⟨g, 0, none⟩) L (fnRow L fun l => ((cntT xs s r l : Nat) : Int))) ∧ Below w.heap.size w wr) (fun kv _ => xs.length - (intOf kv).toNat)
  case atStart => exact ⟨0, Nat.zero_le _, rfl, hid HM.out, HB0.out⟩
  case round =>
    obtain ⟨r, hr, rfl, HO, hbel⟩ := hrel
    obtain ⟨wo, rfl⟩ : ∃ wo : World, wo = wr := ⟨_, rfl⟩
    by_cases hlt : r < xs.length
    · obtain ⟨b, o, rfl, hcc⟩ := (hc.later hbel) (by omega)
      have hck := hcc r hlt
      have hp := HP.out r
      have hpp := HPS.out r hlt
      obtain ⟨n, hn⟩ : ∃ n : Nat, xs.getD r 0 = n := ⟨pt xs r, by unfold pt; omega⟩
      have hpn : pt xs r = n := by unfold pt; omega
      rw [hn] at hck hp hpp
      have HPN := hid hpn
      clear hcc hn hpn
      go_wp2_with fail
      go_loopw [22] (fun kv wr => ∃ c : Nat, c ≤ n ∧ kv = .int .i64 c ∧ Hid (Own wr g (some ⟨g, 0, none⟩) L (fnRow L fun l => ((cntT xs s r l + if onL s l r c then 1 else 0 : Nat) : Int))) ∧ Below w.heap.size w wr) (fun kv _ => n - (intOf kv).toNat)
      case atStart => exact ⟨0, Nat.zero_le _, rfl, hid (by rw [lad_start]; exact HO.out), hbel⟩
      case round =>
        obtain ⟨c1, hc1, rfl, HO1, hbel1⟩ := hrel
        by_cases hcn : c1 < n
        · have hcall := HLD.out wr r c1 (by omega) (by omega)
          have hm := mul_5 (s := s) (c := c1) hs.2 (by omega)
          have hqL : r + s * c1 < L := by
            have := Nat.mul_le_mul_left s (show c1 ≤ 30 by omega)
            have := HLE.out
            omega
          have hst := lad_step (xs := xs) hs.1 L r c1
          have hv := cntT_le xs s (r + s * c1) r
          obtain ⟨q, hq⟩ : ∃ q, q = r + s * c1 := ⟨_, rfl⟩
          rw [← hq] at hcall hqL hst hv
          obtain ⟨v, hve⟩ : ∃ v : Nat, v = cntT xs s r q + (if onL s q r c1 then 1 else 0) := ⟨_, rfl⟩
          rw [← hve] at hst
          have hv40 : v ≤ 40 := by rw [hve]; split <;> omega
          have HVE := hid hve
          have HST := hid hst
          have HCA := hid hcall
          have hqli : (q : Int) < (L : Int) := by omega
          clear hcall hst hv hve hq hm
          go_wp2_with fail
          refine HCA.out.mono ?_
          rintro e w2 ⟨rfl, b2⟩
          have ho2 := HO1.out.below b2
          have hck2 := own_get ho2 (k := q) (by rw [fnRow_len]; exact hqL)
          rw [fnRow_get _ _ _ hqL, ← HVE.out] at hck2
          have hfz := own_froz ho2 q
          have hsto := own_set ho2 q ((v : Int) + 1)
          rw [HST.out] at hsto
          have HSO := hid hsto
          have HB2 := hid (Below.next hbel1 b2)
          clear b2 ho2 hsto
          go_wp2_with fail
          go_roundw
          case rel => exact ⟨c1 + 1, by omega, by go_num, hid HSO.out, HB2.out.setCell (by have := HG.out; have := HZ1.out; show w.heap.size ≤ g; omega) _⟩
          case measure => simp [intOf]; omega
        · have hce : c1 = n := by omega
          have ho := HO1.out
          rw [hce, ← HPN.out, lad_end] at ho
          have HO2 := hid ho
          clear ho hce
          go_wp2_with fail
          go_roundw
          case rel => exact ⟨r + 1, by omega, by go_num, HO2, hbel1⟩
          case measure => simp [intOf]; omega
    · have hre : r = xs.length := by omega
      have ho := HO.out
      rw [hre, HEND.out] at ho
      have HO2 := hid (ho.more (show w.heap.size ≤ g by rw [HG.out]; exact HZ1.out))
      clear ho hre
      go_wp2_with fail
      go_ret
      exact ⟨g, L, rfl, HO2.out, hbel⟩
end Go.Proofs.Ythbkonpclflkhaa
