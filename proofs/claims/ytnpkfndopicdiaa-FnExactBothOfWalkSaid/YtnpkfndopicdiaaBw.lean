/-
  Contracts: isWalk and hooksWithWalk of the program.
-/
import Derived.Test.YtnpkfndopicdiaaBwMath
import Derived.Test.YtnpkfndopicdiaaLaySortH
import Derived.Sort.OwnSortedInts
namespace Go.Proofs.Ytnpkfndopicdiaa
open Go.RowKit

theorem wkOk_no {a b : Int} {W : List Int} {k : Nat} (hk : k < W.length) (h : okW a b W k = false) : wkOk a b W = false := by
  cases e : wkOk a b W
  · rfl
  · have := (wkOk_iff.1 e).2 k hk; rw [this] at h; cases h
theorem okW_iff {a b : Int} {W : List Int} {j : Nat} : okW a b W j = true ↔ (0 ≤ W.getD j 0 ∧ W.getD j 0 ≤ mstI a b j) ∧ (j = 0 ∨ W.getD j 0 ≤ W.getD (j - 1) 0) := by
  simp only [okW, Bool.and_eq_true, Bool.or_eq_true, decide_eq_true_eq, inB_iff]
theorem okW_f {a b : Int} {W : List Int} {j : Nat} (h : (0 ≤ W.getD j 0 ∧ W.getD j 0 ≤ mstI a b j) ∧ (j = 0 ∨ W.getD j 0 ≤ W.getD (j - 1) 0) → False) : okW a b W j = false := by
  cases e : okW a b W j
  · rfl
  · exact (h (okW_iff.1 e)).elim

set_option maxRecDepth 100000 in
set_option maxHeartbeats 4000000 in
theorem isWalk_any (A : Option Addr) (c : Nat) (a b : Int) (W : List Int) (w : World) (hs : sz a b = true) (hl : W.length ≤ 1048576) (hc : Cells w A W) :
    Calls Try.prog 108 #[.agg #[.int .i64 a, .int .i64 b], .slice A W.length c] w fun e w' => e = .returned (.bool (wkOk a b W)) ∧ Below w.heap.size w w' := by
  obtain ⟨ha, hb, -⟩ := sz_iff.1 hs
  have b1 : Below w.heap.size w (w.alloc (.cells #[.int .i64 a, .int .i64 b] 57)) := (Below.refl _ _).alloc (Nat.le_refl _) _
  have X := hid (Box2.new w 57 (.int .i64 a) (.int .i64 b))
  obtain ⟨w1, hw1⟩ : ∃ w1, w1 = w.alloc (.cells #[.int .i64 a, .int .i64 b] 57) := ⟨_, rfl⟩
  have HW := hid hw1
  rw [← hw1] at b1 X
  clear hw1
  by_cases hlen : (W.length : Int) = a - 1
  · have HBD := hid (wk_bdN hs)
    have HNO := hid fun k hk (h : okW a b W k = false) => wkOk_no hk h
    have HIFF := hid fun j => okW_iff (a := a) (b := b) (W := W) (j := j)
    have HFF := hid fun j => okW_f (a := a) (b := b) (W := W) (j := j)
    have HEND := hid fun (h : ∀ j, j < W.length → okW a b W j = true) => wkOk_iff.2 ⟨by omega, h⟩
    obtain ⟨R, hR⟩ : ∃ R, R = wkOk a b W := ⟨_, rfl⟩
    obtain ⟨O, hO⟩ : ∃ O, O = okW a b W := ⟨_, rfl⟩
    rw [← hR] at HNO HEND ⊢
    rw [← hO] at HNO HIFF HEND HFF
    have hl6 : W.length ≤ 6 := by omega
    have HLEN := hid hlen
    have heb : ((W.length : Int) != a - 1) = false := by simp [hlen]
    clear hR hO hs hlen
    go_enter Try.func108, Try.ntmps108
    go_wp2_with fail
    rw [← HW.out]
    go_loopw [5, 6, 15] (fun _ _ i wr => ∃ k : Nat, k ≤ W.length ∧ i = .int .i64 k ∧ Hid (∀ j, j < k → O j = true) ∧ Below w1.heap.size w1 wr) (fun _ _ i _ => W.length - (intOf i).toNat)
    case atStart => exact ⟨0, Nat.zero_le _, rfl, hid fun j hj => absurd hj (by omega), Below.refl _ _⟩
    case round =>
      obtain ⟨k, hk, rfl, HD, hbel⟩ := hrel
      have Z := X.out.next hbel
      have y0 := Z.cell0
      have y1 := Z.cell1
      have hcr : Cells wr A W := hc.later (Below.next b1 hbel)
      by_cases hlt : k < W.length
      · obtain ⟨bb, o, hAe, hcc⟩ := hcr (by omega)
        have hck := hcc k hlt
        have HN := hid (HNO.out k hlt)
        have HF := hid (HFF.out k)
        have HT := hid (HIFF.out k).2
        have HYES := hid fun (h : O k = true) => show ∀ j, j < k + 1 → O j = true by
          intro j hj
          by_cases e : j = k
          · rw [e]; exact h
          · exact HD.out j (by omega)
        obtain ⟨⟨⟨hm1, hm2⟩, hm3⟩, hm4, hm5⟩ := HBD.out k (by omega) (by have := HLEN.out; omega)
        have HMA := hid fun W' => mostAt_any a b k W' ha ⟨by omega, by omega⟩ hm3
        obtain ⟨M, hM⟩ : ∃ M, M = mstI a b k := ⟨_, rfl⟩
        rw [← hM] at HMA HF HT hm1 hm2
        have hck1 := hcc (k - 1) (by omega)
        obtain ⟨x, hx⟩ : ∃ x, x = W.getD k 0 := ⟨_, rfl⟩
        obtain ⟨y, hy⟩ : ∃ y, y = W.getD (k - 1) 0 := ⟨_, rfl⟩
        rw [← hx] at hck HF HT
        rw [← hy] at hck1 HF HT
        have hek : ((k : Int) - 1).toNat = k - 1 := by omega
        subst hAe
        clear hcc hM hx hy hm3 hm4 hm5 hcr
        by_cases h0 : x < 0
        · have HE := hid (HN.out (HF.out fun h => by omega))
          go_wp2_with fail
          go_ret
          exact ⟨ret_bool HE.out.symm, Below.next b1 hbel⟩
        by_cases hxm : M < x
        · have HE := hid (HN.out (HF.out fun h => by omega))
          go_wp2_with (go_at_call 166; refine (HMA.out _).mono ?_; rintro e w3 ⟨rfl, b3⟩)
          go_ret
          exact ⟨ret_bool HE.out.symm, Below.next b1 (Below.next hbel b3)⟩
        have hxm2 : x ≤ M := by omega
        by_cases hk0 : 0 < k
        · have hcB : ∀ W', Below wr.heap.size wr W' → W'.cell? ⟨bb, o + (k - 1), none⟩ = some (.int .i64 y) := fun W' h => (h.cell (World.block_lt_of_cell? wr _ hck1)).trans hck1
          have HCB := hid hcB
          clear hcB hck1
          by_cases hxy : y < x
          · have HE := hid (HN.out (HF.out fun h => by omega))
            go_wp2_with (go_at_call 166; refine (HMA.out _).mono ?_; rintro e w3 ⟨rfl, b3⟩; have hcy := HCB.out _ b3)
            go_ret
            exact ⟨ret_bool HE.out.symm, Below.next b1 (Below.next hbel b3)⟩
          · have HE := hid (HYES.out (HT.out ⟨⟨by omega, hxm2⟩, .inr (by omega)⟩))
            go_wp2_with (go_at_call 166; refine (HMA.out _).mono ?_; rintro e w3 ⟨rfl, b3⟩; have hcy := HCB.out _ b3)
            go_roundw
            case rel => exact ⟨k + 1, by omega, by go_num, HE, Below.next hbel b3⟩
            case measure => simp [intOf]; omega
        · have HE := hid (HYES.out (HT.out ⟨⟨by omega, hxm2⟩, .inl (by omega)⟩))
          have hkle : (k : Int) ≤ 0 := by omega
          clear hk0 hck1
          go_wp2_with (go_at_call 166; refine (HMA.out _).mono ?_; rintro e w3 ⟨rfl, b3⟩)
          go_roundw
          case rel => exact ⟨k + 1, by omega, by go_num, HE, Below.next hbel b3⟩
          case measure => simp [intOf]; omega
      · have HE := hid (HEND.out fun j hj => HD.out j (by omega))
        go_wp2_with fail
        go_ret
        exact ⟨ret_bool HE.out.symm, Below.next b1 hbel⟩
  · have hno : wkOk a b W = false := by
      cases e : wkOk a b W
      · rfl
      · have := (wkOk_iff.1 e).1; omega
    rw [hno]
    have heb : ((W.length : Int) != a - 1) = true := by simpa using hlen
    clear hno hs
    go_enter Try.func108, Try.ntmps108
    go_wp2_with fail
    go_ret
    rw [← HW.out]
    exact ⟨rfl, b1⟩
end Go.Proofs.Ytnpkfndopicdiaa
