/-
  Several texts in one.
-/
import Derived.Shelf.SortM.Plain
import Derived.Shelf.SlGeneric
import Derived.Test.YtijfefahogcfmaaGreatCB
import Derived.Test.YtijfefahogcfmaaGreatR13
import Derived.Sort.OwnSortedInts
/-
  The library's contract laid at this program: sortH.
-/
namespace Go.Proofs.YtijfefahogcfmaaGreat
open Go.RowKit Go.Shelf Go.Sort

def sortHRen : Go.Shelf.Ren := ⟨fun | 5 => 53 | 8 => 68 | 7 => 74 | 19 => 91 | 20 => 92 | 10 => 97 | 11 => 98 | 12 => 99 | 13 => 100 | 14 => 101 | 15 => 102 | 16 => 103 | 17 => 104 | 18 => 105 | 30 => 112 | 31 => 108 | 32 => 109 | 33 => 113 | 34 => 114 | 35 => 93 | 40 => 116 | n => n, fun | 23 => 31 | 25 => 3 | 3 => 3 | 32 => 72 | 22 => 22 | 0 => 0 | 44 => 90 | 46 => 92 | 4 => 4 | 36 => 84 | 35 => 83 | 41 => 25 | 5 => 5 | 9 => 9 | 53 => 98 | 57 => 102 | 63 => 106 | 64 => 107 | n => n, fun | n => n⟩
theorem sortHLays : Go.Proofs.SlLaysM.n5 Tryz.prog sortHRen := {
  mixed := by kernel_rfl
  f5 := ⟨Tryz.f53.name, by decide, Tryz.func53.trans (congrArg some (by kernel_rfl))⟩
  f7 := ⟨Tryz.f74.name, by decide, Tryz.func74.trans (congrArg some (by kernel_rfl))⟩
  f8 := Tryz.func68.trans (congrArg some (by kernel_rfl))
  f10 := ⟨Tryz.f97.name, by decide, Tryz.func97.trans (congrArg some (by kernel_rfl))⟩
  f11 := ⟨Tryz.f98.name, by decide, Tryz.func98.trans (congrArg some (by kernel_rfl))⟩
  f12 := ⟨Tryz.f99.name, by decide, Tryz.func99.trans (congrArg some (by kernel_rfl))⟩
  f13 := ⟨Tryz.f100.name, by decide, Tryz.func100.trans (congrArg some (by kernel_rfl))⟩
  f14 := ⟨Tryz.f101.name, by decide, Tryz.func101.trans (congrArg some (by kernel_rfl))⟩
  f15 := ⟨Tryz.f102.name, by decide, Tryz.func102.trans (congrArg some (by kernel_rfl))⟩
  f16 := ⟨Tryz.f103.name, by decide, Tryz.func103.trans (congrArg some (by kernel_rfl))⟩
  f17 := ⟨Tryz.f104.name, by decide, Tryz.func104.trans (congrArg some (by kernel_rfl))⟩
  f18 := ⟨Tryz.f105.name, by decide, Tryz.func105.trans (congrArg some (by kernel_rfl))⟩
  f19 := Tryz.func91.trans (congrArg some (by kernel_rfl))
  f20 := Tryz.func92.trans (congrArg some (by kernel_rfl))
  f30 := ⟨Tryz.f112.name, by decide, Tryz.func112.trans (congrArg some (by kernel_rfl))⟩
  f31 := Tryz.func108.trans (congrArg some (by kernel_rfl))
  f32 := Tryz.func109.trans (congrArg some (by kernel_rfl))
  f33 := ⟨Tryz.f113.name, by decide, Tryz.func113.trans (congrArg some (by kernel_rfl))⟩
  f34 := ⟨Tryz.f114.name, by decide, Tryz.func114.trans (congrArg some (by kernel_rfl))⟩
  f35 := ⟨Tryz.f93.name, by decide, Tryz.func93.trans (congrArg some (by kernel_rfl))⟩
  f40 := ⟨Tryz.f116.name, by decide, Tryz.func116.trans (congrArg some (by kernel_rfl))⟩
  t0 := Tryz.underlying0
  a0 := Tryz.isAgg0
  z0 := Tryz.sizeOf0
  v0 := Tryz.zeroValue0
  t3 := Tryz.underlying3
  a3 := Tryz.isAgg3
  z3 := Tryz.sizeOf3
  v3 := Tryz.zeroValue3
  t4 := Tryz.underlying4
  a4 := Tryz.isAgg4
  z4 := Tryz.sizeOf4
  v4 := Tryz.zeroValue4
  t5 := Tryz.underlying5
  a5 := Tryz.isAgg5
  z5 := Tryz.sizeOf5
  v5 := Tryz.zeroValue5
  t9 := Tryz.underlying9
  a9 := Tryz.isAgg9
  z9 := Tryz.sizeOf9
  v9 := Tryz.zeroValue9
  t22 := Tryz.underlying22
  a22 := Tryz.isAgg22
  z22 := Tryz.sizeOf22
  v22 := Tryz.zeroValue22
  t23 := Tryz.underlying31
  a23 := Tryz.isAgg31
  z23 := Tryz.sizeOf31
  v23 := Tryz.zeroValue31
  t25 := Tryz.underlying3
  a25 := Tryz.isAgg3
  z25 := Tryz.sizeOf3
  v25 := Tryz.zeroValue3
  t32 := Tryz.underlying72
  a32 := Tryz.isAgg72
  z32 := Tryz.sizeOf72
  v32 := Tryz.zeroValue72
  t35 := Tryz.underlying83
  a35 := Tryz.isAgg83
  z35 := Tryz.sizeOf83
  v35 := Tryz.zeroValue83
  t36 := Tryz.underlying84
  a36 := Tryz.isAgg84
  z36 := Tryz.sizeOf84
  v36 := Tryz.zeroValue84
  t41 := Tryz.underlying25
  a41 := Tryz.isAgg25
  z41 := Tryz.sizeOf25
  v41 := Tryz.zeroValue25
  t44 := Tryz.underlying90
  a44 := Tryz.isAgg90
  z44 := Tryz.sizeOf90
  v44 := Tryz.zeroValue90
  t46 := Tryz.underlying92
  a46 := Tryz.isAgg92
  z46 := Tryz.sizeOf92
  v46 := Tryz.zeroValue92
  t53 := Tryz.underlying98
  a53 := Tryz.isAgg98
  z53 := Tryz.sizeOf98
  v53 := Tryz.zeroValue98
  t57 := Tryz.underlying102
  a57 := Tryz.isAgg102
  z57 := Tryz.sizeOf102
  v57 := Tryz.zeroValue102
  t63 := Tryz.underlying106
  a63 := Tryz.isAgg106
  z63 := Tryz.sizeOf106
  v63 := Tryz.zeroValue106
  t64 := Tryz.underlying107
  a64 := Tryz.isAgg107
  z64 := Tryz.sizeOf107
  v64 := Tryz.zeroValue107 }
end Go.Proofs.YtijfefahogcfmaaGreat
/-
  Contracts: isWalk and hooksWithWalk of the program.
-/
namespace Go.Proofs.YtijfefahogcfmaaGreat
open Go.RowKit

theorem wkOk_no {a b : Int} {W : List Int} {k : Nat} (hk : k < W.length) (h : okW a b W k = false) : wkOk a b W = false := by
  cases e : wkOk a b W
  · rfl
  · have := (wkOk_iff.1 e).2 k hk; rw [this] at h; cases h
theorem okW_iff {a b : Int} {W : List Int} {j : Nat} : okW a b W j = true ↔ (0 ≤ W.getD j 0 ∧ W.getD j 0 ≤ mstI a b j) ∧ (j = 0 ∨ W.getD j 0 ≤ W.getD (j - 1) 0) := by
  simp only [okW, Bool.and_eq_true, Bool.or_eq_true, decide_eq_true_eq, inB_iff]
theorem okW_f {a b : Int} {W : List Int} {j : Nat} (h : (0 ≤ W.getD j 0 ∧ W.getD j 0 ≤ mstI a b j) ∧ (j = 0 ∨ W.getD j 0 ≤ W.getD (j - 1) 0) → False) : okW a b W j = false := by
  cases e : okW a b W j
  · rfl
  · exact (h (okW_iff.1 e)).elim

set_option maxRecDepth 100000 in
set_option maxHeartbeats 4000000 in
theorem isWalk_any (A : Option Addr) (c : Nat) (a b : Int) (W : List Int) (w : World) (hs : sz a b = true) (hl : W.length ≤ 1048576) (hc : Cells w A W) :
    Calls Tryz.prog 27 #[.agg #[.int .i64 a, .int .i64 b], .slice A W.length c] w fun e w' => e = .returned (.bool (wkOk a b W)) ∧ Below w.heap.size w w' := by
  obtain ⟨ha, hb, -⟩ := sz_iff.1 hs
  have b1 : Below w.heap.size w (w.alloc (.cells #[.int .i64 a, .int .i64 b] 33)) := (Below.refl _ _).alloc (Nat.le_refl _) _
  have X := hid (Box2.new w 33 (.int .i64 a) (.int .i64 b))
  obtain ⟨w1, hw1⟩ : ∃ w1, w1 = w.alloc (.cells #[.int .i64 a, .int .i64 b] 33) := ⟨_, rfl⟩
  have HW := hid hw1
  rw [← hw1] at b1 X
  clear hw1
  by_cases hlen : (W.length : Int) = a - 1
  · have HBD := hid (wk_bdN hs)
    have HNO := hid fun k hk (h : okW a b W k = false) => wkOk_no hk h
    have HIFF := hid fun j => okW_iff (a := a) (b := b) (W := W) (j := j)
    have HFF := hid fun j => okW_f (a := a) (b := b) (W := W) (j := j)
    have HEND := hid fun (h : ∀ j, j < W.length → okW a b W j = true) => wkOk_iff.2 ⟨by omega, h⟩
    obtain ⟨R, hR⟩ : ∃ R, R = wkOk a b W := ⟨_, rfl⟩
    obtain ⟨O, hO⟩ : ∃ O, O = okW a b W := ⟨_, rfl⟩
    rw [← hR] at HNO HEND ⊢
    rw [← hO] at HNO HIFF HEND HFF
    have hl6 : W.length ≤ 6 := by omega
    have HLEN := hid hlen
    have heb : ((W.length : Int) != a - 1) = false := by simp [hlen]
    clear hR hO hs hlen
    go_enter Tryz.func27, Tryz.ntmps27
    go_wp2_with fail
    rw [← HW.out]
    go_loopw [5, 6, 15] (fun _ _ i wr => ∃ k : Nat, k ≤ W.length ∧ i = .int .i64 k ∧ Hid (∀ j, j < k → O j = true) ∧ Below w1.heap.size w1 wr) (fun _ _ i _ => W.length - (intOf i).toNat)
    case atStart => exact ⟨0, Nat.zero_le _, rfl, hid fun j hj => absurd hj (by omega), Below.refl _ _⟩
    case round =>
      obtain ⟨k, hk, rfl, HD, hbel⟩ := hrel
      have Z := X.out.next hbel
      have y0 := Z.cell0
      have y1 := Z.cell1
      have hcr : Cells wr A W := hc.later (Below.next b1 hbel)
      by_cases hlt : k < W.length
      · obtain ⟨bb, o, hAe, hcc⟩ := hcr (by omega)
        have hck := hcc k hlt
        have HN := hid (HNO.out k hlt)
        have HF := hid (HFF.out k)
        have HT := hid (HIFF.out k).2
        have HYES := hid fun (h : O k = true) => show ∀ j, j < k + 1 → O j = true by
          intro j hj
          by_cases e : j = k
          · rw [e]; exact h
          · exact HD.out j (by omega)
        obtain ⟨⟨⟨hm1, hm2⟩, hm3⟩, hm4, hm5⟩ := HBD.out k (by omega) (by have := HLEN.out; omega)
        have HMA := hid fun W' => mostAt_any a b k W' ha ⟨by omega, by omega⟩ hm3
        obtain ⟨M, hM⟩ : ∃ M, M = mstI a b k := ⟨_, rfl⟩
        rw [← hM] at HMA HF HT hm1 hm2
        have hck1 := hcc (k - 1) (by omega)
        obtain ⟨x, hx⟩ : ∃ x, x = W.getD k 0 := ⟨_, rfl⟩
        obtain ⟨y, hy⟩ : ∃ y, y = W.getD (k - 1) 0 := ⟨_, rfl⟩
        rw [← hx] at hck HF HT
        rw [← hy] at hck1 HF HT
        have hek : ((k : Int) - 1).toNat = k - 1 := by omega
        subst hAe
        clear hcc hM hx hy hm3 hm4 hm5 hcr
        by_cases h0 : x < 0
        · have HE := hid (HN.out (HF.out fun h => by omega))
          go_wp2_with fail
          go_ret
          exact ⟨ret_bool HE.out.symm, Below.next b1 hbel⟩
        by_cases hxm : M < x
        · have HE := hid (HN.out (HF.out fun h => by omega))
          go_wp2_with (go_at_call 37; refine (HMA.out _).mono ?_; rintro e w3 ⟨rfl, b3⟩)
          go_ret
          exact ⟨ret_bool HE.out.symm, Below.next b1 (Below.next hbel b3)⟩
        have hxm2 : x ≤ M := by omega
        by_cases hk0 : 0 < k
        · have hcB : ∀ W', Below wr.heap.size wr W' → W'.cell? ⟨bb, o + (k - 1), none⟩ = some (.int .i64 y) := fun W' h => (h.cell (World.block_lt_of_cell? wr _ hck1)).trans hck1
          have HCB := hid hcB
          clear hcB hck1
          by_cases hxy : y < x
          · have HE := hid (HN.out (HF.out fun h => by omega))
            go_wp2_with (go_at_call 37; refine (HMA.out _).mono ?_; rintro e w3 ⟨rfl, b3⟩; have hcy := HCB.out _ b3)
            go_ret
            exact ⟨ret_bool HE.out.symm, Below.next b1 (Below.next hbel b3)⟩
          · have HE := hid (HYES.out (HT.out ⟨⟨by omega, hxm2⟩, .inr (by omega)⟩))
            go_wp2_with (go_at_call 37; refine (HMA.out _).mono ?_; rintro e w3 ⟨rfl, b3⟩; have hcy := HCB.out _ b3)
            go_roundw
            case rel => exact ⟨k + 1, by omega, by go_num, HE, Below.next hbel b3⟩
            case measure => simp [intOf]; omega
        · have HE := hid (HYES.out (HT.out ⟨⟨by omega, hxm2⟩, .inl (by omega)⟩))
          have hkle : (k : Int) ≤ 0 := by omega
          clear hk0 hck1
          go_wp2_with (go_at_call 37; refine (HMA.out _).mono ?_; rintro e w3 ⟨rfl, b3⟩)
          go_roundw
          case rel => exact ⟨k + 1, by omega, by go_num, HE, Below.next hbel b3⟩
          case measure => simp [intOf]; omega
      · have HE := hid (HEND.out fun j hj => HD.out j (by omega))
        go_wp2_with fail
        go_ret
        exact ⟨ret_bool HE.out.symm, Below.next b1 hbel⟩
  · have hno : wkOk a b W = false := by
      cases e : wkOk a b W
      · rfl
      · have := (wkOk_iff.1 e).1; omega
    rw [hno]
    have heb : ((W.length : Int) != a - 1) = true := by simpa using hlen
    clear hno hs
    go_enter Tryz.func27, Tryz.ntmps27
    go_wp2_with fail
    go_ret
    rw [← HW.out]
    exact ⟨rfl, b1⟩
end Go.Proofs.YtijfefahogcfmaaGreat
