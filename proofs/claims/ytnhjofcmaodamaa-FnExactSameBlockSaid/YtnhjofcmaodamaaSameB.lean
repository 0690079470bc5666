/-
  Contracts: SameBlock of the program and of the model.
-/
import Derived.Test.YtnhjofcmaodamaaCo
import Derived.Test.YtnhjofcmaodamaaSame
namespace Go.Proofs.Ytnhjofcmaodamaa
open Go.RowKit

def sbOk (xs ys : List Int) (t : Int) : Bool := crB xs t && good ys
def sbB (xs ys : List Int) (t : Int) : Bool := sbOk xs ys t && (decide (xs.sum = ys.sum) && decide (coreL t.toNat xs = coreL t.toNat ys))
theorem sb_no {xs ys : List Int} {t : Int} (h : sbOk xs ys t = false) : sbB xs ys t = false := by simp [sbB, h]
theorem good_sum_bd {xs : List Int} (G : Good xs) : 0 ≤ xs.sum ∧ xs.sum ≤ 30 := ⟨G.sum0, G.sum⟩

set_option maxRecDepth 100000 in
set_option maxHeartbeats 2000000 in
theorem impl_SameBlock (A : Option Addr) (c : Nat) (xs : List Int) (B : Option Addr) (d : Nat) (ys : List Int) (t : Int) (w : World) (hl : xs.length ≤ 1048576) (hc : Cells w A xs) (hl2 : ys.length ≤ 1048576) (hd : Cells w B ys) (h64 : I64 t) :
    Calls Try.prog 47 #[.slice A xs.length c, .slice B ys.length d, .int .i64 t] w fun e w' => e = .returned (.tuple #[.bool (sbB xs ys t), .bool (sbOk xs ys t)]) ∧ Below w.heap.size w w' := by
  have HX := hid fun W (h : Cells W A xs) => impl_CoreOf A c xs t W hl h h64
  have HY := hid fun W (h : Cells W B ys) => impl_CoreOf B d ys t W hl2 h h64
  cases hx : crB xs t
  · have hok : sbOk xs ys t = false := by simp [sbOk, hx]
    rw [hok, sb_no hok]
    rw [hx] at HX
    cases hy : crB ys t
    all_goals rw [hy] at HY
    all_goals clear hx hy hok
    all_goals go_enter Try.func47, Try.ntmps47
    all_goals go_wp2_with fail
    all_goals refine (HX.out _ hc).mono ?_
    all_goals rintro e w1 ⟨A1, c1, rfl, o1, b1⟩
    all_goals go_wp2_with fail
    all_goals refine (HY.out _ (hd.below b1)).mono ?_
    all_goals rintro e w2 ⟨A2, c2, rfl, o2, b2⟩
    all_goals go_wp2_with fail
    all_goals go_ret2
    all_goals exact ⟨rfl, Below.next b1 b2⟩
  cases hy : crB ys t
  · have hok : sbOk xs ys t = false := by
      obtain ⟨_, ht⟩ := crB_good hx
      have : good ys = false := by simpa [crB, ht] using hy
      simp [sbOk, this]
    rw [hok, sb_no hok]
    rw [hx] at HX
    rw [hy] at HY
    clear hx hy hok
    go_enter Try.func47, Try.ntmps47
    go_wp2_with fail
    refine (HX.out _ hc).mono ?_
    rintro e w1 ⟨A1, c1, rfl, o1, b1⟩
    go_wp2_with fail
    refine (HY.out _ (hd.below b1)).mono ?_
    rintro e w2 ⟨A2, c2, rfl, o2, b2⟩
    go_wp2_with fail
    go_ret2
    exact ⟨rfl, Below.next b1 b2⟩
  obtain ⟨hgx, ht⟩ := crB_good hx
  obtain ⟨hgy, _⟩ := crB_good hy
  have hin := inB_iff.1 ht
  obtain ⟨t, rfl⟩ : ∃ m : Nat, t = m := ⟨t.toNat, by omega⟩
  have GX := (good_iff xs).1 hgx
  have GY := (good_iff ys).1 hgy
  have hok : sbOk xs ys t = true := by simp [sbOk, hx, hgy]
  have hb : sbB xs ys t = (decide (xs.sum = ys.sum) && decide (coreL t xs = coreL t ys)) := by simp [sbB, hok]
  rw [hok, hb]
  rw [hx, (co_yes hx).1] at HX
  rw [hy, (co_yes hy).1] at HY
  have hlx := coreL_len (t := t) (by omega) xs
  have hly := coreL_len (t := t) (by omega) ys
  obtain ⟨P, hP⟩ : ∃ P, P = coreL t xs := ⟨_, rfl⟩
  obtain ⟨Q, hQ⟩ : ∃ Q, Q = coreL t ys := ⟨_, rfl⟩
  rw [← hP] at HX hlx ⊢
  rw [← hQ] at HY hly ⊢
  have HCX := hid fun W (h : Cells W A xs) => cellCount_any A xs c W GX.len (fun j hj => by have := GX.pos j hj; have := GX.le j hj; omega) h
  have HCY := hid fun W (h : Cells W B ys) => cellCount_any B ys d W GY.len (fun j hj => by have := GY.pos j hj; have := GY.le j hj; omega) h
  have hsx := good_sum_bd GX
  have hsy := good_sum_bd GY
  have HEQ := hid fun A1 c1 A2 c2 W (h1 : Cells W A1 P) (h2 : Cells W A2 Q) => equal_any A1 A2 c1 c2 P Q W (by omega) (by omega) h1 h2
  obtain ⟨sx, hsxe⟩ : ∃ sx, sx = xs.sum := ⟨_, rfl⟩
  obtain ⟨sy, hsye⟩ : ∃ sy, sy = ys.sum := ⟨_, rfl⟩
  rw [← hsxe] at HCX hsx ⊢
  rw [← hsye] at HCY hsy ⊢
  obtain ⟨q, hq⟩ : ∃ q, q = decide (P = Q) := ⟨_, rfl⟩
  rw [← hq] at HEQ ⊢
  clear hok hb hP hQ hx hy hgx hgy ht hin GX GY hsxe hsye hlx hly hq
  by_cases hs : sx = sy
  · subst hs
    rw [show (decide (sx = sx) && q) = q by simp]
    go_enter Try.func47, Try.ntmps47
    go_wp2_with fail
    refine (HX.out _ hc).mono ?_
    rintro e w1 ⟨A1, c1, rfl, o1, b1⟩
    go_wp2_with fail
    refine (HY.out _ (hd.below b1)).mono ?_
    rintro e w2 ⟨A2, c2, rfl, o2, b2⟩
    have B2 := Below.next b1 b2
    have h1 := (o1.below b2).cells
    have h2 := o2.cells
    have hc2 := hc.below B2
    have hd2 := hd.below B2
    go_wp2_with fail
    refine (HCX.out _ hc2).mono ?_
    rintro e w' ⟨rfl, rfl⟩
    go_wp2_with fail
    refine (HCY.out _ hd2).mono ?_
    rintro e w' ⟨rfl, rfl⟩
    go_wp2_with fail
    refine (HEQ.out _ _ _ _ _ h1 h2).mono ?_
    rintro e w' ⟨rfl, n, rfl⟩
    go_wp2_with fail
    go_ret2
    exact ⟨rfl, Below.next B2 (below_drew' _ n)⟩
  · have hne : (sx == sy) = false := by simpa using hs
    rw [show (decide (sx = sy) && q) = false by simp [hs]]
    go_enter Try.func47, Try.ntmps47
    go_wp2_with fail
    refine (HX.out _ hc).mono ?_
    rintro e w1 ⟨A1, c1, rfl, o1, b1⟩
    go_wp2_with fail
    refine (HY.out _ (hd.below b1)).mono ?_
    rintro e w2 ⟨A2, c2, rfl, o2, b2⟩
    have B2 := Below.next b1 b2
    have hc2 := hc.below B2
    have hd2 := hd.below B2
    go_wp2_with fail
    refine (HCX.out _ hc2).mono ?_
    rintro e w' ⟨rfl, rfl⟩
    go_wp2_with fail
    refine (HCY.out _ hd2).mono ?_
    rintro e w' ⟨rfl, rfl⟩
    go_wp2_with fail
    go_ret2
    exact ⟨rfl, B2⟩

set_option maxRecDepth 100000 in
set_option maxHeartbeats 2000000 in
theorem spec_SameBlock (A : Option Addr) (c : Nat) (xs : List Int) (B : Option Addr) (d : Nat) (ys : List Int) (t : Int) (w : World) (hl : xs.length ≤ 1048576) (hc : Cells w A xs) (hl2 : ys.length ≤ 1048576) (hd : Cells w B ys) (_ : I64 t) :
    Calls Try.prog 46 #[.slice A xs.length c, .slice B ys.length d, .int .i64 t] w fun e w' => e = .returned (.tuple #[.bool (sbB xs ys t), .bool (sbOk xs ys t)]) ∧ Below w.heap.size w w' := by
  cases hx : crB xs t
  · have hok : sbOk xs ys t = false := by simp [sbOk, hx]
    rw [hok, sb_no hok]
    have HG := hid hx
    clear hx hok
    go_enter Try.func46, Try.ntmps46
    go_wp2_with (go_at_call 93; refine (crT_any _ _ _ _ _ hl hc _ HG.out).mono ?_; rintro e w' ⟨rfl, n, rfl⟩)
    go_ret2
    exact ⟨rfl, below_drew' _ _⟩
  have HG := hid hx
  cases hgy : good ys
  · have hok : sbOk xs ys t = false := by simp [sbOk, hgy]
    rw [hok, sb_no hok]
    have HY := hid hgy
    clear hx hgy hok
    go_enter Try.func46, Try.ntmps46
    go_wp2_with (first | (go_at_call 93; refine (crT_any _ _ _ _ _ hl hc _ HG.out).mono ?_; rintro e w' ⟨rfl, n, rfl⟩) | (go_at_call 105; refine (ptGood_b _ _ _ _ hl2 (hd.below (below_drew' _ n)) _ HY.out).mono ?_; rintro e w' ⟨rfl, m, rfl⟩))
    go_ret2
    exact ⟨rfl, below_drew' _ _⟩
  have HY := hid hgy
  obtain ⟨hgx, ht⟩ := crB_good hx
  have hin := inB_iff.1 ht
  obtain ⟨t, rfl⟩ : ∃ m : Nat, t = m := ⟨t.toNat, by omega⟩
  have GX := (good_iff xs).1 hgx
  have GY := (good_iff ys).1 hgy
  have hok : sbOk xs ys t = true := by simp [sbOk, hx, hgy]
  have hb : sbB xs ys t = (decide (xs.sum = ys.sum) && decide (coreL t xs = coreL t ys)) := by simp [sbB, hok]
  rw [hok, hb]
  have HX1 := hid fun W (h : Cells W A xs) => crCore_any A c xs t W (by omega) GX h
  have HY1 := hid fun W (h : Cells W B ys) => crCore_any B d ys t W (by omega) GY h
  have hlx := coreL_len (t := t) (by omega) xs
  have hly := coreL_len (t := t) (by omega) ys
  have hxl := GX.len
  have hyl := GY.len
  obtain ⟨P, hP⟩ : ∃ P, P = coreL t xs := ⟨_, rfl⟩
  obtain ⟨Q, hQ⟩ : ∃ Q, Q = coreL t ys := ⟨_, rfl⟩
  rw [← hP] at HX1 hlx ⊢
  rw [← hQ] at HY1 hly ⊢
  have HCX := hid fun W (h : Cells W A xs) => ptSum_any A xs c W GX.len (fun j hj => by have := GX.pos j hj; have := GX.le j hj; omega) h
  have HCY := hid fun W (h : Cells W B ys) => ptSum_any B ys d W GY.len (fun j hj => by have := GY.pos j hj; have := GY.le j hj; omega) h
  have hsx := good_sum_bd GX
  have hsy := good_sum_bd GY
  have HEQ := hid fun A1 c1 A2 c2 W (h1 : Cells W A1 P) (h2 : Cells W A2 Q) => l1Same_any A1 A2 c1 c2 P Q W (by omega) (by omega) h1 h2
  obtain ⟨sx, hsxe⟩ : ∃ sx, sx = xs.sum := ⟨_, rfl⟩
  obtain ⟨sy, hsye⟩ : ∃ sy, sy = ys.sum := ⟨_, rfl⟩
  rw [← hsxe] at HCX hsx ⊢
  rw [← hsye] at HCY hsy ⊢
  obtain ⟨q, hq⟩ : ∃ q, q = decide (P = Q) := ⟨_, rfl⟩
  rw [← hq] at HEQ ⊢
  obtain ⟨mx, hmx⟩ : ∃ mx, mx = wgtN t xs := ⟨_, rfl⟩
  obtain ⟨my, hmy⟩ : ∃ my, my = wgtN t ys := ⟨_, rfl⟩
  rw [← hmx] at HX1
  rw [← hmy] at HY1
  clear hok hb hP hQ hx hgx hgy ht hin GX GY hsxe hsye hlx hly hq hmx hmy
  by_cases hs : sx = sy
  · subst hs
    rw [show (decide (sx = sx) && q) = q by simp]
    go_enter Try.func46, Try.ntmps46
    go_wp2_with (first | (go_at_call 93; refine (crT_any _ _ _ _ _ hl hc _ HG.out).mono ?_; rintro e w' ⟨rfl, n, rfl⟩) | (go_at_call 105; refine (ptGood_b _ _ _ _ hl2 (hd.below (below_drew' _ n)) _ HY.out).mono ?_; rintro e w' ⟨rfl, m, rfl⟩))
    have B0 : Below w.heap.size w (w.drewN (n + m)) := below_drew' _ _
    refine (HX1.out _ (hc.below B0)).mono ?_
    rintro e w1 ⟨A1, c1, rfl, o1, b1⟩
    have B1 := Below.next B0 b1
    go_wp2_with fail
    refine (HY1.out _ (hd.below B1)).mono ?_
    rintro e w2 ⟨A2, c2, rfl, o2, b2⟩
    have B2 := Below.next B1 b2
    have h1 := (o1.below b2).cells
    have h2 := o2.cells
    have hc2 := hc.below B2
    have hd2 := hd.below B2
    go_wp2_with fail
    refine (HCX.out _ hc2).mono ?_
    rintro e w' ⟨rfl, rfl⟩
    go_wp2_with fail
    refine (HCY.out _ hd2).mono ?_
    rintro e w' ⟨rfl, rfl⟩
    go_wp2_with fail
    refine (HEQ.out _ _ _ _ _ h1 h2).mono ?_
    rintro e w' ⟨rfl, n', rfl⟩
    go_wp2_with fail
    go_ret2
    exact ⟨rfl, Below.next B2 (below_drew' _ n')⟩
  · have hne : (sx == sy) = false := by simpa using hs
    rw [show (decide (sx = sy) && q) = false by simp [hs]]
    go_enter Try.func46, Try.ntmps46
    go_wp2_with (first | (go_at_call 93; refine (crT_any _ _ _ _ _ hl hc _ HG.out).mono ?_; rintro e w' ⟨rfl, n, rfl⟩) | (go_at_call 105; refine (ptGood_b _ _ _ _ hl2 (hd.below (below_drew' _ n)) _ HY.out).mono ?_; rintro e w' ⟨rfl, m, rfl⟩))
    have B0 : Below w.heap.size w (w.drewN (n + m)) := below_drew' _ _
    refine (HX1.out _ (hc.below B0)).mono ?_
    rintro e w1 ⟨A1, c1, rfl, o1, b1⟩
    have B1 := Below.next B0 b1
    go_wp2_with fail
    refine (HY1.out _ (hd.below B1)).mono ?_
    rintro e w2 ⟨A2, c2, rfl, o2, b2⟩
    have B2 := Below.next B1 b2
    have hc2 := hc.below B2
    have hd2 := hd.below B2
    go_wp2_with fail
    refine (HCX.out _ hc2).mono ?_
    rintro e w' ⟨rfl, rfl⟩
    go_wp2_with fail
    refine (HCY.out _ hd2).mono ?_
    rintro e w' ⟨rfl, rfl⟩
    go_wp2_with fail
    go_ret2
    exact ⟨rfl, B2⟩
end Go.Proofs.Ytnhjofcmaodamaa
