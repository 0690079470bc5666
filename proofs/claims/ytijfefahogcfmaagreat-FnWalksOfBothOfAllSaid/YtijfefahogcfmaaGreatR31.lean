/-
  Several texts in one.
-/
import Derived.Test.YtijfefahogcfmaaGreatR29
import Derived.Test.YtijfefahogcfmaaGreatR30
import Derived.Laws.EntriesVeiled
import Derived.Test.YtijfefahogcfmaaGreatCB
/-
  RankBoth on both sides.
-/
namespace Go.Proofs.YtijfefahogcfmaaGreat
open Go.RowKit

def rbOk (p : List Int) (a b : Int) : Bool := sz a b && ibB p a b
def rbF (p : List Int) (a b : Int) : Int := if rbOk p a b then (rkN (boL a b) p (boL a b).length : Nat) else 0
theorem rb_no {p : List Int} {a b : Int} (h : rbOk p a b = false) : rbF p a b = 0 := by simp [rbF, h]
theorem rb_yes {p : List Int} {a b : Int} (h : rbOk p a b = true) : rbF p a b = (rkN (boL a b) p (boL a b).length : Nat) := by simp [rbF, h]

set_option maxRecDepth 100000 in
set_option maxHeartbeats 2000000 in
theorem rankSame_any (A B : Option Addr) (c d : Nat) (xs p : List Int) (g : Nat) (w : World) (hl : xs.length ≤ 1048576) (hl2 : p.length ≤ 1048576) (hA : Cells w A xs) (hB : Cells w B p) (hg : w.cell? ⟨g, 0, none⟩ = some (.slice B p.length d)) (t : Bool) (h : decide (xs = p) = t) :
    Calls Tryz.prog 22 #[.slice A xs.length c, .pointer (some ⟨g, 0, none⟩)] w fun e w' => e = .returned (.bool t) ∧ ∃ n, w' = w.drewN n := by
  have HE := hid (equal_b A B c d xs p w hl hl2 hA hB t h)
  clear h
  go_enter Tryz.func22, Tryz.ntmps22
  go_wp2_with (go_at_call 23; refine HE.out.mono ?_; rintro e w2 ⟨rfl, n, rfl⟩)
  go_ret
  exact ⟨rfl, n, rfl⟩

set_option maxRecDepth 100000 in
set_option maxHeartbeats 2000000 in
theorem indexRows_any {B0 S : Nat} (A B : Option Addr) (c d : Nat) (L : List (List Int)) (p : List Int) (g : Nat) (w : World) (hl : L.length ≤ 100) (hr : ∀ j, j < L.length → (L.getD j []).length ≤ 1048576) (hl2 : p.length ≤ 1048576) (ho : Own2 w B0 S A c L) (hB : Cells w B p) (hg : w.cell? ⟨g, 0, none⟩ = some (.slice B p.length d)) :
    Calls Tryz.prog 21 #[.slice A L.length c, .func (.func 22) #[] #[.pointer (some ⟨g, 0, none⟩)]] w fun e w' => ((∃ k, k < L.length ∧ L.getD k [] = p ∧ e = .returned (.int .i64 k)) ∨ ((∀ j, j < L.length → L.getD j [] ≠ p) ∧ e = .returned (.int .i64 (-1)))) ∧ ∃ n, w' = w.drewN n := by
  have HO := hid ho
  have HB := hid hB
  have HR := hid hr
  have HG := hid hg
  clear ho hB hr hg
  go_enter Tryz.func21, Tryz.ntmps21
  go_wp2_with fail
  go_loopw [5, 8] (fun _ i wr => ∃ k : Nat, k ≤ L.length ∧ i = .int .i64 k ∧ Hid (∀ j, j < k → L.getD j [] ≠ p) ∧ ∃ n, wr = w.drewN n) (fun _ i _ => L.length - (intOf i).toNat)
  case atStart => exact ⟨0, Nat.zero_le _, rfl, hid fun j hj => absurd hj (by omega), 0, rfl⟩
  case round =>
    obtain ⟨k, hk, rfl, HD, n, rfl⟩ := hrel
    by_cases hlt : k < L.length
    · obtain ⟨ga, Ak, ck, rfl, hcell, hown⟩ := own2_get HO.out hlt
      have hcell2 : (w.drewN n).cell? ⟨ga, k, none⟩ = some (.slice Ak (L.getD k []).length ck) := hcell
      have HC := hid (show Cells (w.drewN n) Ak (L.getD k []) from hown.cells)
      have HBn := hid (show Cells (w.drewN n) B p from HB.out)
      have HGn := hid (show (w.drewN n).cell? ⟨g, 0, none⟩ = some (.slice B p.length d) from HG.out)
      have HRk := HR.out k hlt
      have HYES := hid fun (h : L.getD k [] ≠ p) => show ∀ j, j < k + 1 → L.getD j [] ≠ p by
        intro j hj
        by_cases e : j = k
        · rw [e]; exact h
        · exact HD.out j (by omega)
      have HHIT := hid fun (h : L.getD k [] = p) => show ∃ k, k < L.length ∧ L.getD k [] = p ∧ Ending.returned (.int .i64 k) = Ending.returned (.int .i64 k) from ⟨k, hlt, h, rfl⟩
      have HQ := hid fun (h : L.getD k [] = p) => (⟨k, hlt, h, rfl⟩ : ∃ q : Nat, q < L.length ∧ L.getD q [] = p ∧ Ending.returned (.int .i64 k) = Ending.returned (.int .i64 q))
      obtain ⟨r, hr⟩ : ∃ r, r = L.getD k [] := ⟨_, rfl⟩
      rw [← hr] at hcell2 HC HRk HYES HQ
      clear hcell hown HHIT hr
      cases hd : decide (r = p)
      · have HN := hid (HYES.out (of_decide_eq_false hd))
        have HS := hid (rankSame_any Ak B ck d r p g (w.drewN n) HRk hl2 HC.out HBn.out HGn.out _ hd)
        clear hd
        go_wp2_with (go_at_call 22; refine HS.out.mono ?_; rintro e w3 ⟨rfl, n2, rfl⟩)
        go_roundw
        case rel => exact ⟨k + 1, by omega, by go_num, HN, n + n2, rfl⟩
        case measure => simp [intOf]; omega
      · have HH := hid (HQ.out (of_decide_eq_true hd))
        have HS := hid (rankSame_any Ak B ck d r p g (w.drewN n) HRk hl2 HC.out HBn.out HGn.out _ hd)
        clear hd
        go_wp2_with (go_at_call 22; refine HS.out.mono ?_; rintro e w3 ⟨rfl, n2, rfl⟩)
        go_ret
        exact ⟨.inl HH.out, n + n2, rfl⟩
    · have HE := hid fun j (hj : j < L.length) => HD.out j (by omega)
      go_wp2_with fail
      go_ret
      exact ⟨.inr ⟨HE.out, rfl⟩, n, rfl⟩

theorem ab_row (a b : Int) : ∀ j, j < (abF a b).length → ((abF a b).getD j []).length ≤ 1048576 := by
  intro j hj
  cases hs : sz a b
  · rw [ab_no hs] at hj; simp at hj
  · rw [ab_yes hs] at hj ⊢
    have := (boL_row hs).2 ((boL a b).getD j []) (by rw [List.getD_eq_getElem?_getD, List.getElem?_eq_getElem hj]; exact List.getElem_mem hj)
    omega
theorem rb_hit {p : List Int} {a b : Int} {k : Nat} (hk : k < (abF a b).length) (h : (abF a b).getD k [] = p) : rbOk p a b = true ∧ rbF p a b = k := by
  cases hs : sz a b
  · rw [ab_no hs] at hk; simp at hk
  · rw [ab_yes hs] at hk h
    have hm : p ∈ boL a b := by rw [← h, List.getD_eq_getElem?_getD, List.getElem?_eq_getElem hk]; exact List.getElem_mem hk
    have ho : rbOk p a b = true := by unfold rbOk; rw [hs, ((rk_parts hs).1 p).1 hm]; rfl
    refine ⟨ho, ?_⟩
    rw [rb_yes ho, rkN_uniq h _ hk fun j hj hjl e => (rk_parts hs).2 k j hj hjl (by rw [h, e])]
theorem rb_miss {p : List Int} {a b : Int} (h : ∀ j, j < (abF a b).length → (abF a b).getD j [] ≠ p) : rbOk p a b = false ∧ rbF p a b = 0 := by
  have ho : rbOk p a b = false := by
    cases hs : sz a b
    · simp [rbOk, hs]
    · cases hi : ibB p a b
      · simp [rbOk, hi]
      · have hm := ((rk_parts hs).1 p).2 hi
        obtain ⟨j, hj, e⟩ := List.getElem_of_mem hm
        rw [ab_yes hs] at h
        refine absurd ?_ (h j hj)
        rw [List.getD_eq_getElem?_getD, List.getElem?_eq_getElem hj]; exact e
  exact ⟨ho, rb_no ho⟩

set_option maxRecDepth 100000 in
set_option maxHeartbeats 2000000 in
theorem impl_RankBoth (A : Option Addr) (c : Nat) (xs : List Int) (a b : Int) (w : World) (hl : xs.length ≤ 1048576) (hc : Cells w A xs) (ha : I64 a) (hb : I64 b) :
    Calls Tryz.prog 6 #[.slice A xs.length c, .int .i64 a, .int .i64 b] w fun e w' => e = .returned (.tuple #[.int .i64 (rbF xs a b), .bool (rbOk xs a b)]) ∧ Below w.heap.size w w' := by
  have HA := hid fun W => impl_AllBoth a b W ha hb
  have hl100 := abF_len a b
  have HR := hid (ab_row a b)
  have HH := hid fun k hk h => rb_hit (p := xs) (a := a) (b := b) (k := k) hk h
  have HM := hid fun h => rb_miss (p := xs) (a := a) (b := b) h
  obtain ⟨L, hL⟩ : ∃ L, L = abF a b := ⟨_, rfl⟩
  rw [← hL] at HA hl100 HR HH HM
  obtain ⟨s, hs⟩ : ∃ s, s = sz a b := ⟨_, rfl⟩
  rw [← hs] at HA
  have HIX := hid fun B0 S A1 c1 g w1 (ho : Own2 w1 B0 S A1 c1 L) (hB : Cells w1 A xs) (hg : w1.cell? ⟨g, 0, none⟩ = some (.slice A xs.length c)) => indexRows_any A1 A c1 c L xs g w1 hl100 HR.out hl ho hB hg
  clear hL hs
  have b1 : Below w.heap.size w (w.alloc (.cells #[.slice A xs.length c] 22)) := (Below.refl _ _).alloc (Nat.le_refl _) _
  have k1 : (w.alloc (.cells #[.slice A xs.length c] 22)).cell? ⟨w.heap.size, 0, none⟩ = some (.slice A xs.length c) := by simp
  obtain ⟨w1, hw1⟩ : ∃ w1, w1 = w.alloc (.cells #[.slice A xs.length c] 22) := ⟨_, rfl⟩
  have HW := hid hw1
  rw [← hw1] at b1 k1
  have K1 := hid k1
  have hs1 : w.heap.size < w1.heap.size := by rw [hw1]; simp
  clear hw1 k1
  by_cases hm : ∃ k, k < L.length ∧ L.getD k [] = xs
  · have HPK := hid fun e (hr : (∃ k, k < L.length ∧ L.getD k [] = xs ∧ e = Ending.returned (.int .i64 k)) ∨ ((∀ j, j < L.length → L.getD j [] ≠ xs) ∧ e = .returned (.int .i64 (-1)))) => (show ∃ k : Nat, e = .returned (.int .i64 k) ∧ k < L.length ∧ L.getD k [] = xs by
      rcases hr with ⟨k, h1, h2, h3⟩ | ⟨h, -⟩
      · exact ⟨k, h3, h1, h2⟩
      · obtain ⟨k, h1, h2⟩ := hm; exact absurd h2 (h k h1))
    clear hm
    go_enter Tryz.func6, Tryz.ntmps6
    go_upto_region 1 with fail
    rw [← HW.out]
    go_wp2_with (first | (go_at_call 20; refine (HA.out _).mono ?_; rintro e w2 ⟨A2, c2, rfl, o2, b2⟩; have O2 := hid o2; have B2 := Below.next b1 b2; have hg2 := hid ((b2.cell hs1).trans K1.out)) | (go_at_call 21; refine (HIX.out _ _ _ _ _ _ O2.out (hc.below B2) hg2.out).mono ?_; rintro e w3 ⟨hr, n, rfl⟩; obtain ⟨k, rfl, hk, he⟩ := HPK.out e hr; have HQ := hid (HH.out k hk he); clear hr he))
    go_ret2
    exact ⟨by rw [HQ.out.1, HQ.out.2]; rfl, below_drewN B2 n⟩
  · have hm2 : ∀ j, j < L.length → L.getD j [] ≠ xs := fun j hj e => hm ⟨j, hj, e⟩
    have HQ := hid (HM.out hm2)
    have HPK := hid fun e (hr : (∃ k, k < L.length ∧ L.getD k [] = xs ∧ e = Ending.returned (.int .i64 k)) ∨ ((∀ j, j < L.length → L.getD j [] ≠ xs) ∧ e = .returned (.int .i64 (-1)))) => (show e = .returned (.int .i64 (-1)) by
      rcases hr with ⟨k, h1, h2, h3⟩ | ⟨-, h⟩
      · exact absurd h2 (hm2 k h1)
      · exact h)
    clear hm hm2
    go_enter Tryz.func6, Tryz.ntmps6
    go_upto_region 1 with fail
    rw [← HW.out]
    go_wp2_with (first | (go_at_call 20; refine (HA.out _).mono ?_; rintro e w2 ⟨A2, c2, rfl, o2, b2⟩; have O2 := hid o2; have B2 := Below.next b1 b2; have hg2 := hid ((b2.cell hs1).trans K1.out)) | (go_at_call 21; refine (HIX.out _ _ _ _ _ _ O2.out (hc.below B2) hg2.out).mono ?_; rintro e w3 ⟨hr, n, rfl⟩; obtain rfl := HPK.out e hr; clear hr))
    go_ret2
    exact ⟨by rw [HQ.out.1, HQ.out.2]; rfl, below_drewN B2 n⟩

set_option maxRecDepth 100000 in
set_option maxHeartbeats 2000000 in
theorem spec_RankBoth (A : Option Addr) (c : Nat) (xs : List Int) (a b : Int) (w : World) (hl : xs.length ≤ 1048576) (hc : Cells w A xs) (_ : I64 a) (_ : I64 b) :
    Calls Tryz.prog 7 #[.slice A xs.length c, .int .i64 a, .int .i64 b] w fun e w' => e = .returned (.tuple #[.int .i64 (rbF xs a b), .bool (rbOk xs a b)]) ∧ Below w.heap.size w w' := by
  cases ht : sz a b
  · have ho : rbOk xs a b = false := by simp [rbOk, ht]
    rw [rb_no ho, ho]
    have HT := hid ht
    clear ht ho
    go_enter Tryz.func7, Tryz.ntmps7
    go_wp2_with (go_at_call 16; refine (boSizes_b _ _ _ _ HT.out).mono ?_; rintro e w1 ⟨rfl, rfl⟩)
    go_ret2
    exact ⟨rfl, Below.refl _ _⟩
  have HT := hid ht
  have HI := hid fun W (h : Cells W A xs) => boIs_any A c xs a b W hl h ht
  cases hi : ibB xs a b
  · have ho : rbOk xs a b = false := by simp [rbOk, hi]
    rw [rb_no ho, ho]
    rw [hi] at HI
    clear ht hi ho
    go_enter Tryz.func7, Tryz.ntmps7
    go_wp2_with (first | (go_at_call 16; refine (boSizes_b _ _ _ _ HT.out).mono ?_; rintro e w1 ⟨rfl, rfl⟩) | (go_at_call 17; refine (HI.out _ hc).mono ?_; rintro e w2 ⟨rfl, b2⟩))
    go_ret2
    exact ⟨rfl, b2⟩
  · have ho : rbOk xs a b = true := by simp [rbOk, ht, hi]
    rw [ho, rb_yes ho]
    rw [hi] at HI
    have HA := hid fun W => boAll_any a b W ht
    have hl100 := abF_len a b
    have HR := hid (ab_row a b)
    rw [ab_yes ht] at hl100 HR
    obtain ⟨L, hL⟩ : ∃ L, L = boL a b := ⟨_, rfl⟩
    rw [← hL] at HA hl100 HR ⊢
    clear ht hi ho hL
    go_enter Tryz.func7, Tryz.ntmps7
    go_wp2_with (first | (go_at_call 16; refine (boSizes_b _ _ _ _ HT.out).mono ?_; rintro e w1 ⟨rfl, rfl⟩) | (go_at_call 17; refine (HI.out _ hc).mono ?_; rintro e w2 ⟨rfl, b2⟩) | (go_at_call 24; refine (HA.out _).mono ?_; rintro e w3 ⟨A3, c3, rfl, o3, b3⟩; have O3 := hid o3; have B3 := Below.next b2 b3; clear o3))
    go_loopw [8, 9, 10, 26] (fun v _ _ i wr => ∃ k : Nat, k ≤ L.length ∧ i = .int .i64 k ∧ v = .int .i64 (rkN L xs k) ∧ ∃ n, wr = w3.drewN n) (fun _ _ _ i _ => L.length - (intOf i).toNat)
    case atStart => exact ⟨0, Nat.zero_le _, rfl, rfl, 0, rfl⟩
    case round =>
      obtain ⟨k, hk, rfl, rfl, n, rfl⟩ := hrel
      by_cases hlt : k < L.length
      · obtain ⟨ga, Ak, ck, rfl, hcell, hown⟩ := own2_get O3.out hlt
        have hcell2 : (w3.drewN n).cell? ⟨ga, k, none⟩ = some (.slice Ak (L.getD k []).length ck) := hcell
        have HC := hid (show Cells (w3.drewN n) Ak (L.getD k []) from hown.cells)
        have HBn := hid (show Cells (w3.drewN n) A xs from (hc.below (below_drewN B3 n)))
        have HRk := HR.out k hlt
        have HTT := hid fun (h : L.getD k [] = xs) => rkN_t (L := L) (p := xs) h
        have HFF := hid fun (h : L.getD k [] ≠ xs) => rkN_f (L := L) (p := xs) h
        obtain ⟨r, hr⟩ : ∃ r, r = L.getD k [] := ⟨_, rfl⟩
        rw [← hr] at hcell2 HC HRk HTT HFF
        clear hcell hown hr
        cases hd : decide (r = xs)
        · have HN := hid (HFF.out (of_decide_eq_false hd))
          have HS := hid (l1Same_b Ak A ck c r xs (w3.drewN n) HRk hl HC.out HBn.out _ hd)
          clear hd
          go_wp2_with (go_at_call 25; refine HS.out.mono ?_; rintro e w4 ⟨rfl, n2, rfl⟩)
          go_roundw
          case rel => exact ⟨k + 1, by omega, by go_num, by rw [HN.out], n + n2, rfl⟩
          case measure => simp [intOf]; omega
        · have HN := hid (HTT.out (of_decide_eq_true hd))
          have HS := hid (l1Same_b Ak A ck c r xs (w3.drewN n) HRk hl HC.out HBn.out _ hd)
          clear hd
          go_wp2_with (go_at_call 25; refine HS.out.mono ?_; rintro e w4 ⟨rfl, n2, rfl⟩)
          go_roundw
          case rel => exact ⟨k + 1, by omega, by go_num, by rw [HN.out], n + n2, rfl⟩
          case measure => simp [intOf]; omega
      · have HE := hid (show k = L.length by omega)
        go_wp2_with fail
        go_ret2
        exact ⟨by rw [HE.out]; rfl, below_drewN B3 n⟩
end Go.Proofs.YtijfefahogcfmaaGreat
/-
  Factorials of the program and of the model.
-/
namespace Go.Proofs.YtijfefahogcfmaaGreat
open Go.RowKit

def fac : Nat → Int
  | 0 => 1
  | n + 1 => fac n * ((n : Int) + 1)
theorem fac_step (k : Nat) : fac (k + 1) = fac k * ((k : Int) + 1) := rfl
theorem fac_bd20 : ∀ k < 21, 1 ≤ fac k ∧ fac k ≤ 2432902008176640000 := by decide +kernel

set_option maxRecDepth 100000 in
set_option maxHeartbeats 800000 in
theorem facto_any (n : Nat) (w : World) (h2 : n ≤ 20) :
    Calls Tryz.prog 57 #[.int .i64 n] w fun e w' => e = .returned (.int .i64 (fac n)) ∧ w = w' := by
  go_enter Tryz.func57, Tryz.ntmps57
  go_wp2_with fail
  go_loop [3, 4] (fun p i => ∃ k : Nat, 1 ≤ k ∧ (k ≤ n ∨ k = 1) ∧ i = .int .i64 ((k : Int) + 1) ∧ p = .int .i64 (fac k)) (fun _ i => 30 - (intOf i).toNat)
  case atStart => exact ⟨1, by omega, by omega, rfl, rfl⟩
  case round =>
    obtain ⟨k, hk1, hk, rfl, rfl⟩ := hrel
    have HK := hid hk
    clear hk
    by_cases hlt : k < n
    · have hb := fac_bd20 (k + 1) (by omega)
      have hb0 := fac_bd20 k (by omega)
      have HS := hid (fac_step k)
      rw [HS.out] at hb
      obtain ⟨f, hf⟩ : ∃ f, f = fac k := ⟨_, rfl⟩
      rw [← hf] at hb hb0 HS ⊢
      clear hf
      go_wp2_with fail
      go_round
      case rel => exact ⟨k + 1, by omega, by omega, by go_num, by rw [HS.out]⟩
      case measure => show 30 - ((k : Int) + 1 + 1).toNat < 30 - ((k : Int) + 1).toNat; omega
    · have HE := hid (show fac k = fac n by
        have := HK.out
        by_cases h : n = 0
        · rw [h, show k = 1 by omega]; rfl
        · rw [show k = n by omega])
      go_wp2_with fail
      go_ret
      exact ⟨by rw [← HE.out]; rfl, rfl⟩

/-- What the other side has multiplied when it has come down to m. -/
def facD (n : Nat) : Nat → Int
  | 0 => 1
  | j + 1 => facD n j * ((n : Int) - j)
theorem facDN : ((List.range 21).all fun n => (List.range 21).all fun j => decide (n < j) || (decide (1 ≤ facD n j ∨ j = n + 1) && decide (facD n j ≤ 2432902008176640000 ∧ 0 ≤ facD n j))) = true := by decide +kernel
theorem facD_bd (n : Nat) (hn : n ≤ 20) (j : Nat) (hj : j ≤ n) : 0 ≤ facD n j ∧ facD n j ≤ 2432902008176640000 := by
  have h1 := List.all_eq_true.1 facDN n (List.mem_range.2 (by omega))
  have h2 := List.all_eq_true.1 h1 j (List.mem_range.2 (by omega))
  simp only [Bool.or_eq_true, Bool.and_eq_true, decide_eq_true_eq] at h2
  omega
theorem facD_fac : ∀ n < 21, facD n (n - 1) = fac n := by decide +kernel

end Go.Proofs.YtijfefahogcfmaaGreat
