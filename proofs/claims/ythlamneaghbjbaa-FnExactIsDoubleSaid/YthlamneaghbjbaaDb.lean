/-
  Contracts: DoubleOf on both sides.
-/
import Derived.Test.YthlamneaghbjbaaDm
import Derived.Test.YthlamneaghbjbaaShf
import Derived.Test.YthlamneaghbjbaaUnF
import Derived.Test.YthlamneaghbjbaaBr
import Derived.Test.YthlamneaghbjbaaCB
import Derived.Test.YthlamneaghbjbaaCC
namespace Go.Proofs.Ythlamneaghbjbaa
open Go.RowKit

def dbF (xs : List Int) : List Int := if shB xs then dbL xs else []

set_option maxRecDepth 100000 in
set_option maxHeartbeats 2000000 in
theorem brDouble_any (A : Option Addr) (c : Nat) (xs : List Int) (w : World) (hs : strB xs = true) (hc : Cells w A xs) :
    Calls Try.prog 123 #[.slice A xs.length c] w fun e w' => ∃ A' c', e = .returned (.slice A' (dbL xs).length c') ∧ Own w' w.heap.size A' c' (dbL xs) ∧ Below w.heap.size w w' := by
  obtain ⟨i0, hi, hz0, hz1, hz2⟩ := info_parts Try.infoInt
  have G := strB_good hs
  have hlen := G.len
  have HB := hid fun j (hj : j < xs.length) => (show 1 ≤ xs.getD j 0 ∧ xs.getD j 0 ≤ 30 from ⟨by have := G.pos j hj; omega, G.le j hj⟩)
  have HC := hid hc; clear hc
  clear G hs
  have HZ := hid fun r (hr : 60 ≤ r) => dbN_zero (p := xs) (r := r) xs.length (fun j hj => by have := HB.out j hj; omega)
  go_enter Try.func123, Try.ntmps123
  go_wp2_with fail
  go_loopw [4, 15] (fun v i wr => ∃ k : Nat, k ≤ xs.length ∧ i = .int .i64 k ∧ wr.ownsRow w.heap.size 3 1 v (dbA xs k).length (IL (dbA xs k)) ∧ Below w.heap.size w wr) (fun _ i _ => xs.length - (intOf i).toNat)
  case atStart => exact ⟨0, Nat.zero_le _, rfl, World.ownsRow_nil _ _ _ _, Below.refl _ _⟩
  case round =>
    obtain ⟨k, hk, rfl, hown, hbel⟩ := hrel
    by_cases hlt : k < xs.length
    · obtain ⟨b, o, rfl, hcc⟩ := (HC.out.later hbel) (by omega)
      have hck := hcc k hlt
      have hyb := HB.out k hlt
      have HE := hid (show dbA xs (k + 1) = dbA xs k ++ [xs.getD k 0 + k + 1] from rfl)
      have hL := dbA_len xs k
      obtain ⟨y, hy⟩ : ∃ y, y = xs.getD k 0 := ⟨_, rfl⟩
      rw [← hy] at hck hyb HE
      obtain ⟨L, hLL⟩ : ∃ L, L = dbA xs k := ⟨_, rfl⟩
      rw [← hLL] at hown HE hL
      have HL := hid hL
      clear hcc hy hLL hL
      go_wp2_with (at_builtin; refine wpList_append_own _ rfl _ _ 22 rfl w.heap.size 3 i0 (.int .i64 0) 1 8 Try.underlying22 hi hz0 hz1 hz2 rfl (by decide) _ _ _ rfl (hown.alloc _) ⟨wr.heap.size, 0, none⟩ 1 1 [.int .i64 (y + k + 1)] rfl rfl one_at (one_cell _) (by have := HL.out; unfold maxLen; omega) (by have := HL.out; omega) (by have := hbel.size; simp; omega) ?_)
      intro v' w1 hown' hgrow _
      have hb1 : Below w.heap.size w w1 := (hbel.alloc hbel.size _).grown hgrow (by have := hbel.size; simp; omega) (fun q hq => (hown.lt q hq).1)
      have hown2 := own_snoc HE.out hown'
      clear hgrow hown hown'
      go_wp2_with fail
      go_roundw
      case rel => exact ⟨k + 1, by omega, by go_num, hown2, hb1⟩
      case measure => simp [intOf]; omega
    · have hke : k = xs.length := by omega
      subst hke
      have HO := hid hown; clear hown
      have HBl := hid hbel; clear hbel
      go_wp2_with fail
      go_loopw [4, 7] (fun v i wi => ∃ (r f : Nat) (pre : List Int), i = .int .i64 r ∧ r + f = xs.length + 61 ∧ pre.length + f ≤ 91 ∧ wi.ownsRow w.heap.size 3 1 v pre.length (IL pre) ∧ Below w.heap.size w wi ∧ Hid (dbL xs = pre ++ dbC xs f r)) (fun _ i _ => 200 - (intOf i).toNat)
      case atStart => exact ⟨xs.length, 61, dbA xs xs.length, rfl, rfl, by rw [dbA_len]; omega, HO.out, HBl.out, hid rfl⟩
      case round =>
        obtain ⟨r, f, pre, rfl, hrf, hpl, hown, hbel, HR⟩ := hrel
        go_wp2_with fail
        go_loop [8, 33] (fun n i => ∃ j : Nat, j ≤ xs.length ∧ i = .int .i64 j ∧ n = .int .i64 (dbN xs r j)) (fun _ i => xs.length - (intOf i).toNat)
        case atStart => exact ⟨0, Nat.zero_le _, rfl, rfl⟩
        case round =>
          obtain ⟨j, hj, rfl, rfl⟩ := hrel
          have hnl := dbN_le xs r j
          by_cases hlt : j < xs.length
          · obtain ⟨b, o, rfl, hcc⟩ := (HC.out.later hbel) (by omega)
            have hck := hcc j hlt
            have hyb := HB.out j hlt
            have HE := hid (show dbN xs r (j + 1) = dbN xs r j + if (r : Int) < xs.getD j 0 + j then 1 else 0 from rfl)
            obtain ⟨y, hy⟩ : ∃ y, y = xs.getD j 0 := ⟨_, rfl⟩
            rw [← hy] at hck hyb HE
            obtain ⟨n, hn⟩ : ∃ n, n = dbN xs r j := ⟨_, rfl⟩
            rw [← hn] at HE hnl
            rw [← hn]
            clear hcc hy hn
            by_cases hr : (r : Int) < y + j
            · rw [if_pos hr] at HE
              go_wp2_with fail
              go_round
              case rel => exact ⟨j + 1, by omega, by go_num, by rw [HE.out]; go_num⟩
              case measure => simp [intOf]; omega
            · rw [if_neg hr] at HE
              go_wp2_with fail
              go_round
              case rel => exact ⟨j + 1, by omega, by go_num, by rw [HE.out]; rfl⟩
              case measure => simp [intOf]; omega
          · have hje : j = xs.length := by omega
            subst hje
            have HZ0 := hid fun (h : 60 ≤ r) => HZ.out r h
            have HN := hid hnl
            obtain ⟨n, hn⟩ : ∃ n, n = dbN xs r xs.length := ⟨_, rfl⟩
            rw [← hn] at hnl HZ0 ⊢
            by_cases h0 : n = 0
            · have e : dbL xs = pre := by
                rw [HR.out]
                cases f with
                | zero => simp [dbC]
                | succ g => rw [dbC, if_pos (by omega), List.append_nil]
              subst h0
              have HEE := hid e
              obtain ⟨A', c', rfl, ho⟩ := own_form hown rfl
              have HO2 := hid ho
              clear hown ho e hn
              go_wp2_with fail
              go_ret
              rw [HEE.out]
              exact ⟨A', c', rfl, HO2.out, hbel⟩
            · have hr60 : r < 60 := Nat.lt_of_not_le fun h => h0 (HZ0.out h)
              obtain ⟨g, rfl⟩ : ∃ g, f = g + 1 := ⟨f - 1, by omega⟩
              have HE := hid (show dbL xs = (pre ++ [(n : Int)]) ++ dbC xs g (r + 1) by
                rw [HR.out, dbC, if_neg (by omega), ← hn, List.append_assoc]; rfl)
              clear hn HR
              have hn0 : (n : Int) ≠ 0 := by omega
              go_wp2_with (at_builtin; refine wpList_append_own _ rfl _ _ 22 rfl w.heap.size 3 i0 (.int .i64 0) 1 8 Try.underlying22 hi hz0 hz1 hz2 rfl (by decide) _ _ _ rfl (hown.alloc _) ⟨wr.heap.size, 0, none⟩ 1 1 [.int .i64 (n : Int)] rfl rfl one_at (one_cell _) (by unfold maxLen; omega) (by omega) (by have := hbel.size; simp; omega) ?_)
              intro v' w1 hown' hgrow _
              have hb1 : Below w.heap.size w w1 := (hbel.alloc hbel.size _).grown hgrow (by have := hbel.size; simp; omega) (fun q hq => (hown.lt q hq).1)
              have hown2 := own_snoc (rfl : pre ++ [(n : Int)] = pre ++ [(n : Int)]) hown'
              clear hgrow hown hown'
              go_wp2_with fail
              go_roundw
              case rel => exact ⟨r + 1, g, pre ++ [(n : Int)], by go_num, by omega, by rw [List.length_append, List.length_singleton]; omega, hown2, hb1, HE⟩
              case measure => simp [intOf]; omega

theorem str_ent {xs : List Int} (hs : strB xs = true) (j : Nat) (hj : j < xs.length) : -1000 ≤ xs.getD j 0 ∧ xs.getD j 0 ≤ 1000 := by
  have G := strB_good hs
  have := G.pos j hj
  have := G.le j hj
  omega

set_option maxHeartbeats 1000000 in
theorem impl_DoubleOf {B : Nat} (A : Option Addr) (c : Nat) (xs : List Int) (w : World) (hl : xs.length ≤ 1048576) (ho : Own w B A c xs) :
    Calls Try.prog 59 #[.slice A xs.length c] w fun e w' => ∃ A' c', e = .returned (.tuple #[.slice A' (dbF xs).length c', .bool (shB xs)]) ∧ Own w' w.heap.size A' c' (dbF xs) ∧ Below w.heap.size w w' := by
  have HC := hid ho.cells
  cases hb : shB xs
  · rw [show dbF xs = [] by simp [dbF, hb]]
    have HB := hid hb; clear hb ho
    go_enter Try.func59, Try.ntmps59
    go_wp2_with (go_at_call 124; refine (isShifted_b _ _ _ _ hl HC.out _ HB.out).mono ?_; rintro e w' ⟨rfl, rfl⟩)
    go_ret2
    exact ⟨none, 0, rfl, own_nil _ _, Below.refl _ _⟩
  rw [show dbF xs = dbL xs by simp [dbF, hb]]
  obtain ⟨hs, h15⟩ := shB_t hb
  obtain ⟨e1, e2, -, -⟩ := db_ok hs h15
  have hlen := (strB_good hs).len
  have HD := hid (doubleMaya_any A c xs w (by omega) (str_ent hs) ho)
  have hml : (dmL xs).length ≤ 60 := by simp [dmL]; omega
  have HF := hid fun A2 c2 W (h : Cells W A2 (dmL xs)) => impl_FromMaya_c A2 c2 (dmL xs) W (by omega) h
  rw [e1, e2] at HF
  obtain ⟨m, hm⟩ : ∃ m, m = dmL xs := ⟨_, rfl⟩
  rw [← hm] at HD HF hml
  have HB := hid hb
  clear hb ho hs h15 e1 e2 hm
  go_enter Try.func59, Try.ntmps59
  go_wp2_with (first | (go_at_call 124; refine (isShifted_b _ _ _ _ hl HC.out _ HB.out).mono ?_; rintro e w' ⟨rfl, rfl⟩) | (go_at_call 126; refine HD.out.mono ?_; rintro e w2 ⟨A2, c2, rfl, o2, b2⟩) | (go_at_call 125; refine (HF.out _ _ _ o2.cells).mono ?_; rintro e w3 ⟨A3, c3, rfl, o3, b3⟩))
  go_ret2
  exact ⟨A3, c3, rfl, o3.more b2.size, Below.next b2 b3⟩

set_option maxHeartbeats 1000000 in
theorem spec_DoubleOf {B : Nat} (A : Option Addr) (c : Nat) (xs : List Int) (w : World) (hl : xs.length ≤ 1048576) (ho : Own w B A c xs) :
    Calls Try.prog 58 #[.slice A xs.length c] w fun e w' => ∃ A' c', e = .returned (.tuple #[.slice A' (dbF xs).length c', .bool (shB xs)]) ∧ Own w' w.heap.size A' c' (dbF xs) ∧ Below w.heap.size w w' := by
  have HC := hid ho.cells; clear ho
  cases hs : strB xs
  · rw [show dbF xs = [] by simp [dbF, shB, hs], show shB xs = false by simp [shB, hs]]
    have HS := hid hs; clear hs
    go_enter Try.func58, Try.ntmps58
    go_wp2_with (go_at_call 104; refine (brIs_b _ _ _ _ hl HC.out _ HS.out).mono ?_; rintro e w' ⟨rfl, n, rfl⟩)
    go_ret2
    exact ⟨none, 0, rfl, own_nil _ _, below_drew' _ _⟩
  have G := strB_good hs
  have HPS := hid fun W (h : Cells W A xs) => ptSum_any A xs c W G.len (fun j hj => by have := G.pos j hj; have := G.le j hj; omega) h
  by_cases h15 : 15 < xs.sum
  · have hb : shB xs = false := by
      have : decide (xs.sum ≤ 15) = false := decide_eq_false (by omega)
      simp [shB, this]
    rw [show dbF xs = [] by simp [dbF, hb], hb]
    have HS := hid hs; clear hs hb
    obtain ⟨s, hs⟩ : ∃ s, s = xs.sum := ⟨_, rfl⟩
    rw [← hs] at HPS h15
    clear hs G
    go_enter Try.func58, Try.ntmps58
    go_wp2_with (first | (go_at_call 104; refine (brIs_b _ _ _ _ hl HC.out _ HS.out).mono ?_; rintro e w' ⟨rfl, nd0, rfl⟩) | (go_at_call 73; refine (HPS.out _ (by exact HC.out)).mono ?_; rintro e w' ⟨rfl, rfl⟩))
    go_ret2
    exact ⟨none, 0, rfl, own_nil _ _, below_drew' _ _⟩
  have hb : shB xs = true := by
    have : decide (xs.sum ≤ 15) = true := decide_eq_true (by omega)
    simp [shB, hs, this]
  rw [show dbF xs = dbL xs by simp [dbF, hb], hb]
  have HD := hid fun W (h : Cells W A xs) => brDouble_any A c xs W hs h
  have HS := hid hs; clear hs hb
  obtain ⟨s, hs⟩ : ∃ s, s = xs.sum := ⟨_, rfl⟩
  rw [← hs] at HPS h15
  clear hs G
  go_enter Try.func58, Try.ntmps58
  go_wp2_with (first | (go_at_call 104; refine (brIs_b _ _ _ _ hl HC.out _ HS.out).mono ?_; rintro e w' ⟨rfl, nd0, rfl⟩) | (go_at_call 73; refine (HPS.out _ (by exact HC.out)).mono ?_; rintro e w' ⟨rfl, rfl⟩) | (go_at_call 123; refine (HD.out _ (by exact HC.out)).mono ?_; rintro e w3 ⟨A3, c3, rfl, o3, b3⟩))
  go_ret2
  exact ⟨A3, c3, rfl, o3, Below.next (below_drew' _ _) b3⟩

theorem dbC_len (p : List Int) : ∀ f r, (dbC p f r).length ≤ f
  | 0, _ => Nat.le_refl _
  | f + 1, r => by
    rw [dbC]; split
    · simp
    · rw [List.length_cons]; have := dbC_len p f (r + 1); omega
theorem bound_DoubleOf (xs : List Int) : (dbF xs).length ≤ 1048576 := by
  unfold dbF
  split
  · next h =>
    have := (strB_good (shB_t h).1).len
    have := dbC_len xs 61 xs.length
    rw [dbL, List.length_append, dbA_len]; omega
  · simp
end Go.Proofs.Ythlamneaghbjbaa
