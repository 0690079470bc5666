/-
  Several texts in one.
-/
import Derived.Test.YtijfefahogcfmaaGreatR15
import Derived.Test.YtijfefahogcfmaaGreatR13
import Derived.Test.YtijfefahogcfmaaGreatCB
import Derived.Test.YtijfefahogcfmaaGreatR30
import Derived.Test.YtijfefahogcfmaaGreatR01
import Derived.Deep.QuietTactic
import Derived.BigQuiet
/-
  BothOfWalk of the model.
-/
namespace Go.Proofs.YtijfefahogcfmaaGreat
open Go.RowKit

def gpChk (a b : Int) : Bool := (List.range 7).all fun i => (List.range 7).all fun i' => (List.range 9).all fun x => (List.range 9).all fun x' => !(decide ((i : Int) < a - 1) && (decide ((i' : Int) < a - 1) && decide (gpA a b x i = gpA a b x' i'))) || (decide (x = x') && decide (i = i'))
theorem gpChk_t {a b : Int} (hs : sz a b = true) : gpChk a b = true := sz_nat (p := fun a b => gpChk a b = true) (by decide +kernel) hs
theorem gp_inj {a b : Int} (hs : sz a b = true) {i i' x x' : Nat} (h1 : (i : Int) < a - 1) (h2 : (i' : Int) < a - 1) (h3 : x < 9) (h4 : x' < 9) (h : gpA a b x i = gpA a b x' i') : x = x' ∧ i = i' := by
  obtain ⟨ha, hb, -⟩ := sz_iff.1 hs
  have q := gpChk_t hs
  unfold gpChk at q
  have q1 := List.all_eq_true.1 q i (List.mem_range.2 (by omega))
  have q2 := List.all_eq_true.1 q1 i' (List.mem_range.2 (by omega))
  have q3 := List.all_eq_true.1 q2 x (List.mem_range.2 h3)
  have q4 := List.all_eq_true.1 q3 x' (List.mem_range.2 h4)
  simp only [h1, h2, h, decide_true, Bool.and_self, Bool.not_true, Bool.false_or, Bool.and_eq_true, decide_eq_true_eq] at q4
  exact q4
theorem mem_hwR {a b : Int} {W : List Int} {i n : Nat} {v : Int} (h : v ∈ hwR a b W i n) : ∃ j, j < n ∧ v = gpA a b (W.getD i 0 + 1 + (j : Nat)) i := by
  unfold hwR at h
  obtain ⟨j, hj, e⟩ := List.mem_map.1 h
  exact ⟨j, List.mem_range.1 hj, e.symm⟩
theorem mem_hwL {a b : Int} {W : List Int} {m : Nat} {v : Int} (h : v ∈ hwL a b W m) : ∃ i, i < m ∧ ∃ j, j < hwM a b W i ∧ v = gpA a b (W.getD i 0 + 1 + (j : Nat)) i := by
  unfold hwL at h
  obtain ⟨i, hi, h2⟩ := List.mem_flatMap.1 h
  exact ⟨i, List.mem_range.1 hi, mem_hwR h2⟩
theorem insAll_snoc (L : List Int) (x : Int) : insAll (L ++ [x]) = insL (insAll L) x := by unfold insAll; rw [List.foldl_append]; rfl
theorem getD_memW {L : List Int} {j : Nat} (h : j < L.length) : L.getD j 0 ∈ L := by
  rw [List.getD_eq_getElem?_getD, List.getElem?_eq_getElem h]; exact List.getElem_mem h
theorem new_ne {a b : Int} {W : List Int} {k j : Nat} (hs : sz a b = true) (hla : (W.length : Int) = a - 1) (hk : k < W.length) (hok : ∀ i, i < k → okW a b W i = true) (h0 : 0 ≤ W.getD k 0) (hj : W.getD k 0 + 1 + (j : Int) ≤ mstI a b k) :
    ∀ q, q < (insAll (hwL a b W k ++ hwR a b W k j)).length → (insAll (hwL a b W k ++ hwR a b W k j)).getD q 0 ≠ gpA a b (W.getD k 0 + 1 + (j : Nat)) k := by
  obtain ⟨ha, hb, -⟩ := sz_iff.1 hs
  intro q hq e
  have hm := getD_memW hq
  rw [e] at hm
  have hm2 := (insAll_perm _).mem_iff.1 hm
  have hkb := (wk_bdN hs k (by omega) (by omega)).1.1
  obtain ⟨x, hx⟩ : ∃ x : Nat, (x : Int) = W.getD k 0 + 1 + j := ⟨(W.getD k 0 + 1 + j).toNat, by omega⟩
  rw [← hx] at hm2
  rcases List.mem_append.1 hm2 with h | h
  · obtain ⟨i, hi, j', hj', e'⟩ := mem_hwL h
    have hib := (wk_bdN hs i (by omega) (by omega)).1.1
    have hio := (okW_iff.1 (hok i hi)).1
    unfold hwM at hj'
    obtain ⟨x', hx'⟩ : ∃ x' : Nat, (x' : Int) = W.getD i 0 + 1 + j' := ⟨(W.getD i 0 + 1 + j').toNat, by omega⟩
    rw [← hx'] at e'
    have := (gp_inj hs (by omega) (by omega) (by omega) (by omega) e').2
    omega
  · obtain ⟨j', hj', e'⟩ := mem_hwR h
    obtain ⟨x', hx'⟩ : ∃ x' : Nat, (x' : Int) = W.getD k 0 + 1 + j' := ⟨(W.getD k 0 + 1 + j').toNat, by omega⟩
    rw [← hx'] at e'
    have := (gp_inj hs (by omega) (by omega) (by omega) (by omega) e').1
    omega

theorem bw_no {a b : Int} {W : List Int} (h : wkOk a b W = false) : bwOk W a b = false ∧ bwF W a b = [] := by
  have : bwOk W a b = false := by simp [bwOk, h]
  exact ⟨this, by simp [bwF, this]⟩
theorem bw_yes {a b : Int} {W : List Int} (hs : sz a b = true) (h : wkOk a b W = true) : bwOk W a b = true ∧ bwF W a b = ffF (insAll (hwL a b W W.length)) ∧ clB a b (insAll (hwL a b W W.length)) = true ∧ ffOk (insAll (hwL a b W W.length)) = true ∧ (insAll (hwL a b W W.length)).length ≤ 30 := by
  have h1 : bwOk W a b = true := by simp [bwOk, hs, h]
  obtain ⟨p1, p2, p3, -⟩ := bw_parts hs h
  exact ⟨h1, by simp [bwF, h1, ff_t p2], p1, p2, p3⟩

set_option maxRecDepth 100000 in
set_option maxHeartbeats 4000000 in
theorem spec_BothOfWalk (A : Option Addr) (c : Nat) (xs : List Int) (a b : Int) (w : World) (hl : xs.length ≤ 1048576) (hc : Cells w A xs) (_ : I64 a) (_ : I64 b) :
    Calls Tryz.prog 11 #[.slice A xs.length c, .int .i64 a, .int .i64 b] w fun e w' => ∃ A' c', e = .returned (.tuple #[.slice A' (bwF xs a b).length c', .bool (bwOk xs a b)]) ∧ Own w' w.heap.size A' c' (bwF xs a b) ∧ Below w.heap.size w w' := by
  cases ht : sz a b
  · have hb : bwOk xs a b = false := by simp [bwOk, ht]
    rw [show bwF xs a b = [] by simp [bwF, hb], hb]
    have HT := hid ht
    clear ht hb
    go_enter Tryz.func11, Tryz.ntmps11
    go_wp2_with (go_at_call 16; refine (boSizes_b _ _ _ _ HT.out).mono ?_; rintro e w1 ⟨rfl, rfl⟩)
    go_ret2
    exact ⟨none, 0, rfl, own_nil _ _, Below.refl _ _⟩
  have HT := hid ht
  obtain ⟨ha, hb, -⟩ := sz_iff.1 ht
  by_cases hlen : (xs.length : Int) = a - 1
  · have HBD := hid (wk_bdN ht)
    have HNO := hid fun k (hk : k < xs.length) (h : okW a b xs k = false) => bw_no (wkOk_no hk h)
    have HIFF := hid fun j => okW_iff (a := a) (b := b) (W := xs) (j := j)
    have HFF := hid fun j => okW_f (a := a) (b := b) (W := xs) (j := j)
    have HEND := hid fun (h : ∀ j, j < xs.length → okW a b xs j = true) => bw_yes ht (wkOk_iff.2 ⟨by omega, h⟩)
    have HNEW := hid fun k j (hk : k < xs.length) => new_ne (a := a) (b := b) (W := xs) (k := k) (j := j) ht hlen hk
    have HCL := hid fun A c L W' (h1 : L.length ≤ 1048576) (h : Cells W' A L) => boClosed_any A c a b L W' ht h1 h
    obtain ⟨RES, hRES⟩ : ∃ RES, RES = bwF xs a b := ⟨_, rfl⟩
    obtain ⟨OKB, hOKB⟩ : ∃ OKB, OKB = bwOk xs a b := ⟨_, rfl⟩
    rw [← hRES, ← hOKB] at HNO HEND ⊢
    have HOK : Hid (∃ O : Nat → Bool, O = okW a b xs) := hid ⟨_, rfl⟩
    obtain ⟨O, hO⟩ := HOK.out
    rw [← hO] at HNO HIFF HEND HFF HNEW
    have hM7 : Hid (∀ i, i < xs.length → O i = true → hwM a b xs i ≤ 7) := hid fun i hi ho => by
      have := (HIFF.out i).1 ho; have h2 := (HBD.out i (by omega) (by omega)).1.1; unfold hwM; omega
    obtain ⟨p1, p2⟩ := ab49 ha hb
    have hl6 : xs.length ≤ 6 := by omega
    have HLEN := hid hlen
    have heb : ((xs.length : Int) != a - 1) = false := by simp [hlen]
    have hne : ¬ a = 0 := by omega
    clear hRES hOKB hO HOK hlen ht
    go_enter Tryz.func11, Tryz.ntmps11
    go_wp2_with (go_at_call 16; refine (boSizes_b _ _ _ _ HT.out).mono ?_; rintro e w1 ⟨rfl, rfl⟩)
    go_loopw [8, 9, 10, 11, 12, 26] (fun v _ _ _ _ i wr => ∃ k : Nat, k ≤ xs.length ∧ i = .int .i64 k ∧ Hid (∀ j, j < k → O j = true) ∧ (∃ A' c', v = .slice A' (hwL a b xs k).length c' ∧ Own wr w.heap.size A' c' (insAll (hwL a b xs k))) ∧ Below w.heap.size w wr) (fun _ _ _ _ _ i _ => xs.length - (intOf i).toNat)
    case atStart => exact ⟨0, Nat.zero_le _, rfl, hid fun j hj => absurd hj (by omega), ⟨none, 0, rfl, own_nil _ _⟩, Below.refl _ _⟩
    case round =>
      obtain ⟨k, hk, rfl, HD, ⟨Ag, cg, rfl, ho⟩, hbel⟩ := hrel
      have HO := hid ho
      clear ho
      have hcr : Cells wr A xs := hc.below hbel
      by_cases hlt : k < xs.length
      · obtain ⟨bb, o, hAe, hcc⟩ := hcr (by omega)
        have hck := hcc k hlt
        have HN := hid (HNO.out k hlt)
        have HF := hid (HFF.out k)
        have HTT := hid (HIFF.out k).2
        have HYES := hid fun (h : O k = true) => show ∀ j, j < k + 1 → O j = true by
          intro j hj
          by_cases e : j = k
          · rw [e]; exact h
          · exact HD.out j (by omega)
        obtain ⟨⟨⟨hm1, hm2⟩, hm3⟩, hm4, hm5⟩ := HBD.out k (by omega) (by have := HLEN.out; omega)
        have HM5 := hid hm5
        have hck1 := hcc (k - 1) (by omega)
        have HNE := hid fun j => HNEW.out k j hlt HD.out
        have HPU := hid (hwL_push a b xs k)
        have HNX := hid (hwL_succ a b xs k)
        have HMV := hid (show hwM a b xs k = (mstI a b k - xs.getD k 0).toNat from rfl)
        have HLL := hid (hwL_len (a := a) (b := b) (W := xs) k fun i hi => hM7.out i (by omega) (HD.out i hi))
        obtain ⟨y, hy⟩ : ∃ y, y = xs.getD (k - 1) 0 := ⟨_, rfl⟩
        obtain ⟨K, hK⟩ : ∃ K : Nat → List Int, K = fun j => hwL a b xs k ++ hwR a b xs k j := ⟨_, rfl⟩
        have HK0 := hid (show hwL a b xs k = K 0 by rw [hK]; simp [hwR])
        have HKM := hid (show hwL a b xs (k + 1) = K (hwM a b xs k) by rw [hK]; exact HNX.out)
        have HKL := hid (show ∀ j, (K j).length = (K 0).length + j by intro j; rw [hK]; simp [hwR])
        have HKS := hid (show ∀ j : Nat, K j ++ [gpA a b (xs.getD k 0 + 1 + (j : Nat)) k] = K (j + 1) by rw [hK]; exact HPU.out)
        have HKN := hid (show ∀ j : Nat, 0 ≤ xs.getD k 0 → xs.getD k 0 + 1 + (j : Int) ≤ mstI a b k → ∀ q, q < (insAll (K j)).length → (insAll (K j)).getD q 0 ≠ gpA a b (xs.getD k 0 + 1 + (j : Nat)) k by rw [hK]; exact HNE.out)
        obtain ⟨M, hM⟩ : ∃ M, M = hwM a b xs k := ⟨_, rfl⟩
        rw [← hM] at HKM HMV
        obtain ⟨x, hx⟩ : ∃ x, x = xs.getD k 0 := ⟨_, rfl⟩
        rw [← hx] at hck HF HTT HKS HKN HMV
        rw [← hy] at hck1 HF HTT
        rw [HK0.out] at HO HLL ⊢
        have hek : ((k : Int) - 1).toNat = k - 1 := by omega
        subst hAe
        clear hcc hM hx hy hcr hm5 hK HNE HPU HNX
        rw [show mstI a b k = b * (a - 1 - k) / a from rfl] at hm1 hm2 HF HTT HKN HMV
        by_cases h0 : x < 0
        · have HE := hid (HN.out (HF.out fun h => by omega))
          have HIN := hid (show inB 0 (b * (a - 1 - k) / a) x = false by rw [Bool.eq_false_iff, Ne, inB_iff]; omega)
          go_wp2_with (go_at_call 30; refine (l1In_b _ _ _ _ _ HIN.out).mono ?_; rintro e w3 ⟨rfl, rfl⟩)
          go_ret2
          exact ⟨none, 0, by rw [HE.out.1, HE.out.2]; rfl, by rw [HE.out.2]; exact own_nil _ _, hbel⟩
        by_cases hxm : b * (a - 1 - k) / a < x
        · have HE := hid (HN.out (HF.out fun h => by omega))
          have HIN := hid (show inB 0 (b * (a - 1 - k) / a) x = false by rw [Bool.eq_false_iff, Ne, inB_iff]; omega)
          go_wp2_with (go_at_call 30; refine (l1In_b _ _ _ _ _ HIN.out).mono ?_; rintro e w3 ⟨rfl, rfl⟩)
          go_ret2
          exact ⟨none, 0, by rw [HE.out.1, HE.out.2]; rfl, by rw [HE.out.2]; exact own_nil _ _, hbel⟩
        have HIN := hid (show inB 0 (b * (a - 1 - k) / a) x = true by rw [inB_iff]; omega)
        have hx0 : 0 ≤ x := by omega
        have hxm2 : x ≤ b * (a - 1 - k) / a := by omega
        have hM7' : M ≤ 7 := by have := HMV.out; omega
        have hx7 : x ≤ 7 := by omega
        have hLL := HLL.out
        have hcut : ∀ (HE : Hid (0 < k → ¬ y < x)), Hid (O k = true) := fun HE => hid (HTT.out ⟨⟨hx0, hxm2⟩, (Nat.eq_zero_or_pos k).imp id fun h => by have := HE.out h; omega⟩)
        by_cases hk0 : 0 < k
        · by_cases hxy : y < x
          · have HE := hid (HN.out (HF.out fun h => by omega))
            go_wp2_with (go_at_call 30; refine (l1In_b _ _ _ _ _ HIN.out).mono ?_; rintro e w3 ⟨rfl, rfl⟩)
            go_ret2
            exact ⟨none, 0, by rw [HE.out.1, HE.out.2]; rfl, by rw [HE.out.2]; exact own_nil _ _, hbel⟩
          · have HE := HYES.out (hcut (hid fun _ => hxy)).out
            have HE2 := hid HE
            clear hcut HE HNO HEND HN HF HTT HYES HFF HIFF
            go_wp2_with (go_at_call 30; refine (l1In_b _ _ _ _ _ HIN.out).mono ?_; rintro e w3 ⟨rfl, rfl⟩)
            go_loopw [8, 12] (fun v u wr => ∃ j : Nat, j ≤ M ∧ u = .int .i64 (x + 1 + j) ∧ (∃ A' c', v = .slice A' (K j).length c' ∧ Own wr w.heap.size A' c' (insAll (K j))) ∧ Below w.heap.size w wr) (fun _ u _ => 20 - (intOf u).toNat)
            case atStart => exact ⟨0, by omega, by go_num, ⟨Ag, cg, rfl, HO.out⟩, hbel⟩
            case round =>
              obtain ⟨j, hj, rfl, ⟨Ah, ch, rfl, ho⟩, hbel2⟩ := hrel
              have HO2 := hid ho
              clear ho
              obtain ⟨u, hu⟩ : ∃ u, u = x + 1 + (j : Int) := ⟨_, rfl⟩
              have HU := hid hu
              rw [← hu]
              by_cases hjm : j < M
              · have hle : u ≤ b * (a - 1 - k) / a := by have := HMV.out; omega
                have hu1 : 1 ≤ u ∧ u ≤ 9 := by omega
                have HS := hid (HKS.out j)
                have HX := hid (HKN.out j hx0 (by rw [← hu]; exact hle))
                have HLJ := hid (insAll_perm (K j)).length_eq
                have hlj : (K j).length ≤ 60 := by have := HKL.out j; omega
                have ⟨q1, q2⟩ := HM5.out u.toNat (by omega)
                rw [Int.toNat_of_nonneg (by omega)] at q1 q2
                have HKJ1 := hid (show (K (j + 1)).length = (K j).length + 1 by rw [HKL.out, HKL.out j]; omega)
                rw [← hu] at HS HX
                rw [show gpA a b u k = a * b - a * u - b * (k + 1) from rfl] at HS HX
                have HPT := hid fun W' (h : Own W' w.heap.size Ah ch (insAll (K j))) => l1Put_any Ah ch (insAll (K j)) (a * b - a * u - b * (k + 1)) W' (by rw [HLJ.out]; omega) h HX.out
                rw [← insAll_snoc, HS.out, HLJ.out] at HPT
                have hlj2 := hid hlj
                obtain ⟨n, hn⟩ : ∃ n, n = (K j).length := ⟨_, rfl⟩
                obtain ⟨S, hS⟩ : ∃ S, S = insAll (K j) := ⟨_, rfl⟩
                obtain ⟨S2, hS2⟩ : ∃ S2, S2 = insAll (K (j + 1)) := ⟨_, rfl⟩
                have HS2 := hid hS2
                rw [← hn] at HPT HKJ1 ⊢
                rw [← hS] at HPT HO2
                rw [← hS2] at HPT
                clear hu hn hS hS2 hlj HS HX HLJ hLL
                go_wp2_with (go_at_call 31; refine (HPT.out _ HO2.out).mono ?_; rintro e w4 ⟨A4, c4, rfl, o4, b4⟩)
                go_roundw
                case rel => exact ⟨j + 1, by omega, by rw [HU.out]; go_num, ⟨A4, c4, by rw [HKJ1.out], by rw [← HS2.out]; exact o4.more hbel2.size⟩, Below.next hbel2 b4⟩
                case measure => show 20 - (u + 1).toNat < 20 - u.toNat; omega
              · have hle : b * (a - 1 - k) / a < u := by have := HMV.out; omega
                have HJ := hid (show j = M by omega)
                clear hu hLL
                go_wp2_with fail
                go_roundw
                case rel => exact ⟨k + 1, by omega, by go_num, HE2, ⟨Ah, ch, by rw [HKM.out, HJ.out], by rw [HKM.out, ← HJ.out]; exact HO2.out⟩, hbel2⟩
                case measure => simp [intOf]; omega
        · have HE := HYES.out (hcut (hid fun h => absurd h hk0)).out
          have HE2 := hid HE
          have hkle : (k : Int) ≤ 0 := by omega
          clear hcut HE hck1 HNO HEND HN HF HTT HYES HFF HIFF
          clear hk0
          go_wp2_with (go_at_call 30; refine (l1In_b _ _ _ _ _ HIN.out).mono ?_; rintro e w3 ⟨rfl, rfl⟩)
          go_loopw [8, 12] (fun v u wr => ∃ j : Nat, j ≤ M ∧ u = .int .i64 (x + 1 + j) ∧ (∃ A' c', v = .slice A' (K j).length c' ∧ Own wr w.heap.size A' c' (insAll (K j))) ∧ Below w.heap.size w wr) (fun _ u _ => 20 - (intOf u).toNat)
          case atStart => exact ⟨0, by omega, by go_num, ⟨Ag, cg, rfl, HO.out⟩, hbel⟩
          case round =>
            obtain ⟨j, hj, rfl, ⟨Ah, ch, rfl, ho⟩, hbel2⟩ := hrel
            have HO2 := hid ho
            clear ho
            obtain ⟨u, hu⟩ : ∃ u, u = x + 1 + (j : Int) := ⟨_, rfl⟩
            have HU := hid hu
            rw [← hu]
            by_cases hjm : j < M
            · have hle : u ≤ b * (a - 1 - k) / a := by have := HMV.out; omega
              have hu1 : 1 ≤ u ∧ u ≤ 9 := by omega
              have HS := hid (HKS.out j)
              have HX := hid (HKN.out j hx0 (by rw [← hu]; exact hle))
              have HLJ := hid (insAll_perm (K j)).length_eq
              have hlj : (K j).length ≤ 60 := by have := HKL.out j; omega
              have ⟨q1, q2⟩ := HM5.out u.toNat (by omega)
              rw [Int.toNat_of_nonneg (by omega)] at q1 q2
              have HKJ1 := hid (show (K (j + 1)).length = (K j).length + 1 by rw [HKL.out, HKL.out j]; omega)
              rw [← hu] at HS HX
              rw [show gpA a b u k = a * b - a * u - b * (k + 1) from rfl] at HS HX
              have HPT := hid fun W' (h : Own W' w.heap.size Ah ch (insAll (K j))) => l1Put_any Ah ch (insAll (K j)) (a * b - a * u - b * (k + 1)) W' (by rw [HLJ.out]; omega) h HX.out
              rw [← insAll_snoc, HS.out, HLJ.out] at HPT
              have hlj2 := hid hlj
              obtain ⟨n, hn⟩ : ∃ n, n = (K j).length := ⟨_, rfl⟩
              obtain ⟨S, hS⟩ : ∃ S, S = insAll (K j) := ⟨_, rfl⟩
              obtain ⟨S2, hS2⟩ : ∃ S2, S2 = insAll (K (j + 1)) := ⟨_, rfl⟩
              have HS2 := hid hS2
              rw [← hn] at HPT HKJ1 ⊢
              rw [← hS] at HPT HO2
              rw [← hS2] at HPT
              clear hu hn hS hS2 hlj HS HX HLJ hLL
              go_wp2_with (go_at_call 31; refine (HPT.out _ HO2.out).mono ?_; rintro e w4 ⟨A4, c4, rfl, o4, b4⟩)
              go_roundw
              case rel => exact ⟨j + 1, by omega, by rw [HU.out]; go_num, ⟨A4, c4, by rw [HKJ1.out], by rw [← HS2.out]; exact o4.more hbel2.size⟩, Below.next hbel2 b4⟩
              case measure => show 20 - (u + 1).toNat < 20 - u.toNat; omega
            · have hle : b * (a - 1 - k) / a < u := by have := HMV.out; omega
              have HJ := hid (show j = M by omega)
              clear hu hLL
              go_wp2_with fail
              go_roundw
              case rel => exact ⟨k + 1, by omega, by go_num, HE2, ⟨Ah, ch, by rw [HKM.out, HJ.out], by rw [HKM.out, ← HJ.out]; exact HO2.out⟩, hbel2⟩
              case measure => simp [intOf]; omega
      · have HKK := hid (show k = xs.length by omega)
        obtain ⟨HE1, HE2, HE3, HE4, HE5⟩ := HEND.out fun j hj => HD.out j (by omega)
        have HIL := hid (insAll_perm (hwL a b xs k)).length_eq
        rw [HKK.out] at HO HIL
        rw [HKK.out]
        have HE := hid (And.intro HE1 HE2)
        obtain ⟨L, hL⟩ : ∃ L, L = insAll (hwL a b xs xs.length) := ⟨_, rfl⟩
        rw [← hL] at HO HE HE3 HE4 HE5 HIL
        rw [← HIL.out]
        have HCLL := hid fun A c W' (h : Cells W' A L) => HCL.out A c L W' (by omega) h
        have HFR := hid fun A c W' (h : Cells W' A L) => boFrom_any A c L W' (by omega) h
        rw [HE3] at HCLL
        rw [HE4] at HFR
        clear hL HE1 HE2 HE3 HE4 HE5
        go_wp2_with (first | (go_at_call 32; refine (HCLL.out _ _ _ HO.out.cells).mono ?_; rintro e w3 ⟨rfl, rfl⟩) | (go_at_call 33; refine (HFR.out _ _ _ HO.out.cells).mono ?_; rintro e w4 ⟨A4, c4, rfl, o4, b4⟩))
        go_ret2
        exact ⟨A4, c4, by rw [HE.out.1, HE.out.2]; rfl, by rw [HE.out.2]; exact o4.more hbel.size, Below.next hbel b4⟩
  · have hno : wkOk a b xs = false := by
      cases e : wkOk a b xs
      · rfl
      · have := (wkOk_iff.1 e).1; omega
    rw [(bw_no hno).1, (bw_no hno).2]
    have heb : ((xs.length : Int) != a - 1) = true := by simpa using hlen
    clear hno ht
    go_enter Tryz.func11, Tryz.ntmps11
    go_wp2_with (go_at_call 16; refine (boSizes_b _ _ _ _ HT.out).mono ?_; rintro e w1 ⟨rfl, rfl⟩)
    go_ret2
    exact ⟨none, 0, rfl, own_nil _ _, Below.refl _ _⟩
end Go.Proofs.YtijfefahogcfmaaGreat
/-
  The laws' own helpers: qSame, qSameRows, qSum (XEsr with other names).
-/
namespace Go.Proofs.YtijfefahogcfmaaGreat
open Go.RowKit

set_option maxHeartbeats 1000000 in
theorem qSame_d (A B : Option Addr) (c d : Nat) (xs ys : List Int) (w : World) (hl : xs.length ≤ 1048576) (_ : ys.length ≤ 1048576) (hA : Cells w A xs) (hB : Cells w B ys) :
    Calls Tryz.prog 8 #[.slice A xs.length c, .slice B ys.length d] w fun e w' => e = .returned (.bool (decide (xs = ys))) ∧ ∃ n, w' = w.drewN n := by
  by_cases hlen : xs.length = ys.length
  · have HL := hid hlen
    rw [← hlen]
    clear hlen
    go_enter Tryz.func8, Tryz.ntmps8
    go_wp2_with fail
    go_loopw [13] (fun i wr => ∃ k : Nat, k ≤ xs.length ∧ i = .int .i64 k ∧ Hid (∀ j, j < k → xs.getD j 0 = ys.getD j 0) ∧ ∃ n, wr = w.drewN n) (fun i _ => xs.length - (intOf i).toNat)
    case atStart => exact ⟨0, Nat.zero_le _, rfl, hid fun j hj => absurd hj (Nat.not_lt_zero _), 0, rfl⟩
    case round =>
      obtain ⟨k, hk, rfl, HE, n, rfl⟩ := hrel
      by_cases hlt : k < xs.length
      · obtain ⟨b, o, rfl, hcc⟩ := hA (by omega)
        obtain ⟨b2, o2, rfl, hcc2⟩ := hB (by rw [← HL.out]; omega)
        have hck := hcc k hlt
        have hck2 := hcc2 k (by rw [← HL.out]; exact hlt)
        clear hcc hcc2
        obtain ⟨x, hx⟩ : ∃ x, x = xs.getD k 0 := ⟨_, rfl⟩
        obtain ⟨y, hy⟩ : ∃ y, y = ys.getD k 0 := ⟨_, rfl⟩
        rw [← hx] at hck
        rw [← hy] at hck2
        have HX := hid hx; have HY := hid hy
        clear hx hy
        by_cases he : x = y
        · subst he
          go_wp2_with fail
          go_quiet (fail)
          go_wp2_with fail
          go_roundw
          case rel => exact ⟨k + 1, by omega, by go_num, hid fun j hj => by
            rcases Nat.lt_or_ge j k with h | h
            · exact HE.out j h
            · rw [show j = k by omega, ← HX.out, ← HY.out], _, rfl⟩
          case measure => simp [intOf]; omega
        · have heb : (x != y) = true := by simpa using he
          have heb2 : (x == y) = false := by simpa using he
          have HN := hid he
          clear he
          go_wp2_with fail
          go_quiet (fail)
          go_wp2_with fail
          go_ret
          exact ⟨ret_bool (decide_eq_false fun e => HN.out (by rw [HX.out, HY.out, e])).symm, _, World.drewN_drewN ..⟩
      · go_wp2_with fail
        go_ret
        refine ⟨ret_bool (decide_eq_true ?_).symm, n, rfl⟩
        exact rows_ext HL.out fun j hj => HE.out j (by omega)
  · have h1 : ¬ (xs.length : Int) = (ys.length : Int) := by omega
    have heb : ((xs.length : Int) != (ys.length : Int)) = true := by simpa using h1
    have heb2 : ((xs.length : Int) == (ys.length : Int)) = false := by simpa using h1
    have HN := hid hlen
    clear hlen h1
    go_enter Tryz.func8, Tryz.ntmps8
    go_wp2_with fail
    go_ret
    exact ⟨ret_bool (decide_eq_false fun e => HN.out (by rw [e])).symm, 0, rfl⟩
end Go.Proofs.YtijfefahogcfmaaGreat
