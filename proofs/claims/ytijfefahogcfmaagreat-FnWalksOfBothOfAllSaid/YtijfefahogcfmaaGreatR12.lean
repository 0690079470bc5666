/-
  Several texts in one.
-/
import Derived.Test.YtijfefahogcfmaaGreatR11
import Derived.Deep.RegionHeld3
import Derived.Deep.CutRange
/-
  Contracts: boIs and IsBothCore of the model.
-/
namespace Go.Proofs.YtijfefahogcfmaaGreat
open Go.RowKit

set_option maxRecDepth 100000 in
set_option maxHeartbeats 2000000 in
theorem chIsCore_dn (A : Option Addr) (c : Nat) (xs : List Int) (t : Int) (w : World) (G : Good xs) (ht : 2 ≤ t ∧ t ≤ 7) (hc : Cells w A xs) :
    Calls Tryz.prog 41 #[.slice A xs.length c, .int .i64 t] w fun e w' => e = .returned (.bool (dnB xs t)) ∧ Below w.heap.size w w' := by
  have HNO : Hid (∀ r c, r < xs.length → c < ((hooksR xs).getD r []).length → Int.tmod (((hooksR xs).getD r []).getD c 0) t = 0 → dnB xs t = false) := fun r c hr hc h => by
    cases e : dnB xs t
    · rfl
    · exact absurd h (hook_dvd_no G (by omega) e hr hc)
  have HYES := hid (hook_dvd_yes G (by omega : 0 < t))
  have hptH := fun W h => ptHooks_any A c xs W G h
  change ∀ W, Cells W A xs → Calls Tryz.prog 65 #[.slice A xs.length c] W fun e w' => ∃ A' c', e = .returned (.slice A' (hooksR xs).length c') ∧ Own2 w' W.heap.size w'.heap.size A' c' (hooksR xs) ∧ Below W.heap.size W w' at hptH
  have HH := hid hptH
  have HT := hid (hooksR_tot G)
  have hRl := hooksR_len xs
  have h30 := G.len
  rw [← hRl] at HNO HYES
  obtain ⟨R, hR⟩ : ∃ R, R = hooksR xs := ⟨_, rfl⟩
  rw [← hR] at HT hRl HH HNO HYES
  have ht9 : tot R ≤ 900 := HT.out
  have hR30 : R.length ≤ 30 := by omega
  have hne : ¬ t = 0 := by omega
  obtain ⟨b, hb⟩ : ∃ b, b = dnB xs t := ⟨_, rfl⟩
  rw [← hb] at HNO HYES ⊢
  clear hR hRl hptH G hb
  go_enter Tryz.func41, Tryz.ntmps41
  go_wp2_with (go_at_call 65; refine (HH.out _ (by exact hc)).mono ?_; rintro e wt ⟨At, ct, rfl, ot, bt⟩)
  obtain ⟨Pt, Ct, hA1, hA2⟩ := ot.cells
  clear ot
  go_loop [12] (fun i => ∃ k : Nat, k ≤ R.length ∧ i = .int .i64 k ∧ Hid (∀ r, r < k → ∀ c, c < (R.getD r []).length → ¬ Int.tmod ((R.getD r []).getD c 0) t = 0)) (fun i => R.length - (intOf i).toNat)
  case atStart => exact ⟨0, Nat.zero_le _, rfl, hid fun r hr => absurd hr (Nat.not_lt_zero _)⟩
  case round =>
    obtain ⟨k, hk, rfl, HP⟩ := hrel
    by_cases hlt : k < R.length
    · obtain ⟨b0, o, rfl, hcc⟩ := hA1 (by omega)
      have hck := hcc k hlt
      have hr0 := hA2 k hlt
      have hrl : (R.getD k []).length ≤ 900 := by have := tot_take_succ R k hlt; have := tot_take_le R (k + 1); omega
      have HNK := hid (HNO.out k)
      have HPK := hid (fun (h : ∀ c, c < (R.getD k []).length → ¬ Int.tmod ((R.getD k []).getD c 0) t = 0) => (show ∀ r, r < k + 1 → ∀ c, c < (R.getD r []).length → ¬ Int.tmod ((R.getD r []).getD c 0) t = 0 from fun r hr c hc => by
        by_cases e : r = k
        · subst e; exact h c hc
        · exact HP.out r (by omega) c hc))
      obtain ⟨r, hre⟩ : ∃ r, r = R.getD k [] := ⟨_, rfl⟩
      obtain ⟨Ar, hAr⟩ : ∃ Ar, Ar = Pt k := ⟨_, rfl⟩
      obtain ⟨Cr, hCr⟩ : ∃ Cr, Cr = Ct k := ⟨_, rfl⟩
      rw [← hre] at hck hr0 hrl HNK HPK
      rw [← hAr, ← hCr] at hck
      rw [← hAr] at hr0
      have HR0 := hid hr0
      clear hcc hre hr0 hAr hCr
      go_wp2_with fail
      go_loop [18] (fun j => ∃ m : Nat, m ≤ r.length ∧ j = .int .i64 m ∧ Hid (∀ c, c < m → ¬ Int.tmod (r.getD c 0) t = 0)) (fun j => r.length - (intOf j).toNat)
      case atStart => exact ⟨0, Nat.zero_le _, rfl, hid fun r hr => absurd hr (Nat.not_lt_zero _)⟩
      case round =>
        obtain ⟨m, hm, rfl, HQ⟩ := hrel
        by_cases hml : m < r.length
        · obtain ⟨b3, o3, rfl, hcr⟩ := HR0.out (by omega)
          have hcm := hcr m hml
          have HNM := hid (HNK.out m hlt hml)
          have HQM := hid (fun (h : ¬ Int.tmod (r.getD m 0) t = 0) => (show ∀ c, c < m + 1 → ¬ Int.tmod (r.getD c 0) t = 0 from fun c hc => by
            by_cases e : c = m
            · subst e; exact h
            · exact HQ.out c (by omega)))
          obtain ⟨x, hx⟩ : ∃ x, x = r.getD m 0 := ⟨_, rfl⟩
          rw [← hx] at hcm HNM HQM
          clear hcr hx
          by_cases hmm : Int.tmod x t = 0
          · have HB := hid (HNM.out hmm)
            go_wp2_with fail
            go_ret
            exact ⟨ret_bool HB.out.symm, bt⟩
          · have HS := hid (HQM.out hmm)
            go_wp2_with fail
            go_round
            case rel => exact ⟨m + 1, by omega, by go_num, HS⟩
            case measure => simp [intOf]; omega
        · have hmr : m = r.length := by omega
          subst hmr
          have HS := hid (HPK.out HQ.out)
          go_wp2_with fail
          go_round
          case rel => exact ⟨k + 1, by omega, by go_num, HS⟩
          case measure => simp [intOf]; omega
    · have hkl : k = R.length := by omega
      subst hkl
      have HB := hid (HYES.out HP.out)
      go_wp2_with fail
      go_ret
      exact ⟨ret_bool HB.out.symm, bt⟩

set_option maxRecDepth 100000 in
set_option maxHeartbeats 2000000 in
theorem boIs_any (A : Option Addr) (c : Nat) (xs : List Int) (a b : Int) (w : World) (hl : xs.length ≤ 1048576) (hc : Cells w A xs) (hs : sz a b = true) :
    Calls Tryz.prog 17 #[.slice A xs.length c, .int .i64 a, .int .i64 b] w fun e w' => e = .returned (.bool (ibB xs a b)) ∧ Below w.heap.size w w' := by
  obtain ⟨ha, hb, -⟩ := sz_iff.1 hs
  cases hg : good xs
  · rw [show ibB xs a b = false by simp [ibB, hg]]
    have HG := hid hg
    clear hg hs
    go_enter Tryz.func17, Tryz.ntmps17
    go_wp2_with (go_at_call 40; refine (ptGood_b _ _ _ _ hl hc _ HG.out).mono ?_; rintro e w' ⟨rfl, n, rfl⟩)
    go_ret
    exact ⟨rfl, below_drew' _ _⟩
  have G := hid ((good_iff xs).1 hg)
  have HA := hid fun W (h : Cells W A xs) => chIsCore_dn A c xs a W G.out ha h
  have HB := hid fun W (h : Cells W A xs) => chIsCore_dn A c xs b W G.out hb h
  rw [show ibB xs a b = (dnB xs a && dnB xs b) by simp [ibB, hg, hs]]
  have HG := hid hg
  clear hg hs
  cases hda : dnB xs a
  · rw [Bool.false_and]
    rw [hda] at HA
    clear hda
    go_enter Tryz.func17, Tryz.ntmps17
    go_wp2_with fail
    refine (ptGood_b _ _ _ _ hl hc _ HG.out).mono ?_
    rintro e w' ⟨rfl, n, rfl⟩
    go_wp2_with fail
    refine (HA.out _ (hc.below (below_drew' w n))).mono ?_
    rintro e w2 ⟨rfl, b2⟩
    go_wp2_with fail
    go_ret
    exact ⟨rfl, Below.next (below_drew' w n) b2⟩
  · rw [Bool.true_and]
    rw [hda] at HA
    clear hda
    obtain ⟨d, hd⟩ : ∃ d, d = dnB xs b := ⟨_, rfl⟩
    rw [← hd] at HB ⊢
    clear hd
    go_enter Tryz.func17, Tryz.ntmps17
    go_wp2_with fail
    refine (ptGood_b _ _ _ _ hl hc _ HG.out).mono ?_
    rintro e w' ⟨rfl, n, rfl⟩
    go_wp2_with fail
    refine (HA.out _ (hc.below (below_drew' w n))).mono ?_
    rintro e w2 ⟨rfl, b2⟩
    have B2 := Below.next (below_drew' w n) b2
    go_wp2_with fail
    refine (HB.out _ (hc.below B2)).mono ?_
    rintro e w3 ⟨rfl, b3⟩
    go_wp2_with fail
    go_ret
    exact ⟨rfl, Below.next B2 b3⟩
end Go.Proofs.YtijfefahogcfmaaGreat
/-
  Walks of cores for two sizes: contracts of walk (program) and boWalk (model), WalkOfBoth on both sides.
-/
namespace Go.Proofs.YtijfefahogcfmaaGreat
open Go.RowKit

def gpA (a b x i : Int) : Int := a * b - a * x - b * (i + 1)
def mstI (a b i : Int) : Int := b * (a - 1 - i) / a
/-- How many of the first k numbers of a row are no hooks. -/
def wkN (a b : Int) (X : List Int) (i : Nat) : Nat → Int
  | 0 => 0
  | k + 1 => wkN a b X i k + (if gpA a b ((k : Int) + 1) i ∈ X then 0 else 1)
theorem wkN_bd (a b : Int) (X : List Int) (i : Nat) : ∀ k, 0 ≤ wkN a b X i k ∧ wkN a b X i k ≤ k
  | 0 => by simp [wkN]
  | k + 1 => by
    have := wkN_bd a b X i k
    rw [wkN]
    split <;> omega
theorem wkN_in {a b : Int} {X : List Int} {i k : Nat} (h : decide (gpA a b ((k : Int) + 1) i ∈ X) = true) : wkN a b X i (k + 1) = wkN a b X i k := by
  rw [wkN, if_pos (of_decide_eq_true h)]; omega
theorem wkN_out {a b : Int} {X : List Int} {i k : Nat} (h : decide (gpA a b ((k : Int) + 1) i ∈ X) = false) : wkN a b X i (k + 1) = wkN a b X i k + 1 := by
  rw [wkN, if_neg (of_decide_eq_false h)]
def wkA (a b : Int) (X : List Int) (i : Nat) : Int := wkN a b X i (mstI a b i).toNat
def wkL (a b : Int) (X : List Int) : List Int := fnRow (a - 1).toNat (wkA a b X)
/-- The row when all before i and k of i are told. -/
def wkR (a b : Int) (X : List Int) (n i k : Nat) : List Int := fnRow n fun j => if j < i then wkA a b X j else if j = i then wkN a b X i k else 0
theorem wkR_len (a b : Int) (X : List Int) (n i k : Nat) : (wkR a b X n i k).length = n := fnRow_len _ _
theorem wkR_zero (a b : Int) (X : List Int) (n : Nat) : wkR a b X n 0 0 = fnRow n fun _ => 0 := rowF_ext _ _ _ fun j _ => by
  rw [if_neg (by omega)]; split <;> rfl
theorem wkR_next (a b : Int) (X : List Int) (n i : Nat) : wkR a b X n i (mstI a b i).toNat = wkR a b X n (i + 1) 0 := rowF_ext _ _ _ fun j _ => by
  by_cases h1 : j < i
  · rw [if_pos h1, if_pos (by omega)]
  · rw [if_neg h1]
    by_cases h2 : j = i
    · subst h2; rw [if_pos rfl, if_pos (by omega)]; rfl
    · rw [if_neg h2, if_neg (by omega)]; split <;> rfl
theorem wkR_all (a b : Int) (X : List Int) (n : Nat) (hn : n = (a - 1).toNat) : wkR a b X n n 0 = wkL a b X := by
  subst hn
  exact rowF_ext _ _ _ fun j hj => by rw [if_pos hj]
theorem wkR_at (a b : Int) (X : List Int) {n i : Nat} (k : Nat) (h : i < n) : (wkR a b X n i k).getD i 0 = wkN a b X i k := by
  unfold wkR; rw [fnRow_get _ _ _ h, if_neg (by omega), if_pos rfl]
theorem wkR_set (a b : Int) (X : List Int) (n i k : Nat) : (wkR a b X n i k).set i (wkN a b X i (k + 1)) = wkR a b X n i (k + 1) := by
  unfold wkR; rw [fnRow_set]
  refine rowF_ext _ _ _ fun j _ => ?_
  by_cases h : j = i
  · subst h; rw [if_pos rfl, if_neg (by omega), if_pos rfl]
  · rw [if_neg h]
    by_cases h1 : j < i
    · rw [if_pos h1, if_pos h1]
    · rw [if_neg h1, if_neg h1, if_neg h, if_neg h]
def wkChk (a b : Int) : Bool := (List.range 8).all fun i => !(decide ((i : Int) < a - 1)) || (decide ((0 ≤ mstI a b i ∧ mstI a b i ≤ 7) ∧ (0 ≤ b * (a - 1 - i) ∧ b * (a - 1 - i) ≤ 42)) && (decide (0 ≤ b * ((i : Int) + 1) ∧ b * ((i : Int) + 1) ≤ 49) && (List.range 10).all fun x => decide (0 ≤ a * (x : Int) ∧ a * (x : Int) ≤ 70)))
theorem wkChk_t {a b : Int} (hs : sz a b = true) : wkChk a b = true := sz_nat (p := fun a b => wkChk a b = true) (by decide +kernel) hs
theorem wk_bdN {a b : Int} (hs : sz a b = true) (i : Nat) (hi : i < 8) (hia : (i : Int) < a - 1) : ((0 ≤ mstI a b i ∧ mstI a b i ≤ 7) ∧ (0 ≤ b * (a - 1 - i) ∧ b * (a - 1 - i) ≤ 42)) ∧ ((0 ≤ b * ((i : Int) + 1) ∧ b * ((i : Int) + 1) ≤ 49) ∧ ∀ x < 10, 0 ≤ a * ((x : Nat) : Int) ∧ a * (x : Int) ≤ 70) := by
  have h := List.all_eq_true.1 (wkChk_t hs) i (List.mem_range.2 hi)
  simp only [hia, decide_true, Bool.not_true, Bool.false_or, Bool.and_eq_true, decide_eq_true_eq, List.all_eq_true, List.mem_range] at h
  exact ⟨h.1, h.2.1, h.2.2⟩
def wkChk2 (a b : Int) : Bool := (List.range 8).all fun i => !(decide ((i : Int) < a - 1)) || (List.range 10).all fun x => !(decide (1 ≤ x)) || (decide (0 < gpA a b x i) == decide ((x : Int) ≤ mstI a b i))
theorem wkChk2_t {a b : Int} (hs : sz a b = true) : wkChk2 a b = true := sz_nat (p := fun a b => wkChk2 a b = true) (by decide +kernel) hs
/-- The other side's end of a row: a number greater than 0. -/
theorem wk_endN {a b : Int} (hs : sz a b = true) (i : Nat) (hi : i < 8) (hia : (i : Int) < a - 1) (x : Nat) (hx : x < 10) (hx1 : 1 ≤ x) : 0 < gpA a b x i ↔ (x : Int) ≤ mstI a b i := by
  have h := List.all_eq_true.1 (wkChk2_t hs) i (List.mem_range.2 hi)
  simp only [hia, decide_true, Bool.not_true, Bool.false_or] at h
  have h2 := List.all_eq_true.1 h x (List.mem_range.2 hx)
  simp only [hx1, decide_true, Bool.not_true, Bool.false_or, beq_iff_eq, decide_eq_decide] at h2
  exact h2

set_option maxRecDepth 100000 in
set_option maxHeartbeats 800000 in
theorem mostAt_any (a b i : Int) (w : World) (ha : 2 ≤ a ∧ a ≤ 7) (hi : 0 ≤ i ∧ i ≤ 7) (hp : 0 ≤ b * (a - 1 - i) ∧ b * (a - 1 - i) ≤ 42) :
    Calls Tryz.prog 37 #[.agg #[.int .i64 a, .int .i64 b], .int .i64 i] w fun e w' => e = .returned (.int .i64 (mstI a b i)) ∧ Below w.heap.size w w' := by
  have b1 : Below w.heap.size w (w.alloc (.cells #[.int .i64 a, .int .i64 b] 33)) := (Below.refl _ _).alloc (Nat.le_refl _) _
  have hne : ¬ a = 0 := by omega
  have HM := hid (show mstI a b i = b * (a - 1 - i) / a from rfl)
  go_enter Tryz.func37, Tryz.ntmps37
  go_wp2_with fail
  go_ret
  exact ⟨ret_int HM.out.symm, b1⟩

set_option maxRecDepth 100000 in
set_option maxHeartbeats 800000 in
theorem gapAt_any (a b x i : Int) (w : World) (hi : 0 ≤ i ∧ i ≤ 7) (h1 : 4 ≤ a * b ∧ a * b ≤ 49) (h2 : 0 ≤ a * x ∧ a * x ≤ 70) (h3 : 0 ≤ b * (i + 1) ∧ b * (i + 1) ≤ 49) :
    Calls Tryz.prog 39 #[.agg #[.int .i64 a, .int .i64 b], .int .i64 x, .int .i64 i] w fun e w' => e = .returned (.int .i64 (gpA a b x i)) ∧ Below w.heap.size w w' := by
  have b1 : Below w.heap.size w (w.alloc (.cells #[.int .i64 a, .int .i64 b] 33)) := (Below.refl _ _).alloc (Nat.le_refl _) _
  have HM := hid (show gpA a b x i = a * b - a * x - b * (i + 1) from rfl)
  go_enter Tryz.func39, Tryz.ntmps39
  go_wp2_with fail
  go_ret
  exact ⟨ret_int HM.out.symm, b1⟩

set_option maxRecDepth 100000 in
set_option maxHeartbeats 4000000 in
theorem walk_any (A : Option Addr) (c : Nat) (a b : Int) (xs : List Int) (w : World) (hs : sz a b = true) (hl : xs.length ≤ 1048576) (hc : Cells w A xs) :
    Calls Tryz.prog 15 #[.agg #[.slice A xs.length c, .int .i64 a, .int .i64 b]] w fun e w' => ∃ A' c', e = .returned (.slice A' (wkL a b xs).length c') ∧ Own w' w.heap.size A' c' (wkL a b xs) ∧ Below w.heap.size w w' := by
  obtain ⟨ha, hb, -⟩ := sz_iff.1 hs
  obtain ⟨p1, p2⟩ := ab49 ha hb
  have HBD := hid (wk_bdN hs)
  have b1 : Below w.heap.size w (w.alloc (.cells #[.slice A xs.length c, .int .i64 a, .int .i64 b] 35)) := (Below.refl _ _).alloc (Nat.le_refl _) _
  have X := hid (Box3.new w 35 (.slice A xs.length c) (.int .i64 a) (.int .i64 b))
  obtain ⟨w1, hw1⟩ : ∃ w1, w1 = w.alloc (.cells #[.slice A xs.length c, .int .i64 a, .int .i64 b] 35) := ⟨_, rfl⟩
  have hs1 : w.heap.size < w1.heap.size := by rw [hw1]; simp
  have HW := hid hw1
  rw [← hw1] at b1 X
  clear hw1 hs
  obtain ⟨n, hn⟩ : ∃ n : Nat, n = (a - 1).toNat := ⟨_, rfl⟩
  have hna : (n : Int) = a - 1 := by omega
  have hmk := run_make_row' (P := Tryz.prog) 22 3 (.int .i64 0) 8 Tryz.underlying22 Tryz.infoInt rfl .i64 .i64 n (by omega) (by omega)
  have HALL := hid (wkR_all a b xs n hn)
  have HLL := hid (show (wkL a b xs).length = n by unfold wkL; rw [fnRow_len, hn])
  have hn6 : n ≤ 6 := by omega
  have x0 := X.out.cell0
  have x1 := X.out.cell1
  have x2 := X.out.cell2
  rw [hna] at hmk
  obtain ⟨RES, hRES⟩ : ∃ RES, RES = wkL a b xs := ⟨_, rfl⟩
  rw [← hRES] at HALL HLL ⊢
  have HNA := hid hna
  clear hn hna hRES
  go_enter Tryz.func15, Tryz.ntmps15
  go_upto_region 1 with fail
  rw [← HW.out]
  go_wp2_with fail
  have O2 := own_made w1 n (by omega)
  rw [← wkR_zero a b xs n] at O2
  have B2 : Below w1.heap.size w1 (w1.alloc (.cells (madeCells #[.int .i64 0] n) 3)) := (Below.refl _ _).alloc (Nat.le_refl _) _
  clear x0 x1 x2 hmk
  go_loopw [13] (fun v wr => ∃ i : Nat, i ≤ n ∧ v = .int .i64 i ∧ Own wr w1.heap.size (some ⟨w1.heap.size, 0, none⟩) n (wkR a b xs n i 0) ∧ Below w1.heap.size w1 wr) (fun v _ => n - (intOf v).toNat)
  case atStart => exact ⟨0, by omega, rfl, O2, B2⟩
  case round =>
    obtain ⟨i, hi, rfl, ho, hbel⟩ := hrel
    have HO := hid ho
    clear ho
    by_cases hlt : i < n
    · obtain ⟨⟨⟨hm1, hm2⟩, hm3⟩, hm4, hm5⟩ := HBD.out i (by omega) (by have := HNA.out; omega)
      obtain ⟨M, hM⟩ : ∃ M : Nat, M = (mstI a b i).toNat := ⟨_, rfl⟩
      have HNX := hid (wkR_next a b xs n i)
      rw [← hM] at HNX
      have HMI := hid (show mstI a b i = M by omega)
      have hM7 : M ≤ 7 := by omega
      have HMA := hid fun W => mostAt_any a b i W ha ⟨by omega, by omega⟩ hm3
      rw [HMI.out] at HMA
      have HM5 := hid hm5
      clear hM hm1 hm2 hm3 hm5
      go_wp2_with fail
      go_loopw [5] (fun v wr => ∃ k : Nat, k ≤ M ∧ v = .int .i64 ((k : Int) + 1) ∧ Own wr w1.heap.size (some ⟨w1.heap.size, 0, none⟩) n (wkR a b xs n i k) ∧ Below w1.heap.size w1 wr) (fun v _ => 20 - (intOf v).toNat)
      case atStart => exact ⟨0, by omega, rfl, HO.out, hbel⟩
      case round =>
        obtain ⟨k, hk, rfl, ho, hbel2⟩ := hrel
        have HO2 := hid ho
        clear ho
        have Y := X.out.next hbel2
        have y1 := Y.cell1
        have y2 := Y.cell2
        by_cases hkl : k < M
        · obtain ⟨hg1, hg2⟩ := HM5.out (k + 1) (by omega)
          have HGA := hid fun W => gapAt_any a b ((k : Int) + 1) i W ⟨by omega, by omega⟩ ⟨p1, p2⟩ ⟨by exact_mod_cast hg1, by exact_mod_cast hg2⟩ hm4
          clear hg1 hg2
          go_wp2_with (go_at_call 37; refine (HMA.out _).mono ?_; rintro e w3 ⟨rfl, b3⟩)
          have zd : Box3 w3.drew w.heap.size 35 (.slice A xs.length c) (.int .i64 a) (.int .i64 b) := Y.next (Below.next b3 (below_drew' w3 1))
          have k0 := zd.cell0
          have k1 := zd.cell1
          have k2 := zd.cell2
          have ZD := hid zd
          have BD := Below.next hbel2 (Below.next b3 (below_drew' w3 1))
          have OD := hid (HO2.out.below (Below.next b3 (below_drew' w3 1)))
          have HCL := hid fun W (h : Below w1.heap.size w1 W) => (hc.later (Below.next b1 h) : Cells W A xs)
          have hwl := wkR_len a b xs n i k
          have HSET := hid (wkR_set a b xs n i k)
          have HAT := hid (wkR_at a b xs k hlt)
          obtain ⟨ROW, hROW⟩ : ∃ ROW, ROW = wkR a b xs n i k := ⟨_, rfl⟩
          rw [← hROW] at OD HSET HAT hwl
          clear zd Y y1 y2 hROW HO2
          have hwb := wkN_bd a b xs i k
          cases hx : decide (gpA a b ((k : Int) + 1) i ∈ xs)
          · have HX := hid hx
            have HS := hid (wkN_out hx)
            rw [HS.out] at HSET
            obtain ⟨g, hg⟩ : ∃ g, g = gpA a b ((k : Int) + 1) i := ⟨_, rfl⟩
            obtain ⟨v, hv⟩ : ∃ v, v = wkN a b xs i k := ⟨_, rfl⟩
            rw [← hg] at HGA HX
            rw [← hv] at HSET HAT hwb
            clear hx hg hv HS
            go_region_with (first | (go_at_call 39; refine (HGA.out _).mono ?_; rintro e w4 ⟨rfl, b4⟩; have z4 := ZD.out.next b4; have n0 := z4.cell0; have n1 := z4.cell1; have n2 := z4.cell2; have B4 := Below.next BD b4; have O4 := hid (OD.out.below b4); have hcu := own_get O4.out (k := i) (by omega); have hfz := own_froz O4.out i) | (go_at_call 38; refine (has_b _ _ _ _ _ hl (HCL.out _ B4) _ HX.out).mono ?_; rintro e w' ⟨rfl, rfl⟩))
            all_goals
              rw [HAT.out] at hcu
              have O5 := hid (own_len (own_set O4.out i (v + 1)) HSET.out)
              go_wp2_with fail
              go_roundw
              case rel => exact ⟨k + 1, by omega, by go_num, O5.out, B4.setCell (Nat.le_refl _) _⟩
              case measure => show 20 - ((k : Int) + 1 + 1).toNat < 20 - ((k : Int) + 1).toNat; omega
          · have HX := hid hx
            have HS := hid (wkN_in hx)
            rw [HS.out] at HSET
            obtain ⟨g, hg⟩ : ∃ g, g = gpA a b ((k : Int) + 1) i := ⟨_, rfl⟩
            obtain ⟨v, hv⟩ : ∃ v, v = wkN a b xs i k := ⟨_, rfl⟩
            rw [← hg] at HGA HX
            rw [← hv] at HSET HAT hwb
            have HSAME := hid (show ROW = wkR a b xs n i (k + 1) by
              rw [← HSET.out, ← HAT.out, List.getD_eq_getElem?_getD, List.getElem?_eq_getElem (by omega)]; exact (List.set_getElem_self _).symm)
            clear hx hg hv HS
            go_region_with (first | (go_at_call 39; refine (HGA.out _).mono ?_; rintro e w4 ⟨rfl, b4⟩; have z4 := ZD.out.next b4; have n0 := z4.cell0; have n1 := z4.cell1; have n2 := z4.cell2; have B4 := Below.next BD b4; have O4 := hid (OD.out.below b4)) | (go_at_call 38; refine (has_b _ _ _ _ _ hl (HCL.out _ B4) _ HX.out).mono ?_; rintro e w' ⟨rfl, rfl⟩))
            all_goals
              have O5 := hid (own_len O4.out HSAME.out)
              go_wp2_with fail
              go_roundw
              case rel => exact ⟨k + 1, by omega, by go_num, O5.out, B4⟩
              case measure => show 20 - ((k : Int) + 1 + 1).toNat < 20 - ((k : Int) + 1).toNat; omega
        · go_wp2_with (go_at_call 37; refine (HMA.out _).mono ?_; rintro e w3 ⟨rfl, b3⟩)
          have hkM : k = M := by omega
          subst hkM
          have HO3 := hid (own_len (HO2.out.below b3) HNX.out)
          go_roundw
          case rel => exact ⟨i + 1, by omega, by go_num, HO3.out, Below.next hbel2 b3⟩
          case measure => simp [intOf]; omega
    · have hin : i = n := by omega
      subst hin
      have HO3 := hid (own_len HO.out HALL.out)
      go_wp2_with fail
      go_ret
      exact ⟨_, _, by rw [HLL.out]; rfl, HO3.out.more (by omega), Below.next b1 hbel⟩
end Go.Proofs.YtijfefahogcfmaaGreat
