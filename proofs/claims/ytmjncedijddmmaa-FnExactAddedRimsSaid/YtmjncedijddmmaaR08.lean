/-
  Several texts in one.
-/
import Derived.Test.YtmjncedijddmmaaCB
import Derived.Test.YtmjncedijddmmaaCC
import Derived.Test.YtmjncedijddmmaaCA
import Derived.Test.YtmjncedijddmmaaR07
import Derived.Test.YtmjncedijddmmaaR05
import Derived.Test.YtmjncedijddmmaaR01
import Derived.BigQuiet
/-
  Contracts: CountsOf of the program and of the model.
-/
namespace Go.Proofs.Ytmjncedijddmmaa
open Go.RowKit

def cnt (r : Nat) (xs : List Int) (j : Nat) : Int := ((xs.filter fun x => decide (x % (r : Int) = (j : Int))).length : Nat)
def cntL (r : Nat) (xs : List Int) : List Int := fnRow r (cnt r xs)
def cntK (r : Nat) (xs : List Int) (k : Nat) : List Int := cntL r (xs.take k)
theorem cntK_zero (r : Nat) (xs : List Int) : cntK r xs 0 = fnRow r (fun _ => 0) := rowF_ext _ _ _ fun j _ => by simp [cnt]
theorem cntK_all (r : Nat) (xs : List Int) : cntK r xs xs.length = cntL r xs := by unfold cntK; rw [List.take_of_length_le (Nat.le_refl _)]
theorem cntK_len (r : Nat) (xs : List Int) (k : Nat) : (cntK r xs k).length = r := fnRow_len _ _
theorem cntK_succ (r : Nat) (xs : List Int) (k m : Nat) (hk : k < xs.length) (hm : xs.getD k 0 % (r : Int) = (m : Int)) (hmr : m < r) : (cntK r xs k).set m ((cntK r xs k).getD m 0 + 1) = cntK r xs (k + 1) := by
  unfold cntK cntL
  rw [fnRow_get _ _ _ hmr, fnRow_set]
  refine rowF_ext _ _ _ fun j _ => ?_
  rw [List.take_succ_eq_append_getElem hk]
  have e : xs[k] = xs.getD k 0 := by simp [List.getD, hk]
  unfold cnt
  rw [e, List.filter_append, List.length_append]
  by_cases h : j = m
  · subst h
    rw [if_pos rfl]
    simp only [List.filter_cons, List.filter_nil, hm, decide_true, if_true, List.length_singleton]
    omega
  · rw [if_neg h]
    have : ¬ xs.getD k 0 % (r : Int) = (j : Int) := by rw [hm]; omega
    simp only [List.filter_cons, List.filter_nil, this, decide_false, Bool.false_eq_true, if_false, List.length_nil]
    omega
theorem cntK_bd (r : Nat) (xs : List Int) (k m : Nat) (hm : m < r) : 0 ≤ (cntK r xs k).getD m 0 ∧ (cntK r xs k).getD m 0 ≤ k := by
  unfold cntK cntL
  rw [fnRow_get _ _ _ hm]
  unfold cnt
  have := List.length_filter_le (fun x => decide (x % (r : Int) = (m : Int))) (xs.take k)
  have h2 : (xs.take k).length ≤ k := by rw [List.length_take]; omega
  omega
def countsF (r : Int) (xs : List Int) : List Int := if isAba r xs then cntL r.toNat xs else []
theorem bound_CountsOf (r : Int) (xs : List Int) : (countsF r xs).length ≤ 1048576 := by
  unfold countsF; split
  · rename_i h
    simp only [isAba, Bool.and_eq_true] at h
    have := inB_iff.1 h.1
    unfold cntL; rw [fnRow_len]; omega
  · simp

set_option maxRecDepth 100000 in
set_option maxHeartbeats 1000000 in
theorem impl_CountsOf (r : Int) (A : Option Addr) (c : Nat) (xs : List Int) (w : World) (hl : xs.length ≤ 1048576) (hc : Cells w A xs) :
    Calls Try.prog 59 #[.agg #[.int .i64 r, .slice A xs.length c]] w fun e w' => ∃ A' c', e = .returned (.tuple #[.slice A' (countsF r xs).length c', .bool (isAba r xs)]) ∧ Own w' w.heap.size A' c' (countsF r xs) ∧ Below w.heap.size w w' := by
  have y0 := Box2.new w 56 (.int .i64 r) (.slice A xs.length c)
  have b0 : Below w.heap.size w (w.alloc (.cells #[.int .i64 r, .slice A xs.length c] 56)) := (Below.refl _ _).alloc (Nat.le_refl _) _
  cases hg : isAba r xs
  · rw [show countsF r xs = [] by simp [countsF, hg]]
    have HG := hid hg; clear hg
    go_enter Try.func59, Try.ntmps59
    go_wp2_with (go_at_call 73; refine (IsAbacus_b _ _ _ _ _ hl (hc.below b0) _ HG.out).mono ?_; rintro e w' ⟨rfl, b1⟩)
    go_ret2
    exact ⟨none, 0, rfl, own_nil _ _, Below.next b0 b1⟩
  have hg2 := hg
  simp only [isAba, Bool.and_eq_true] at hg2
  have hr := inB_iff.1 hg2.1
  have G := goodB_iff.1 hg2.2
  obtain ⟨m, rfl⟩ : ∃ m : Nat, r = m := ⟨r.toNat, by omega⟩
  rw [show countsF (m : Int) xs = cntL m xs by simp [countsF, hg], show (cntL m xs).length = m from fnRow_len _ _]
  have hlen := G.len
  have HB := hid G.rise.bd
  have HG := hid hg; clear hg hg2 G
  have hmk := run_make_row' (P := Try.prog) 22 3 (.int .i64 0) 8 Try.underlying22 Try.infoInt rfl .i64 .i64 m (by omega) (by omega)
  go_enter Try.func59, Try.ntmps59
  go_wp2_with fail
  refine (IsAbacus_b _ _ _ _ _ hl (hc.below b0) _ HG.out).mono ?_
  rintro e w1 ⟨rfl, b1⟩
  have B1 := Below.next b0 b1
  have y1 := y0.next b1
  have f1 := y1.cell0
  have f2 := y1.cell1
  obtain ⟨w2, hw2⟩ : ∃ w2, w2 = w1.alloc (.cells (madeCells #[.int .i64 0] m) 3) := ⟨_, rfl⟩
  have o2 : Own w2 w1.heap.size (some ⟨w1.heap.size, 0, none⟩) m (cntK m xs 0) := by rw [hw2, cntK_zero]; exact own_made w1 m (by omega)
  have b2 : Below w1.heap.size w1 w2 := by rw [hw2]; exact (Below.refl _ _).alloc (Nat.le_refl _) _
  have g1 : (w1.alloc (.cells (madeCells #[.int .i64 0] m) 3)).cell? ⟨w.heap.size, 1, none⟩ = some (.slice A xs.length c) := (y1.alloc _).cell1
  have z1 := B1.size
  have zz := b1.size
  go_wp2_with fail
  rw [← hw2]
  clear hw2 g1 f1 f2
  go_loopw [6, 16] (fun _ i wr => ∃ k : Nat, k ≤ xs.length ∧ i = .int .i64 k ∧ Own wr w1.heap.size (some ⟨w1.heap.size, 0, none⟩) m (cntK m xs k) ∧ Below w1.heap.size w1 wr) (fun _ i _ => xs.length - (intOf i).toNat)
  case atStart => exact ⟨0, Nat.zero_le _, rfl, o2, b2⟩
  case round =>
    obtain ⟨k, hk, rfl, hown, hbel⟩ := hrel
    have yr := y1.next hbel
    have f1 := yr.cell0
    have f2 := yr.cell1
    by_cases hlt : k < xs.length
    · obtain ⟨b, o, rfl, hcc⟩ := (hc.later (Below.next B1 hbel)) (by omega)
      have hck := hcc k hlt
      have hxb := HB.out k hlt
      obtain ⟨i, hi⟩ : ∃ i : Nat, xs.getD k 0 = (i : Int) := ⟨(xs.getD k 0).toNat, by omega⟩
      have hmlt : i % m < m := Nat.mod_lt _ (by omega)
      have hcur := own_get hown (k := i % m) (by rw [cntK_len]; exact hmlt)
      have hfz := own_froz hown (i % m)
      have hbd := cntK_bd m xs k (i % m) hmlt
      have hst := own_len (own_set hown (i % m) ((cntK m xs k).getD (i % m) 0 + 1)) (cntK_succ m xs k (i % m) hlt (by rw [hi]; rfl) hmlt)
      obtain ⟨u, hu⟩ : ∃ u, u = (cntK m xs k).getD (i % m) 0 := ⟨_, rfl⟩
      rw [← hu] at hcur hst hbd
      rw [hi] at hck hxb
      have HS := hid hst
      have htm : Int.tmod (i : Int) (m : Int) = ((i % m : Nat) : Int) := by rfl
      clear hcc hst hu hown hi
      go_wp2_with fail
      go_roundw
      case rel => exact ⟨k + 1, by omega, by go_num, HS.out, hbel.setCell (Nat.le_refl _) _⟩
      case measure => simp [intOf]; omega
    · have hkl : k = xs.length := by omega
      subst hkl
      have HO := hid hown; clear hown
      go_wp2_with fail
      go_ret2
      exact ⟨_, _, rfl, (own_len HO.out (cntK_all m xs)).more z1, Below.next B1 hbel⟩

end Go.Proofs.Ytmjncedijddmmaa
/-
  Plain facts on residues of contents, and how many cells have each.
-/
namespace Go.Proofs.Ytmjncedijddmmaa
open Go.RowKit

theorem tmod_resid {x t : Int} (ht : 2 ≤ t ∧ t ≤ 6) : -t < Int.tmod x t ∧ Int.tmod x t < t ∧ Int.tmod (Int.tmod x t + t) t = x % t := by
  by_cases h : 0 ≤ x
  · rw [Int.tmod_eq_emod_of_nonneg h]
    have h1 := Int.emod_nonneg x (show t ≠ 0 by omega)
    have h2 := Int.emod_lt_of_pos x (show 0 < t by omega)
    refine ⟨by omega, h2, ?_⟩
    rw [Int.tmod_eq_emod_of_nonneg (by omega), Int.add_emod_right, Int.emod_emod]
  · have e : Int.tmod x t = -((-x) % t) := by
      rw [← Int.tmod_eq_emod_of_nonneg (show 0 ≤ -x by omega), Int.neg_tmod, Int.neg_neg]
    have h1 := Int.emod_nonneg (-x) (show t ≠ 0 by omega)
    have h2 := Int.emod_lt_of_pos (-x) (show 0 < t by omega)
    rw [e]
    refine ⟨by omega, by omega, ?_⟩
    rw [Int.tmod_eq_emod_of_nonneg (by omega), Int.add_emod_right]
    have : t = 2 ∨ t = 3 ∨ t = 4 ∨ t = 5 ∨ t = 6 := by omega
    rcases this with rfl | rfl | rfl | rfl | rfl <;> omega
theorem cntL_len (t : Nat) (L : List Int) : (cntL t L).length = t := fnRow_len _ _
theorem cntL_nil (t : Nat) : cntL t [] = fnRow t (fun _ => 0) := rowF_ext _ _ _ fun j _ => by simp [cnt]
theorem cnt_snoc (t : Nat) (L : List Int) (x : Int) (m : Nat) (hm : x % (t : Int) = (m : Int)) (j : Nat) : cnt t (L ++ [x]) j = if j = m then cnt t L j + 1 else cnt t L j := by
  unfold cnt
  rw [List.filter_append, List.length_append]
  by_cases h : j = m
  · subst h
    rw [if_pos rfl]
    simp only [List.filter_cons, List.filter_nil, hm, decide_true, if_true, List.length_singleton]
    omega
  · rw [if_neg h]
    have : ¬ x % (t : Int) = (j : Int) := by rw [hm]; omega
    simp only [List.filter_cons, List.filter_nil, this, decide_false, Bool.false_eq_true, if_false, List.length_nil]
    omega
theorem cntL_snoc (t : Nat) (L : List Int) (x : Int) (m : Nat) (hm : x % (t : Int) = (m : Int)) (hmt : m < t) : (cntL t L).set m ((cntL t L).getD m 0 + 1) = cntL t (L ++ [x]) := by
  unfold cntL
  rw [fnRow_get _ _ _ hmt, fnRow_set]
  refine rowF_ext _ _ _ fun j _ => ?_
  rw [cnt_snoc t L x m hm]
  by_cases h : j = m
  · subst h; simp
  · simp [h]
theorem cnt_bd (t : Nat) (L : List Int) (j : Nat) : 0 ≤ cnt t L j ∧ cnt t L j ≤ L.length := by
  unfold cnt
  have := List.length_filter_le (fun x => decide (x % (t : Int) = (j : Int))) L
  omega
/-- The contents, cell by cell. -/
def contL (xs : List Int) (k : Nat) : List Int := (rowsF xs contN k).flatten
theorem contL_succ (xs : List Int) (k : Nat) : contL xs (k + 1) = contL xs k ++ rowF contN k (xs.getD k 0).toNat := by
  unfold contL; rw [rowsF_succ, List.flatten_append]; simp
theorem contL_len {xs : List Int} (G : Good xs) (k : Nat) (hk : k ≤ xs.length) : (contL xs k).length ≤ 900 := by
  have := tot_rowsF xs contN G.le k hk
  have := G.len
  unfold contL; rw [flat_len]; omega
theorem rowF_mem {f : Nat → Nat → Int} {r n : Nat} {x : Int} (h : x ∈ rowF f r n) : ∃ c, c < n ∧ x = f r c := by
  unfold rowF at h
  obtain ⟨c, hc, rfl⟩ := List.mem_map.1 h
  exact ⟨c, List.mem_range.1 hc, rfl⟩
theorem contL_bd {xs : List Int} (G : Good xs) : ∀ (k : Nat), k ≤ xs.length → ∀ x, x ∈ contL xs k → -30 ≤ x ∧ x ≤ 30
  | 0, _, x, hx => absurd hx (by simp [contL, rowsF])
  | k + 1, hk, x, hx => by
    rw [contL_succ, List.mem_append] at hx
    rcases hx with hx | hx
    · exact contL_bd G k (by omega) x hx
    · obtain ⟨c, hc, rfl⟩ := rowF_mem hx
      have := G.le k (by omega)
      have := G.len
      unfold contN
      omega
theorem getD_mem' {L : List Int} {k : Nat} (h : k < L.length) : L.getD k 0 ∈ L := by
  rw [List.getD_eq_getElem?_getD, List.getElem?_eq_getElem h]; exact List.getElem_mem h
def resB (xs : List Int) (t : Int) : Bool := good xs && inB 2 6 t
def resF (xs : List Int) (t : Int) : List Int := if resB xs t then cntL t.toNat (contL xs xs.length) else []
theorem resF_f {xs : List Int} {t : Int} (h : resB xs t = false) : resF xs t = [] := by simp [resF, h]
theorem resF_t {xs : List Int} {t : Nat} (h : resB xs t = true) : resF xs t = cntL t (contL xs xs.length) := by simp [resF, h]
theorem bound_ResidueCounts (xs : List Int) (t : Int) : (resF xs t).length ≤ 1048576 := by
  unfold resF; split
  · rename_i h
    simp only [resB, Bool.and_eq_true] at h
    have := inB_iff.1 h.2
    rw [cntL_len]; omega
  · simp
end Go.Proofs.Ytmjncedijddmmaa
/-
  Contracts: CoreOfLevels of the model.
-/
namespace Go.Proofs.Ytmjncedijddmmaa
open Go.RowKit

theorem bpk_snoc (L : List Int) (y : Int) : ∀ k, k ≤ L.length → bpk (L ++ [y]) (k + 1) = (if (L.length : Int) < y then [y - L.length] else []) ++ bpk L k
  | 0, _ => by
    have hi : L.length = (L ++ [y]).length - 1 - 0 := by simp
    have hx : y = (L ++ [y]).getD L.length 0 := by simp [List.getD]
    by_cases c : (L.length : Int) < y
    · rw [bpk_yes hi hx c, if_pos c]; simp [bpk]
    · rw [bpk_no hi hx c, if_neg c]; simp [bpk]
  | k + 1, h => by
    have ih := bpk_snoc L y k (by omega)
    have hi : L.length - 1 - k = (L ++ [y]).length - 1 - (k + 1) := by simp; omega
    have hx : L.getD (L.length - 1 - k) 0 = (L ++ [y]).getD (L.length - 1 - k) 0 := by
      rw [List.getD_eq_getElem?_getD, List.getD_eq_getElem?_getD, List.getElem?_append_left (by omega)]
    by_cases c : ((L.length - 1 - k : Nat) : Int) < L.getD (L.length - 1 - k) 0
    · rw [bpk_yes hi hx c, ih, bpk_yes rfl rfl c, List.append_assoc]
    · rw [bpk_no hi hx c, ih, bpk_no rfl rfl c]
theorem parts_snoc (L : List Int) (y : Int) : partsL (L ++ [y]) = (if (L.length : Int) < y then [y - L.length] else []) ++ partsL L := by
  unfold partsL
  rw [List.length_append, List.length_singleton, bpk_snoc L y _ (Nat.le_refl _)]
/-- Whether the number m, counted from the least one, is a bead. -/
def hB (xs : List Int) (m : Nat) : Bool := decide (((m / xs.length : Nat) : Int) < 11 + xs.getD (m % xs.length) 0)
def kP (xs : List Int) : Nat → List Int
  | 0 => []
  | m + 1 => kP xs m ++ if hB xs m then [(m : Int)] else []
theorem own_drewN' {w : World} {B c : Nat} {A : Option Addr} {xs : List Int} (h : Own w B A c xs) (n : Nat) : Own (w.drewN n) B A c xs := h
def oL (xs : List Int) (m : Nat) : List Int := partsL (kP xs m)
def frN (xs : List Int) (m : Nat) : Nat := m - (kP xs m).length
theorem kP_len (xs : List Int) : ∀ m, (kP xs m).length ≤ m
  | 0 => Nat.le_refl 0
  | m + 1 => by have := kP_len xs m; rw [kP]; split <;> simp <;> omega
theorem mem_kP {xs : List Int} {x : Int} : ∀ m : Nat, x ∈ kP xs m ↔ 0 ≤ x ∧ x < m ∧ hB xs x.toNat = true
  | 0 => by simp [kP]; omega
  | m + 1 => by
    rw [kP, List.mem_append, mem_kP m]
    by_cases h : hB xs m = true
    · rw [if_pos h, List.mem_singleton]
      constructor
      · rintro (⟨a, b, c⟩ | rfl)
        · exact ⟨a, by omega, c⟩
        · exact ⟨by omega, by omega, by rw [Int.toNat_natCast]; exact h⟩
      · rintro ⟨a, b, c⟩
        by_cases e : x = m
        · exact .inr e
        · exact .inl ⟨a, by omega, c⟩
    · rw [if_neg h]
      constructor
      · rintro (⟨a, b, c⟩ | hh)
        · exact ⟨a, by omega, c⟩
        · cases hh
      · rintro ⟨a, b, c⟩
        by_cases e : x = m
        · subst e; rw [Int.toNat_natCast] at c; exact absurd c h
        · exact .inl ⟨a, by omega, c⟩
theorem kP_pw (xs : List Int) : ∀ m, (kP xs m).Pairwise (· < ·)
  | 0 => List.Pairwise.nil
  | m + 1 => by
    rw [kP, List.pairwise_append]
    refine ⟨kP_pw xs m, by split <;> simp, fun a ha b hb => ?_⟩
    have := ((mem_kP m).1 ha).2.1
    split at hb
    · rw [List.mem_singleton] at hb; omega
    · cases hb
theorem kP_all {xs : List Int} (L : Lev xs) : kP xs (22 * xs.length) = kL 11 xs := by
  have h2 := L.lo
  refine pw_ext (kP_pw _ _) (kL_pw _ _) fun x => ?_
  rw [mem_kP, mem_kL (by omega)]
  constructor
  · rintro ⟨h1, _, h3⟩
    obtain ⟨m, rfl⟩ : ∃ m : Nat, x = m := ⟨x.toNat, by omega⟩
    rw [Int.toNat_natCast] at h3
    refine ⟨h1, ?_⟩
    have := of_decide_eq_true h3
    rw [← Int.natCast_ediv, ← Int.natCast_emod, Int.toNat_natCast]
    exact this
  · rintro ⟨h1, h3⟩
    obtain ⟨m, rfl⟩ : ∃ m : Nat, x = m := ⟨x.toNat, by omega⟩
    rw [← Int.natCast_ediv, ← Int.natCast_emod, Int.toNat_natCast] at h3
    refine ⟨h1, ?_, ?_⟩
    · have hb := L.bd (m % xs.length) (Nat.mod_lt _ (by omega))
      have hd : m / xs.length < 22 := by omega
      rw [Nat.div_lt_iff_lt_mul (by omega)] at hd
      omega
    · rw [Int.toNat_natCast]; exact decide_eq_true h3
theorem o_yes {xs : List Int} {m : Nat} (h : hB xs m = true) (hf : 0 < frN xs m) : oL xs (m + 1) = (frN xs m : Int) :: oL xs m := by
  have := kP_len xs m
  unfold frN at hf
  unfold oL frN
  rw [kP, if_pos h, parts_snoc, if_pos (by omega), show (m : Int) - ((kP xs m).length : Int) = ((m - (kP xs m).length : Nat) : Int) by omega]; rfl
theorem o_zero {xs : List Int} {m : Nat} (h : hB xs m = true) (hf : frN xs m = 0) : oL xs (m + 1) = oL xs m := by
  unfold frN at hf
  unfold oL
  rw [kP, if_pos h, parts_snoc, if_neg (by omega)]; rfl
theorem o_no {xs : List Int} {m : Nat} (h : hB xs m = false) : oL xs (m + 1) = oL xs m := by
  unfold oL
  rw [kP, h]; simp
theorem f_yes {xs : List Int} {m : Nat} (h : hB xs m = true) : frN xs (m + 1) = frN xs m := by
  unfold frN
  rw [kP, if_pos h]; simp
theorem f_no {xs : List Int} {m : Nat} (h : hB xs m = false) : frN xs (m + 1) = frN xs m + 1 := by
  have := kP_len xs m
  unfold frN
  rw [kP, h]; simp; omega
theorem o_len (xs : List Int) (m : Nat) : (oL xs m).length ≤ m := Nat.le_trans (pk_len _ _) (kP_len xs m)

/-- The numbers of a round: the runner and the row. -/
theorem round_nums {t m : Nat} (ht : 2 ≤ t ∧ t ≤ 6) {x : Int} (hx : x = (m : Int) - 11 * t) :
    x % (t : Int) = (m % t : Nat) ∧ Int.tdiv (x - (m % t : Nat)) (t : Int) = (m / t : Nat) - 11 := by
  have h1 := Nat.div_add_mod m t
  have h2 : (m : Int) = (t : Int) * ((m / t : Nat) : Int) + ((m % t : Nat) : Int) := by rw [← Int.natCast_mul, ← Int.natCast_add]; omega
  constructor
  · have := Int.add_mul_emod_self_right (a := (m : Int)) (b := -11) (c := (t : Int))
    rw [hx, show (m : Int) - 11 * t = m + -11 * t by omega, this]; rfl
  · have e : x - (m % t : Nat) = (t : Int) * (((m / t : Nat) : Int) - 11) := by
      rw [hx, Int.mul_sub]; omega
    rw [e, Int.mul_tdiv_cancel_left _ (by omega)]

theorem bound_CoreOfLevels (xs : List Int) : (clF xs).length ≤ 1048576 := by
  unfold clF; split
  · rename_i h
    simp only [clOk, Bool.and_eq_true, decide_eq_true_eq] at h
    have L := levB_iff.1 h.1
    have h2 := L.lo
    have h6 := L.hi
    have := kL_len (q := 11) L fun i hi => by have := L.bd i hi; omega
    have := pk_len (kL 11 xs) (kL 11 xs).length
    unfold partsL
    omega
  · simp
end Go.Proofs.Ytmjncedijddmmaa
