/-
  Several texts in one.
-/
import Derived.Test.YtiebnnchaopbkaaCB
import Derived.Test.YtiebnnchaopbkaaR32
import Derived.Test.YtiebnnchaopbkaaCA
import Derived.Deep.QuietTactic
import Derived.BigQuiet
import Derived.Test.YtiebnnchaopbkaaCC
import Derived.Test.YtiebnnchaopbkaaR14
/-
  The laws' own helpers: qSame, qSameRows, qSum (XEsr with other names).
-/
namespace Go.Proofs.Ytiebnnchaopbkaa
open Go.RowKit

set_option maxHeartbeats 1000000 in
theorem qSame_d (A B : Option Addr) (c d : Nat) (xs ys : List Int) (w : World) (hl : xs.length ≤ 1048576) (_ : ys.length ≤ 1048576) (hA : Cells w A xs) (hB : Cells w B ys) :
    Calls Try.prog 12 #[.slice A xs.length c, .slice B ys.length d] w fun e w' => e = .returned (.bool (decide (xs = ys))) ∧ ∃ n, w' = w.drewN n := by
  by_cases hlen : xs.length = ys.length
  · have HL := hid hlen
    rw [← hlen]
    clear hlen
    go_enter Try.func12, Try.ntmps12
    go_wp2_with fail
    go_loopw [13] (fun i wr => ∃ k : Nat, k ≤ xs.length ∧ i = .int .i64 k ∧ Hid (∀ j, j < k → xs.getD j 0 = ys.getD j 0) ∧ ∃ n, wr = w.drewN n) (fun i _ => xs.length - (intOf i).toNat)
    case atStart => exact ⟨0, Nat.zero_le _, rfl, hid fun j hj => absurd hj (Nat.not_lt_zero _), 0, rfl⟩
    case round =>
      obtain ⟨k, hk, rfl, HE, n, rfl⟩ := hrel
      by_cases hlt : k < xs.length
      · obtain ⟨b, o, rfl, hcc⟩ := hA (by omega)
        obtain ⟨b2, o2, rfl, hcc2⟩ := hB (by rw [← HL.out]; omega)
        have hck := hcc k hlt
        have hck2 := hcc2 k (by rw [← HL.out]; exact hlt)
        clear hcc hcc2
        obtain ⟨x, hx⟩ : ∃ x, x = xs.getD k 0 := ⟨_, rfl⟩
        obtain ⟨y, hy⟩ : ∃ y, y = ys.getD k 0 := ⟨_, rfl⟩
        rw [← hx] at hck
        rw [← hy] at hck2
        have HX := hid hx; have HY := hid hy
        clear hx hy
        by_cases he : x = y
        · subst he
          go_wp2_with fail
          go_quiet (fail)
          go_wp2_with fail
          go_roundw
          case rel => exact ⟨k + 1, by omega, by go_num, hid fun j hj => by
            rcases Nat.lt_or_ge j k with h | h
            · exact HE.out j h
            · rw [show j = k by omega, ← HX.out, ← HY.out], _, rfl⟩
          case measure => simp [intOf]; omega
        · have heb : (x != y) = true := by simpa using he
          have heb2 : (x == y) = false := by simpa using he
          have HN := hid he
          clear he
          go_wp2_with fail
          go_quiet (fail)
          go_wp2_with fail
          go_ret
          exact ⟨ret_bool (decide_eq_false fun e => HN.out (by rw [HX.out, HY.out, e])).symm, _, World.drewN_drewN ..⟩
      · go_wp2_with fail
        go_ret
        refine ⟨ret_bool (decide_eq_true ?_).symm, n, rfl⟩
        exact rows_ext HL.out fun j hj => HE.out j (by omega)
  · have h1 : ¬ (xs.length : Int) = (ys.length : Int) := by omega
    have heb : ((xs.length : Int) != (ys.length : Int)) = true := by simpa using h1
    have heb2 : ((xs.length : Int) == (ys.length : Int)) = false := by simpa using h1
    have HN := hid hlen
    clear hlen h1
    go_enter Try.func12, Try.ntmps12
    go_wp2_with fail
    go_ret
    exact ⟨ret_bool (decide_eq_false fun e => HN.out (by rw [e])).symm, 0, rfl⟩
set_option maxRecDepth 100000 in
set_option maxHeartbeats 1000000 in
theorem qRows_e (A B : Option Addr) (c d : Nat) (L : List (List Int)) (w : World) (hL : L.length ≤ 10000) (hrow : ∀ k, k < L.length → (L.getD k []).length ≤ 1048576) (hA : Cells2 w A L) (hB : Cells2 w B L) :
    Calls Try.prog 9 #[.slice A L.length c, .slice B L.length d] w fun e w' => e = .returned (.bool true) ∧ ∃ n, w' = w.drewN n := by
  obtain ⟨P, C, h1, h2⟩ := hA
  obtain ⟨P', C', h1', h2'⟩ := hB
  have H1 := hid h1
  have H2 := hid h2
  have H1' := hid h1'
  have H2' := hid h2'
  have HROW := hid hrow
  clear h1 h2 h1' h2' hrow
  go_enter Try.func9, Try.ntmps9
  go_wp2_with fail
  go_loopw [13] (fun i wr => ∃ k : Nat, k ≤ L.length ∧ i = .int .i64 k ∧ ∃ n, wr = w.drewN n) (fun i _ => L.length - (intOf i).toNat)
  case atStart => exact ⟨0, Nat.zero_le _, rfl, 0, rfl⟩
  case round =>
    obtain ⟨k, hk, rfl, n, hwn⟩ := hrel
    by_cases hlt : k < L.length
    · obtain ⟨b, o, rfl, hcc⟩ := H1.out (by omega)
      obtain ⟨b', o', rfl, hcc'⟩ := H1'.out (by omega)
      have hsame : ∀ p, wr.cell? p = w.cell? p := fun p => by rw [hwn]; rfl
      have hck := (hsame ⟨b, o + k, none⟩).trans (hcc k hlt)
      have hck' := (hsame ⟨b', o' + k, none⟩).trans (hcc' k hlt)
      have hx1 : Cells wr (P k) (L.getD k []) := by rw [hwn]; exact H2.out k hlt
      have hx2 : Cells wr (P' k) (L.getD k []) := by rw [hwn]; exact H2'.out k hlt
      have HQ := hid fun W (hx : Cells W (P k) (L.getD k [])) (hy : Cells W (P' k) (L.getD k [])) => qSame_d (P k) (P' k) (C k) (C' k) (L.getD k []) (L.getD k []) W (HROW.out k hlt) (HROW.out k hlt) hx hy
      rw [decide_eq_true rfl] at HQ
      obtain ⟨r, hr⟩ : ∃ r, r = L.getD k [] := ⟨_, rfl⟩
      rw [← hr] at hck hck' HQ hx1 hx2
      have HWN := hid hwn
      clear hcc hcc' hr hwn hsame
      go_wp2_with fail
      go_quiet ((go_at_call 12; exact Calls.quiet_of (HQ.out _ hx1 hx2)))
      go_wp2_with fail
      go_roundw
      case rel => exact ⟨k + 1, by omega, by go_num, by rw [HWN.out]; exact drew2 _ _⟩
      case measure => simp [intOf]; omega
    · have HWN := hid hwn
      clear hwn
      go_wp2_with fail
      go_ret
      exact ⟨rfl, _, HWN.out⟩
set_option maxHeartbeats 400000 in
theorem qSum_e (A : Option Addr) (xs : List Int) (c : Nat) (w : World) (hl : xs.length ≤ 30) (hb : ∀ j, j < xs.length → 0 ≤ xs.getD j 0 ∧ xs.getD j 0 ≤ 10000) (hc : Cells w A xs) :
    Calls Try.prog 16 #[.slice A xs.length c] w fun e w' => e = .returned (.int .i64 xs.sum) ∧ w = w' := by
  have HB := hid hb; clear hb
  go_enter Try.func16, Try.ntmps16
  go_wp2
  go_loop [3, 8] (fun s i => ∃ k : Nat, k ≤ xs.length ∧ i = .int .i64 k ∧ s = .int .i64 (xs.take k).sum) (fun _ i => xs.length - (intOf i).toNat)
  case atStart => exact ⟨0, Nat.zero_le _, rfl, by simp⟩
  case round =>
    obtain ⟨k, hk, rfl, rfl⟩ := hrel
    have hsb := sum_take_bound xs 10000 HB.out (by omega) k
    obtain ⟨s, hs⟩ : ∃ s, s = (xs.take k).sum := ⟨_, rfl⟩
    rw [← hs] at hsb ⊢
    have HS := hid hs; clear hs
    by_cases hlt : k < xs.length
    · obtain ⟨b, o, rfl, hcc⟩ := hc (by omega)
      have hck := hcc k hlt
      have hxb := HB.out k hlt
      clear hcc hc
      obtain ⟨x, hx⟩ : ∃ x, x = xs.getD k 0 := ⟨_, rfl⟩
      rw [← hx] at hck hxb
      have HX := hid hx; clear hx
      go_wp2
      go_round
      case rel => exact ⟨k + 1, by omega, by go_num, by rw [sum_take_succ xs k hlt, ← HS.out, ← HX.out]⟩
      case measure => simp [intOf]; omega
    · go_wp2
      go_ret
      exact ⟨ret_int (by rw [HS.out, List.take_of_length_le (by omega)]), rfl⟩
end Go.Proofs.Ytiebnnchaopbkaa
/-
  Contracts: equal rows, and a core, as the laws ask for them.
-/
namespace Go.Proofs.Ytiebnnchaopbkaa
open Go.RowKit

theorem qSame_lac (A B : Option Addr) (c d : Nat) (xs : List Int) (w : World) (hl : xs.length ≤ 1048576) (hA : Cells w A xs) (hB : Cells w B xs) :
    Calls Try.prog 12 #[.slice A xs.length c, .slice B xs.length d] w fun e w' => e = .returned (.bool true) ∧ Below w.heap.size w w' :=
  (qSame_d A B c d xs xs w hl hl hA hB).mono (by rintro e w' ⟨rfl, n, rfl⟩; exact ⟨by rw [decide_eq_true rfl], below_drew' _ _⟩)
set_option maxRecDepth 100000 in
theorem qCore_t (A : Option Addr) (c : Nat) (xs : List Int) (t : Int) (w : World) (hl : xs.length ≤ 1048576) (hc : Cells w A xs) (h64 : I64 t) (h : isCoreF xs t = true) :
    Calls Try.prog 15 #[.slice A xs.length c, .int .i64 t] w fun e w' => e = .returned (.bool true) ∧ Below w.heap.size w w' := by
  have HH := hid (impl_IsCore A c xs t w hl hc h64)
  have hcr : crB xs t = true := by unfold isCoreF at h; rw [Bool.and_eq_true] at h; exact h.1
  rw [h, hcr] at HH
  clear h hcr
  go_enter Try.func15, Try.ntmps15
  go_wp2_with fail
  refine (HH.out).mono ?_
  rintro e w1 ⟨rfl, b1⟩
  go_wp2_with fail
  go_ret
  exact ⟨rfl, b1⟩
end Go.Proofs.Ytiebnnchaopbkaa
/-
  Signatures: marks of rows, what is left of them. No program in this text.
-/
namespace Go.Proofs.Ytiebnnchaopbkaa

/-- One more mark behind those that are left. -/
def redS (st : List (Nat × Nat)) (m : Nat × Nat) : List (Nat × Nat) :=
  if m.1 = 82 ∧ 0 < st.length ∧ (st.getD (st.length - 1) (0, 0)).1 = 65 then st.take (st.length - 1) else st ++ [m]
def red (M : List (Nat × Nat)) : List (Nat × Nat) := M.foldl redS []
theorem red_nil : red [] = [] := rfl
theorem take_snoc_get {α : Type} (M : List α) (d : α) (k : Nat) (h : k < M.length) : M.take (k + 1) = M.take k ++ [M.getD k d] := by
  rw [List.take_succ_eq_append_getElem h, List.getD_eq_getElem?_getD, List.getElem?_eq_getElem h]; rfl
theorem red_take (M : List (Nat × Nat)) (k : Nat) (h : k < M.length) : red (M.take (k + 1)) = redS (red (M.take k)) (M.getD k (0, 0)) := by
  rw [take_snoc_get M (0, 0) k h]
  simp only [red, List.foldl_append, List.foldl_cons, List.foldl_nil]
theorem redS_len (st : List (Nat × Nat)) (m : Nat × Nat) : (redS st m).length ≤ st.length + 1 := by
  unfold redS; split
  · rw [List.length_take]; omega
  · simp
theorem red_snoc (M : List (Nat × Nat)) (m : Nat × Nat) : red (M ++ [m]) = redS (red M) m := by
  simp only [red, List.foldl_append, List.foldl_cons, List.foldl_nil]
theorem snoc_ind {α : Type} {P : List α → Prop} (h0 : P []) (h1 : ∀ l a, P l → P (l ++ [a])) (l : List α) : P l := by
  have : ∀ n (l : List α), l.length = n → P l := by
    intro n
    induction n with
    | zero => intro l h; rw [List.eq_nil_of_length_eq_zero h]; exact h0
    | succ n ih =>
      intro l h
      have hne : l ≠ [] := by intro e; subst e; simp at h
      rw [← List.dropLast_concat_getLast hne]
      exact h1 _ _ (ih _ (by rw [List.length_dropLast]; omega))
  exact this _ l rfl
theorem red_len (M : List (Nat × Nat)) : (red M).length ≤ M.length := by
  induction M using snoc_ind with
  | h0 => simp [red]
  | h1 l a ih => rw [red_snoc]; have := redS_len (red l) a; simp; omega
theorem red_mem (M : List (Nat × Nat)) : ∀ m, m ∈ red M → m ∈ M := by
  induction M using snoc_ind with
  | h0 => intro m h; simp [red] at h
  | h1 l a ih =>
    intro m h
    rw [red_snoc] at h
    unfold redS at h
    split at h
    · exact List.mem_append_left _ (ih m (List.mem_of_mem_take h))
    · rcases List.mem_append.1 h with h | h
      · exact List.mem_append_left _ (ih m h)
      · exact List.mem_append_right _ h
/-- Only the letters decide what is left. -/
theorem redS_map (f : Nat → Nat) (st : List (Nat × Nat)) (m : Nat × Nat) : redS (st.map fun q => (q.1, f q.2)) (m.1, f m.2) = (redS st m).map fun q => (q.1, f q.2) := by
  have e : ∀ k, k < st.length → ((st.map fun q => (q.1, f q.2)).getD k (0, 0)).1 = (st.getD k (0, 0)).1 := by
    intro k hk
    simp [List.getD, hk]
  unfold redS
  rw [List.length_map]
  by_cases h0 : 0 < st.length
  · rw [e _ (by omega)]
    split
    · rw [List.map_take]
    · simp
  · rw [if_neg (fun h => h0 h.2.1), if_neg (fun h => h0 h.2.1)]; simp
theorem red_map (f : Nat → Nat) (M : List (Nat × Nat)) : red (M.map fun q => (q.1, f q.2)) = (red M).map fun q => (q.1, f q.2) := by
  induction M using snoc_ind with
  | h0 => rfl
  | h1 l a ih => rw [List.map_append, List.map_cons, List.map_nil, red_snoc, ih, redS_map, red_snoc]

/-! The letter of a row. -/
def sgB (xs : List Int) (t : Nat) (i : Int) (r : Nat) : Nat :=
  if addB xs r = true ∧ (xs.getD r 0 - r) % (t : Int) = i then 65
  else if (r < xs.length ∧ corB xs r = true) ∧ (xs.getD r 0 - 1 - r) % (t : Int) = i then 82 else 0
def sgM (xs : List Int) (t : Nat) (i : Int) : Nat → List (Nat × Nat)
  | 0 => []
  | k + 1 => if sgB xs t i k = 0 then sgM xs t i k else sgM xs t i k ++ [(sgB xs t i k, k)]
def sig (xs : List Int) (t : Nat) (i : Int) : List (Nat × Nat) := sgM xs t i (xs.length + 1)
theorem sgM_no {xs : List Int} {t : Nat} {i : Int} {k : Nat} (h : sgB xs t i k = 0) : sgM xs t i (k + 1) = sgM xs t i k := if_pos h
theorem sgM_yes {xs : List Int} {t : Nat} {i : Int} {k : Nat} (h : sgB xs t i k ≠ 0) : sgM xs t i (k + 1) = sgM xs t i k ++ [(sgB xs t i k, k)] := if_neg h
theorem sgM_len (xs : List Int) (t : Nat) (i : Int) (k : Nat) : (sgM xs t i k).length ≤ k := by
  induction k with
  | zero => simp [sgM]
  | succ k ih =>
    by_cases h : sgB xs t i k = 0
    · rw [sgM_no h]; omega
    · rw [sgM_yes h]; simp; omega
theorem sgB_cases (xs : List Int) (t : Nat) (i : Int) (r : Nat) : sgB xs t i r = 65 ∨ sgB xs t i r = 82 ∨ sgB xs t i r = 0 := by
  unfold sgB; split
  · exact .inl rfl
  · split
    · exact .inr (.inl rfl)
    · exact .inr (.inr rfl)
theorem sgM_mem {xs : List Int} {t : Nat} {i : Int} : ∀ {k : Nat} {m : Nat × Nat}, m ∈ sgM xs t i k → m.2 < k ∧ m.1 = sgB xs t i m.2 ∧ m.1 ≠ 0
  | 0, m, h => by simp [sgM] at h
  | k + 1, m, h => by
    by_cases hs : sgB xs t i k = 0
    · rw [sgM_no hs] at h
      obtain ⟨a, b, c⟩ := sgM_mem h
      exact ⟨by omega, b, c⟩
    · rw [sgM_yes hs] at h
      rcases List.mem_append.1 h with h | h
      · obtain ⟨a, b, c⟩ := sgM_mem h
        exact ⟨by omega, b, c⟩
      · simp at h; subst h; exact ⟨by simp, rfl, hs⟩
theorem add_cor {xs : List Int} {t : Nat} {i : Int} {r : Nat} (ht : 2 ≤ t) (h : (xs.getD r 0 - r) % (t : Int) = i) : (xs.getD r 0 - 1 - r) % (t : Int) ≠ i := by
  intro h2
  have e1 := Int.mul_ediv_add_emod (xs.getD r 0 - r) t
  have e2 := Int.mul_ediv_add_emod (xs.getD r 0 - 1 - r) t
  obtain ⟨a, ha⟩ : ∃ a, a = (xs.getD r 0 - r) / (t : Int) := ⟨_, rfl⟩
  obtain ⟨b, hb⟩ : ∃ b, b = (xs.getD r 0 - 1 - r) / (t : Int) := ⟨_, rfl⟩
  rw [h, ← ha] at e1
  rw [h2, ← hb] at e2
  have e3 : (t : Int) * (a - b) = 1 := by rw [Int.mul_sub]; omega
  have := Int.le_of_dvd (by omega) ⟨a - b, e3.symm⟩
  omega
theorem Good.part {xs : List Int} (G : Good xs) (k : Nat) : 0 ≤ xs.getD k 0 ∧ xs.getD k 0 ≤ 30 := by
  by_cases h : k < xs.length
  · have := G.pos k h; have := G.le k h; omega
  · rw [List.getD_eq_getElem?_getD, List.getElem?_eq_none (by omega)]; simp
theorem getD_beyond {xs : List Int} {k : Nat} (h : xs.length ≤ k) : xs.getD k 0 = 0 := by
  rw [List.getD_eq_getElem?_getD, List.getElem?_eq_none h]; rfl
theorem add_iff {xs : List Int} (G : Good xs) {r : Nat} : addB xs r = true ↔ r = 0 ∨ xs.getD r 0 < xs.getD (r - 1) 0 := by
  unfold addB
  simp only [Bool.or_eq_true, decide_eq_true_eq]
  constructor
  · rintro (h | h | h)
    · exact .inl h
    · by_cases h0 : r = 0
      · exact .inl h0
      · rw [h, getD_beyond (Nat.le_refl _)]
        have := G.pos (xs.length - 1) (by omega)
        exact .inr (by omega)
    · exact .inr h
  · rintro (h | h)
    · exact .inl h
    · exact .inr (.inr h)
theorem cor_iff {xs : List Int} (G : Good xs) {r : Nat} : (r < xs.length ∧ corB xs r = true) ↔ xs.getD (r + 1) 0 < xs.getD r 0 := by
  unfold corB
  simp only [Bool.or_eq_true, decide_eq_true_eq]
  constructor
  · rintro ⟨h1, h | h⟩
    · rw [getD_beyond (show xs.length ≤ r + 1 by omega)]
      have := G.pos r h1
      omega
    · exact h
  · intro h
    refine ⟨?_, .inr h⟩
    apply Classical.byContradiction
    intro h1
    rw [getD_beyond (show xs.length ≤ r by omega), getD_beyond (show xs.length ≤ r + 1 by omega)] at h
    omega
theorem sgB_eq {xs : List Int} (G : Good xs) {t : Nat} {i : Int} {r : Nat} :
    sgB xs t i r = if (r = 0 ∨ xs.getD r 0 < xs.getD (r - 1) 0) ∧ (xs.getD r 0 - r) % (t : Int) = i then 65
      else if xs.getD (r + 1) 0 < xs.getD r 0 ∧ (xs.getD r 0 - 1 - r) % (t : Int) = i then 82 else 0 := by
  unfold sgB
  simp only [add_iff G, cor_iff G]

/-! The letters and the rows of marks; the letters of a text with their indices. -/
def rws (M : List (Nat × Nat)) : List Int := M.map fun q => (q.2 : Int)
def ltrs (M : List (Nat × Nat)) : List UInt8 := M.map fun q => UInt8.ofNat q.1
def idx (l : List UInt8) : List (Nat × Nat) := (List.range l.length).map fun k => ((l.getD k 0).toNat, k)
theorem rws_len (M : List (Nat × Nat)) : (rws M).length = M.length := by simp [rws]
theorem ltrs_len (M : List (Nat × Nat)) : (ltrs M).length = M.length := by simp [ltrs]
theorem idx_len (l : List UInt8) : (idx l).length = l.length := by simp [idx]
theorem rws_get (M : List (Nat × Nat)) (k : Nat) (h : k < M.length) : (rws M).getD k 0 = ((M.getD k (0, 0)).2 : Int) := by simp [rws, List.getD, h]
theorem idx_get (l : List UInt8) (k : Nat) (h : k < l.length) : (idx l).getD k (0, 0) = ((l.getD k 0).toNat, k) := by simp [idx, List.getD, h]
theorem idx_mem {l : List UInt8} {m : Nat × Nat} (h : m ∈ idx l) : m.2 < l.length ∧ m.1 = (l.getD m.2 0).toNat := by
  simp only [idx, List.mem_map, List.mem_range] at h
  obtain ⟨k, hk, rfl⟩ := h
  exact ⟨hk, rfl⟩
theorem rws_take (M : List (Nat × Nat)) (k : Nat) : rws (M.take k) = (rws M).take k := by simp [rws, List.map_take]
theorem rws_snoc (M : List (Nat × Nat)) (m : Nat × Nat) : rws (M ++ [m]) = rws M ++ [(m.2 : Int)] := by simp [rws]
theorem ltrs_snoc (M : List (Nat × Nat)) (m : Nat × Nat) : ltrs (M ++ [m]) = ltrs M ++ [UInt8.ofNat m.1] := by simp [ltrs]
theorem memD_ar {α : Type} {M : List α} {d : α} {k : Nat} (h : k < M.length) : M.getD k d ∈ M := by
  rw [List.getD_eq_getElem?_getD, List.getElem?_eq_getElem h]; exact List.getElem_mem h
/-- The text's letters, with their rows again. -/
theorem idx_rows (M : List (Nat × Nat)) (hM : ∀ m ∈ M, m.1 < 256) : (idx (ltrs M)).map (fun q => (q.1, ((rws M).getD q.2 0).toNat)) = M := by
  apply List.ext_getElem?
  intro k
  by_cases h : k < M.length
  · have h1 := hM M[k] (List.getElem_mem h)
    simp [idx, ltrs, rws, List.getD, h, Nat.mod_eq_of_lt h1]
  · rw [List.getElem?_eq_none (by simp [idx_len, ltrs_len]; omega), List.getElem?_eq_none (by omega)]
theorem red_rows (M : List (Nat × Nat)) (hM : ∀ m ∈ M, m.1 < 256) : (red (idx (ltrs M))).map (fun q => (q.1, ((rws M).getD q.2 0).toNat)) = red M := by
  have h := red_map (fun k => ((rws M).getD k 0).toNat) (idx (ltrs M))
  rw [← h, idx_rows M hM]
theorem sig_lt {xs : List Int} {t : Nat} {i : Int} : ∀ m ∈ sig xs t i, m.1 < 256 := by
  intro m h
  obtain ⟨_, b, _⟩ := sgM_mem h
  rcases sgB_cases xs t i m.2 with e | e | e <;> omega
theorem sig_len {xs : List Int} (t : Nat) (i : Int) : (sig xs t i).length ≤ xs.length + 1 := sgM_len _ _ _ _
theorem sig_mem {xs : List Int} {t : Nat} {i : Int} {m : Nat × Nat} (h : m ∈ sig xs t i) : m.2 ≤ xs.length ∧ (m.1 = 65 ∨ m.1 = 82) ∧ m.1 = sgB xs t i m.2 := by
  obtain ⟨a, b, c⟩ := sgM_mem h
  refine ⟨by omega, ?_, b⟩
  rcases sgB_cases xs t i m.2 with e | e | e
  · exact .inl (by omega)
  · exact .inr (by omega)
  · omega

/-! The rows of a letter; the first A, the last R. -/
def fl (L : List (Nat × Nat)) (l : Nat) : List Nat := (L.filter fun q => q.1 == l).map Prod.snd
def upR (L : List (Nat × Nat)) : Option Nat := (fl L 65).head?
def dnRr (L : List (Nat × Nat)) : Option Nat := (fl L 82).getLast?
theorem fl_app (L K : List (Nat × Nat)) (l : Nat) : fl (L ++ K) l = fl L l ++ fl K l := by simp [fl]
theorem fl_none {L : List (Nat × Nat)} {l : Nat} (h : ∀ k, k < L.length → (L.getD k (0, 0)).1 ≠ l) : fl L l = [] := by
  unfold fl
  rw [List.map_eq_nil_iff, List.filter_eq_nil_iff]
  intro q hq
  obtain ⟨k, hk, rfl⟩ := List.getElem_of_mem hq
  have := h k hk
  rw [List.getD_eq_getElem?_getD, List.getElem?_eq_getElem hk] at this
  simpa using this
theorem fl_split {L : List (Nat × Nat)} {l k : Nat} (hk : k < L.length) (h : (L.getD k (0, 0)).1 = l) : fl L l = fl (L.take k) l ++ (L.getD k (0, 0)).2 :: fl (L.drop (k + 1)) l := by
  have e : L = L.take k ++ (L.getD k (0, 0) :: L.drop (k + 1)) := by
    conv => lhs; rw [← List.take_append_drop k L]
    rw [List.drop_eq_getElem_cons hk, List.getD_eq_getElem?_getD, List.getElem?_eq_getElem hk]; rfl
  conv => lhs; rw [e]
  rw [fl_app]
  congr 1
  simp only [fl]
  rw [List.filter_cons_of_pos (by simpa using h)]; rfl
theorem upR_hit {L : List (Nat × Nat)} {k : Nat} (hk : k < L.length) (h : (L.getD k (0, 0)).1 = 65) (hb : ∀ j, j < k → (L.getD j (0, 0)).1 ≠ 65) : upR L = some (L.getD k (0, 0)).2 := by
  unfold upR
  rw [fl_split hk h, fl_none (L := L.take k)]
  · rfl
  · intro j hj
    rw [List.length_take] at hj
    have := hb j (by omega)
    rw [List.getD_eq_getElem?_getD, List.getElem?_take, if_pos (by omega), ← List.getD_eq_getElem?_getD]; exact this
theorem upR_none {L : List (Nat × Nat)} (h : ∀ j, j < L.length → (L.getD j (0, 0)).1 ≠ 65) : upR L = none := by
  unfold upR; rw [fl_none h]; rfl
theorem dnR_hit {L : List (Nat × Nat)} {k : Nat} (hk : k < L.length) (h : (L.getD k (0, 0)).1 = 82) (hb : ∀ j, k < j → j < L.length → (L.getD j (0, 0)).1 ≠ 82) : dnRr L = some (L.getD k (0, 0)).2 := by
  unfold dnRr
  rw [fl_split hk h, fl_none (L := L.drop (k + 1))]
  · simp
  · intro j hj
    rw [List.length_drop] at hj
    have := hb (k + 1 + j) (by omega) (by omega)
    rw [List.getD_eq_getElem?_getD, List.getElem?_drop, ← List.getD_eq_getElem?_getD]; exact this
theorem dnR_none {L : List (Nat × Nat)} (h : ∀ j, j < L.length → (L.getD j (0, 0)).1 ≠ 82) : dnRr L = none := by
  unfold dnRr; rw [fl_none h]; rfl
theorem fl_mem {L : List (Nat × Nat)} {l r : Nat} (h : r ∈ fl L l) : (l, r) ∈ L := by
  simp only [fl, List.mem_map, List.mem_filter, beq_iff_eq] at h
  obtain ⟨q, ⟨h1, h2⟩, rfl⟩ := h
  rw [← h2]; exact h1
theorem upR_mem {L : List (Nat × Nat)} {r : Nat} (h : upR L = some r) : (65, r) ∈ L := fl_mem (List.mem_of_mem_head? h)
theorem dnR_mem {L : List (Nat × Nat)} {r : Nat} (h : dnRr L = some r) : (82, r) ∈ L := fl_mem (List.mem_of_mem_getLast? h)

/-! Partitions behind arrows. -/
def decL (p : List Int) (r : Nat) : List Int := if p.getD r 0 = 1 then p.take r else p.set r (p.getD r 0 - 1)
def auL (xs : List Int) (t : Nat) (i : Int) : List Int := match upR (red (sig xs t i)) with | some r => incL xs r | none => []
def auB (xs : List Int) (t : Nat) (i : Int) : Bool := (upR (red (sig xs t i))).isSome
def adL (xs : List Int) (t : Nat) (i : Int) : List Int := match dnRr (red (sig xs t i)) with | some r => decL xs r | none => []
def adB (xs : List Int) (t : Nat) (i : Int) : Bool := (dnRr (red (sig xs t i))).isSome
theorem au_some {xs : List Int} {t : Nat} {i : Int} {r : Nat} (h : upR (red (sig xs t i)) = some r) : auL xs t i = incL xs r ∧ auB xs t i = true := by simp [auL, auB, h]
theorem au_none {xs : List Int} {t : Nat} {i : Int} (h : upR (red (sig xs t i)) = none) : auL xs t i = [] ∧ auB xs t i = false := by simp [auL, auB, h]
theorem ad_some {xs : List Int} {t : Nat} {i : Int} {r : Nat} (h : dnRr (red (sig xs t i)) = some r) : adL xs t i = decL xs r ∧ adB xs t i = true := by simp [adL, adB, h]
theorem ad_none {xs : List Int} {t : Nat} {i : Int} (h : dnRr (red (sig xs t i)) = none) : adL xs t i = [] ∧ adB xs t i = false := by simp [adL, adB, h]
theorem sg65 {xs : List Int} (G : Good xs) {t : Nat} {i : Int} {r : Nat} (h : sgB xs t i r = 65) : (r = 0 ∨ xs.getD r 0 < xs.getD (r - 1) 0) ∧ (xs.getD r 0 - r) % (t : Int) = i := by
  rw [sgB_eq G] at h
  split at h
  · assumption
  · split at h <;> cases h
theorem sg82 {xs : List Int} (G : Good xs) {t : Nat} {i : Int} {r : Nat} (h : sgB xs t i r = 82) : xs.getD (r + 1) 0 < xs.getD r 0 ∧ (xs.getD r 0 - 1 - r) % (t : Int) = i := by
  rw [sgB_eq G] at h
  split at h
  · cases h
  · split at h
    · assumption
    · cases h
/-- The cell of an R that is left can be taken away. -/
theorem dn_ok {xs : List Int} (G : Good xs) {t : Nat} {i : Int} {r : Nat} (h : dnRr (red (sig xs t i)) = some r) : r < xs.length ∧ xs.getD (r + 1) 0 < xs.getD r 0 ∧ sgB xs t i r = 82 := by
  have hm := sig_mem (red_mem _ _ (dnR_mem h))
  obtain ⟨h1, _⟩ := sg82 G hm.2.2.symm
  refine ⟨?_, h1, hm.2.2.symm⟩
  apply Classical.byContradiction
  intro hh
  rw [getD_beyond (show xs.length ≤ r by omega), getD_beyond (show xs.length ≤ r + 1 by omega)] at h1
  omega
theorem up_ok {xs : List Int} (G : Good xs) {t : Nat} {i : Int} {r : Nat} (h : upR (red (sig xs t i)) = some r) : r ≤ xs.length ∧ (r = 0 ∨ xs.getD r 0 < xs.getD (r - 1) 0) ∧ sgB xs t i r = 65 := by
  have hm := sig_mem (red_mem _ _ (upR_mem h))
  exact ⟨hm.1, (sg65 G hm.2.2.symm).1, hm.2.2.symm⟩

/-! What the calls answer. -/
def asB (xs : List Int) (t i : Int) : Bool := good xs && (inB 2 6 t && inB 0 (t - 1) i)
theorem asB_t {xs : List Int} {t i : Int} (h : asB xs t i = true) : good xs = true ∧ Good xs ∧ (2 ≤ t ∧ t ≤ 6) ∧ (0 ≤ i ∧ i ≤ t - 1) := by
  simp only [asB, Bool.and_eq_true] at h
  exact ⟨h.1, (good_iff xs).1 h.1, inB_iff.1 h.2.1, inB_iff.1 h.2.2⟩
def upF (xs : List Int) (t i : Int) : List Int := if asB xs t i && good (auL xs t.toNat i) then auL xs t.toNat i else []
def upOk (xs : List Int) (t i : Int) : Bool := asB xs t i && (auB xs t.toNat i && good (auL xs t.toNat i))
def dnF (xs : List Int) (t i : Int) : List Int := if asB xs t i then adL xs t.toNat i else []
def dnOk8 (xs : List Int) (t i : Int) : Bool := asB xs t i && adB xs t.toNat i
def ctD (xs : List Int) (t i : Int) : Int := if asB xs t i then (fl (red (sig xs t.toNat i)) 82).length else 0
def ctU (xs : List Int) (t i : Int) : Int := if asB xs t i then (fl (red (sig xs t.toNat i)) 65).length else 0
theorem good_len {xs : List Int} (h : good xs = true) : xs.length ≤ 30 := ((good_iff xs).1 h).len
theorem bound_ArrowUp (xs : List Int) (t i : Int) : (upF xs t i).length ≤ 1048576 := by
  unfold upF; split
  · rename_i h
    simp only [Bool.and_eq_true] at h
    have := good_len h.2; omega
  · simp
theorem dec_len (p : List Int) (r : Nat) : (decL p r).length ≤ p.length := by
  unfold decL; split
  · rw [List.length_take]; omega
  · simp
theorem ad_len (xs : List Int) (t : Nat) (i : Int) : (adL xs t i).length ≤ xs.length := by
  unfold adL; split
  · exact dec_len _ _
  · simp
theorem bound_ArrowDown (xs : List Int) (t i : Int) : (dnF xs t i).length ≤ 1048576 := by
  unfold dnF; split
  · rename_i h
    have := good_len (asB_t h).1
    have := ad_len xs t.toNat i; omega
  · simp
theorem fl_count (L : List (Nat × Nat)) (h : ∀ m ∈ L, m.1 = 65 ∨ m.1 = 82) : (fl L 65).length + (fl L 82).length = L.length := by
  induction L with
  | nil => rfl
  | cons m t ih =>
    have := ih fun q hq => h q (List.mem_cons_of_mem _ hq)
    simp only [fl, List.length_map] at this ⊢
    rcases h m (List.mem_cons_self ..) with e | e
    · rw [List.filter_cons_of_pos (by simp [e]), List.filter_cons_of_neg (by simp [e])]; simp; omega
    · rw [List.filter_cons_of_neg (by simp [e]), List.filter_cons_of_pos (by simp [e])]; simp; omega
theorem fl_take_yes {L : List (Nat × Nat)} {l k : Nat} (hk : k < L.length) (h : (L.getD k (0, 0)).1 = l) : fl (L.take (k + 1)) l = fl (L.take k) l ++ [(L.getD k (0, 0)).2] := by
  rw [take_snoc_get L (0, 0) k hk, fl_app]
  congr 1
  simp only [fl]
  rw [List.filter_cons_of_pos (by simpa using h)]; rfl
theorem fl_take_no {L : List (Nat × Nat)} {l k : Nat} (hk : k < L.length) (h : (L.getD k (0, 0)).1 ≠ l) : fl (L.take (k + 1)) l = fl (L.take k) l := by
  rw [take_snoc_get L (0, 0) k hk, fl_app]
  simp only [fl]
  rw [List.filter_cons_of_neg (by simpa using h)]; simp
theorem fl_le (L : List (Nat × Nat)) (l : Nat) : (fl L l).length ≤ L.length := by
  simp only [fl, List.length_map]; exact List.length_filter_le _ _

theorem dec_last {p : List Int} (G : Good p) {r : Nat} (hr : r < p.length) (hd : p.getD (r + 1) 0 < p.getD r 0) (h : p.getD r 0 = 1) : r + 1 = p.length := by
  apply Classical.byContradiction
  intro hh
  have := G.pos (r + 1) (by omega)
  omega
theorem dec_get {p : List Int} (G : Good p) {r : Nat} (hr : r < p.length) (hd : p.getD (r + 1) 0 < p.getD r 0) (j : Nat) : (decL p r).getD j 0 = p.getD j 0 - (if j = r then 1 else 0) := by
  unfold decL
  split
  · rename_i h
    have hl := dec_last G hr hd h
    rcases Nat.lt_trichotomy j r with e | e | e
    · rw [if_neg (by omega), List.getD_eq_getElem?_getD, List.getElem?_take, if_pos e, ← List.getD_eq_getElem?_getD]; omega
    · subst e
      rw [if_pos rfl, h, getD_beyond (by rw [List.length_take]; omega)]; rfl
    · rw [if_neg (by omega), getD_beyond (by rw [List.length_take]; omega), getD_beyond (by omega)]; rfl
  · by_cases e : j = r
    · subst e; simp [List.getD, hr]
    · rw [if_neg e]; simp [List.getD, Ne.symm e]
theorem dec_sum {p : List Int} (G : Good p) {r : Nat} (hr : r < p.length) (hd : p.getD (r + 1) 0 < p.getD r 0) : (decL p r).sum = p.sum - 1 := by
  unfold decL
  split
  · rename_i h
    have hl := dec_last G hr hd h
    have e := sum_take_succ p r hr
    rw [show r + 1 = p.length from hl, List.take_of_length_le (Nat.le_refl _), h] at e
    omega
  · rw [sum_set p r hr]; omega
theorem dec_good {p : List Int} (G : Good p) {r : Nat} (hr : r < p.length) (hd : p.getD (r + 1) 0 < p.getD r 0) : Good (decL p r) := by
  have hlen := dec_len p r
  have hg := dec_get G hr hd
  have hs := dec_sum G hr hd
  have hlp := len_sum p G.pos
  have hpos : ∀ j, j < (decL p r).length → 1 ≤ (decL p r).getD j 0 := by
    intro j hj
    rw [hg]
    have h1 := G.pos j (by omega)
    split
    · rename_i e
      subst e
      by_cases h : p.getD j 0 = 1
      · unfold decL at hj
        rw [if_pos h, List.length_take] at hj; omega
      · omega
    · omega
  have := G.sum
  refine ⟨by have := G.len; omega, hpos, fun j hj => ?_, fun j hj => ?_, by omega, by omega⟩
  · rw [hg]; have := G.le j (by omega); split <;> omega
  · rw [hg, hg]
    have := G.down j (by omega)
    by_cases e : j = r
    · subst e; rw [if_pos rfl, if_neg (by omega)]; omega
    · rw [if_neg e]; split <;> omega
theorem upR_fl {L : List (Nat × Nat)} {r : Nat} (h : upR L = some r) : 0 < (fl L 65).length ∧ (fl L 65).getD 0 0 = r := by
  unfold upR at h
  cases hf : fl L 65 with
  | nil => rw [hf] at h; cases h
  | cons a t => rw [hf] at h; simp at h; subst h; simp
theorem dnR_fl {L : List (Nat × Nat)} {r : Nat} (h : dnRr L = some r) : 0 < (fl L 82).length ∧ (fl L 82).getD ((fl L 82).length - 1) 0 = r := by
  unfold dnRr at h
  rw [List.getLast?_eq_getElem?] at h
  have hlt := (List.getElem?_eq_some_iff.1 h).1
  exact ⟨by omega, by rw [List.getD_eq_getElem?_getD, h]; rfl⟩
theorem upR_no {L : List (Nat × Nat)} (h : upR L = none) : fl L 65 = [] := by
  unfold upR at h; exact List.head?_eq_none_iff.1 h
theorem dnRr_no {L : List (Nat × Nat)} (h : dnRr L = none) : fl L 82 = [] := by
  unfold dnRr at h; exact List.getLast?_eq_none_iff.1 h
end Go.Proofs.Ytiebnnchaopbkaa
