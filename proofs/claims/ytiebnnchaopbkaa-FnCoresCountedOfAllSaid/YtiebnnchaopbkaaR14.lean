/-
  Several texts in one.
-/
import Derived.Test.YtiebnnchaopbkaaR05
import Derived.Test.YtiebnnchaopbkaaR06
import Derived.Test.YtiebnnchaopbkaaCB
import Derived.Test.YtiebnnchaopbkaaCA
/-
  Contracts: a runner with rows, and FromRunners, of the program.
-/
namespace Go.Proofs.Ytiebnnchaopbkaa
open Go.RowKit

/-- The bits of a row of numbers. -/
def rbK (xs : List Int) (k r : Nat) : Bool := decide ((r : Int) ∈ xs.take k)
def rbF (xs : List Int) : Nat → Bool := fun r => decide ((r : Int) ∈ xs)
theorem rbK_zero (xs : List Int) : rbK xs 0 = fun _ => false := by funext r; simp [rbK]
theorem rbK_all (xs : List Int) : rbK xs xs.length = rbF xs := by funext r; simp [rbK, rbF]
theorem rbK_succ {xs : List Int} {k n : Nat} (hk : k < xs.length) (hn : xs.getD k 0 = n) : updB (rbK xs k) n true = rbK xs (k + 1) := by
  funext r
  unfold updB rbK
  rw [take_snoc xs k hk _ hn]
  by_cases e : r = n
  · subst e; simp
  · rw [if_neg e]
    have : (r : Int) ≠ (n : Int) := by omega
    simp [this]
def rwOk (xs : List Int) : Bool := rises 0 35 xs
def rwB (xs : List Int) : Nat → Bool := if rwOk xs then rbF xs else fun _ => false

set_option maxRecDepth 100000 in
set_option maxHeartbeats 4000000 in
theorem runnerWith_any (A : Option Addr) (c : Nat) (xs : List Int) (w : World) (hl : xs.length ≤ 1048576) (hc : Cells w A xs) :
    Calls Try.prog 56 #[.slice A xs.length c] w fun e w' => e = .returned (.tuple #[rnV (rwB xs), .bool (rwOk xs)]) ∧ Below w.heap.size w w' := by
  have hzr := Try.rnZero
  unfold rnV at hzr ⊢
  obtain ⟨w0, hw0⟩ : ∃ w0, w0 = ((w.alloc (.cells (ca 36 (bitV fun _ => false)) 69)).alloc (.cells (ca 36 (bitV fun _ => false)) 69)) := ⟨_, rfl⟩
  have x1 : Blk w0 w.heap.size 69 36 (bitV fun _ => false) := by rw [hw0]; exact (Blk.new w 69 36 (bitV fun _ => false)).alloc _
  have x2 : Blk w0 (w.heap.size + 1) 69 36 (bitV (rbK xs 0)) := by
    rw [hw0, rbK_zero]
    have h := Blk.new (w.alloc (.cells (ca 36 (bitV fun _ => false)) 69)) 69 36 (bitV fun _ => false)
    rw [World.size_alloc] at h; exact h
  have hb : Below w.heap.size w w0 := by rw [hw0]; exact ((Below.refl _ _).alloc (Nat.le_refl _) _).alloc (by simp) _
  have X1 := hid x1; have X2 := hid x2
  have HW := hid hw0
  obtain ⟨Z, hZ⟩ : ∃ Z, Z = rwB xs := ⟨_, rfl⟩
  obtain ⟨q, hq⟩ : ∃ q, q = rwOk xs := ⟨_, rfl⟩
  have HB := hid (show Z = if q then rbF xs else fun _ => false by rw [hZ, hq]; rfl)
  rw [← hZ, ← hq]
  have HQ := hid hq
  clear hw0 x1 x2 hZ hq
  go_enter Try.func56, Try.ntmps56
  go_wp2_with fail
  rw [← HW.out]
  go_loopw [9] (fun i wr => ∃ k : Nat, k ≤ xs.length ∧ i = .int .i64 k ∧ Hid (∀ j, j < k → okAt 0 35 xs j = true) ∧ Hid (Blk wr w.heap.size 69 36 (bitV fun _ => false)) ∧ Hid (Blk wr (w.heap.size + 1) 69 36 (bitV (rbK xs k))) ∧ Below w.heap.size w wr) (fun i _ => xs.length - (intOf i).toNat)
  case atStart => exact ⟨0, Nat.zero_le _, rfl, hid fun j hj => absurd hj (Nat.not_lt_zero _), X1, X2, hb⟩
  case round =>
    obtain ⟨k, hk, rfl, HD, HR, HL, hbel⟩ := hrel
    clear X1 X2 hb
    by_cases hlt : k < xs.length
    · obtain ⟨b, o, rfl, hcc⟩ := (hc.later hbel) (by omega)
      have hck := hcc k hlt
      have hck1 := hcc (k - 1) (by omega)
      have hek : ((k : Int) - 1).toNat = k - 1 := by omega
      have HO := hid (okAt_iff (lo := 0) (hi := 35) (xs := xs) (j := k))
      have HS := hid (fun n (h : xs.getD k 0 = (n : Nat)) => rbK_succ hlt h)
      clear hcc
      obtain ⟨x, hx⟩ : ∃ x, x = xs.getD k 0 := ⟨_, rfl⟩
      obtain ⟨y, hy⟩ : ∃ y, y = xs.getD (k - 1) 0 := ⟨_, rfl⟩
      rw [← hx] at hck HO HS
      rw [← hy] at hck1 HO
      clear hx hy
      by_cases hok : (0 ≤ x ∧ x ≤ 35) ∧ (k = 0 ∨ y < x)
      · have hyes := HO.out.2 hok
        have HYES := hid hyes; clear hyes
        have HRR := hid (show ∀ j, j < k + 1 → okAt 0 35 xs j = true from fun j hj => by
          by_cases h : j < k
          · exact HD.out j h
          · have : j = k := by omega
            subst this; exact HYES.out)
        obtain ⟨⟨hx0, hx1⟩, hok2⟩ := hok
        obtain ⟨n, rfl⟩ : ∃ n : Nat, x = n := ⟨x.toNat, by omega⟩
        have hn36 : n < 36 := by omega
        have f1 := HL.out.cell (k := n) hn36
        have f2 := HL.out.froz n
        have hst := HL.out.set n (.bool true)
        rw [updV_bit, HS.out n rfl] at hst
        have HST := hid hst
        have HR2 := hid (HR.out.other (g' := w.heap.size + 1) (k := n) (by omega) (.bool true))
        have hb2 : Below w.heap.size w (wr.setCell ⟨w.heap.size + 1, n, none⟩ (.bool true)) := hbel.setCell (by simp) _
        clear hst
        unfold bitV at f1
        by_cases h0 : k = 0
        · subst h0
          rw [Nat.add_zero] at hck
          go_wp2_with fail
          go_roundw
          case rel => exact ⟨1, by omega, by go_num, HRR.out |> hid, HR2, HST, hb2⟩
          case measure => simp [intOf]; omega
        · have h1 : 0 < k := by omega
          have hyx : y < (n : Int) := by omega
          go_wp2_with fail
          go_roundw
          case rel => exact ⟨k + 1, by omega, by go_num, HRR.out |> hid, HR2, HST, hb2⟩
          case measure => simp [intOf]; omega
      · have hno : okAt 0 35 xs k = false := by
          cases h : okAt 0 35 xs k
          · rfl
          · exact absurd (HO.out.1 h) hok
        have hqf : q = false := by rw [HQ.out]; exact rises_no hlt hno
        have hzf : Z = fun _ => false := by rw [HB.out, hqf]; rfl
        subst hqf hzf
        have hth := HR.out.there 0 36 (by omega)
        have hsc := run_storeCells_cells (P := Try.prog) w.heap.size 0 (ca 36 (bitV fun _ => false)).toList 0 wr (fun j hj => by have := (hth j (by rw [show (ca 36 (bitV fun _ => false)).toList = caL 36 (bitV fun _ => false) from rfl, caL_len] at hj; exact hj)).1; simpa using this) (fun j hj => by have := (hth j (by rw [show (ca 36 (bitV fun _ => false)).toList = caL 36 (bitV fun _ => false) from rfl, caL_len] at hj; exact hj)).2; simpa using this) (bit_one 36 _)
        simp only [Nat.add_zero] at hsc
        have z3 : Blk (wr.setCells w.heap.size 0 (ca 36 (bitV fun _ => false)).toList) w.heap.size 69 36 (bitV fun _ => false) := (HR.out.setMid 0 36 (bitV fun _ => false)).to fun j _ => by unfold midV bitV; split <;> rfl
        have hb3 : Below w.heap.size w (wr.setCells w.heap.size 0 (ca 36 (bitV fun _ => false)).toList) := setCells_below _ _ _ _ _ _ hbel (Nat.le_refl _)
        obtain ⟨w4, hw4⟩ : ∃ w4, w4 = wr.setCells w.heap.size 0 (ca 36 (bitV fun _ => false)).toList := ⟨_, rfl⟩
        rw [← hw4] at hsc z3 hb3
        have HSC := hid hsc
        clear hno hth hsc hw4
        by_cases hx0 : x < 0
        · go_wp2_with fail
          rw [HSC.out]
          go_wp2_with fail
          refine bodyPost_ret (results_cell2 rfl _ _ _ w.heap.size 69 _ (0, 0) _ rfl z3 Try.underlying69 rfl (by rw [ca_size]; exact Try.rnSize)) rfl ⟨rfl, hb3⟩
        by_cases hx1 : 35 < x
        · go_wp2_with fail
          rw [HSC.out]
          go_wp2_with fail
          refine bodyPost_ret (results_cell2 rfl _ _ _ w.heap.size 69 _ (0, 0) _ rfl z3 Try.underlying69 rfl (by rw [ca_size]; exact Try.rnSize)) rfl ⟨rfl, hb3⟩
        have h1 : 0 < k := by omega
        have hyx : x ≤ y := by omega
        clear hok
        go_wp2_with fail
        rw [HSC.out]
        go_wp2_with fail
        refine bodyPost_ret (results_cell2 rfl _ _ _ w.heap.size 69 _ (0, 0) _ rfl z3 Try.underlying69 rfl (by rw [ca_size]; exact Try.rnSize)) rfl ⟨rfl, hb3⟩
    · have hkl : k = xs.length := by omega
      subst hkl
      have hqt : q = true := by rw [HQ.out]; exact rises_iff.2 fun j hj => HD.out j hj
      have hzt : Z = rbF xs := by rw [HB.out, hqt]; rfl
      have HL2 := hid (show Blk wr (w.heap.size + 1) 69 36 (bitV (rbF xs)) by rw [← rbK_all]; exact HL.out)
      rw [← hzt] at HL2
      have z3 := setRow_blk HR.out (bitV Z)
      subst hqt
      clear hzt HL
      go_wp2_with (first | (refine wpList_load_row rfl 69 _ rfl (w.heap.size + 1) rfl 69 _ (0, 0) _ HL2.out Try.underlying69 rfl (by rw [ca_size]; exact Try.rnSize) ?_) | (refine wpList_store_row rfl 69 _ _ rfl w.heap.size _ rfl rfl 69 _ HR.out (by rw [ca_size]; exact Try.rnSize) (by rw [ca_size, ca_size]) (ca_one fun _ _ => rfl) ?_))
      refine bodyPost_ret (results_cell2 rfl _ _ _ w.heap.size 69 _ (0, 0) _ rfl z3 Try.underlying69 rfl (by rw [ca_size]; exact Try.rnSize)) rfl ⟨rfl, setRow_below hbel (Nat.le_refl _) _⟩
end Go.Proofs.Ytiebnnchaopbkaa
/-
  Contracts: FromRunners of the program.
-/
namespace Go.Proofs.Ytiebnnchaopbkaa
open Go.RowKit

theorem tot_get_le (rows : List (List Int)) (k : Nat) (hk : k < rows.length) : (rows.getD k []).length ≤ tot rows := by
  have h1 := tot_take_succ rows k hk
  have h2 := tot_take_le rows (k + 1)
  omega
/-- A board with the first k of some rows. -/
def frB (R : Nat → List Int) : Nat → Nat → Bool
  | 0 => fun _ => false
  | k + 1 => setLn (frB R k) k (rbF (R k))
theorem frB_at (R : Nat → List Int) (i r : Nat) (hr : r < 36) : ∀ k, frB R k (36 * i + r) = (decide (i < k) && rbF (R i) r)
  | 0 => by simp [frB]
  | k + 1 => by
    rw [frB]
    unfold setLn
    by_cases e : i = k
    · subst e
      rw [if_pos (at_in i r hr), at_sub]; simp
    · rw [if_neg (at_out k i r hr e), frB_at R i r hr k]
      congr 1
      rw [decide_eq_decide]; omega
def rowsR (rows : List (List Int)) : Nat → List Int := fun i => rows.getD i []
def frL (rows : List (List Int)) : List Int := insF (abfL rows.length (rowsR rows) rows.length)
def frOk (rows : List (List Int)) : Bool := inB 2 6 rows.length && (rows.all rwOk && isAba rows.length (frL rows))
def frT (rows : List (List Int)) : Int := if frOk rows then rows.length else 0
def frF (rows : List (List Int)) : List Int := if frOk rows then frL rows else []
theorem fr_no {rows : List (List Int)} (h : frOk rows = false) : frT rows = 0 ∧ frF rows = [] := by simp [frT, frF, h]
theorem fr_yes {rows : List (List Int)} (h : frOk rows = true) : frT rows = rows.length ∧ frF rows = frL rows := by simp [frT, frF, h]
theorem fr_row_no {rows : List (List Int)} {k : Nat} (hk : k < rows.length) (h : rwOk (rows.getD k []) = false) : frOk rows = false := by
  have : rows.all rwOk = false := by
    rw [List.all_eq_false]
    refine ⟨rows.getD k [], ?_, by rw [h]; simp⟩
    rw [List.getD_eq_getElem?_getD, List.getElem?_eq_getElem hk]; exact List.getElem_mem hk
  simp [frOk, this]
theorem rw_bd {xs : List Int} (h : rwOk xs = true) : ∀ x ∈ xs, 0 ≤ x ∧ x ≤ 35 := fun x hx => by
  obtain ⟨j, hj, rfl⟩ := mem_getD.1 hx
  exact (rises_Rises.1 h).bd j hj
theorem rw_nodup {xs : List Int} (h : rwOk xs = true) : xs.Nodup := pw_nodup (rise_pw (rises_Rises.1 h).up)
theorem fr_nodup {rows : List (List Int)} (h : ∀ i, i < rows.length → rwOk (rowsR rows i) = true) : (abfL rows.length (rowsR rows) rows.length).Nodup :=
  abfL_nodup _ (Nat.le_refl _) fun i hi => rw_nodup (h i hi)
theorem fr_board {rows : List (List Int)} (h0 : 0 < rows.length) (h : ∀ i, i < rows.length → rwOk (rowsR rows i) = true) : abL rows.length (frB (rowsR rows) rows.length) = frL rows := by
  obtain ⟨t, ht⟩ : ∃ t, t = rows.length := ⟨_, rfl⟩
  have hn := fr_nodup h
  have hL : frL rows = insF (abfL rows.length (rowsR rows) rows.length) := rfl
  rw [hL]
  rw [← ht] at h h0 hn ⊢
  obtain ⟨p1, p2, _⟩ := insF_all hn
  refine pw_ext (bdL_pw _ _ _) p1 fun x => ?_
  rw [p2 x, mem_abfL]
  unfold abL
  rw [mem_bdL]
  constructor
  · rintro ⟨n, hn, hf, rfl⟩
    have hd : n / t < 36 := by rw [Nat.div_lt_iff_lt_mul h0]; rw [Nat.mul_comm]; exact hn
    have hm : n % t < t := Nat.mod_lt _ h0
    unfold atQ at hf
    rw [frB_at _ _ _ hd, Bool.and_eq_true] at hf
    refine ⟨n % t, ((n / t : Nat) : Int), hm, of_decide_eq_true hf.2, ?_⟩
    have := Nat.div_add_mod n t
    rw [Nat.mul_comm] at this
    have e2 : ((n / t : Nat) : Int) * (t : Int) + ((n % t : Nat) : Int) = ((n / t * t + n % t : Nat) : Int) := rfl
    rw [e2, this]
  · rintro ⟨i, y, hi, hy, rfl⟩
    have hb := rw_bd (h i hi) y hy
    obtain ⟨m, rfl⟩ : ∃ m : Nat, y = m := ⟨y.toNat, by omega⟩
    have hm : m < 36 := by omega
    have e1 : (m * t + i) / t = m := by rw [Nat.mul_comm, Nat.mul_add_div h0, Nat.div_eq_of_lt hi]; omega
    have e2 : (m * t + i) % t = i := by rw [Nat.mul_comm, Nat.mul_add_mod, Nat.mod_eq_of_lt hi]
    refine ⟨m * t + i, ?_, ?_, rfl⟩
    · have : m * t ≤ 35 * t := Nat.mul_le_mul_right _ (by omega)
      omega
    · unfold atQ
      rw [e1, e2, frB_at _ _ _ hm, Bool.and_eq_true]
      exact ⟨decide_eq_true hi, decide_eq_true hy⟩
theorem fr_ok {rows : List (List Int)} (h0 : inB 2 6 (rows.length : Int) = true) (h : ∀ i, i < rows.length → rwOk (rowsR rows i) = true) : frOk rows = isAba rows.length (frL rows) := by
  have : rows.all rwOk = true := by
    rw [List.all_eq_true]
    intro x hx
    obtain ⟨j, hj, rfl⟩ := List.getElem_of_mem hx
    have := h j hj
    unfold rowsR at this
    rw [List.getD_eq_getElem?_getD, List.getElem?_eq_getElem hj] at this
    exact this
  simp [frOk, h0, this]
theorem bound_FromRunners (rows : List (List Int)) : (frF rows).length ≤ 1048576 := by
  unfold frF; split
  · rename_i h
    simp only [frOk, isAba, Bool.and_eq_true] at h
    have := (goodB_iff.1 h.2.2.2).len
    omega
  · simp

set_option maxRecDepth 100000 in
set_option maxHeartbeats 8000000 in
theorem impl_FromRunners (A : Option Addr) (c : Nat) (rows : List (List Int)) (w : World) (hl : rows.length ≤ 1048576 ∧ tot rows ≤ 1048576) (hc : Cells2 w A rows) :
    Calls Try.prog 39 #[.slice A rows.length c] w fun e w' => ∃ A' c', e = .returned (.tuple #[.agg #[.int .i64 (frT rows), .slice A' (frF rows).length c'], .bool (frOk rows)]) ∧ Own w' w.heap.size A' c' (frF rows) ∧ Below w.heap.size w w' := by
  have hz := Try.bdZero
  have hzr := Try.rnZero
  unfold bdV at hz
  unfold rnV at hzr
  obtain ⟨w0, hw0⟩ : ∃ w0, w0 = w.alloc (.cells #[.int .i64 0, .slice none 0 0] 49) := ⟨_, rfl⟩
  have z0 : Box2 w0 w.heap.size 49 (.int .i64 0) (.slice none 0 0) := by rw [hw0]; exact Box2.new _ _ _ _
  have b0 : Below w.heap.size w w0 := by rw [hw0]; exact (Below.refl _ _).alloc (Nat.le_refl _) _
  have hs0 : w0.heap.size = w.heap.size + 1 := by rw [hw0]; simp
  have HW := hid hw0
  have HZ := hid z0
  clear hw0
  cases hr : inB 2 6 (rows.length : Int)
  · obtain ⟨e1, e2⟩ := fr_no (rows := rows) (by simp [frOk, hr])
    rw [e1, e2, show frOk rows = false by simp [frOk, hr]]
    have HR := hid hr
    have f1 := z0.cell0
    have f2 := z0.froz 0
    have z2 := z0.set0 (.int .i64 0)
    have f3 := z2.cell1
    have f4 := z2.froz 1
    have Z3 := hid (z2.set1 (.slice none 0 0))
    clear hr e1 e2 z0 z2
    go_enter Try.func39, Try.ntmps39
    go_wp2_with fail
    rw [← HW.out]
    refine (hasRunners_b _ _ _ HR.out).mono ?_
    rintro e w' ⟨rfl, rfl⟩
    go_wp2_with fail
    refine bodyPost_ret (results_cell2 rfl _ _ _ w.heap.size 49 #[.int .i64 0, .slice none 0 0] (0, 0) _ rfl Z3.out Try.underlying49 rfl (by kernel_rfl)) rfl ⟨none, 0, rfl, own_nil _ _, (b0.setCell (Nat.le_refl _) _).setCell (Nat.le_refl _) _⟩
  have hin := inB_iff.1 hr
  have ht2 : 2 ≤ rows.length ∧ rows.length ≤ 6 := by omega
  have HFB := hid (fun h => fr_board (rows := rows) (by omega) h)
  have HFO := hid (fun h => fr_ok (rows := rows) hr h)
  have HFN := hid (fun k hk h => fr_row_no (rows := rows) (k := k) hk h)
  have HNO := hid (fun h => fr_no (rows := rows) h)
  have HYES := hid (fun h => fr_yes (rows := rows) h)
  have HR := hid hr
  obtain ⟨rT, hrT⟩ : ∃ rT, rT = frT rows := ⟨_, rfl⟩
  obtain ⟨rX, hrX⟩ : ∃ rX, rX = frF rows := ⟨_, rfl⟩
  obtain ⟨rB, hrB⟩ : ∃ rB, rB = frOk rows := ⟨_, rfl⟩
  rw [← hrT, ← hrX] at HNO HYES
  rw [← hrB] at HFO HFN HNO HYES
  rw [← hrT, ← hrX, ← hrB]
  obtain ⟨Pt, Ct, hA1, hA2⟩ := hc
  have HA1 := hid hA1; have HA2 := hid hA2
  have HTB := hid (fun k (hk : k < rows.length) => (Nat.le_trans (tot_get_le rows k hk) hl.2 : (rows.getD k []).length ≤ 1048576))
  obtain ⟨t, hte⟩ : ∃ t, t = rows.length := ⟨_, rfl⟩
  rw [← hte] at HFB HFO HFN HYES HR HA1 HTB ht2 ⊢
  rw [← hte] at HA2
  have HRD := hid (show ∀ k, rowsR rows k = rows.getD k [] from fun _ => rfl)
  obtain ⟨R, hR⟩ : ∃ R, R = rowsR rows := ⟨_, rfl⟩
  rw [← hR] at HFB HFO HRD
  have hZ : zBrd = ca 217 (brdV 0 fun _ => false) := rfl
  have hZs : zBrd.size = 217 := by rw [hZ, ca_size]
  have hZ1 : zBrd.setIfInBounds 0 (.int .i64 t) = ca 217 (brdV t fun _ => false) := by rw [hZ]; exact brd_first _ _ _
  have HZS := hid hZs; have HZ1 := hid hZ1
  rw [← hZ] at hz
  have X3 := hid (show (w0.alloc (.cells zBrd 72)).heap[w0.heap.size]? = some (.cells zBrd 72 (0, 0)) from heap_alloc_new _ _)
  obtain ⟨w1, hw1⟩ : ∃ w1, w1 = (w0.alloc (.cells zBrd 72)).setRow w0.heap.size (zBrd.setIfInBounds 0 (.int .i64 t)) := ⟨_, rfl⟩
  have b01 : Below w0.heap.size w0 w1 := by rw [hw1]; exact setRow_below ((Below.refl _ _).alloc (Nat.le_refl _) _) (Nat.le_refl _) _
  have B1 : Below w.heap.size w w1 := Below.next b0 b01
  have X4 : Hid (Blk w1 w0.heap.size 72 217 (brdV t (frB R 0))) := hid (by
    have h3 : Blk (w0.alloc (.cells zBrd 72)) w0.heap.size 72 217 (brdV 0 fun _ => false) := by unfold Blk; rw [← hZ]; exact X3.out
    rw [hw1, hZ1]; exact setRow_blk h3 _)
  have HZ1' := hid (HZ.out.next b01)
  have hs1 : w1.heap.size = w0.heap.size + 1 := by rw [hw1]; simp
  have hss : (zBrd.setIfInBounds 0 (.int .i64 t)).size = 217 := by rw [hZ1, ca_size]
  have hone : (zBrd.setIfInBounds 0 (.int .i64 t)).all (·.oneCell') = true := by rw [hZ1]; exact brd_one _ _
  have HSS := hid hss; have HONE := hid hone
  have HW1 := hid hw1
  have HGB := hid (show w.heap.size + 1 = w0.heap.size ∧ w0.heap.size + 1 ≤ w1.heap.size by omega)
  clear hs0 hs1 hr hin hZ hZs hZ1 hw1 hss hone hA1 hA2 z0 hrT hrX hrB hte hR hl b01
  go_enter Try.func39, Try.ntmps39
  go_wp2_with fail
  rw [← HW.out]
  refine (hasRunners_b _ _ _ HR.out).mono ?_
  rintro e w' ⟨rfl, rfl⟩
  go_wp2_with (first | (refine wpList_store_row rfl 72 _ _ rfl w0.heap.size _ rfl rfl 72 zBrd X3.out (by rw [HSS.out]; exact Try.bdSize) (by rw [HZS.out, HSS.out]) HONE.out ?_))
  rw [← HW1.out]
  obtain ⟨g, hg⟩ : ∃ g, g = w0.heap.size := ⟨_, rfl⟩
  rw [← hg] at X4 HGB ⊢
  obtain ⟨hgb, hs1⟩ := HGB.out
  clear X3 hg
  go_loopw [19] (fun i wr => ∃ k : Nat, k ≤ t ∧ i = .int .i64 k ∧ Hid (∀ j, j < k → rwOk (R j) = true) ∧ Hid (Blk wr g 72 217 (brdV t (frB R k))) ∧ Hid (Box2 wr w.heap.size 49 (.int .i64 0) (.slice none 0 0)) ∧ Below w.heap.size w wr ∧ g + 1 ≤ wr.heap.size) (fun i _ => t - (intOf i).toNat)
  case atStart => exact ⟨0, Nat.zero_le _, rfl, hid fun j hj => absurd hj (Nat.not_lt_zero _), X4, HZ1', B1, hs1⟩
  case round =>
    obtain ⟨k, hk, rfl, HOKK, HX, HZr, hbel, hsz⟩ := hrel
    clear X4 HZ1' B1
    by_cases hlt : k < t
    · obtain ⟨b, o, rfl, hcc⟩ := HA1.out (by omega)
      have hck := (hbel.cell (World.block_lt_of_cell? w _ (hcc k hlt))).trans (hcc k hlt)
      have hrow := (HA2.out k hlt).below hbel
      have hlen := HTB.out k hlt
      rw [← HRD.out k] at hck hrow hlen
      have hFN := HFN.out k hlt
      rw [← HRD.out k] at hFN
      have HFNk := hid hFN
      have hsucc : frB R (k + 1) = setLn (frB R k) k (rbF (R k)) := rfl
      have HSU := hid hsucc
      have HRW := hid (runnerWith_any (Pt k) (Ct k) (R k) wr hlen hrow)
      have hi6 : k < 6 := by omega
      obtain ⟨L, hL⟩ : ∃ L, L = R k := ⟨_, rfl⟩
      have HLD := hid hL
      rw [← hL] at hck HRW HSU HFNk hlen
      obtain ⟨n, hn⟩ : ∃ n, n = L.length := ⟨_, rfl⟩
      rw [← hn] at hck HRW
      unfold rnV at HRW
      cases hok : rwOk L
      · have hf := HFNk.out hok
        obtain ⟨e1, e2⟩ := HNO.out hf
        rw [hok] at HRW
        obtain ⟨f, hff⟩ : ∃ f, f = rwB L := ⟨_, rfl⟩
        rw [← hff] at HRW
        clear hff
        have HF := hid hf; have HE1 := hid e1; have HE2 := hid e2
        clear hok hf e1 e2 hFN hrow hcc hsucc hL hn hlen
        go_wp2_with fail
        refine HRW.out.mono ?_
        rintro e w2 ⟨rfl, b2⟩
        have B2 := Below.next hbel b2
        have L0 := hid (Blk.new w2 69 36 (bitV fun _ => false))
        obtain ⟨w3, hw3⟩ : ∃ w3, w3 = (w2.alloc (.cells (ca 36 (bitV fun _ => false)) 69)).setRow w2.heap.size (ca 36 (bitV f)) := ⟨_, rfl⟩
        have b23 : Below w2.heap.size w2 w3 := by rw [hw3]; exact setRow_below ((Below.refl _ _).alloc (Nat.le_refl _) _) (Nat.le_refl _) _
        have B3 := Below.next B2 b23
        have z3 := (HZr.out.next b2).next b23
        have HW3 := hid hw3
        rw [hw3] at z3
        have f1 := z3.cell0
        have f2 := z3.froz 0
        have z4 := z3.set0 (.int .i64 0)
        have f3 := z4.cell1
        have f4 := z4.froz 1
        have Z5 := hid (z4.set1 (.slice none 0 0))
        clear z3 z4 hw3 b23
        go_wp2_with (first | (refine wpList_store_row rfl 69 _ _ rfl w2.heap.size _ rfl rfl 69 _ L0.out (by rw [ca_size]; exact Try.rnSize) (by rw [ca_size, ca_size]) (ca_one fun _ _ => rfl) ?_))
        rw [← HW3.out] at Z5 ⊢
        refine bodyPost_ret (results_cell2 rfl _ _ _ w.heap.size 49 #[.int .i64 0, .slice none 0 0] (0, 0) _ rfl Z5.out Try.underlying49 rfl (by kernel_rfl)) rfl ⟨none, 0, by rw [HE1.out, HE2.out, HF.out]; rfl, by rw [HE2.out]; exact own_nil _ _, (B3.setCell (Nat.le_refl _) _).setCell (Nat.le_refl _) _⟩
      · rw [hok, show rwB L = rbF L by simp [rwB, hok]] at HRW
        have HOK := hid hok
        obtain ⟨f, hf⟩ : ∃ f, f = rbF L := ⟨_, rfl⟩
        rw [← hf] at HRW HSU
        clear hok hFN hrow hcc hsucc hL hn hlen hf
        go_wp2_with fail
        refine HRW.out.mono ?_
        rintro e w2 ⟨rfl, b2⟩
        have B2 := Below.next hbel b2
        have hs2 := b2.size
        have L0 := hid (Blk.new w2 69 36 (bitV fun _ => false))
        obtain ⟨w3, hw3⟩ : ∃ w3, w3 = (w2.alloc (.cells (ca 36 (bitV fun _ => false)) 69)).setRow w2.heap.size (ca 36 (bitV f)) := ⟨_, rfl⟩
        have b23 : Below w2.heap.size w2 w3 := by rw [hw3]; exact setRow_below ((Below.refl _ _).alloc (Nat.le_refl _) _) (Nat.le_refl _) _
        have B3 := Below.next B2 b23
        have z3 := (HZr.out.next b2).next b23
        have x3 := (HX.out.next b2).next b23
        have hs3 : w3.heap.size = w2.heap.size + 1 := by rw [hw3]; simp
        have L3 := hid (show Blk ((w2.alloc (.cells (ca 36 (bitV fun _ => false)) 69)).setRow w2.heap.size (ca 36 (bitV f))) w2.heap.size 69 36 (bitV f) from setRow_blk L0.out _)
        have HW3 := hid hw3
        have hth := x3.there (1 + k * 36) 36 (by omega)
        have hsc := run_storeCells_cells (P := Try.prog) g (1 + k * 36) (ca 36 (bitV f)).toList 0 w3 (fun j hj => by have := (hth j (by rw [show (ca 36 (bitV f)).toList = caL 36 (bitV f) from rfl, caL_len] at hj; exact hj)).1; simpa using this) (fun j hj => by have := (hth j (by rw [show (ca 36 (bitV f)).toList = caL 36 (bitV f) from rfl, caL_len] at hj; exact hj)).2; simpa using this) (bit_one 36 f)
        simp only [Nat.add_zero] at hsc
        obtain ⟨w4, hw4⟩ : ∃ w4, w4 = w3.setCells g (1 + k * 36) (ca 36 (bitV f)).toList := ⟨_, rfl⟩
        rw [← hw4] at hsc
        have hwl : w4 = w3.setCells g (1 + k * 36) (caL 36 (bitV f)) := hw4
        have y1 : Blk w4 g 72 217 (brdV t (frB R (k + 1))) := by
          rw [hwl, HSU.out]; exact (x3.setMid (1 + k * 36) 36 (bitV f)).to fun j _ => setLn_mid t (frB R k) k f j
        have z4 : Box2 w4 w.heap.size 49 (.int .i64 0) (.slice none 0 0) := by rw [hwl]; exact z3.keep (setCells_other g w.heap.size (by omega) _ _ _)
        have B4 : Below w.heap.size w w4 := by rw [hwl]; exact setCells_below _ _ _ _ _ _ B3 (by omega)
        have hs4 : w4.heap.size = w3.heap.size := by rw [hwl, setCells_size]
        have HY1 := hid y1; have HZ4 := hid z4; have HSC := hid hsc
        clear hw3 b23 z3 x3 hth hsc hw4 hwl y1 z4
        go_wp2_with (first | (refine wpList_store_row rfl 69 _ _ rfl w2.heap.size _ rfl rfl 69 _ L0.out (by rw [ca_size]; exact Try.rnSize) (by rw [ca_size, ca_size]) (ca_one fun _ _ => rfl) ?_) | (refine wpList_load_row rfl 69 _ rfl w2.heap.size rfl 69 _ (0, 0) _ L3.out Try.underlying69 rfl (by rw [ca_size]; exact Try.rnSize) ?_))
        rw [← HW3.out]
        rw [HSC.out]
        go_wp2_with fail
        go_roundw
        case rel => exact ⟨k + 1, by omega, by go_num, hid fun j hj => by
          rcases Nat.lt_or_ge j k with h | h
          · exact HOKK.out j h
          · rw [show j = k by omega, ← HLD.out]; exact HOK.out, HY1, HZ4, B4, by omega⟩
        case measure => simp [intOf]; omega
    · have hkt : k = t := by omega
      subst hkt
      have h1 := HFO.out HOKK.out
      have h2 := HFB.out HOKK.out
      have HAB := hid fun W => brdAb_any k (frB R k) W ht2
      have hT : abT k (frB R k) = rT := by
        unfold abT; rw [h2, ← h1]
        cases hb : rB
        · simp [(HNO.out hb).1]
        · simp [(HYES.out hb).1]
      have hX : abX k (frB R k) = rX := by
        unfold abX; rw [h2, ← h1]
        cases hb : rB
        · simp [(HNO.out hb).2]
        · simp [(HYES.out hb).2]
      rw [hT, hX, h2, ← h1] at HAB
      clear h1 h2 hT hX
      obtain ⟨F, hF⟩ : ∃ F, F = frB R k := ⟨_, rfl⟩
      rw [← hF] at HX HAB
      unfold bdV at HAB
      clear hF
      go_wp2_with (refine wpList_load_row rfl 72 _ rfl g rfl 72 _ (0, 0) _ HX.out Try.underlying72 rfl (by rw [ca_size]; exact Try.bdSize) ?_)
      refine (HAB.out _).mono ?_
      rintro e w5 ⟨A6, c6, rfl, o6, b6⟩
      have B5 := Below.next hbel b6
      have z6 := HZr.out.next b6
      have f1 := z6.cell0
      have f2 := z6.froz 0
      have z7 := z6.set0 (.int .i64 rT)
      have f3 := z7.cell1
      have f4 := z7.froz 1
      have Z8 := hid (z7.set1 (.slice A6 rX.length c6))
      have HO7 := hid (own_set_other (g := w.heap.size) (k := 1) (u := .slice A6 rX.length c6) (own_set_other (g := w.heap.size) (k := 0) (u := .int .i64 rT) o6 (by omega)) (by omega))
      clear z6 z7 o6
      go_wp2_with fail
      refine bodyPost_ret (results_cell2 rfl _ _ _ w.heap.size 49 #[.int .i64 rT, .slice A6 rX.length c6] (0, 0) _ rfl Z8.out Try.underlying49 rfl (by kernel_rfl)) rfl ⟨A6, c6, rfl, Own.more HO7.out (by omega), (B5.setCell (Nat.le_refl _) _).setCell (Nat.le_refl _) _⟩
end Go.Proofs.Ytiebnnchaopbkaa
/-
  Plain facts on partitions with a cell more, on chains and on cycles. No program in this text.
-/
namespace Go.Proofs.Ytiebnnchaopbkaa

/-- p with a cell more at the end of the row r, which may be the one behind the last. -/
def incL (p : List Int) (r : Nat) : List Int := if r = p.length then p ++ [1] else p.set r (p.getD r 0 + 1)
theorem inc_len (p : List Int) (r : Nat) : (incL p r).length = if r = p.length then p.length + 1 else p.length := by unfold incL; split <;> simp
theorem inc_get (p : List Int) (r : Nat) (hr : r ≤ p.length) (j : Nat) : (incL p r).getD j 0 = p.getD j 0 + (if j = r then 1 else 0) := by
  unfold incL
  split
  · rename_i h
    subst h
    rcases Nat.lt_trichotomy j p.length with h | h | h
    · rw [if_neg (by omega)]; simp [List.getD, List.getElem?_append_left h]
    · subst h; simp [List.getD]
    · rw [if_neg (by omega)]
      rw [List.getD_eq_getElem?_getD, List.getElem?_eq_none (by simp; omega), List.getD_eq_getElem?_getD, List.getElem?_eq_none (by omega)]; rfl
  · rename_i h
    have hlt : r < p.length := by omega
    by_cases hj : j = r
    · subst hj; simp [List.getD, hlt]
    · rw [if_neg hj]; simp [List.getD, Ne.symm hj]
theorem sum_set (p : List Int) (r : Nat) (h : r < p.length) (x : Int) : (p.set r x).sum = p.sum + x - p.getD r 0 := by
  induction p generalizing r with
  | nil => simp at h
  | cons y t ih =>
    cases r with
    | zero => simp; omega
    | succ r =>
      have := ih r (by simpa using h)
      simp only [List.set_cons_succ, List.sum_cons, List.getD_cons_succ]
      omega
theorem inc_sum (p : List Int) (r : Nat) (hr : r ≤ p.length) : (incL p r).sum = p.sum + 1 := by
  unfold incL
  split
  · simp
  · rw [sum_set p r (by omega)]; omega
/-- What is written: a zero behind p, and one more in the row r; the zero is left out again. -/
theorem inc_more (p : List Int) (r : Nat) (hr : r ≤ p.length) : (incL p r).length ≤ p.length + 1 ∧ ((p ++ [0]).set r ((p ++ [0]).getD r 0 + 1)).take (incL p r).length = incL p r ∧ ((p ++ [0]).set r ((p ++ [0]).getD r 0 + 1)).length = p.length + 1 := by
  refine ⟨by rw [inc_len]; split <;> omega, ?_, by simp⟩
  unfold incL
  split
  · rename_i h
    subst h
    rw [List.take_of_length_le (by simp)]
    simp [List.getD]
  · rename_i h
    have hlt : r < p.length := by omega
    rw [List.set_append_left _ _ hlt, List.take_append_of_le_length (by simp), List.take_of_length_le (by simp)]
    simp [List.getD, List.getElem?_append_left hlt]
theorem len_sum (p : List Int) (h : ∀ j, j < p.length → 1 ≤ p.getD j 0) : (p.length : Int) ≤ p.sum := by
  induction p with
  | nil => simp
  | cons x t ih =>
    have h0 := h 0 (by simp)
    have := ih (fun j hj => by simpa using h (j + 1) (by simp; omega))
    simp only [List.getD_cons_zero] at h0
    simp only [List.length_cons, List.sum_cons]; omega
theorem sum_nn (p : List Int) (h : ∀ j, j < p.length → 0 ≤ p.getD j 0) : 0 ≤ p.sum := by
  induction p with
  | nil => simp
  | cons x t ih =>
    have h0 := h 0 (by simp)
    have := ih (fun j hj => by simpa using h (j + 1) (by simp; omega))
    simp only [List.getD_cons_zero] at h0
    simp only [List.sum_cons]; omega
theorem part_sum (p : List Int) (h : ∀ j, j < p.length → 0 ≤ p.getD j 0) (j : Nat) (hj : j < p.length) : p.getD j 0 ≤ p.sum := by
  induction p generalizing j with
  | nil => simp at hj
  | cons x t ih =>
    have h0 := h 0 (by simp)
    have ht : ∀ j, j < t.length → 0 ≤ t.getD j 0 := fun j hj => by simpa using h (j + 1) (by simp; omega)
    have hs := sum_nn t ht
    simp only [List.getD_cons_zero] at h0
    cases j with
    | zero => simp only [List.getD_cons_zero, List.sum_cons]; omega
    | succ j =>
      have := ih ht j (by simpa using hj)
      simp only [List.getD_cons_succ, List.sum_cons]; omega
theorem Good.len_le {p : List Int} (G : Good p) : (p.length : Int) ≤ p.sum := len_sum p G.pos
theorem getD_past (p : List Int) (j : Nat) (h : p.length ≤ j) : p.getD j 0 = 0 := by rw [List.getD_eq_getElem?_getD, List.getElem?_eq_none h]; rfl
/-- A cell more makes a partition just where a cell can be added. -/
theorem inc_good {p : List Int} (G : Good p) (hs : p.sum ≤ 29) (r : Nat) (hr : r ≤ p.length) : good (incL p r) = addB p r := by
  have hll := G.len_le
  have hpos : ∀ j, j < (incL p r).length → 1 ≤ (incL p r).getD j 0 := by
    intro j hj
    rw [inc_get p r hr]
    rw [inc_len] at hj
    by_cases h : j < p.length
    · have := G.pos j h
      split <;> omega
    · have : j = r := by split at hj <;> omega
      rw [if_pos this, getD_past p j (by omega)]; omega
  have hsum := inc_sum p r hr
  have hlen : (incL p r).length ≤ 30 := by rw [inc_len]; split <;> omega
  have hle : ∀ j, j < (incL p r).length → (incL p r).getD j 0 ≤ 30 := fun j hj => by
    have := part_sum (incL p r) (fun i hi => by have := hpos i hi; omega) j hj
    omega
  cases ha : addB p r
  · cases hg : good (incL p r)
    · rfl
    · exfalso
      have G2 := (good_iff _).1 hg
      simp only [addB, Bool.or_eq_false_iff, decide_eq_false_iff_not] at ha
      have hd := G2.down (r - 1) (by rw [inc_len, if_neg ha.2.1]; omega)
      rw [show r - 1 + 1 = r by omega, inc_get p r hr, inc_get p r hr, if_pos rfl, if_neg (by omega)] at hd
      omega
  · refine (good_iff _).2 ⟨hlen, hpos, hle, fun j hj => ?_, by omega, by omega⟩
    rw [inc_get p r hr, inc_get p r hr]
    rw [inc_len] at hj
    simp only [addB, Bool.or_eq_true, decide_eq_true_eq] at ha
    by_cases h : j + 1 < p.length
    · have hd := G.down j h
      by_cases e : j + 1 = r
      · subst e
        rw [if_pos rfl, if_neg (by omega)]
        rw [show j + 1 - 1 = j by omega] at ha
        omega
      · rw [if_neg e]; split <;> omega
    · have e1 : j + 1 = p.length ∧ r = p.length := by split at hj <;> omega
      rw [getD_past p (j + 1) (by omega), if_pos (by omega), if_neg (by omega)]
      have := G.pos j (by omega)
      omega
theorem inc_Good {p : List Int} (G : Good p) (hs : p.sum ≤ 29) {r : Nat} (hr : r ≤ p.length) (h : addB p r = true) : Good (incL p r) := (good_iff _).1 (by rw [inc_good G hs r hr]; exact h)

/-- A cell can be added at the end of a row. -/
def stepB (p : List Int) (r : Int) : Bool := decide (0 ≤ r) && (decide (r ≤ (p.length : Int)) && addB p r.toNat)
theorem stepB_iff {p : List Int} {r : Int} : stepB p r = true ↔ ∃ k : Nat, r = k ∧ k ≤ p.length ∧ addB p k = true := by
  simp only [stepB, Bool.and_eq_true, decide_eq_true_eq]
  constructor
  · rintro ⟨h1, h2, h3⟩; exact ⟨r.toNat, by omega, by omega, h3⟩
  · rintro ⟨k, rfl, h2, h3⟩; exact ⟨by omega, by omega, by simpa using h3⟩
theorem stepB_nat (p : List Int) (k : Nat) : stepB p k = (decide (k ≤ p.length) && addB p k) := by
  simp [stepB]
theorem mem_add (p : List Int) (r : Int) : decide (r ∈ filt (addB p) (p.length + 1)) = stepB p r := by
  rw [Bool.eq_iff_iff, decide_eq_true_eq, stepB_iff]
  simp only [filt, List.mem_map, List.mem_filter, List.mem_range]
  constructor
  · rintro ⟨k, ⟨h1, h2⟩, rfl⟩; exact ⟨k, rfl, by omega, h2⟩
  · rintro ⟨k, rfl, h1, h2⟩; exact ⟨k, ⟨by omega, h2⟩, rfl⟩

/-- The shape of rows, beginning with p. -/
def shp : List Int → List Int → Option (List Int)
  | p, [] => some p
  | p, r :: t => if stepB p r then shp (incL p r.toNat) t else none
theorem shp_drop (p rows : List Int) (k : Nat) (h : k < rows.length) : shp p (rows.drop k) = if stepB p (rows.getD k 0) then shp (incL p (rows.getD k 0).toNat) (rows.drop (k + 1)) else none := by
  rw [drop_cons rows k h, shp]
def rowsB (rows : List Int) : Bool := decide (rows.length ≤ 12) && rows.all (inB 0 99)
def shpO (rows : List Int) : Option (List Int) := if rows.length ≤ 12 then shp [] rows else none
def shpL (rows : List Int) : List Int := (shpO rows).getD []
def shpB (rows : List Int) : Bool := (shpO rows).isSome
theorem shp_len (p rows q : List Int) (h : shp p rows = some q) : p.length ≤ q.length ∧ q.length ≤ p.length + rows.length := by
  induction rows generalizing p with
  | nil => simp [shp] at h; subst h; simp
  | cons r t ih =>
    rw [shp] at h
    split at h
    · have := ih _ h
      rw [inc_len] at this
      simp only [List.length_cons]
      split at this <;> omega
    · cases h
theorem shp_all (p rows q : List Int) (h : shp p rows = some q) : ∀ r ∈ rows, 0 ≤ r ∧ r ≤ (q.length : Int) := by
  induction rows generalizing p with
  | nil => simp
  | cons r t ih =>
    rw [shp] at h
    split at h
    · rename_i hs
      intro x hx
      rcases List.mem_cons.1 hx with rfl | hx
      · obtain ⟨k, rfl, hk, _⟩ := stepB_iff.1 hs
        have := (shp_len _ _ _ h).1
        rw [inc_len] at this
        split at this <;> omega
      · exact ih _ h x hx
    · cases h
theorem shp_good (p rows q : List Int) (h : shp p rows = some q) (G : Good p) (hs : p.sum + rows.length ≤ 30) : Good q ∧ q.sum = p.sum + rows.length := by
  induction rows generalizing p with
  | nil => simp [shp] at h; subst h; exact ⟨G, by simp⟩
  | cons r t ih =>
    rw [shp] at h
    split at h
    · rename_i hst
      obtain ⟨k, rfl, hk, ha⟩ := stepB_iff.1 hst
      simp only [Int.toNat_natCast] at h
      simp only [List.length_cons] at hs ⊢
      have hsum := inc_sum p k hk
      have := ih _ h (inc_Good G (by omega) hk ha) (by omega)
      exact ⟨this.1, by omega⟩
    · cases h
theorem good_nil : Good [] := ⟨by simp, by simp, by simp, by simp, by simp, by simp⟩
theorem shpO_none {rows : List Int} (h : rowsB rows = false) : shpO rows = none := by
  unfold shpO
  split
  · rename_i hl
    cases hs : shp [] rows with
    | none => rfl
    | some q =>
      have hq := shp_all _ _ _ hs
      have hlen := (shp_len _ _ _ hs).2
      exfalso
      simp only [rowsB, hl, decide_true, Bool.true_and] at h
      rw [List.all_eq_false] at h
      obtain ⟨x, hx, hxx⟩ := h
      have := hq x hx
      simp only [List.length_nil] at hlen
      exact hxx (inB_iff.2 ⟨this.1, by omega⟩)
  · rfl
theorem shpO_eq {rows : List Int} (h : rows.length ≤ 12) : shpO rows = shp [] rows := by simp [shpO, h]
def isChB (rows : List Int) : Bool := rowsB rows && shpB rows
theorem shpL_len (rows : List Int) : (shpL rows).length ≤ 12 := by
  unfold shpL shpO
  split
  · cases hs : shp [] rows with
    | none => simp
    | some q => have := (shp_len _ _ _ hs).2; simp at this ⊢; omega
  · simp
theorem bound_ShapeOf (xs : List Int) : (shpL xs).length ≤ 1048576 := by have := shpL_len xs; omega
end Go.Proofs.Ytiebnnchaopbkaa
