/-
  Several texts in one.
-/
import Derived.Test.YthkkiakfmbnfeaaR18
import Derived.Test.YthkkiakfmbnfeaaCB
import Derived.Test.YthkkiakfmbnfeaaR13
import Derived.Test.YthkkiakfmbnfeaaCA
import Derived.Test.YthkkiakfmbnfeaaR10
import Derived.Test.YthkkiakfmbnfeaaCC
/-
  Contracts: FromRunners of the program.
-/
namespace Go.Proofs.Ythkkiakfmbnfeaa
open Go.RowKit

theorem tot_get_le (rows : List (List Int)) (k : Nat) (hk : k < rows.length) : (rows.getD k []).length ≤ tot rows := by
  have h1 := tot_take_succ rows k hk
  have h2 := tot_take_le rows (k + 1)
  omega
/-- A board with the first k of some rows. -/
def frB (R : Nat → List Int) : Nat → Nat → Bool
  | 0 => fun _ => false
  | k + 1 => setLn (frB R k) k (rbF (R k))
theorem frB_at (R : Nat → List Int) (i r : Nat) (hr : r < 36) : ∀ k, frB R k (36 * i + r) = (decide (i < k) && rbF (R i) r)
  | 0 => by simp [frB]
  | k + 1 => by
    rw [frB]
    unfold setLn
    by_cases e : i = k
    · subst e
      rw [if_pos (at_in i r hr), at_sub]; simp
    · rw [if_neg (at_out k i r hr e), frB_at R i r hr k]
      congr 1
      rw [decide_eq_decide]; omega
def rowsR (rows : List (List Int)) : Nat → List Int := fun i => rows.getD i []
def frL (rows : List (List Int)) : List Int := insF (abfL rows.length (rowsR rows) rows.length)
def frOk (rows : List (List Int)) : Bool := inB 2 6 rows.length && (rows.all rwOk && isAba rows.length (frL rows))
def frT (rows : List (List Int)) : Int := if frOk rows then rows.length else 0
def frF (rows : List (List Int)) : List Int := if frOk rows then frL rows else []
theorem fr_no {rows : List (List Int)} (h : frOk rows = false) : frT rows = 0 ∧ frF rows = [] := by simp [frT, frF, h]
theorem fr_yes {rows : List (List Int)} (h : frOk rows = true) : frT rows = rows.length ∧ frF rows = frL rows := by simp [frT, frF, h]
theorem fr_row_no {rows : List (List Int)} {k : Nat} (hk : k < rows.length) (h : rwOk (rows.getD k []) = false) : frOk rows = false := by
  have : rows.all rwOk = false := by
    rw [List.all_eq_false]
    refine ⟨rows.getD k [], ?_, by rw [h]; simp⟩
    rw [List.getD_eq_getElem?_getD, List.getElem?_eq_getElem hk]; exact List.getElem_mem hk
  simp [frOk, this]
theorem rw_bd {xs : List Int} (h : rwOk xs = true) : ∀ x ∈ xs, 0 ≤ x ∧ x ≤ 35 := fun x hx => by
  obtain ⟨j, hj, rfl⟩ := mem_getD.1 hx
  exact (rises_Rises.1 h).bd j hj
theorem rw_nodup {xs : List Int} (h : rwOk xs = true) : xs.Nodup := pw_nodup (rise_pw (rises_Rises.1 h).up)
theorem fr_nodup {rows : List (List Int)} (h : ∀ i, i < rows.length → rwOk (rowsR rows i) = true) : (abfL rows.length (rowsR rows) rows.length).Nodup :=
  abfL_nodup _ (Nat.le_refl _) fun i hi => rw_nodup (h i hi)
theorem fr_board {rows : List (List Int)} (h0 : 0 < rows.length) (h : ∀ i, i < rows.length → rwOk (rowsR rows i) = true) : abL rows.length (frB (rowsR rows) rows.length) = frL rows := by
  obtain ⟨t, ht⟩ : ∃ t, t = rows.length := ⟨_, rfl⟩
  have hn := fr_nodup h
  have hL : frL rows = insF (abfL rows.length (rowsR rows) rows.length) := rfl
  rw [hL]
  rw [← ht] at h h0 hn ⊢
  obtain ⟨p1, p2, _⟩ := insF_all hn
  refine pw_ext (bdL_pw _ _ _) p1 fun x => ?_
  rw [p2 x, mem_abfL]
  unfold abL
  rw [mem_bdL]
  constructor
  · rintro ⟨n, hn, hf, rfl⟩
    have hd : n / t < 36 := by rw [Nat.div_lt_iff_lt_mul h0]; rw [Nat.mul_comm]; exact hn
    have hm : n % t < t := Nat.mod_lt _ h0
    unfold atQ at hf
    rw [frB_at _ _ _ hd, Bool.and_eq_true] at hf
    refine ⟨n % t, ((n / t : Nat) : Int), hm, of_decide_eq_true hf.2, ?_⟩
    have := Nat.div_add_mod n t
    rw [Nat.mul_comm] at this
    have e2 : ((n / t : Nat) : Int) * (t : Int) + ((n % t : Nat) : Int) = ((n / t * t + n % t : Nat) : Int) := rfl
    rw [e2, this]
  · rintro ⟨i, y, hi, hy, rfl⟩
    have hb := rw_bd (h i hi) y hy
    obtain ⟨m, rfl⟩ : ∃ m : Nat, y = m := ⟨y.toNat, by omega⟩
    have hm : m < 36 := by omega
    have e1 : (m * t + i) / t = m := by rw [Nat.mul_comm, Nat.mul_add_div h0, Nat.div_eq_of_lt hi]; omega
    have e2 : (m * t + i) % t = i := by rw [Nat.mul_comm, Nat.mul_add_mod, Nat.mod_eq_of_lt hi]
    refine ⟨m * t + i, ?_, ?_, rfl⟩
    · have : m * t ≤ 35 * t := Nat.mul_le_mul_right _ (by omega)
      omega
    · unfold atQ
      rw [e1, e2, frB_at _ _ _ hm, Bool.and_eq_true]
      exact ⟨decide_eq_true hi, decide_eq_true hy⟩
theorem fr_ok {rows : List (List Int)} (h0 : inB 2 6 (rows.length : Int) = true) (h : ∀ i, i < rows.length → rwOk (rowsR rows i) = true) : frOk rows = isAba rows.length (frL rows) := by
  have : rows.all rwOk = true := by
    rw [List.all_eq_true]
    intro x hx
    obtain ⟨j, hj, rfl⟩ := List.getElem_of_mem hx
    have := h j hj
    unfold rowsR at this
    rw [List.getD_eq_getElem?_getD, List.getElem?_eq_getElem hj] at this
    exact this
  simp [frOk, h0, this]
theorem bound_FromRunners (rows : List (List Int)) : (frF rows).length ≤ 1048576 := by
  unfold frF; split
  · rename_i h
    simp only [frOk, isAba, Bool.and_eq_true] at h
    have := (goodB_iff.1 h.2.2.2).len
    omega
  · simp

set_option maxRecDepth 100000 in
set_option maxHeartbeats 8000000 in
theorem impl_FromRunners (A : Option Addr) (c : Nat) (rows : List (List Int)) (w : World) (hl : rows.length ≤ 1048576 ∧ tot rows ≤ 1048576) (hc : Cells2 w A rows) :
    Calls Try.prog 40 #[.slice A rows.length c] w fun e w' => ∃ A' c', e = .returned (.tuple #[.agg #[.int .i64 (frT rows), .slice A' (frF rows).length c'], .bool (frOk rows)]) ∧ Own w' w.heap.size A' c' (frF rows) ∧ Below w.heap.size w w' := by
  have hz := Try.bdZero
  have hzr := Try.rnZero
  unfold bdV at hz
  unfold rnV at hzr
  obtain ⟨w0, hw0⟩ : ∃ w0, w0 = w.alloc (.cells #[.int .i64 0, .slice none 0 0] 42) := ⟨_, rfl⟩
  have z0 : Box2 w0 w.heap.size 42 (.int .i64 0) (.slice none 0 0) := by rw [hw0]; exact Box2.new _ _ _ _
  have b0 : Below w.heap.size w w0 := by rw [hw0]; exact (Below.refl _ _).alloc (Nat.le_refl _) _
  have hs0 : w0.heap.size = w.heap.size + 1 := by rw [hw0]; simp
  have HW := hid hw0
  have HZ := hid z0
  clear hw0
  cases hr : inB 2 6 (rows.length : Int)
  · obtain ⟨e1, e2⟩ := fr_no (rows := rows) (by simp [frOk, hr])
    rw [e1, e2, show frOk rows = false by simp [frOk, hr]]
    have HR := hid hr
    have f1 := z0.cell0
    have f2 := z0.froz 0
    have z2 := z0.set0 (.int .i64 0)
    have f3 := z2.cell1
    have f4 := z2.froz 1
    have Z3 := hid (z2.set1 (.slice none 0 0))
    clear hr e1 e2 z0 z2
    go_enter Try.func40, Try.ntmps40
    go_wp2_with fail
    rw [← HW.out]
    refine (hasRunners_b _ _ _ HR.out).mono ?_
    rintro e w' ⟨rfl, rfl⟩
    go_wp2_with fail
    refine bodyPost_ret (results_cell2 rfl _ _ _ w.heap.size 42 #[.int .i64 0, .slice none 0 0] (0, 0) _ rfl Z3.out Try.underlying42 rfl (by kernel_rfl)) rfl ⟨none, 0, rfl, own_nil _ _, (b0.setCell (Nat.le_refl _) _).setCell (Nat.le_refl _) _⟩
  have hin := inB_iff.1 hr
  have ht2 : 2 ≤ rows.length ∧ rows.length ≤ 6 := by omega
  have HFB := hid (fun h => fr_board (rows := rows) (by omega) h)
  have HFO := hid (fun h => fr_ok (rows := rows) hr h)
  have HFN := hid (fun k hk h => fr_row_no (rows := rows) (k := k) hk h)
  have HNO := hid (fun h => fr_no (rows := rows) h)
  have HYES := hid (fun h => fr_yes (rows := rows) h)
  have HR := hid hr
  obtain ⟨rT, hrT⟩ : ∃ rT, rT = frT rows := ⟨_, rfl⟩
  obtain ⟨rX, hrX⟩ : ∃ rX, rX = frF rows := ⟨_, rfl⟩
  obtain ⟨rB, hrB⟩ : ∃ rB, rB = frOk rows := ⟨_, rfl⟩
  rw [← hrT, ← hrX] at HNO HYES
  rw [← hrB] at HFO HFN HNO HYES
  rw [← hrT, ← hrX, ← hrB]
  obtain ⟨Pt, Ct, hA1, hA2⟩ := hc
  have HA1 := hid hA1; have HA2 := hid hA2
  have HTB := hid (fun k (hk : k < rows.length) => (Nat.le_trans (tot_get_le rows k hk) hl.2 : (rows.getD k []).length ≤ 1048576))
  obtain ⟨t, hte⟩ : ∃ t, t = rows.length := ⟨_, rfl⟩
  rw [← hte] at HFB HFO HFN HYES HR HA1 HTB ht2 ⊢
  rw [← hte] at HA2
  have HRD := hid (show ∀ k, rowsR rows k = rows.getD k [] from fun _ => rfl)
  obtain ⟨R, hR⟩ : ∃ R, R = rowsR rows := ⟨_, rfl⟩
  rw [← hR] at HFB HFO HRD
  have hZ : zBrd = ca 217 (brdV 0 fun _ => false) := rfl
  have hZs : zBrd.size = 217 := by rw [hZ, ca_size]
  have hZ1 : zBrd.setIfInBounds 0 (.int .i64 t) = ca 217 (brdV t fun _ => false) := by rw [hZ]; exact brd_first _ _ _
  have HZS := hid hZs; have HZ1 := hid hZ1
  rw [← hZ] at hz
  have X3 := hid (show (w0.alloc (.cells zBrd 73)).heap[w0.heap.size]? = some (.cells zBrd 73 (0, 0)) from heap_alloc_new _ _)
  obtain ⟨w1, hw1⟩ : ∃ w1, w1 = (w0.alloc (.cells zBrd 73)).setRow w0.heap.size (zBrd.setIfInBounds 0 (.int .i64 t)) := ⟨_, rfl⟩
  have b01 : Below w0.heap.size w0 w1 := by rw [hw1]; exact setRow_below ((Below.refl _ _).alloc (Nat.le_refl _) _) (Nat.le_refl _) _
  have B1 : Below w.heap.size w w1 := Below.next b0 b01
  have X4 : Hid (Blk w1 w0.heap.size 73 217 (brdV t (frB R 0))) := hid (by
    have h3 : Blk (w0.alloc (.cells zBrd 73)) w0.heap.size 73 217 (brdV 0 fun _ => false) := by unfold Blk; rw [← hZ]; exact X3.out
    rw [hw1, hZ1]; exact setRow_blk h3 _)
  have HZ1' := hid (HZ.out.next b01)
  have hs1 : w1.heap.size = w0.heap.size + 1 := by rw [hw1]; simp
  have hss : (zBrd.setIfInBounds 0 (.int .i64 t)).size = 217 := by rw [hZ1, ca_size]
  have hone : (zBrd.setIfInBounds 0 (.int .i64 t)).all (·.oneCell') = true := by rw [hZ1]; exact brd_one _ _
  have HSS := hid hss; have HONE := hid hone
  have HW1 := hid hw1
  have HGB := hid (show w.heap.size + 1 = w0.heap.size ∧ w0.heap.size + 1 ≤ w1.heap.size by omega)
  clear hs0 hs1 hr hin hZ hZs hZ1 hw1 hss hone hA1 hA2 z0 hrT hrX hrB hte hR hl b01
  go_enter Try.func40, Try.ntmps40
  go_wp2_with fail
  rw [← HW.out]
  refine (hasRunners_b _ _ _ HR.out).mono ?_
  rintro e w' ⟨rfl, rfl⟩
  go_wp2_with (first | (refine wpList_store_row rfl 73 _ _ rfl w0.heap.size _ rfl rfl 73 zBrd X3.out (by rw [HSS.out]; exact Try.bdSize) (by rw [HZS.out, HSS.out]) HONE.out ?_))
  rw [← HW1.out]
  obtain ⟨g, hg⟩ : ∃ g, g = w0.heap.size := ⟨_, rfl⟩
  rw [← hg] at X4 HGB ⊢
  obtain ⟨hgb, hs1⟩ := HGB.out
  clear X3 hg
  go_loopw [19] (fun i wr => ∃ k : Nat, k ≤ t ∧ i = .int .i64 k ∧ Hid (∀ j, j < k → rwOk (R j) = true) ∧ Hid (Blk wr g 73 217 (brdV t (frB R k))) ∧ Hid (Box2 wr w.heap.size 42 (.int .i64 0) (.slice none 0 0)) ∧ Below w.heap.size w wr ∧ g + 1 ≤ wr.heap.size) (fun i _ => t - (intOf i).toNat)
  case atStart => exact ⟨0, Nat.zero_le _, rfl, hid fun j hj => absurd hj (Nat.not_lt_zero _), X4, HZ1', B1, hs1⟩
  case round =>
    obtain ⟨k, hk, rfl, HOKK, HX, HZr, hbel, hsz⟩ := hrel
    clear X4 HZ1' B1
    by_cases hlt : k < t
    · obtain ⟨b, o, rfl, hcc⟩ := HA1.out (by omega)
      have hck := (hbel.cell (World.block_lt_of_cell? w _ (hcc k hlt))).trans (hcc k hlt)
      have hrow := (HA2.out k hlt).below hbel
      have hlen := HTB.out k hlt
      rw [← HRD.out k] at hck hrow hlen
      have hFN := HFN.out k hlt
      rw [← HRD.out k] at hFN
      have HFNk := hid hFN
      have hsucc : frB R (k + 1) = setLn (frB R k) k (rbF (R k)) := rfl
      have HSU := hid hsucc
      have HRW := hid (runnerWith_any (Pt k) (Ct k) (R k) wr hlen hrow)
      have hi6 : k < 6 := by omega
      obtain ⟨L, hL⟩ : ∃ L, L = R k := ⟨_, rfl⟩
      have HLD := hid hL
      rw [← hL] at hck HRW HSU HFNk hlen
      obtain ⟨n, hn⟩ : ∃ n, n = L.length := ⟨_, rfl⟩
      rw [← hn] at hck HRW
      unfold rnV at HRW
      cases hok : rwOk L
      · have hf := HFNk.out hok
        obtain ⟨e1, e2⟩ := HNO.out hf
        rw [hok] at HRW
        obtain ⟨f, hff⟩ : ∃ f, f = rwB L := ⟨_, rfl⟩
        rw [← hff] at HRW
        clear hff
        have HF := hid hf; have HE1 := hid e1; have HE2 := hid e2
        clear hok hf e1 e2 hFN hrow hcc hsucc hL hn hlen
        go_wp2_with fail
        refine HRW.out.mono ?_
        rintro e w2 ⟨rfl, b2⟩
        have B2 := Below.next hbel b2
        have L0 := hid (Blk.new w2 70 36 (bitV fun _ => false))
        obtain ⟨w3, hw3⟩ : ∃ w3, w3 = (w2.alloc (.cells (ca 36 (bitV fun _ => false)) 70)).setRow w2.heap.size (ca 36 (bitV f)) := ⟨_, rfl⟩
        have b23 : Below w2.heap.size w2 w3 := by rw [hw3]; exact setRow_below ((Below.refl _ _).alloc (Nat.le_refl _) _) (Nat.le_refl _) _
        have B3 := Below.next B2 b23
        have z3 := (HZr.out.next b2).next b23
        have HW3 := hid hw3
        rw [hw3] at z3
        have f1 := z3.cell0
        have f2 := z3.froz 0
        have z4 := z3.set0 (.int .i64 0)
        have f3 := z4.cell1
        have f4 := z4.froz 1
        have Z5 := hid (z4.set1 (.slice none 0 0))
        clear z3 z4 hw3 b23
        go_wp2_with (first | (refine wpList_store_row rfl 70 _ _ rfl w2.heap.size _ rfl rfl 70 _ L0.out (by rw [ca_size]; exact Try.rnSize) (by rw [ca_size, ca_size]) (ca_one fun _ _ => rfl) ?_))
        rw [← HW3.out] at Z5 ⊢
        refine bodyPost_ret (results_cell2 rfl _ _ _ w.heap.size 42 #[.int .i64 0, .slice none 0 0] (0, 0) _ rfl Z5.out Try.underlying42 rfl (by kernel_rfl)) rfl ⟨none, 0, by rw [HE1.out, HE2.out, HF.out]; rfl, by rw [HE2.out]; exact own_nil _ _, (B3.setCell (Nat.le_refl _) _).setCell (Nat.le_refl _) _⟩
      · rw [hok, show rwB L = rbF L by simp [rwB, hok]] at HRW
        have HOK := hid hok
        obtain ⟨f, hf⟩ : ∃ f, f = rbF L := ⟨_, rfl⟩
        rw [← hf] at HRW HSU
        clear hok hFN hrow hcc hsucc hL hn hlen hf
        go_wp2_with fail
        refine HRW.out.mono ?_
        rintro e w2 ⟨rfl, b2⟩
        have B2 := Below.next hbel b2
        have hs2 := b2.size
        have L0 := hid (Blk.new w2 70 36 (bitV fun _ => false))
        obtain ⟨w3, hw3⟩ : ∃ w3, w3 = (w2.alloc (.cells (ca 36 (bitV fun _ => false)) 70)).setRow w2.heap.size (ca 36 (bitV f)) := ⟨_, rfl⟩
        have b23 : Below w2.heap.size w2 w3 := by rw [hw3]; exact setRow_below ((Below.refl _ _).alloc (Nat.le_refl _) _) (Nat.le_refl _) _
        have B3 := Below.next B2 b23
        have z3 := (HZr.out.next b2).next b23
        have x3 := (HX.out.next b2).next b23
        have hs3 : w3.heap.size = w2.heap.size + 1 := by rw [hw3]; simp
        have L3 := hid (show Blk ((w2.alloc (.cells (ca 36 (bitV fun _ => false)) 70)).setRow w2.heap.size (ca 36 (bitV f))) w2.heap.size 70 36 (bitV f) from setRow_blk L0.out _)
        have HW3 := hid hw3
        have hth := x3.there (1 + k * 36) 36 (by omega)
        have hsc := run_storeCells_cells (P := Try.prog) g (1 + k * 36) (ca 36 (bitV f)).toList 0 w3 (fun j hj => by have := (hth j (by rw [show (ca 36 (bitV f)).toList = caL 36 (bitV f) from rfl, caL_len] at hj; exact hj)).1; simpa using this) (fun j hj => by have := (hth j (by rw [show (ca 36 (bitV f)).toList = caL 36 (bitV f) from rfl, caL_len] at hj; exact hj)).2; simpa using this) (bit_one 36 f)
        simp only [Nat.add_zero] at hsc
        obtain ⟨w4, hw4⟩ : ∃ w4, w4 = w3.setCells g (1 + k * 36) (ca 36 (bitV f)).toList := ⟨_, rfl⟩
        rw [← hw4] at hsc
        have hwl : w4 = w3.setCells g (1 + k * 36) (caL 36 (bitV f)) := hw4
        have y1 : Blk w4 g 73 217 (brdV t (frB R (k + 1))) := by
          rw [hwl, HSU.out]; exact (x3.setMid (1 + k * 36) 36 (bitV f)).to fun j _ => setLn_mid t (frB R k) k f j
        have z4 : Box2 w4 w.heap.size 42 (.int .i64 0) (.slice none 0 0) := by rw [hwl]; exact z3.keep (setCells_other g w.heap.size (by omega) _ _ _)
        have B4 : Below w.heap.size w w4 := by rw [hwl]; exact setCells_below _ _ _ _ _ _ B3 (by omega)
        have hs4 : w4.heap.size = w3.heap.size := by rw [hwl, setCells_size]
        have HY1 := hid y1; have HZ4 := hid z4; have HSC := hid hsc
        clear hw3 b23 z3 x3 hth hsc hw4 hwl y1 z4
        go_wp2_with (first | (refine wpList_store_row rfl 70 _ _ rfl w2.heap.size _ rfl rfl 70 _ L0.out (by rw [ca_size]; exact Try.rnSize) (by rw [ca_size, ca_size]) (ca_one fun _ _ => rfl) ?_) | (refine wpList_load_row rfl 70 _ rfl w2.heap.size rfl 70 _ (0, 0) _ L3.out Try.underlying70 rfl (by rw [ca_size]; exact Try.rnSize) ?_))
        rw [← HW3.out]
        rw [HSC.out]
        go_wp2_with fail
        go_roundw
        case rel => exact ⟨k + 1, by omega, by go_num, hid fun j hj => by
          rcases Nat.lt_or_ge j k with h | h
          · exact HOKK.out j h
          · rw [show j = k by omega, ← HLD.out]; exact HOK.out, HY1, HZ4, B4, by omega⟩
        case measure => simp [intOf]; omega
    · have hkt : k = t := by omega
      subst hkt
      have h1 := HFO.out HOKK.out
      have h2 := HFB.out HOKK.out
      have HAB := hid fun W => brdAb_any k (frB R k) W ht2
      have hT : abT k (frB R k) = rT := by
        unfold abT; rw [h2, ← h1]
        cases hb : rB
        · simp [(HNO.out hb).1]
        · simp [(HYES.out hb).1]
      have hX : abX k (frB R k) = rX := by
        unfold abX; rw [h2, ← h1]
        cases hb : rB
        · simp [(HNO.out hb).2]
        · simp [(HYES.out hb).2]
      rw [hT, hX, h2, ← h1] at HAB
      clear h1 h2 hT hX
      obtain ⟨F, hF⟩ : ∃ F, F = frB R k := ⟨_, rfl⟩
      rw [← hF] at HX HAB
      unfold bdV at HAB
      clear hF
      go_wp2_with (refine wpList_load_row rfl 73 _ rfl g rfl 73 _ (0, 0) _ HX.out Try.underlying73 rfl (by rw [ca_size]; exact Try.bdSize) ?_)
      refine (HAB.out _).mono ?_
      rintro e w5 ⟨A6, c6, rfl, o6, b6⟩
      have B5 := Below.next hbel b6
      have z6 := HZr.out.next b6
      have f1 := z6.cell0
      have f2 := z6.froz 0
      have z7 := z6.set0 (.int .i64 rT)
      have f3 := z7.cell1
      have f4 := z7.froz 1
      have Z8 := hid (z7.set1 (.slice A6 rX.length c6))
      have HO7 := hid (own_set_other (g := w.heap.size) (k := 1) (u := .slice A6 rX.length c6) (own_set_other (g := w.heap.size) (k := 0) (u := .int .i64 rT) o6 (by omega)) (by omega))
      clear z6 z7 o6
      go_wp2_with fail
      refine bodyPost_ret (results_cell2 rfl _ _ _ w.heap.size 42 #[.int .i64 rT, .slice A6 rX.length c6] (0, 0) _ rfl Z8.out Try.underlying42 rfl (by kernel_rfl)) rfl ⟨A6, c6, rfl, Own.more HO7.out (by omega), (B5.setCell (Nat.le_refl _) _).setCell (Nat.le_refl _) _⟩
end Go.Proofs.Ythkkiakfmbnfeaa
/-
  Plain facts: the beads of levels, their sum, their partition. No program in this text.
-/
namespace Go.Proofs.Ythkkiakfmbnfeaa
open Go.RowKit

/-- Runner i with its first q and level i rows. -/
def fillR (q : Nat) (xs : List Int) (i : Nat) : List Int := upTo ((q : Int) + xs.getD i 0).toNat
def kL (q : Nat) (xs : List Int) : List Int := insF (abfL xs.length (fillR q xs) xs.length)
theorem kL_nodup (q : Nat) (xs : List Int) : (abfL xs.length (fillR q xs) xs.length).Nodup := abfL_nodup _ (Nat.le_refl _) fun _ _ => pw_nodup (upTo_pw _)
theorem kL_pw (q : Nat) (xs : List Int) : (kL q xs).Pairwise (· < ·) := (insF_all (kL_nodup q xs)).1
theorem mem_kL {q : Nat} {xs : List Int} (ht : 0 < xs.length) {x : Int} : x ∈ kL q xs ↔ 0 ≤ x ∧ x / (xs.length : Int) < q + xs.getD (x % (xs.length : Int)).toNat 0 := by
  obtain ⟨t, hte⟩ : ∃ t, t = xs.length := ⟨_, rfl⟩
  unfold kL
  rw [(insF_all (kL_nodup q xs)).2.1 x, mem_abfL]
  rw [← hte] at ht ⊢
  constructor
  · rintro ⟨i, y, h1, h2, rfl⟩
    unfold fillR at h2
    have h3 := mem_upTo.1 h2
    obtain ⟨e1, e2⟩ := lay_div (y := y) h1
    rw [e1, e2, Int.toNat_natCast]
    refine ⟨?_, by omega⟩
    have := Int.mul_nonneg h3.1 (show (0 : Int) ≤ t by omega)
    omega
  · rintro ⟨h1, h2⟩
    have h4 := Int.emod_nonneg x (show (t : Int) ≠ 0 by omega)
    have h5 := Int.emod_lt_of_pos x (show 0 < (t : Int) by omega)
    have h6 := Int.mul_ediv_add_emod x t
    have h7 := Int.ediv_nonneg h1 (show (0 : Int) ≤ t by omega)
    refine ⟨(x % (t : Int)).toNat, x / (t : Int), by omega, mem_upTo.2 ⟨h7, by omega⟩, ?_⟩
    rw [Int.mul_comm]; omega
theorem parts_shift (L : List Int) : ∀ k, partsL (shiftL L k) = partsL L
  | 0 => by unfold shiftL; simp [upTo, fnRow]
  | k + 1 => by
    have e : shiftL L (k + 1) = shL (shiftL L k) := by
      unfold shiftL shL
      rw [List.map_append, List.map_map]
      have e1 : upTo (k + 1) = 0 :: (upTo k).map fun x => x + 1 := by
        unfold upTo fnRow
        rw [List.range_succ_eq_map, List.map_cons, List.map_map, List.map_map]
        rfl
      rw [e1, List.cons_append]
      congr 2
      exact List.map_congr_left fun x _ => by simp; omega
    rw [e, parts_sh, parts_shift L k]
theorem kL_up {q : Nat} {xs : List Int} (ht : 0 < xs.length) (h : ∀ i, i < xs.length → 0 ≤ (q : Int) + xs.getD i 0) : kL (q + 1) xs = shiftL (kL q xs) xs.length := by
  have hp : (shiftL (kL q xs) xs.length).Pairwise (· < ·) := by
    unfold shiftL
    rw [List.pairwise_append]
    refine ⟨upTo_pw _, ?_, fun a ha b hb => ?_⟩
    · rw [List.pairwise_map]
      refine List.Pairwise.imp ?_ (kL_pw q xs)
      intro a b hab; omega
    · have h1 := mem_upTo.1 ha
      obtain ⟨z, hz, rfl⟩ := List.mem_map.1 hb
      have := ((mem_kL ht).1 hz).1
      omega
  refine pw_ext (kL_pw _ _) hp fun x => ?_
  have hm : x ∈ shiftL (kL q xs) xs.length ↔ (0 ≤ x ∧ x < xs.length) ∨ x - xs.length ∈ kL q xs := by
    unfold shiftL
    rw [List.mem_append, mem_upTo, List.mem_map]
    constructor
    · rintro (h1 | ⟨y, hy, rfl⟩)
      · exact .inl h1
      · exact .inr (by rw [show y + (xs.length : Int) - xs.length = y by omega]; exact hy)
    · rintro (h1 | h1)
      · exact .inl h1
      · exact .inr ⟨_, h1, by omega⟩
  rw [hm, mem_kL ht, mem_kL ht]
  obtain ⟨t, hte⟩ : ∃ t, t = xs.length := ⟨_, rfl⟩
  rw [← hte] at ht h ⊢
  have e1 : (x - (t : Int)) % (t : Int) = x % (t : Int) := by
    have := Int.add_mul_emod_self_right (a := x) (b := -1) (c := (t : Int))
    rw [show x + -1 * (t : Int) = x - t by omega] at this; exact this
  have e2 : (x - (t : Int)) / (t : Int) = x / (t : Int) - 1 := by
    have := Int.add_mul_ediv_right x (-1) (show (t : Int) ≠ 0 by omega)
    rw [show x + -1 * (t : Int) = x - t by omega] at this; omega
  rw [e1, e2]
  have h4 := Int.emod_nonneg x (show (t : Int) ≠ 0 by omega)
  have h5 := Int.emod_lt_of_pos x (show 0 < (t : Int) by omega)
  have h6 := Int.mul_ediv_add_emod x t
  have hq := h (x % (t : Int)).toNat (by omega)
  constructor
  · rintro ⟨h1, h2⟩
    by_cases hx : x < t
    · exact .inl ⟨h1, hx⟩
    · exact .inr ⟨by omega, by omega⟩
  · rintro (⟨h1, h2⟩ | ⟨h1, h2⟩)
    · have : x / (t : Int) = 0 := Int.ediv_eq_zero_of_lt h1 h2
      refine ⟨h1, by rw [this]; omega⟩
    · exact ⟨by omega, by omega⟩
theorem kL_parts {q : Nat} {xs : List Int} (ht : 0 < xs.length) (h : ∀ i, i < xs.length → 0 ≤ (q : Int) + xs.getD i 0) : ∀ d, partsL (kL (q + d) xs) = partsL (kL q xs)
  | 0 => rfl
  | d + 1 => by
    rw [show q + (d + 1) = q + d + 1 by omega, kL_up ht fun i hi => by have := h i hi; omega, parts_shift, kL_parts ht h d]
theorem sq_exp (a b : Int) : (a + b) * (a + b) = a * a + 2 * (a * b) + b * b := by
  rw [Int.add_mul, Int.mul_add, Int.mul_add, Int.mul_comm b a]; omega
theorem tri_sq : ∀ n : Nat, 2 * tri n = (n : Int) * n - n
  | 0 => by simp [tri]
  | n + 1 => by
    have := tri_sq n
    rw [tri, show ((n + 1 : Nat) : Int) = (n : Int) + 1 by omega, sq_exp]; omega
theorem sq_ge (x : Int) : x ≤ x * x ∧ -x ≤ x * x ∧ (6 ≤ x → 6 * x ≤ x * x) ∧ (x ≤ -6 → -(6 * x) ≤ x * x) := by
  have key : ∀ y : Int, 0 ≤ y → y ≤ y * y := fun y hy => by
    rcases Int.lt_or_le 0 y with h | h
    · have := Int.mul_le_mul_of_nonneg_right (show (1 : Int) ≤ y by omega) hy
      omega
    · have : y = 0 := by omega
      subst this; simp
  have hn : (-x) * (-x) = x * x := Int.neg_mul_neg x x
  rcases Int.lt_or_le x 0 with h | h
  · have h1 := key (-x) (by omega)
    rw [hn] at h1
    refine ⟨by omega, by omega, fun h2 => by omega, fun h2 => ?_⟩
    have := Int.mul_le_mul_of_nonneg_right (show (6 : Int) ≤ -x by omega) (show 0 ≤ -x by omega)
    rw [hn] at this; omega
  · have h1 := key x h
    refine ⟨h1, by omega, fun h2 => ?_, fun h2 => by omega⟩
    exact Int.mul_le_mul_of_nonneg_right h2 h
theorem list_of {xs : List Int} {t : Nat} (h : xs.length = t) : xs = (List.range t).map fun i => xs.getD i 0 := by
  apply List.ext_getElem
  · simp [h]
  · intro j h1 h2
    simp [List.getD, h1]
theorem sum_of (xs : List Int) : ∀ k, k ≤ xs.length → (xs.take k).sum = sumN (fun i => xs.getD i 0) k
  | 0, _ => by simp [sumN]
  | k + 1, h => by rw [take_snoc xs k (by omega) _ rfl, List.sum_append, sum_of xs k (by omega), sumN]; simp
theorem sq_sumN (xs : List Int) : ∀ n, sqSum xs n = sumN (fun i => xs.getD i 0 * xs.getD i 0) n
  | 0 => rfl
  | n + 1 => by rw [sqSum, sumN, sq_sumN xs n]
theorem ix_sumN (xs : List Int) : ∀ n, ixSum xs n = sumN (fun i => (i : Int) * xs.getD i 0) n
  | 0 => rfl
  | n + 1 => by rw [ixSum, sumN, ix_sumN xs n]
theorem lev_sumN {xs : List Int} (L : Lev xs) : sumN (fun i => xs.getD i 0) xs.length = 0 := by
  have hs := sum_of xs xs.length (Nat.le_refl _)
  rw [List.take_of_length_le (Nat.le_refl _), L.sum] at hs
  exact hs.symm
theorem sumN_pos {f : Nat → Int} : ∀ n, (∀ i, i < n → 0 ≤ f i) → 0 ≤ sumN f n
  | 0, _ => Int.le_refl 0
  | n + 1, h => by rw [sumN]; have := sumN_pos n fun i hi => h i (by omega); have := h n (by omega); omega
theorem sumN_one_le {f : Nat → Int} : ∀ n, (∀ i, i < n → 0 ≤ f i) → ∀ i, i < n → f i ≤ sumN f n
  | n + 1, h, i, hi => by
    rw [sumN]
    have h1 := h n (by omega)
    by_cases e : i = n
    · subst e; have := sumN_pos i fun j hj => h j (by omega); omega
    · have := sumN_one_le n (fun j hj => h j (by omega)) i (by omega); omega
/-- Twice the share of a level in the size. -/
def shr (t i : Nat) (x : Int) : Int := t * (x * x) + (2 * (i : Int) - t + 1) * x
theorem shr_ge {t i : Nat} (ht : 2 ≤ t ∧ t ≤ 6) (hi : i < t) (x : Int) : 0 ≤ shr t i x ∧ (6 ≤ x ∨ x ≤ -6 → 61 ≤ shr t i x) := by
  obtain ⟨g1, g2, g3, g4⟩ := sq_ge x
  have ht6 : t = 2 ∨ t = 3 ∨ t = 4 ∨ t = 5 ∨ t = 6 := by omega
  have hi6 : i = 0 ∨ i = 1 ∨ i = 2 ∨ i = 3 ∨ i = 4 ∨ i = 5 := by omega
  unfold shr
  generalize x * x = y at *
  rcases ht6 with rfl | rfl | rfl | rfl | rfl <;> (rcases hi6 with rfl | rfl | rfl | rfl | rfl | rfl <;> first | omega | (simp; omega))
theorem two_size {xs : List Int} (L : Lev xs) : 2 * sizeL xs = sumN (fun i => shr xs.length i (xs.getD i 0)) xs.length := by
  have h0 := lev_sumN L
  have he := sqSum_even L
  obtain ⟨m, hm⟩ : ∃ m, sqSum xs xs.length = 2 * m := ⟨sqSum xs xs.length / 2, by omega⟩
  have hz : 2 * sizeL xs = xs.length * sqSum xs xs.length + 2 * ixSum xs xs.length := by
    unfold sizeL
    rw [hm, Int.mul_ediv_cancel_left _ (by decide)]; grind
  rw [hz, sq_sumN, ix_sumN]
  obtain ⟨t, ht⟩ : ∃ t, t = xs.length := ⟨_, rfl⟩
  rw [← ht] at h0 ⊢
  have key : ∀ n, sumN (fun i => shr t i (xs.getD i 0)) n = t * sumN (fun i => xs.getD i 0 * xs.getD i 0) n + 2 * sumN (fun i => (i : Int) * xs.getD i 0) n + (1 - (t : Int)) * sumN (fun i => xs.getD i 0) n := by
    intro n
    induction n with
    | zero => simp [sumN]
    | succ n ih => rw [sumN, ih, sumN, sumN, sumN]; unfold shr; grind
  rw [key, h0]; omega
/-- The levels of a small core are small. -/
theorem lev_small {xs : List Int} (L : Lev xs) (h : sizeL xs ≤ 30) (i : Nat) (hi : i < xs.length) : -5 ≤ xs.getD i 0 ∧ xs.getD i 0 ≤ 5 := by
  have h1 := two_size L
  have h2 := sumN_one_le (f := fun i => shr xs.length i (xs.getD i 0)) xs.length (fun j hj => (shr_ge ⟨L.lo, L.hi⟩ hj _).1) i hi
  have h3 := (shr_ge ⟨L.lo, L.hi⟩ hi (xs.getD i 0)).2
  have h4 : shr xs.length i (xs.getD i 0) ≤ 2 * sizeL xs := by rw [h1]; exact h2
  omega
theorem kL_len {q : Nat} {xs : List Int} (L : Lev xs) (h : ∀ i, i < xs.length → 0 ≤ (q : Int) + xs.getD i 0) : ((kL q xs).length : Int) = xs.length * q := by
  have h0 := lev_sumN L
  unfold kL
  rw [(insF_all (kL_nodup q xs)).2.2, abfL_len]
  have e : sumN (fun i => ((fillR q xs i).length : Int)) xs.length = sumN (fun i => (q : Int) + xs.getD i 0) xs.length :=
    sumN_congr _ fun i hi => by have := h i hi; unfold fillR; rw [upTo_len]; omega
  rw [e]
  have key : ∀ n : Nat, sumN (fun i => (q : Int) + xs.getD i 0) n = n * q + sumN (fun i => xs.getD i 0) n := by
    intro n
    induction n with
    | zero => simp [sumN]
    | succ n ih => rw [sumN, ih, sumN]; grind
  rw [key, h0]; omega
theorem kL_sum {q : Nat} {xs : List Int} (L : Lev xs) (h : ∀ i, i < xs.length → 0 ≤ (q : Int) + xs.getD i 0) : (kL q xs).sum = sizeL xs + tri (xs.length * q) := by
  have h0 := lev_sumN L
  have h1 := two_size L
  have h2 := tri_sq (xs.length * q)
  unfold kL
  rw [insF_sum, abfL_sum]
  obtain ⟨t, ht⟩ : ∃ t, t = xs.length := ⟨_, rfl⟩
  rw [← ht] at h0 h1 h2 h ⊢
  have e : ∀ i, i < t → 2 * ((t : Int) * (fillR q xs i).sum + i * (fillR q xs i).length) = shr t i (xs.getD i 0) + (2 * (t : Int) * q - 1) * xs.getD i 0 + (t * (q * q - q) + 2 * i * q) := by
    intro i hi
    have := h i hi
    obtain ⟨n, hn⟩ : ∃ n : Nat, (n : Int) = (q : Int) + xs.getD i 0 := ⟨((q : Int) + xs.getD i 0).toNat, by omega⟩
    have h3 := tri_sq n
    have e1 : (fillR q xs i) = upTo n := by unfold fillR; rw [← hn]; simp
    rw [e1, upTo_sum, upTo_len]
    have e2 : xs.getD i 0 = (n : Int) - q := by omega
    rw [e2]; unfold shr; grind
  have key : ∀ n, n ≤ t → 2 * sumN (fun i => (t : Int) * (fillR q xs i).sum + i * (fillR q xs i).length) n = sumN (fun i => shr t i (xs.getD i 0)) n + (2 * (t : Int) * q - 1) * sumN (fun i => xs.getD i 0) n + ((n : Int) * (t * (q * q - q)) + (n * n - n) * q) := by
    intro n
    induction n with
    | zero => intro _; simp [sumN]
    | succ n ih =>
      intro hn
      have a := ih (by omega)
      have b := e n (by omega)
      simp only [sumN]
      rw [show ((n + 1 : Nat) : Int) = (n : Int) + 1 by omega]
      grind
  have := key t (Nat.le_refl _)
  rw [h0] at this
  rw [show ((t * q : Nat) : Int) = (t : Int) * q by simp] at h2
  have h3 : 2 * sumN (fun i => (t : Int) * (fillR q xs i).sum + i * (fillR q xs i).length) t = 2 * (sizeL xs + tri (t * q)) := by grind
  omega
theorem kL_bd {q : Nat} {xs : List Int} (L : Lev xs) (hq : q ≤ 20) : ∀ x ∈ kL q xs, 0 ≤ x ∧ x ≤ 1000 := fun x hx => by
  have h2 := L.lo
  have h6 := L.hi
  obtain ⟨h3, h4⟩ := (mem_kL (by omega)).1 hx
  obtain ⟨t, ht⟩ : ∃ t, t = xs.length := ⟨_, rfl⟩
  have h5 := Int.mul_ediv_add_emod x t
  have h7 := Int.emod_lt_of_pos x (show 0 < (t : Int) by omega)
  have h8 := Int.emod_nonneg x (show (t : Int) ≠ 0 by omega)
  have h9 := L.bd (x % (xs.length : Int)).toNat (by rw [← ht]; omega)
  rw [← ht] at h4 h9 h2 h6
  have h10 : (t : Int) * (x / (t : Int)) ≤ 6 * 40 := Int.mul_le_mul (by omega) (by omega) (Int.ediv_nonneg h3 (by omega)) (by omega)
  exact ⟨h3, by omega⟩
theorem kL_good {q : Nat} {xs : List Int} (L : Lev xs) (hs : sizeL xs ≤ 30) (hq : 5 ≤ q) (hm : xs.length * q ≤ 40) : goodB (kL q xs) = true := by
  have h2 := L.lo
  have hq0 : ∀ i, i < xs.length → 0 ≤ (q : Int) + xs.getD i 0 := fun i hi => by have := lev_small L hs i hi; omega
  have hl := kL_len L hq0
  have hsum := kL_sum L hq0
  have hl2 : (kL q xs).length = xs.length * q := by
    have : ((xs.length * q : Nat) : Int) = xs.length * q := by simp
    omega
  have hq20 : q ≤ 20 := by
    have := Nat.mul_le_mul_right q h2
    omega
  refine goodB_of (by omega) (pw_rises (kL_pw q xs) (kL_bd L hq20)) (by rw [hl2, hsum]; omega)
/-- The rows that the program lays. -/
def clR (q : Nat) (xs : List Int) (k : Nat) : List (List Int) := (List.range k).map (fillR q xs)
theorem clR_len (q : Nat) (xs : List Int) (k : Nat) : (clR q xs k).length = k := by simp [clR]
theorem clR_succ (q : Nat) (xs : List Int) (k : Nat) : clR q xs (k + 1) = clR q xs k ++ [fillR q xs k] := by simp [clR, List.range_succ]
theorem clR_get (q : Nat) (xs : List Int) {k i : Nat} (h : i < k) : (clR q xs k).getD i [] = fillR q xs i := by
  simp [clR, List.getD, h]
theorem upTo_rw {n : Nat} (h : n ≤ 36) : rwOk (upTo n) = true := by
  refine rises_Rises.2 ⟨fun j hj => ?_, fun j hj => ?_⟩
  · rw [upTo_len] at hj; unfold upTo; rw [fnRow_get _ _ _ hj]; omega
  · rw [upTo_len] at hj; unfold upTo; rw [fnRow_get _ _ _ (by omega), fnRow_get _ _ _ hj]; omega
theorem clR_frL (q : Nat) (xs : List Int) : frL (clR q xs xs.length) = kL q xs := by
  unfold frL kL
  rw [clR_len]
  congr 1
  have key : ∀ k, k ≤ xs.length → abfL xs.length (rowsR (clR q xs xs.length)) k = abfL xs.length (fillR q xs) k := by
    intro k
    induction k with
    | zero => intro _; rfl
    | succ k ih =>
      intro hk
      rw [abfL, abfL, ih (by omega)]
      unfold rowsR
      rw [clR_get q xs (show k < xs.length by omega)]
  exact key _ (Nat.le_refl _)
theorem clR_ok {q : Nat} {xs : List Int} (L : Lev xs) (hs : sizeL xs ≤ 30) (hq : 5 ≤ q) (hm : xs.length * q ≤ 40) : frOk (clR q xs xs.length) = true := by
  have h2 := L.lo
  have h6 := L.hi
  have h20 : q ≤ 20 := by have := Nat.mul_le_mul_right q h2; omega
  have hin : inB 2 6 ((clR q xs xs.length).length : Int) = true := by rw [clR_len]; exact inB_iff.2 (by omega)
  rw [fr_ok hin ?_, clR_frL, clR_len]
  · rw [clR_len] at hin
    simp [isAba, hin, kL_good L hs hq hm]
  · intro i hi
    rw [clR_len] at hi
    unfold rowsR
    rw [clR_get q xs hi]
    have := lev_small L hs i hi
    exact upTo_rw (by omega)
theorem clR_tot {q : Nat} {xs : List Int} (L : Lev xs) (hs : sizeL xs ≤ 30) (hq : 5 ≤ q) (hm : xs.length * q ≤ 40) : tot (clR q xs xs.length) ≤ 1048576 := by
  have h2 := L.lo
  have h6 := L.hi
  have h20 : q ≤ 20 := by have := Nat.mul_le_mul_right q h2; omega
  have key : ∀ k, k ≤ xs.length → tot (clR q xs k) ≤ k * 40 := by
    intro k
    induction k with
    | zero => intro _; simp [clR, tot]
    | succ k ih =>
      intro hk
      have := ih (by omega)
      have := lev_small L hs k (by omega)
      rw [clR_succ, tot_append]
      have e : tot [fillR q xs k] = (fillR q xs k).length := by simp [tot]
      rw [e]
      unfold fillR
      rw [upTo_len]; omega
  have := key _ (Nat.le_refl _)
  omega
def clOk (xs : List Int) : Bool := levB xs && decide (sizeL xs ≤ 30)
def clF (xs : List Int) : List Int := if clOk xs then partsL (kL 11 xs) else []
theorem cl_no {xs : List Int} (h : clOk xs = false) : clF xs = [] := by simp [clF, h]
theorem cl_yes {xs : List Int} (h : clOk xs = true) : clF xs = partsL (kL 11 xs) := by simp [clF, h]
theorem cl_at {q : Nat} {xs : List Int} (L : Lev xs) (hs : sizeL xs ≤ 30) (hq : 5 ≤ q) : partsL (kL q xs) = partsL (kL 5 xs) := by
  have h2 := L.lo
  obtain ⟨d, rfl⟩ : ∃ d, q = 5 + d := ⟨q - 5, by omega⟩
  exact kL_parts (by omega) (fun i hi => by have := lev_small L hs i hi; omega) d
def qR (t : Nat) : Nat := (30 + t - 1) / t
theorem qR_bd {t : Nat} (ht : 2 ≤ t ∧ t ≤ 6) : 5 ≤ qR t ∧ qR t ≤ 15 ∧ t * qR t ≤ 40 ∧ mulN t 30 = qR t * t := by
  refine ⟨?_, ?_, ?_, rfl⟩ <;> (have : t = 2 ∨ t = 3 ∨ t = 4 ∨ t = 5 ∨ t = 6 := by omega) <;> rcases this with rfl | rfl | rfl | rfl | rfl <;> decide
end Go.Proofs.Ythkkiakfmbnfeaa
