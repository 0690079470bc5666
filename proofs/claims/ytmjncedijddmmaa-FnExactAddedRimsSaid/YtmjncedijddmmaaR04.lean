/-
  Several texts in one.
-/
import Derived.Test.YtmjncedijddmmaaCB
import Derived.Test.YtmjncedijddmmaaCC
import Derived.Test.YtmjncedijddmmaaR02
/-
  Contracts: the abacus by which quotients are told, of the program and of the model.
-/
namespace Go.Proofs.Ytmjncedijddmmaa
open Go.RowKit

def mulN (t n : Nat) : Nat := (n + t - 1) / t * t
theorem mulN_bd {t n : Nat} (ht : 2 ≤ t ∧ t ≤ 6) : n ≤ mulN t n ∧ mulN t n ≤ n + 5 := by
  unfold mulN
  have h1 := Nat.div_add_mod (n + t - 1) t
  have h2 := Nat.mod_lt (n + t - 1) (show 0 < t by omega)
  rw [Nat.mul_comm] at h1
  omega
theorem mulN_dvd (t n : Nat) : mulN t n % t = 0 := by unfold mulN; exact Nat.mul_mod_left _ _
def evN (xs : List Int) (t : Int) : Nat := mulN t.toNat xs.length
def evR (xs : List Int) (t : Int) : Int := if crB xs t then t else 0
def evF (xs : List Int) (t : Int) : List Int := if crB xs t then beadsL xs (evN xs t) else []
theorem ev_bd {xs : List Int} {t : Int} (ht : inB 2 6 t = true) : xs.length ≤ evN xs t ∧ evN xs t ≤ xs.length + 5 := by
  have := inB_iff.1 ht
  exact mulN_bd (t := t.toNat) (n := xs.length) (by omega)
theorem ev_ok {xs : List Int} {t : Int} (ht : inB 2 6 t = true) : abaOk xs t (evN xs t) = crB xs t := by
  have hb := ev_bd (xs := xs) ht
  unfold abaOk beadsOk crB
  cases hg : good xs
  · simp
  · have hl := ((good_iff xs).1 hg).len
    have : inB xs.length 40 (evN xs t) = true := inB_iff.2 (by omega)
    simp [this, ht]
theorem ev_R {xs : List Int} {t : Int} (ht : inB 2 6 t = true) : abaR xs t (evN xs t) = evR xs t := by unfold abaR evR; rw [ev_ok ht]
theorem ev_F {xs : List Int} {t : Int} (ht : inB 2 6 t = true) : abaF xs t (evN xs t) = evF xs t := by
  have hb := ev_bd (xs := xs) ht
  unfold abaF evF; rw [ev_ok ht]
  cases hc : crB xs t
  · rfl
  · have hg := (crB_good hc).1
    have hl := ((good_iff xs).1 hg).len
    rw [if_pos rfl, if_pos rfl]
    unfold beadsF
    rw [if_pos ⟨hg, by omega, by omega⟩]; simp

set_option maxHeartbeats 1000000 in
theorem multipleFrom_any (t n : Nat) (ht : 2 ≤ t ∧ t ≤ 6) (hn : n ≤ 1048576) (w : World) :
    Calls Try.prog 58 #[.int .i64 t, .int .i64 n] w fun e w' => e = .returned (.int .i64 (mulN t n)) ∧ w = w' := by
  have hb := mulN_bd (n := n) ht
  have hm : (n : Int) + t - 1 = ((n + t - 1 : Nat) : Int) := by omega
  have hne : ¬ (t : Int) = 0 := by omega
  obtain ⟨m, hme⟩ : ∃ m, m = n + t - 1 := ⟨_, rfl⟩
  have hz : mulN t n = m / t * t := by rw [hme]; rfl
  have hmn : m ≤ 1048600 := by omega
  rw [← hme] at hm
  have hq : m / t ≤ m := Nat.div_le_self _ _
  have htd : Int.tdiv (m : Int) (t : Int) = ((m / t : Nat) : Int) := by rfl
  obtain ⟨q, hqe⟩ : ∃ q, q = m / t := ⟨_, rfl⟩
  rw [← hqe] at htd hq hz
  rw [hz] at hb
  obtain ⟨z, hze⟩ : ∃ z, z = q * t := ⟨_, rfl⟩
  have hqt : (q : Int) * (t : Int) = (z : Int) := by rw [hze]; rfl
  rw [← hze] at hz hb
  have HZ := hid hz
  clear hme hqe hze hz
  go_enter Try.func58, Try.ntmps58
  go_wp2_with fail
  go_ret
  exact ⟨ret_int (by rw [HZ.out]), rfl⟩

set_option maxHeartbeats 1000000 in
theorem crAbacus_any (A : Option Addr) (c : Nat) (xs : List Int) (t : Nat) (w : World) (ht : 2 ≤ t ∧ t ≤ 6) (G : Good xs) (hc : Cells w A xs) :
    Calls Try.prog 97 #[.slice A xs.length c, .int .i64 t] w fun e w' => ∃ A' c', e = .returned (.agg #[.int .i64 t, .slice A' (beadsL xs (mulN t xs.length)).length c']) ∧ Own w' w.heap.size A' c' (beadsL xs (mulN t xs.length)) ∧ Below w.heap.size w w' := by
  have y0 := Box2.new w 56 (.int .i64 0) (.slice none 0 0)
  have b0 : Below w.heap.size w (w.alloc (.cells #[.int .i64 0, .slice none 0 0] 56)) := (Below.refl _ _).alloc (Nat.le_refl _) _
  have z0 := b0.size
  have hl := G.len
  have hb := mulN_bd (n := xs.length) ht
  have hm : (xs.length : Int) + t - 1 = ((xs.length + t - 1 : Nat) : Int) := by omega
  have hne : ¬ (t : Int) = 0 := by omega
  have HA := hid fun W (h : Cells W A xs) => abBeads_any A c xs (mulN t xs.length) W (by omega) hb.1 (fun j hj => by have h1 := G.pos j hj; have h2 := G.le j hj; omega) h
  obtain ⟨L, hL⟩ : ∃ L, L = beadsL xs (mulN t xs.length) := ⟨_, rfl⟩
  have hLz : L.length = mulN t xs.length := by rw [hL]; exact beadsL_len _ _
  rw [← hL] at HA ⊢
  clear hL
  obtain ⟨m, hme⟩ : ∃ m, m = xs.length + t - 1 := ⟨_, rfl⟩
  have hz : mulN t xs.length = m / t * t := by rw [hme]; rfl
  rw [hz] at HA hb hLz
  have hmn : m ≤ 1048600 := by omega
  rw [← hme] at hm
  have hq : m / t ≤ m := Nat.div_le_self _ _
  have htd : Int.tdiv (m : Int) (t : Int) = ((m / t : Nat) : Int) := by rfl
  obtain ⟨q, hqe⟩ : ∃ q, q = m / t := ⟨_, rfl⟩
  rw [← hqe] at htd hq HA hb hLz
  obtain ⟨z, hze⟩ : ∃ z, z = q * t := ⟨_, rfl⟩
  have hqt : (q : Int) * (t : Int) = (z : Int) := by rw [hze]; rfl
  rw [← hze] at HA hb hLz
  have HLZ := hid hLz
  clear hze hLz
  clear hme hqe hz
  go_enter Try.func97, Try.ntmps97
  go_wp2_with (go_at_call 41; refine (HA.out _ (hc.below b0)).mono ?_; rintro e w1 ⟨A1, c1, rfl, o1, b1⟩; have y1 := y0.next b1; have f1 := y1.cell0; have f2 := y1.froz 0; have y2 := y1.set0 (.int .i64 t); have f3 := y2.cell1; have f4 := y2.froz 1; have y3 := y2.set1 (.slice A1 z c1); have hok := o1.block; clear y1 y2)
  refine bodyPost_ret (results_cell_row rfl _ _ w.heap.size 56 #[.int .i64 t, .slice A1 z c1] (0, 0) _ rfl y3 Try.underlying56 rfl (by kernel_rfl)) rfl ⟨A1, c1, by rw [HLZ.out], (o1.keep fun b hbk _ => ?_).more (by simp), ((Below.next b0 b1).setCell (Nat.le_refl _) _).setCell (Nat.le_refl _) _⟩
  have := (hok b hbk).1
  simp at this
  exact (Below.heap_setCell _ _ _ b (by simp; omega)).trans (Below.heap_setCell _ _ _ b (by simp; omega))
end Go.Proofs.Ytmjncedijddmmaa
/-
  Contracts: a runner with rows, and FromRunners, of the program.
-/
namespace Go.Proofs.Ytmjncedijddmmaa
open Go.RowKit

/-- The bits of a row of numbers. -/
def rbK (xs : List Int) (k r : Nat) : Bool := decide ((r : Int) ∈ xs.take k)
def rbF (xs : List Int) : Nat → Bool := fun r => decide ((r : Int) ∈ xs)
theorem rbK_zero (xs : List Int) : rbK xs 0 = fun _ => false := by funext r; simp [rbK]
theorem rbK_all (xs : List Int) : rbK xs xs.length = rbF xs := by funext r; simp [rbK, rbF]
theorem rbK_succ {xs : List Int} {k n : Nat} (hk : k < xs.length) (hn : xs.getD k 0 = n) : updB (rbK xs k) n true = rbK xs (k + 1) := by
  funext r
  unfold updB rbK
  rw [take_snoc xs k hk _ hn]
  by_cases e : r = n
  · subst e; simp
  · rw [if_neg e]
    have : (r : Int) ≠ (n : Int) := by omega
    simp [this]
def rwOk (xs : List Int) : Bool := rises 0 35 xs
def rwB (xs : List Int) : Nat → Bool := if rwOk xs then rbF xs else fun _ => false

set_option maxRecDepth 100000 in
set_option maxHeartbeats 4000000 in
theorem runnerWith_any (A : Option Addr) (c : Nat) (xs : List Int) (w : World) (hl : xs.length ≤ 1048576) (hc : Cells w A xs) :
    Calls Try.prog 89 #[.slice A xs.length c] w fun e w' => e = .returned (.tuple #[rnV (rwB xs), .bool (rwOk xs)]) ∧ Below w.heap.size w w' := by
  have hzr := Try.rnZero
  unfold rnV at hzr ⊢
  obtain ⟨w0, hw0⟩ : ∃ w0, w0 = ((w.alloc (.cells (ca 36 (bitV fun _ => false)) 80)).alloc (.cells (ca 36 (bitV fun _ => false)) 80)) := ⟨_, rfl⟩
  have x1 : Blk w0 w.heap.size 80 36 (bitV fun _ => false) := by rw [hw0]; exact (Blk.new w 80 36 (bitV fun _ => false)).alloc _
  have x2 : Blk w0 (w.heap.size + 1) 80 36 (bitV (rbK xs 0)) := by
    rw [hw0, rbK_zero]
    have h := Blk.new (w.alloc (.cells (ca 36 (bitV fun _ => false)) 80)) 80 36 (bitV fun _ => false)
    rw [World.size_alloc] at h; exact h
  have hb : Below w.heap.size w w0 := by rw [hw0]; exact ((Below.refl _ _).alloc (Nat.le_refl _) _).alloc (by simp) _
  have X1 := hid x1; have X2 := hid x2
  have HW := hid hw0
  obtain ⟨Z, hZ⟩ : ∃ Z, Z = rwB xs := ⟨_, rfl⟩
  obtain ⟨q, hq⟩ : ∃ q, q = rwOk xs := ⟨_, rfl⟩
  have HB := hid (show Z = if q then rbF xs else fun _ => false by rw [hZ, hq]; rfl)
  rw [← hZ, ← hq]
  have HQ := hid hq
  clear hw0 x1 x2 hZ hq
  go_enter Try.func89, Try.ntmps89
  go_wp2_with fail
  rw [← HW.out]
  go_loopw [9] (fun i wr => ∃ k : Nat, k ≤ xs.length ∧ i = .int .i64 k ∧ Hid (∀ j, j < k → okAt 0 35 xs j = true) ∧ Hid (Blk wr w.heap.size 80 36 (bitV fun _ => false)) ∧ Hid (Blk wr (w.heap.size + 1) 80 36 (bitV (rbK xs k))) ∧ Below w.heap.size w wr) (fun i _ => xs.length - (intOf i).toNat)
  case atStart => exact ⟨0, Nat.zero_le _, rfl, hid fun j hj => absurd hj (Nat.not_lt_zero _), X1, X2, hb⟩
  case round =>
    obtain ⟨k, hk, rfl, HD, HR, HL, hbel⟩ := hrel
    clear X1 X2 hb
    by_cases hlt : k < xs.length
    · obtain ⟨b, o, rfl, hcc⟩ := (hc.later hbel) (by omega)
      have hck := hcc k hlt
      have hck1 := hcc (k - 1) (by omega)
      have hek : ((k : Int) - 1).toNat = k - 1 := by omega
      have HO := hid (okAt_iff (lo := 0) (hi := 35) (xs := xs) (j := k))
      have HS := hid (fun n (h : xs.getD k 0 = (n : Nat)) => rbK_succ hlt h)
      clear hcc
      obtain ⟨x, hx⟩ : ∃ x, x = xs.getD k 0 := ⟨_, rfl⟩
      obtain ⟨y, hy⟩ : ∃ y, y = xs.getD (k - 1) 0 := ⟨_, rfl⟩
      rw [← hx] at hck HO HS
      rw [← hy] at hck1 HO
      clear hx hy
      by_cases hok : (0 ≤ x ∧ x ≤ 35) ∧ (k = 0 ∨ y < x)
      · have hyes := HO.out.2 hok
        have HYES := hid hyes; clear hyes
        have HRR := hid (show ∀ j, j < k + 1 → okAt 0 35 xs j = true from fun j hj => by
          by_cases h : j < k
          · exact HD.out j h
          · have : j = k := by omega
            subst this; exact HYES.out)
        obtain ⟨⟨hx0, hx1⟩, hok2⟩ := hok
        obtain ⟨n, rfl⟩ : ∃ n : Nat, x = n := ⟨x.toNat, by omega⟩
        have hn36 : n < 36 := by omega
        have f1 := HL.out.cell (k := n) hn36
        have f2 := HL.out.froz n
        have hst := HL.out.set n (.bool true)
        rw [updV_bit, HS.out n rfl] at hst
        have HST := hid hst
        have HR2 := hid (HR.out.other (g' := w.heap.size + 1) (k := n) (by omega) (.bool true))
        have hb2 : Below w.heap.size w (wr.setCell ⟨w.heap.size + 1, n, none⟩ (.bool true)) := hbel.setCell (by simp) _
        clear hst
        unfold bitV at f1
        by_cases h0 : k = 0
        · subst h0
          rw [Nat.add_zero] at hck
          go_wp2_with fail
          go_roundw
          case rel => exact ⟨1, by omega, by go_num, HRR.out |> hid, HR2, HST, hb2⟩
          case measure => simp [intOf]; omega
        · have h1 : 0 < k := by omega
          have hyx : y < (n : Int) := by omega
          go_wp2_with fail
          go_roundw
          case rel => exact ⟨k + 1, by omega, by go_num, HRR.out |> hid, HR2, HST, hb2⟩
          case measure => simp [intOf]; omega
      · have hno : okAt 0 35 xs k = false := by
          cases h : okAt 0 35 xs k
          · rfl
          · exact absurd (HO.out.1 h) hok
        have hqf : q = false := by rw [HQ.out]; exact rises_no hlt hno
        have hzf : Z = fun _ => false := by rw [HB.out, hqf]; rfl
        subst hqf hzf
        have hth := HR.out.there 0 36 (by omega)
        have hsc := run_storeCells_cells (P := Try.prog) w.heap.size 0 (ca 36 (bitV fun _ => false)).toList 0 wr (fun j hj => by have := (hth j (by rw [show (ca 36 (bitV fun _ => false)).toList = caL 36 (bitV fun _ => false) from rfl, caL_len] at hj; exact hj)).1; simpa using this) (fun j hj => by have := (hth j (by rw [show (ca 36 (bitV fun _ => false)).toList = caL 36 (bitV fun _ => false) from rfl, caL_len] at hj; exact hj)).2; simpa using this) (bit_one 36 _)
        simp only [Nat.add_zero] at hsc
        have z3 : Blk (wr.setCells w.heap.size 0 (ca 36 (bitV fun _ => false)).toList) w.heap.size 80 36 (bitV fun _ => false) := (HR.out.setMid 0 36 (bitV fun _ => false)).to fun j _ => by unfold midV bitV; split <;> rfl
        have hb3 : Below w.heap.size w (wr.setCells w.heap.size 0 (ca 36 (bitV fun _ => false)).toList) := setCells_below _ _ _ _ _ _ hbel (Nat.le_refl _)
        obtain ⟨w4, hw4⟩ : ∃ w4, w4 = wr.setCells w.heap.size 0 (ca 36 (bitV fun _ => false)).toList := ⟨_, rfl⟩
        rw [← hw4] at hsc z3 hb3
        have HSC := hid hsc
        clear hno hth hsc hw4
        by_cases hx0 : x < 0
        · go_wp2_with fail
          rw [HSC.out]
          go_wp2_with fail
          refine bodyPost_ret (results_cell2 rfl _ _ _ w.heap.size 80 _ (0, 0) _ rfl z3 Try.underlying80 rfl (by rw [ca_size]; exact Try.rnSize)) rfl ⟨rfl, hb3⟩
        by_cases hx1 : 35 < x
        · go_wp2_with fail
          rw [HSC.out]
          go_wp2_with fail
          refine bodyPost_ret (results_cell2 rfl _ _ _ w.heap.size 80 _ (0, 0) _ rfl z3 Try.underlying80 rfl (by rw [ca_size]; exact Try.rnSize)) rfl ⟨rfl, hb3⟩
        have h1 : 0 < k := by omega
        have hyx : x ≤ y := by omega
        clear hok
        go_wp2_with fail
        rw [HSC.out]
        go_wp2_with fail
        refine bodyPost_ret (results_cell2 rfl _ _ _ w.heap.size 80 _ (0, 0) _ rfl z3 Try.underlying80 rfl (by rw [ca_size]; exact Try.rnSize)) rfl ⟨rfl, hb3⟩
    · have hkl : k = xs.length := by omega
      subst hkl
      have hqt : q = true := by rw [HQ.out]; exact rises_iff.2 fun j hj => HD.out j hj
      have hzt : Z = rbF xs := by rw [HB.out, hqt]; rfl
      have HL2 := hid (show Blk wr (w.heap.size + 1) 80 36 (bitV (rbF xs)) by rw [← rbK_all]; exact HL.out)
      rw [← hzt] at HL2
      have z3 := setRow_blk HR.out (bitV Z)
      subst hqt
      clear hzt HL
      go_wp2_with (first | (refine wpList_load_row rfl 80 _ rfl (w.heap.size + 1) rfl 80 _ (0, 0) _ HL2.out Try.underlying80 rfl (by rw [ca_size]; exact Try.rnSize) ?_) | (refine wpList_store_row rfl 80 _ _ rfl w.heap.size _ rfl rfl 80 _ HR.out (by rw [ca_size]; exact Try.rnSize) (by rw [ca_size, ca_size]) (ca_one fun _ _ => rfl) ?_))
      refine bodyPost_ret (results_cell2 rfl _ _ _ w.heap.size 80 _ (0, 0) _ rfl z3 Try.underlying80 rfl (by rw [ca_size]; exact Try.rnSize)) rfl ⟨rfl, setRow_below hbel (Nat.le_refl _) _⟩
end Go.Proofs.Ytmjncedijddmmaa
/-
  Contracts: FromRunners of the program.
-/
namespace Go.Proofs.Ytmjncedijddmmaa
open Go.RowKit

theorem tot_get_le (rows : List (List Int)) (k : Nat) (hk : k < rows.length) : (rows.getD k []).length ≤ tot rows := by
  have h1 := tot_take_succ rows k hk
  have h2 := tot_take_le rows (k + 1)
  omega
/-- A board with the first k of some rows. -/
def frB (R : Nat → List Int) : Nat → Nat → Bool
  | 0 => fun _ => false
  | k + 1 => setLn (frB R k) k (rbF (R k))
theorem frB_at (R : Nat → List Int) (i r : Nat) (hr : r < 36) : ∀ k, frB R k (36 * i + r) = (decide (i < k) && rbF (R i) r)
  | 0 => by simp [frB]
  | k + 1 => by
    rw [frB]
    unfold setLn
    by_cases e : i = k
    · subst e
      rw [if_pos (at_in i r hr), at_sub]; simp
    · rw [if_neg (at_out k i r hr e), frB_at R i r hr k]
      congr 1
      rw [decide_eq_decide]; omega
def rowsR (rows : List (List Int)) : Nat → List Int := fun i => rows.getD i []
def frL (rows : List (List Int)) : List Int := insF (abfL rows.length (rowsR rows) rows.length)
def frOk (rows : List (List Int)) : Bool := inB 2 6 rows.length && (rows.all rwOk && isAba rows.length (frL rows))
def frT (rows : List (List Int)) : Int := if frOk rows then rows.length else 0
def frF (rows : List (List Int)) : List Int := if frOk rows then frL rows else []
theorem fr_no {rows : List (List Int)} (h : frOk rows = false) : frT rows = 0 ∧ frF rows = [] := by simp [frT, frF, h]
theorem fr_yes {rows : List (List Int)} (h : frOk rows = true) : frT rows = rows.length ∧ frF rows = frL rows := by simp [frT, frF, h]
theorem fr_row_no {rows : List (List Int)} {k : Nat} (hk : k < rows.length) (h : rwOk (rows.getD k []) = false) : frOk rows = false := by
  have : rows.all rwOk = false := by
    rw [List.all_eq_false]
    refine ⟨rows.getD k [], ?_, by rw [h]; simp⟩
    rw [List.getD_eq_getElem?_getD, List.getElem?_eq_getElem hk]; exact List.getElem_mem hk
  simp [frOk, this]
theorem rw_bd {xs : List Int} (h : rwOk xs = true) : ∀ x ∈ xs, 0 ≤ x ∧ x ≤ 35 := fun x hx => by
  obtain ⟨j, hj, rfl⟩ := mem_getD.1 hx
  exact (rises_Rises.1 h).bd j hj
theorem rw_nodup {xs : List Int} (h : rwOk xs = true) : xs.Nodup := pw_nodup (rise_pw (rises_Rises.1 h).up)
theorem fr_nodup {rows : List (List Int)} (h : ∀ i, i < rows.length → rwOk (rowsR rows i) = true) : (abfL rows.length (rowsR rows) rows.length).Nodup :=
  abfL_nodup _ (Nat.le_refl _) fun i hi => rw_nodup (h i hi)
theorem fr_board {rows : List (List Int)} (h0 : 0 < rows.length) (h : ∀ i, i < rows.length → rwOk (rowsR rows i) = true) : abL rows.length (frB (rowsR rows) rows.length) = frL rows := by
  obtain ⟨t, ht⟩ : ∃ t, t = rows.length := ⟨_, rfl⟩
  have hn := fr_nodup h
  have hL : frL rows = insF (abfL rows.length (rowsR rows) rows.length) := rfl
  rw [hL]
  rw [← ht] at h h0 hn ⊢
  obtain ⟨p1, p2, _⟩ := insF_all hn
  refine pw_ext (bdL_pw _ _ _) p1 fun x => ?_
  rw [p2 x, mem_abfL]
  unfold abL
  rw [mem_bdL]
  constructor
  · rintro ⟨n, hn, hf, rfl⟩
    have hd : n / t < 36 := by rw [Nat.div_lt_iff_lt_mul h0]; rw [Nat.mul_comm]; exact hn
    have hm : n % t < t := Nat.mod_lt _ h0
    unfold atQ at hf
    rw [frB_at _ _ _ hd, Bool.and_eq_true] at hf
    refine ⟨n % t, ((n / t : Nat) : Int), hm, of_decide_eq_true hf.2, ?_⟩
    have := Nat.div_add_mod n t
    rw [Nat.mul_comm] at this
    have e2 : ((n / t : Nat) : Int) * (t : Int) + ((n % t : Nat) : Int) = ((n / t * t + n % t : Nat) : Int) := rfl
    rw [e2, this]
  · rintro ⟨i, y, hi, hy, rfl⟩
    have hb := rw_bd (h i hi) y hy
    obtain ⟨m, rfl⟩ : ∃ m : Nat, y = m := ⟨y.toNat, by omega⟩
    have hm : m < 36 := by omega
    have e1 : (m * t + i) / t = m := by rw [Nat.mul_comm, Nat.mul_add_div h0, Nat.div_eq_of_lt hi]; omega
    have e2 : (m * t + i) % t = i := by rw [Nat.mul_comm, Nat.mul_add_mod, Nat.mod_eq_of_lt hi]
    refine ⟨m * t + i, ?_, ?_, rfl⟩
    · have : m * t ≤ 35 * t := Nat.mul_le_mul_right _ (by omega)
      omega
    · unfold atQ
      rw [e1, e2, frB_at _ _ _ hm, Bool.and_eq_true]
      exact ⟨decide_eq_true hi, decide_eq_true hy⟩
theorem fr_ok {rows : List (List Int)} (h0 : inB 2 6 (rows.length : Int) = true) (h : ∀ i, i < rows.length → rwOk (rowsR rows i) = true) : frOk rows = isAba rows.length (frL rows) := by
  have : rows.all rwOk = true := by
    rw [List.all_eq_true]
    intro x hx
    obtain ⟨j, hj, rfl⟩ := List.getElem_of_mem hx
    have := h j hj
    unfold rowsR at this
    rw [List.getD_eq_getElem?_getD, List.getElem?_eq_getElem hj] at this
    exact this
  simp [frOk, h0, this]
theorem bound_FromRunners (rows : List (List Int)) : (frF rows).length ≤ 1048576 := by
  unfold frF; split
  · rename_i h
    simp only [frOk, isAba, Bool.and_eq_true] at h
    have := (goodB_iff.1 h.2.2.2).len
    omega
  · simp

set_option maxRecDepth 100000 in
set_option maxHeartbeats 8000000 in
theorem impl_FromRunners (A : Option Addr) (c : Nat) (rows : List (List Int)) (w : World) (hl : rows.length ≤ 1048576 ∧ tot rows ≤ 1048576) (hc : Cells2 w A rows) :
    Calls Try.prog 61 #[.slice A rows.length c] w fun e w' => ∃ A' c', e = .returned (.tuple #[.agg #[.int .i64 (frT rows), .slice A' (frF rows).length c'], .bool (frOk rows)]) ∧ Own w' w.heap.size A' c' (frF rows) ∧ Below w.heap.size w w' := by
  have hz := Try.bdZero
  have hzr := Try.rnZero
  unfold bdV at hz
  unfold rnV at hzr
  obtain ⟨w0, hw0⟩ : ∃ w0, w0 = w.alloc (.cells #[.int .i64 0, .slice none 0 0] 56) := ⟨_, rfl⟩
  have z0 : Box2 w0 w.heap.size 56 (.int .i64 0) (.slice none 0 0) := by rw [hw0]; exact Box2.new _ _ _ _
  have b0 : Below w.heap.size w w0 := by rw [hw0]; exact (Below.refl _ _).alloc (Nat.le_refl _) _
  have hs0 : w0.heap.size = w.heap.size + 1 := by rw [hw0]; simp
  have HW := hid hw0
  have HZ := hid z0
  clear hw0
  cases hr : inB 2 6 (rows.length : Int)
  · obtain ⟨e1, e2⟩ := fr_no (rows := rows) (by simp [frOk, hr])
    rw [e1, e2, show frOk rows = false by simp [frOk, hr]]
    have HR := hid hr
    have f1 := z0.cell0
    have f2 := z0.froz 0
    have z2 := z0.set0 (.int .i64 0)
    have f3 := z2.cell1
    have f4 := z2.froz 1
    have Z3 := hid (z2.set1 (.slice none 0 0))
    clear hr e1 e2 z0 z2
    go_enter Try.func61, Try.ntmps61
    go_wp2_with fail
    rw [← HW.out]
    refine (hasRunners_b _ _ _ HR.out).mono ?_
    rintro e w' ⟨rfl, rfl⟩
    go_wp2_with fail
    refine bodyPost_ret (results_cell2 rfl _ _ _ w.heap.size 56 #[.int .i64 0, .slice none 0 0] (0, 0) _ rfl Z3.out Try.underlying56 rfl (by kernel_rfl)) rfl ⟨none, 0, rfl, own_nil _ _, (b0.setCell (Nat.le_refl _) _).setCell (Nat.le_refl _) _⟩
  have hin := inB_iff.1 hr
  have ht2 : 2 ≤ rows.length ∧ rows.length ≤ 6 := by omega
  have HFB := hid (fun h => fr_board (rows := rows) (by omega) h)
  have HFO := hid (fun h => fr_ok (rows := rows) hr h)
  have HFN := hid (fun k hk h => fr_row_no (rows := rows) (k := k) hk h)
  have HNO := hid (fun h => fr_no (rows := rows) h)
  have HYES := hid (fun h => fr_yes (rows := rows) h)
  have HR := hid hr
  obtain ⟨rT, hrT⟩ : ∃ rT, rT = frT rows := ⟨_, rfl⟩
  obtain ⟨rX, hrX⟩ : ∃ rX, rX = frF rows := ⟨_, rfl⟩
  obtain ⟨rB, hrB⟩ : ∃ rB, rB = frOk rows := ⟨_, rfl⟩
  rw [← hrT, ← hrX] at HNO HYES
  rw [← hrB] at HFO HFN HNO HYES
  rw [← hrT, ← hrX, ← hrB]
  obtain ⟨Pt, Ct, hA1, hA2⟩ := hc
  have HA1 := hid hA1; have HA2 := hid hA2
  have HTB := hid (fun k (hk : k < rows.length) => (Nat.le_trans (tot_get_le rows k hk) hl.2 : (rows.getD k []).length ≤ 1048576))
  obtain ⟨t, hte⟩ : ∃ t, t = rows.length := ⟨_, rfl⟩
  rw [← hte] at HFB HFO HFN HYES HR HA1 HTB ht2 ⊢
  rw [← hte] at HA2
  have HRD := hid (show ∀ k, rowsR rows k = rows.getD k [] from fun _ => rfl)
  obtain ⟨R, hR⟩ : ∃ R, R = rowsR rows := ⟨_, rfl⟩
  rw [← hR] at HFB HFO HRD
  have hZ : zBrd = ca 217 (brdV 0 fun _ => false) := rfl
  have hZs : zBrd.size = 217 := by rw [hZ, ca_size]
  have hZ1 : zBrd.setIfInBounds 0 (.int .i64 t) = ca 217 (brdV t fun _ => false) := by rw [hZ]; exact brd_first _ _ _
  have HZS := hid hZs; have HZ1 := hid hZ1
  rw [← hZ] at hz
  have X3 := hid (show (w0.alloc (.cells zBrd 83)).heap[w0.heap.size]? = some (.cells zBrd 83 (0, 0)) from heap_alloc_new _ _)
  obtain ⟨w1, hw1⟩ : ∃ w1, w1 = (w0.alloc (.cells zBrd 83)).setRow w0.heap.size (zBrd.setIfInBounds 0 (.int .i64 t)) := ⟨_, rfl⟩
  have b01 : Below w0.heap.size w0 w1 := by rw [hw1]; exact setRow_below ((Below.refl _ _).alloc (Nat.le_refl _) _) (Nat.le_refl _) _
  have B1 : Below w.heap.size w w1 := Below.next b0 b01
  have X4 : Hid (Blk w1 w0.heap.size 83 217 (brdV t (frB R 0))) := hid (by
    have h3 : Blk (w0.alloc (.cells zBrd 83)) w0.heap.size 83 217 (brdV 0 fun _ => false) := by unfold Blk; rw [← hZ]; exact X3.out
    rw [hw1, hZ1]; exact setRow_blk h3 _)
  have HZ1' := hid (HZ.out.next b01)
  have hs1 : w1.heap.size = w0.heap.size + 1 := by rw [hw1]; simp
  have hss : (zBrd.setIfInBounds 0 (.int .i64 t)).size = 217 := by rw [hZ1, ca_size]
  have hone : (zBrd.setIfInBounds 0 (.int .i64 t)).all (·.oneCell') = true := by rw [hZ1]; exact brd_one _ _
  have HSS := hid hss; have HONE := hid hone
  have HW1 := hid hw1
  have HGB := hid (show w.heap.size + 1 = w0.heap.size ∧ w0.heap.size + 1 ≤ w1.heap.size by omega)
  clear hs0 hs1 hr hin hZ hZs hZ1 hw1 hss hone hA1 hA2 z0 hrT hrX hrB hte hR hl b01
  go_enter Try.func61, Try.ntmps61
  go_wp2_with fail
  rw [← HW.out]
  refine (hasRunners_b _ _ _ HR.out).mono ?_
  rintro e w' ⟨rfl, rfl⟩
  go_wp2_with (first | (refine wpList_store_row rfl 83 _ _ rfl w0.heap.size _ rfl rfl 83 zBrd X3.out (by rw [HSS.out]; exact Try.bdSize) (by rw [HZS.out, HSS.out]) HONE.out ?_))
  rw [← HW1.out]
  obtain ⟨g, hg⟩ : ∃ g, g = w0.heap.size := ⟨_, rfl⟩
  rw [← hg] at X4 HGB ⊢
  obtain ⟨hgb, hs1⟩ := HGB.out
  clear X3 hg
  go_loopw [19] (fun i wr => ∃ k : Nat, k ≤ t ∧ i = .int .i64 k ∧ Hid (∀ j, j < k → rwOk (R j) = true) ∧ Hid (Blk wr g 83 217 (brdV t (frB R k))) ∧ Hid (Box2 wr w.heap.size 56 (.int .i64 0) (.slice none 0 0)) ∧ Below w.heap.size w wr ∧ g + 1 ≤ wr.heap.size) (fun i _ => t - (intOf i).toNat)
  case atStart => exact ⟨0, Nat.zero_le _, rfl, hid fun j hj => absurd hj (Nat.not_lt_zero _), X4, HZ1', B1, hs1⟩
  case round =>
    obtain ⟨k, hk, rfl, HOKK, HX, HZr, hbel, hsz⟩ := hrel
    clear X4 HZ1' B1
    by_cases hlt : k < t
    · obtain ⟨b, o, rfl, hcc⟩ := HA1.out (by omega)
      have hck := (hbel.cell (World.block_lt_of_cell? w _ (hcc k hlt))).trans (hcc k hlt)
      have hrow := (HA2.out k hlt).below hbel
      have hlen := HTB.out k hlt
      rw [← HRD.out k] at hck hrow hlen
      have hFN := HFN.out k hlt
      rw [← HRD.out k] at hFN
      have HFNk := hid hFN
      have hsucc : frB R (k + 1) = setLn (frB R k) k (rbF (R k)) := rfl
      have HSU := hid hsucc
      have HRW := hid (runnerWith_any (Pt k) (Ct k) (R k) wr hlen hrow)
      have hi6 : k < 6 := by omega
      obtain ⟨L, hL⟩ : ∃ L, L = R k := ⟨_, rfl⟩
      have HLD := hid hL
      rw [← hL] at hck HRW HSU HFNk hlen
      obtain ⟨n, hn⟩ : ∃ n, n = L.length := ⟨_, rfl⟩
      rw [← hn] at hck HRW
      unfold rnV at HRW
      cases hok : rwOk L
      · have hf := HFNk.out hok
        obtain ⟨e1, e2⟩ := HNO.out hf
        rw [hok] at HRW
        obtain ⟨f, hff⟩ : ∃ f, f = rwB L := ⟨_, rfl⟩
        rw [← hff] at HRW
        clear hff
        have HF := hid hf; have HE1 := hid e1; have HE2 := hid e2
        clear hok hf e1 e2 hFN hrow hcc hsucc hL hn hlen
        go_wp2_with fail
        refine HRW.out.mono ?_
        rintro e w2 ⟨rfl, b2⟩
        have B2 := Below.next hbel b2
        have L0 := hid (Blk.new w2 80 36 (bitV fun _ => false))
        obtain ⟨w3, hw3⟩ : ∃ w3, w3 = (w2.alloc (.cells (ca 36 (bitV fun _ => false)) 80)).setRow w2.heap.size (ca 36 (bitV f)) := ⟨_, rfl⟩
        have b23 : Below w2.heap.size w2 w3 := by rw [hw3]; exact setRow_below ((Below.refl _ _).alloc (Nat.le_refl _) _) (Nat.le_refl _) _
        have B3 := Below.next B2 b23
        have z3 := (HZr.out.next b2).next b23
        have HW3 := hid hw3
        rw [hw3] at z3
        have f1 := z3.cell0
        have f2 := z3.froz 0
        have z4 := z3.set0 (.int .i64 0)
        have f3 := z4.cell1
        have f4 := z4.froz 1
        have Z5 := hid (z4.set1 (.slice none 0 0))
        clear z3 z4 hw3 b23
        go_wp2_with (first | (refine wpList_store_row rfl 80 _ _ rfl w2.heap.size _ rfl rfl 80 _ L0.out (by rw [ca_size]; exact Try.rnSize) (by rw [ca_size, ca_size]) (ca_one fun _ _ => rfl) ?_))
        rw [← HW3.out] at Z5 ⊢
        refine bodyPost_ret (results_cell2 rfl _ _ _ w.heap.size 56 #[.int .i64 0, .slice none 0 0] (0, 0) _ rfl Z5.out Try.underlying56 rfl (by kernel_rfl)) rfl ⟨none, 0, by rw [HE1.out, HE2.out, HF.out]; rfl, by rw [HE2.out]; exact own_nil _ _, (B3.setCell (Nat.le_refl _) _).setCell (Nat.le_refl _) _⟩
      · rw [hok, show rwB L = rbF L by simp [rwB, hok]] at HRW
        have HOK := hid hok
        obtain ⟨f, hf⟩ : ∃ f, f = rbF L := ⟨_, rfl⟩
        rw [← hf] at HRW HSU
        clear hok hFN hrow hcc hsucc hL hn hlen hf
        go_wp2_with fail
        refine HRW.out.mono ?_
        rintro e w2 ⟨rfl, b2⟩
        have B2 := Below.next hbel b2
        have hs2 := b2.size
        have L0 := hid (Blk.new w2 80 36 (bitV fun _ => false))
        obtain ⟨w3, hw3⟩ : ∃ w3, w3 = (w2.alloc (.cells (ca 36 (bitV fun _ => false)) 80)).setRow w2.heap.size (ca 36 (bitV f)) := ⟨_, rfl⟩
        have b23 : Below w2.heap.size w2 w3 := by rw [hw3]; exact setRow_below ((Below.refl _ _).alloc (Nat.le_refl _) _) (Nat.le_refl _) _
        have B3 := Below.next B2 b23
        have z3 := (HZr.out.next b2).next b23
        have x3 := (HX.out.next b2).next b23
        have hs3 : w3.heap.size = w2.heap.size + 1 := by rw [hw3]; simp
        have L3 := hid (show Blk ((w2.alloc (.cells (ca 36 (bitV fun _ => false)) 80)).setRow w2.heap.size (ca 36 (bitV f))) w2.heap.size 80 36 (bitV f) from setRow_blk L0.out _)
        have HW3 := hid hw3
        have hth := x3.there (1 + k * 36) 36 (by omega)
        have hsc := run_storeCells_cells (P := Try.prog) g (1 + k * 36) (ca 36 (bitV f)).toList 0 w3 (fun j hj => by have := (hth j (by rw [show (ca 36 (bitV f)).toList = caL 36 (bitV f) from rfl, caL_len] at hj; exact hj)).1; simpa using this) (fun j hj => by have := (hth j (by rw [show (ca 36 (bitV f)).toList = caL 36 (bitV f) from rfl, caL_len] at hj; exact hj)).2; simpa using this) (bit_one 36 f)
        simp only [Nat.add_zero] at hsc
        obtain ⟨w4, hw4⟩ : ∃ w4, w4 = w3.setCells g (1 + k * 36) (ca 36 (bitV f)).toList := ⟨_, rfl⟩
        rw [← hw4] at hsc
        have hwl : w4 = w3.setCells g (1 + k * 36) (caL 36 (bitV f)) := hw4
        have y1 : Blk w4 g 83 217 (brdV t (frB R (k + 1))) := by
          rw [hwl, HSU.out]; exact (x3.setMid (1 + k * 36) 36 (bitV f)).to fun j _ => setLn_mid t (frB R k) k f j
        have z4 : Box2 w4 w.heap.size 56 (.int .i64 0) (.slice none 0 0) := by rw [hwl]; exact z3.keep (setCells_other g w.heap.size (by omega) _ _ _)
        have B4 : Below w.heap.size w w4 := by rw [hwl]; exact setCells_below _ _ _ _ _ _ B3 (by omega)
        have hs4 : w4.heap.size = w3.heap.size := by rw [hwl, setCells_size]
        have HY1 := hid y1; have HZ4 := hid z4; have HSC := hid hsc
        clear hw3 b23 z3 x3 hth hsc hw4 hwl y1 z4
        go_wp2_with (first | (refine wpList_store_row rfl 80 _ _ rfl w2.heap.size _ rfl rfl 80 _ L0.out (by rw [ca_size]; exact Try.rnSize) (by rw [ca_size, ca_size]) (ca_one fun _ _ => rfl) ?_) | (refine wpList_load_row rfl 80 _ rfl w2.heap.size rfl 80 _ (0, 0) _ L3.out Try.underlying80 rfl (by rw [ca_size]; exact Try.rnSize) ?_))
        rw [← HW3.out]
        rw [HSC.out]
        go_wp2_with fail
        go_roundw
        case rel => exact ⟨k + 1, by omega, by go_num, hid fun j hj => by
          rcases Nat.lt_or_ge j k with h | h
          · exact HOKK.out j h
          · rw [show j = k by omega, ← HLD.out]; exact HOK.out, HY1, HZ4, B4, by omega⟩
        case measure => simp [intOf]; omega
    · have hkt : k = t := by omega
      subst hkt
      have h1 := HFO.out HOKK.out
      have h2 := HFB.out HOKK.out
      have HAB := hid fun W => brdAb_any k (frB R k) W ht2
      have hT : abT k (frB R k) = rT := by
        unfold abT; rw [h2, ← h1]
        cases hb : rB
        · simp [(HNO.out hb).1]
        · simp [(HYES.out hb).1]
      have hX : abX k (frB R k) = rX := by
        unfold abX; rw [h2, ← h1]
        cases hb : rB
        · simp [(HNO.out hb).2]
        · simp [(HYES.out hb).2]
      rw [hT, hX, h2, ← h1] at HAB
      clear h1 h2 hT hX
      obtain ⟨F, hF⟩ : ∃ F, F = frB R k := ⟨_, rfl⟩
      rw [← hF] at HX HAB
      unfold bdV at HAB
      clear hF
      go_wp2_with (refine wpList_load_row rfl 83 _ rfl g rfl 83 _ (0, 0) _ HX.out Try.underlying83 rfl (by rw [ca_size]; exact Try.bdSize) ?_)
      refine (HAB.out _).mono ?_
      rintro e w5 ⟨A6, c6, rfl, o6, b6⟩
      have B5 := Below.next hbel b6
      have z6 := HZr.out.next b6
      have f1 := z6.cell0
      have f2 := z6.froz 0
      have z7 := z6.set0 (.int .i64 rT)
      have f3 := z7.cell1
      have f4 := z7.froz 1
      have Z8 := hid (z7.set1 (.slice A6 rX.length c6))
      have HO7 := hid (own_set_other (g := w.heap.size) (k := 1) (u := .slice A6 rX.length c6) (own_set_other (g := w.heap.size) (k := 0) (u := .int .i64 rT) o6 (by omega)) (by omega))
      clear z6 z7 o6
      go_wp2_with fail
      refine bodyPost_ret (results_cell2 rfl _ _ _ w.heap.size 56 #[.int .i64 rT, .slice A6 rX.length c6] (0, 0) _ rfl Z8.out Try.underlying56 rfl (by kernel_rfl)) rfl ⟨A6, c6, rfl, Own.more HO7.out (by omega), (B5.setCell (Nat.le_refl _) _).setCell (Nat.le_refl _) _⟩
end Go.Proofs.Ytmjncedijddmmaa
