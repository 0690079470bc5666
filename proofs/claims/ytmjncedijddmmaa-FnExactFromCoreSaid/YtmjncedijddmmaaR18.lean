/-
  Several texts in one.
-/
import Derived.Test.YtmjncedijddmmaaCB
import Derived.Test.YtmjncedijddmmaaCC
import Derived.Test.YtmjncedijddmmaaR08
import Derived.Test.YtmjncedijddmmaaR09
/-
  Contracts: the abacus by which quotients are told, of the program and of the model.
-/
namespace Go.Proofs.Ytmjncedijddmmaa
open Go.RowKit

def mulN (t n : Nat) : Nat := (n + t - 1) / t * t
theorem mulN_bd {t n : Nat} (ht : 2 ≤ t ∧ t ≤ 6) : n ≤ mulN t n ∧ mulN t n ≤ n + 5 := by
  unfold mulN
  have h1 := Nat.div_add_mod (n + t - 1) t
  have h2 := Nat.mod_lt (n + t - 1) (show 0 < t by omega)
  rw [Nat.mul_comm] at h1
  omega
theorem mulN_dvd (t n : Nat) : mulN t n % t = 0 := by unfold mulN; exact Nat.mul_mod_left _ _
def evN (xs : List Int) (t : Int) : Nat := mulN t.toNat xs.length
def evR (xs : List Int) (t : Int) : Int := if crB xs t then t else 0
def evF (xs : List Int) (t : Int) : List Int := if crB xs t then beadsL xs (evN xs t) else []
theorem ev_bd {xs : List Int} {t : Int} (ht : inB 2 6 t = true) : xs.length ≤ evN xs t ∧ evN xs t ≤ xs.length + 5 := by
  have := inB_iff.1 ht
  exact mulN_bd (t := t.toNat) (n := xs.length) (by omega)
theorem ev_ok {xs : List Int} {t : Int} (ht : inB 2 6 t = true) : abaOk xs t (evN xs t) = crB xs t := by
  have hb := ev_bd (xs := xs) ht
  unfold abaOk beadsOk crB
  cases hg : good xs
  · simp
  · have hl := ((good_iff xs).1 hg).len
    have : inB xs.length 40 (evN xs t) = true := inB_iff.2 (by omega)
    simp [this, ht]
theorem ev_R {xs : List Int} {t : Int} (ht : inB 2 6 t = true) : abaR xs t (evN xs t) = evR xs t := by unfold abaR evR; rw [ev_ok ht]
theorem ev_F {xs : List Int} {t : Int} (ht : inB 2 6 t = true) : abaF xs t (evN xs t) = evF xs t := by
  have hb := ev_bd (xs := xs) ht
  unfold abaF evF; rw [ev_ok ht]
  cases hc : crB xs t
  · rfl
  · have hg := (crB_good hc).1
    have hl := ((good_iff xs).1 hg).len
    rw [if_pos rfl, if_pos rfl]
    unfold beadsF
    rw [if_pos ⟨hg, by omega, by omega⟩]; simp

set_option maxHeartbeats 1000000 in
theorem multipleFrom_any (t n : Nat) (ht : 2 ≤ t ∧ t ≤ 6) (hn : n ≤ 1048576) (w : World) :
    Calls Try.prog 58 #[.int .i64 t, .int .i64 n] w fun e w' => e = .returned (.int .i64 (mulN t n)) ∧ w = w' := by
  have hb := mulN_bd (n := n) ht
  have hm : (n : Int) + t - 1 = ((n + t - 1 : Nat) : Int) := by omega
  have hne : ¬ (t : Int) = 0 := by omega
  obtain ⟨m, hme⟩ : ∃ m, m = n + t - 1 := ⟨_, rfl⟩
  have hz : mulN t n = m / t * t := by rw [hme]; rfl
  have hmn : m ≤ 1048600 := by omega
  rw [← hme] at hm
  have hq : m / t ≤ m := Nat.div_le_self _ _
  have htd : Int.tdiv (m : Int) (t : Int) = ((m / t : Nat) : Int) := by rfl
  obtain ⟨q, hqe⟩ : ∃ q, q = m / t := ⟨_, rfl⟩
  rw [← hqe] at htd hq hz
  rw [hz] at hb
  obtain ⟨z, hze⟩ : ∃ z, z = q * t := ⟨_, rfl⟩
  have hqt : (q : Int) * (t : Int) = (z : Int) := by rw [hze]; rfl
  rw [← hze] at hz hb
  have HZ := hid hz
  clear hme hqe hze hz
  go_enter Try.func58, Try.ntmps58
  go_wp2_with fail
  go_ret
  exact ⟨ret_int (by rw [HZ.out]), rfl⟩

set_option maxHeartbeats 1000000 in
theorem crAbacus_any (A : Option Addr) (c : Nat) (xs : List Int) (t : Nat) (w : World) (ht : 2 ≤ t ∧ t ≤ 6) (G : Good xs) (hc : Cells w A xs) :
    Calls Try.prog 97 #[.slice A xs.length c, .int .i64 t] w fun e w' => ∃ A' c', e = .returned (.agg #[.int .i64 t, .slice A' (beadsL xs (mulN t xs.length)).length c']) ∧ Own w' w.heap.size A' c' (beadsL xs (mulN t xs.length)) ∧ Below w.heap.size w w' := by
  have y0 := Box2.new w 56 (.int .i64 0) (.slice none 0 0)
  have b0 : Below w.heap.size w (w.alloc (.cells #[.int .i64 0, .slice none 0 0] 56)) := (Below.refl _ _).alloc (Nat.le_refl _) _
  have z0 := b0.size
  have hl := G.len
  have hb := mulN_bd (n := xs.length) ht
  have hm : (xs.length : Int) + t - 1 = ((xs.length + t - 1 : Nat) : Int) := by omega
  have hne : ¬ (t : Int) = 0 := by omega
  have HA := hid fun W (h : Cells W A xs) => abBeads_any A c xs (mulN t xs.length) W (by omega) hb.1 (fun j hj => by have h1 := G.pos j hj; have h2 := G.le j hj; omega) h
  obtain ⟨L, hL⟩ : ∃ L, L = beadsL xs (mulN t xs.length) := ⟨_, rfl⟩
  have hLz : L.length = mulN t xs.length := by rw [hL]; exact beadsL_len _ _
  rw [← hL] at HA ⊢
  clear hL
  obtain ⟨m, hme⟩ : ∃ m, m = xs.length + t - 1 := ⟨_, rfl⟩
  have hz : mulN t xs.length = m / t * t := by rw [hme]; rfl
  rw [hz] at HA hb hLz
  have hmn : m ≤ 1048600 := by omega
  rw [← hme] at hm
  have hq : m / t ≤ m := Nat.div_le_self _ _
  have htd : Int.tdiv (m : Int) (t : Int) = ((m / t : Nat) : Int) := by rfl
  obtain ⟨q, hqe⟩ : ∃ q, q = m / t := ⟨_, rfl⟩
  rw [← hqe] at htd hq HA hb hLz
  obtain ⟨z, hze⟩ : ∃ z, z = q * t := ⟨_, rfl⟩
  have hqt : (q : Int) * (t : Int) = (z : Int) := by rw [hze]; rfl
  rw [← hze] at HA hb hLz
  have HLZ := hid hLz
  clear hze hLz
  clear hme hqe hz
  go_enter Try.func97, Try.ntmps97
  go_wp2_with (go_at_call 41; refine (HA.out _ (hc.below b0)).mono ?_; rintro e w1 ⟨A1, c1, rfl, o1, b1⟩; have y1 := y0.next b1; have f1 := y1.cell0; have f2 := y1.froz 0; have y2 := y1.set0 (.int .i64 t); have f3 := y2.cell1; have f4 := y2.froz 1; have y3 := y2.set1 (.slice A1 z c1); have hok := o1.block; clear y1 y2)
  refine bodyPost_ret (results_cell_row rfl _ _ w.heap.size 56 #[.int .i64 t, .slice A1 z c1] (0, 0) _ rfl y3 Try.underlying56 rfl (by kernel_rfl)) rfl ⟨A1, c1, by rw [HLZ.out], (o1.keep fun b hbk _ => ?_).more (by simp), ((Below.next b0 b1).setCell (Nat.le_refl _) _).setCell (Nat.le_refl _) _⟩
  have := (hok b hbk).1
  simp at this
  exact (Below.heap_setCell _ _ _ b (by simp; omega)).trans (Below.heap_setCell _ _ _ b (by simp; omega))
end Go.Proofs.Ytmjncedijddmmaa
/-
  Contracts: a runner with rows, and FromRunners, of the program.
-/
namespace Go.Proofs.Ytmjncedijddmmaa
open Go.RowKit

/-- The bits of a row of numbers. -/
def rbK (xs : List Int) (k r : Nat) : Bool := decide ((r : Int) ∈ xs.take k)
def rbF (xs : List Int) : Nat → Bool := fun r => decide ((r : Int) ∈ xs)
theorem rbK_zero (xs : List Int) : rbK xs 0 = fun _ => false := by funext r; simp [rbK]
theorem rbK_all (xs : List Int) : rbK xs xs.length = rbF xs := by funext r; simp [rbK, rbF]
theorem rbK_succ {xs : List Int} {k n : Nat} (hk : k < xs.length) (hn : xs.getD k 0 = n) : updB (rbK xs k) n true = rbK xs (k + 1) := by
  funext r
  unfold updB rbK
  rw [take_snoc xs k hk _ hn]
  by_cases e : r = n
  · subst e; simp
  · rw [if_neg e]
    have : (r : Int) ≠ (n : Int) := by omega
    simp [this]
def rwOk (xs : List Int) : Bool := rises 0 35 xs
def rwB (xs : List Int) : Nat → Bool := if rwOk xs then rbF xs else fun _ => false

set_option maxRecDepth 100000 in
set_option maxHeartbeats 4000000 in
theorem runnerWith_any (A : Option Addr) (c : Nat) (xs : List Int) (w : World) (hl : xs.length ≤ 1048576) (hc : Cells w A xs) :
    Calls Try.prog 89 #[.slice A xs.length c] w fun e w' => e = .returned (.tuple #[rnV (rwB xs), .bool (rwOk xs)]) ∧ Below w.heap.size w w' := by
  have hzr := Try.rnZero
  unfold rnV at hzr ⊢
  obtain ⟨w0, hw0⟩ : ∃ w0, w0 = ((w.alloc (.cells (ca 36 (bitV fun _ => false)) 80)).alloc (.cells (ca 36 (bitV fun _ => false)) 80)) := ⟨_, rfl⟩
  have x1 : Blk w0 w.heap.size 80 36 (bitV fun _ => false) := by rw [hw0]; exact (Blk.new w 80 36 (bitV fun _ => false)).alloc _
  have x2 : Blk w0 (w.heap.size + 1) 80 36 (bitV (rbK xs 0)) := by
    rw [hw0, rbK_zero]
    have h := Blk.new (w.alloc (.cells (ca 36 (bitV fun _ => false)) 80)) 80 36 (bitV fun _ => false)
    rw [World.size_alloc] at h; exact h
  have hb : Below w.heap.size w w0 := by rw [hw0]; exact ((Below.refl _ _).alloc (Nat.le_refl _) _).alloc (by simp) _
  have X1 := hid x1; have X2 := hid x2
  have HW := hid hw0
  obtain ⟨Z, hZ⟩ : ∃ Z, Z = rwB xs := ⟨_, rfl⟩
  obtain ⟨q, hq⟩ : ∃ q, q = rwOk xs := ⟨_, rfl⟩
  have HB := hid (show Z = if q then rbF xs else fun _ => false by rw [hZ, hq]; rfl)
  rw [← hZ, ← hq]
  have HQ := hid hq
  clear hw0 x1 x2 hZ hq
  go_enter Try.func89, Try.ntmps89
  go_wp2_with fail
  rw [← HW.out]
  go_loopw [9] (fun i wr => ∃ k : Nat, k ≤ xs.length ∧ i = .int .i64 k ∧ Hid (∀ j, j < k → okAt 0 35 xs j = true) ∧ Hid (Blk wr w.heap.size 80 36 (bitV fun _ => false)) ∧ Hid (Blk wr (w.heap.size + 1) 80 36 (bitV (rbK xs k))) ∧ Below w.heap.size w wr) (fun i _ => xs.length - (intOf i).toNat)
  case atStart => exact ⟨0, Nat.zero_le _, rfl, hid fun j hj => absurd hj (Nat.not_lt_zero _), X1, X2, hb⟩
  case round =>
    obtain ⟨k, hk, rfl, HD, HR, HL, hbel⟩ := hrel
    clear X1 X2 hb
    by_cases hlt : k < xs.length
    · obtain ⟨b, o, rfl, hcc⟩ := (hc.later hbel) (by omega)
      have hck := hcc k hlt
      have hck1 := hcc (k - 1) (by omega)
      have hek : ((k : Int) - 1).toNat = k - 1 := by omega
      have HO := hid (okAt_iff (lo := 0) (hi := 35) (xs := xs) (j := k))
      have HS := hid (fun n (h : xs.getD k 0 = (n : Nat)) => rbK_succ hlt h)
      clear hcc
      obtain ⟨x, hx⟩ : ∃ x, x = xs.getD k 0 := ⟨_, rfl⟩
      obtain ⟨y, hy⟩ : ∃ y, y = xs.getD (k - 1) 0 := ⟨_, rfl⟩
      rw [← hx] at hck HO HS
      rw [← hy] at hck1 HO
      clear hx hy
      by_cases hok : (0 ≤ x ∧ x ≤ 35) ∧ (k = 0 ∨ y < x)
      · have hyes := HO.out.2 hok
        have HYES := hid hyes; clear hyes
        have HRR := hid (show ∀ j, j < k + 1 → okAt 0 35 xs j = true from fun j hj => by
          by_cases h : j < k
          · exact HD.out j h
          · have : j = k := by omega
            subst this; exact HYES.out)
        obtain ⟨⟨hx0, hx1⟩, hok2⟩ := hok
        obtain ⟨n, rfl⟩ : ∃ n : Nat, x = n := ⟨x.toNat, by omega⟩
        have hn36 : n < 36 := by omega
        have f1 := HL.out.cell (k := n) hn36
        have f2 := HL.out.froz n
        have hst := HL.out.set n (.bool true)
        rw [updV_bit, HS.out n rfl] at hst
        have HST := hid hst
        have HR2 := hid (HR.out.other (g' := w.heap.size + 1) (k := n) (by omega) (.bool true))
        have hb2 : Below w.heap.size w (wr.setCell ⟨w.heap.size + 1, n, none⟩ (.bool true)) := hbel.setCell (by simp) _
        clear hst
        unfold bitV at f1
        by_cases h0 : k = 0
        · subst h0
          rw [Nat.add_zero] at hck
          go_wp2_with fail
          go_roundw
          case rel => exact ⟨1, by omega, by go_num, HRR.out |> hid, HR2, HST, hb2⟩
          case measure => simp [intOf]; omega
        · have h1 : 0 < k := by omega
          have hyx : y < (n : Int) := by omega
          go_wp2_with fail
          go_roundw
          case rel => exact ⟨k + 1, by omega, by go_num, HRR.out |> hid, HR2, HST, hb2⟩
          case measure => simp [intOf]; omega
      · have hno : okAt 0 35 xs k = false := by
          cases h : okAt 0 35 xs k
          · rfl
          · exact absurd (HO.out.1 h) hok
        have hqf : q = false := by rw [HQ.out]; exact rises_no hlt hno
        have hzf : Z = fun _ => false := by rw [HB.out, hqf]; rfl
        subst hqf hzf
        have hth := HR.out.there 0 36 (by omega)
        have hsc := run_storeCells_cells (P := Try.prog) w.heap.size 0 (ca 36 (bitV fun _ => false)).toList 0 wr (fun j hj => by have := (hth j (by rw [show (ca 36 (bitV fun _ => false)).toList = caL 36 (bitV fun _ => false) from rfl, caL_len] at hj; exact hj)).1; simpa using this) (fun j hj => by have := (hth j (by rw [show (ca 36 (bitV fun _ => false)).toList = caL 36 (bitV fun _ => false) from rfl, caL_len] at hj; exact hj)).2; simpa using this) (bit_one 36 _)
        simp only [Nat.add_zero] at hsc
        have z3 : Blk (wr.setCells w.heap.size 0 (ca 36 (bitV fun _ => false)).toList) w.heap.size 80 36 (bitV fun _ => false) := (HR.out.setMid 0 36 (bitV fun _ => false)).to fun j _ => by unfold midV bitV; split <;> rfl
        have hb3 : Below w.heap.size w (wr.setCells w.heap.size 0 (ca 36 (bitV fun _ => false)).toList) := setCells_below _ _ _ _ _ _ hbel (Nat.le_refl _)
        obtain ⟨w4, hw4⟩ : ∃ w4, w4 = wr.setCells w.heap.size 0 (ca 36 (bitV fun _ => false)).toList := ⟨_, rfl⟩
        rw [← hw4] at hsc z3 hb3
        have HSC := hid hsc
        clear hno hth hsc hw4
        by_cases hx0 : x < 0
        · go_wp2_with fail
          rw [HSC.out]
          go_wp2_with fail
          refine bodyPost_ret (results_cell2 rfl _ _ _ w.heap.size 80 _ (0, 0) _ rfl z3 Try.underlying80 rfl (by rw [ca_size]; exact Try.rnSize)) rfl ⟨rfl, hb3⟩
        by_cases hx1 : 35 < x
        · go_wp2_with fail
          rw [HSC.out]
          go_wp2_with fail
          refine bodyPost_ret (results_cell2 rfl _ _ _ w.heap.size 80 _ (0, 0) _ rfl z3 Try.underlying80 rfl (by rw [ca_size]; exact Try.rnSize)) rfl ⟨rfl, hb3⟩
        have h1 : 0 < k := by omega
        have hyx : x ≤ y := by omega
        clear hok
        go_wp2_with fail
        rw [HSC.out]
        go_wp2_with fail
        refine bodyPost_ret (results_cell2 rfl _ _ _ w.heap.size 80 _ (0, 0) _ rfl z3 Try.underlying80 rfl (by rw [ca_size]; exact Try.rnSize)) rfl ⟨rfl, hb3⟩
    · have hkl : k = xs.length := by omega
      subst hkl
      have hqt : q = true := by rw [HQ.out]; exact rises_iff.2 fun j hj => HD.out j hj
      have hzt : Z = rbF xs := by rw [HB.out, hqt]; rfl
      have HL2 := hid (show Blk wr (w.heap.size + 1) 80 36 (bitV (rbF xs)) by rw [← rbK_all]; exact HL.out)
      rw [← hzt] at HL2
      have z3 := setRow_blk HR.out (bitV Z)
      subst hqt
      clear hzt HL
      go_wp2_with (first | (refine wpList_load_row rfl 80 _ rfl (w.heap.size + 1) rfl 80 _ (0, 0) _ HL2.out Try.underlying80 rfl (by rw [ca_size]; exact Try.rnSize) ?_) | (refine wpList_store_row rfl 80 _ _ rfl w.heap.size _ rfl rfl 80 _ HR.out (by rw [ca_size]; exact Try.rnSize) (by rw [ca_size, ca_size]) (ca_one fun _ _ => rfl) ?_))
      refine bodyPost_ret (results_cell2 rfl _ _ _ w.heap.size 80 _ (0, 0) _ rfl z3 Try.underlying80 rfl (by rw [ca_size]; exact Try.rnSize)) rfl ⟨rfl, setRow_below hbel (Nat.le_refl _) _⟩
end Go.Proofs.Ytmjncedijddmmaa
