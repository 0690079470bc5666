/-
  Contracts: the abacus by which quotients are told, of the program and of the model.
-/
import Derived.Test.YtmjncedijddmmaaCB
import Derived.Test.YtmjncedijddmmaaCC
namespace Go.Proofs.Ytmjncedijddmmaa
open Go.RowKit

def mulN (t n : Nat) : Nat := (n + t - 1) / t * t
theorem mulN_bd {t n : Nat} (ht : 2 ≤ t ∧ t ≤ 6) : n ≤ mulN t n ∧ mulN t n ≤ n + 5 := by
  unfold mulN
  have h1 := Nat.div_add_mod (n + t - 1) t
  have h2 := Nat.mod_lt (n + t - 1) (show 0 < t by omega)
  rw [Nat.mul_comm] at h1
  omega
theorem mulN_dvd (t n : Nat) : mulN t n % t = 0 := by unfold mulN; exact Nat.mul_mod_left _ _
def evN (xs : List Int) (t : Int) : Nat := mulN t.toNat xs.length
def evR (xs : List Int) (t : Int) : Int := if crB xs t then t else 0
def evF (xs : List Int) (t : Int) : List Int := if crB xs t then beadsL xs (evN xs t) else []
theorem ev_bd {xs : List Int} {t : Int} (ht : inB 2 6 t = true) : xs.length ≤ evN xs t ∧ evN xs t ≤ xs.length + 5 := by
  have := inB_iff.1 ht
  exact mulN_bd (t := t.toNat) (n := xs.length) (by omega)
theorem ev_ok {xs : List Int} {t : Int} (ht : inB 2 6 t = true) : abaOk xs t (evN xs t) = crB xs t := by
  have hb := ev_bd (xs := xs) ht
  unfold abaOk beadsOk crB
  cases hg : good xs
  · simp
  · have hl := ((good_iff xs).1 hg).len
    have : inB xs.length 40 (evN xs t) = true := inB_iff.2 (by omega)
    simp [this, ht]
theorem ev_R {xs : List Int} {t : Int} (ht : inB 2 6 t = true) : abaR xs t (evN xs t) = evR xs t := by unfold abaR evR; rw [ev_ok ht]
theorem ev_F {xs : List Int} {t : Int} (ht : inB 2 6 t = true) : abaF xs t (evN xs t) = evF xs t := by
  have hb := ev_bd (xs := xs) ht
  unfold abaF evF; rw [ev_ok ht]
  cases hc : crB xs t
  · rfl
  · have hg := (crB_good hc).1
    have hl := ((good_iff xs).1 hg).len
    rw [if_pos rfl, if_pos rfl]
    unfold beadsF
    rw [if_pos ⟨hg, by omega, by omega⟩]; simp

set_option maxHeartbeats 1000000 in
theorem multipleFrom_any (t n : Nat) (ht : 2 ≤ t ∧ t ≤ 6) (hn : n ≤ 1048576) (w : World) :
    Calls Try.prog 58 #[.int .i64 t, .int .i64 n] w fun e w' => e = .returned (.int .i64 (mulN t n)) ∧ w = w' := by
  have hb := mulN_bd (n := n) ht
  have hm : (n : Int) + t - 1 = ((n + t - 1 : Nat) : Int) := by omega
  have hne : ¬ (t : Int) = 0 := by omega
  obtain ⟨m, hme⟩ : ∃ m, m = n + t - 1 := ⟨_, rfl⟩
  have hz : mulN t n = m / t * t := by rw [hme]; rfl
  have hmn : m ≤ 1048600 := by omega
  rw [← hme] at hm
  have hq : m / t ≤ m := Nat.div_le_self _ _
  have htd : Int.tdiv (m : Int) (t : Int) = ((m / t : Nat) : Int) := by rfl
  obtain ⟨q, hqe⟩ : ∃ q, q = m / t := ⟨_, rfl⟩
  rw [← hqe] at htd hq hz
  rw [hz] at hb
  obtain ⟨z, hze⟩ : ∃ z, z = q * t := ⟨_, rfl⟩
  have hqt : (q : Int) * (t : Int) = (z : Int) := by rw [hze]; rfl
  rw [← hze] at hz hb
  have HZ := hid hz
  clear hme hqe hze hz
  go_enter Try.func58, Try.ntmps58
  go_wp2_with fail
  go_ret
  exact ⟨ret_int (by rw [HZ.out]), rfl⟩

set_option maxHeartbeats 1000000 in
theorem crAbacus_any (A : Option Addr) (c : Nat) (xs : List Int) (t : Nat) (w : World) (ht : 2 ≤ t ∧ t ≤ 6) (G : Good xs) (hc : Cells w A xs) :
    Calls Try.prog 97 #[.slice A xs.length c, .int .i64 t] w fun e w' => ∃ A' c', e = .returned (.agg #[.int .i64 t, .slice A' (beadsL xs (mulN t xs.length)).length c']) ∧ Own w' w.heap.size A' c' (beadsL xs (mulN t xs.length)) ∧ Below w.heap.size w w' := by
  have y0 := Box2.new w 56 (.int .i64 0) (.slice none 0 0)
  have b0 : Below w.heap.size w (w.alloc (.cells #[.int .i64 0, .slice none 0 0] 56)) := (Below.refl _ _).alloc (Nat.le_refl _) _
  have z0 := b0.size
  have hl := G.len
  have hb := mulN_bd (n := xs.length) ht
  have hm : (xs.length : Int) + t - 1 = ((xs.length + t - 1 : Nat) : Int) := by omega
  have hne : ¬ (t : Int) = 0 := by omega
  have HA := hid fun W (h : Cells W A xs) => abBeads_any A c xs (mulN t xs.length) W (by omega) hb.1 (fun j hj => by have h1 := G.pos j hj; have h2 := G.le j hj; omega) h
  obtain ⟨L, hL⟩ : ∃ L, L = beadsL xs (mulN t xs.length) := ⟨_, rfl⟩
  have hLz : L.length = mulN t xs.length := by rw [hL]; exact beadsL_len _ _
  rw [← hL] at HA ⊢
  clear hL
  obtain ⟨m, hme⟩ : ∃ m, m = xs.length + t - 1 := ⟨_, rfl⟩
  have hz : mulN t xs.length = m / t * t := by rw [hme]; rfl
  rw [hz] at HA hb hLz
  have hmn : m ≤ 1048600 := by omega
  rw [← hme] at hm
  have hq : m / t ≤ m := Nat.div_le_self _ _
  have htd : Int.tdiv (m : Int) (t : Int) = ((m / t : Nat) : Int) := by rfl
  obtain ⟨q, hqe⟩ : ∃ q, q = m / t := ⟨_, rfl⟩
  rw [← hqe] at htd hq HA hb hLz
  obtain ⟨z, hze⟩ : ∃ z, z = q * t := ⟨_, rfl⟩
  have hqt : (q : Int) * (t : Int) = (z : Int) := by rw [hze]; rfl
  rw [← hze] at HA hb hLz
  have HLZ := hid hLz
  clear hze hLz
  clear hme hqe hz
  go_enter Try.func97, Try.ntmps97
  go_wp2_with (go_at_call 41; refine (HA.out _ (hc.below b0)).mono ?_; rintro e w1 ⟨A1, c1, rfl, o1, b1⟩; have y1 := y0.next b1; have f1 := y1.cell0; have f2 := y1.froz 0; have y2 := y1.set0 (.int .i64 t); have f3 := y2.cell1; have f4 := y2.froz 1; have y3 := y2.set1 (.slice A1 z c1); have hok := o1.block; clear y1 y2)
  refine bodyPost_ret (results_cell_row rfl _ _ w.heap.size 56 #[.int .i64 t, .slice A1 z c1] (0, 0) _ rfl y3 Try.underlying56 rfl (by kernel_rfl)) rfl ⟨A1, c1, by rw [HLZ.out], (o1.keep fun b hbk _ => ?_).more (by simp), ((Below.next b0 b1).setCell (Nat.le_refl _) _).setCell (Nat.le_refl _) _⟩
  have := (hok b hbk).1
  simp at this
  exact (Below.heap_setCell _ _ _ b (by simp; omega)).trans (Below.heap_setCell _ _ _ b (by simp; omega))
end Go.Proofs.Ytmjncedijddmmaa
