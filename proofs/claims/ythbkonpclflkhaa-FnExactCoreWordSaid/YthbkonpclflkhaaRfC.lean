/-
  Contracts: ReflectCore of the program and of the model.
-/
import Derived.Test.YthbkonpclflkhaaRfI
import Derived.Test.YthbkonpclflkhaaRfT
import Derived.Laws.EntriesVeiled
namespace Go.Proofs.Ythbkonpclflkhaa
open Go.RowKit

def rsB (t i : Int) : Bool := decide (0 ≤ i) && decide (i < t)
def rfOk (p : List Int) (t i : Int) : Bool := (isCoreF p t && rsB t i) && good (rfL p t.toNat i)
def rfF (p : List Int) (t i : Int) : List Int := if rfOk p t i then rfL p t.toNat i else []
theorem rf_no {p : List Int} {t i : Int} (h : rfOk p t i = false) : rfF p t i = [] := by simp [rfF, h]
theorem rf_yes {p : List Int} {t i : Int} (h : rfOk p t i = true) : rfF p t i = rfL p t.toNat i := by simp [rfF, h]
theorem core_cr {p : List Int} {t : Int} (h : isCoreF p t = true) : crB p t = true := by
  unfold isCoreF at h; rw [Bool.and_eq_true] at h; exact h.1
theorem bound_ReflectCore (p : List Int) (t i : Int) : (rfF p t i).length ≤ 1048576 := by
  unfold rfF; split
  · rename_i h
    unfold rfOk at h
    rw [Bool.and_eq_true] at h
    have := ((good_iff _).1 h.2).len
    omega
  · simp

set_option maxHeartbeats 1000000 in
theorem reflectionAt_any (t : Nat) (i : Int) (w : World) :
    Calls Try.prog 158 #[.int .i64 t, .int .i64 i] w fun e w' => ∃ T I H, e = .returned (.func (.func 185) #[] #[.pointer (some ⟨H, 0, none⟩)]) ∧
      w'.cell? ⟨T, 0, none⟩ = some (.int .i64 t) ∧ w'.cell? ⟨I, 0, none⟩ = some (.int .i64 i) ∧ w'.cell? ⟨H, 0, none⟩ = some (.func (.func 184) #[] #[.pointer (some ⟨T, 0, none⟩), .pointer (some ⟨I, 0, none⟩)]) ∧ Below w.heap.size w w' := by
  obtain ⟨w1, hw1⟩ : ∃ w1, w1 = w.alloc (.cells #[.int .i64 t] 3) := ⟨_, rfl⟩
  obtain ⟨w2, hw2⟩ : ∃ w2, w2 = w1.alloc (.cells #[.int .i64 i] 3) := ⟨_, rfl⟩
  obtain ⟨w3, hw3⟩ : ∃ w3, w3 = w2.alloc (.cells #[.nilFunc] 140) := ⟨_, rfl⟩
  have e1 : w1.heap.size = w.heap.size + 1 := by rw [hw1]; simp
  have e2 : w2.heap.size = w.heap.size + 1 + 1 := by rw [hw2]; simp [e1]
  have k1 : w1.cell? ⟨w.heap.size, 0, none⟩ = some (.int .i64 t) := by
    rw [hw1]; exact World.ownsRow.cellAt (World.ownsRow_lit (base := w.heap.size) (e := 3) (size := 1) w #[.int .i64 t] 1 (Nat.le_refl _) (by unfold maxLen; omega) rfl) 0 (by omega)
  have k2 : w2.cell? ⟨w1.heap.size, 0, none⟩ = some (.int .i64 i) := by
    rw [hw2]; exact World.ownsRow.cellAt (World.ownsRow_lit (base := w1.heap.size) (e := 3) (size := 1) w1 #[.int .i64 i] 1 (Nat.le_refl _) (by unfold maxLen; omega) rfl) 0 (by omega)
  have k3 := World.ownsRow_lit (base := w2.heap.size) (e := 140) (size := 1) w2 #[.nilFunc] 1 (Nat.le_refl _) (by unfold maxLen; omega) rfl
  rw [← hw3] at k3
  have c3 : w3.cell? ⟨w2.heap.size, 0, none⟩ = some .nilFunc := World.ownsRow.cellAt k3 0 (by omega)
  have f3 := World.ownsRow.frozenAt k3 0
  have k4 := World.ownsRow.cellAt (World.ownsRow_lit (base := w2.heap.size) (e := 140) (size := 1) w2 #[.func (.func 184) #[] #[.pointer (some ⟨w.heap.size, 0, none⟩), .pointer (some ⟨w1.heap.size, 0, none⟩)]] 1 (Nat.le_refl _) (by unfold maxLen; omega) rfl) 0 (by omega)
  have B2 : Below w1.heap.size w1 w2 := by rw [hw2]; exact (Below.refl _ _).alloc (Nat.le_refl _) _
  have B1 : Below w.heap.size w w1 := by rw [hw1]; exact (Below.refl _ _).alloc (Nat.le_refl _) _
  have B4 : Below w2.heap.size w2 (w2.alloc (.cells #[.func (.func 184) #[] #[.pointer (some ⟨w.heap.size, 0, none⟩), .pointer (some ⟨w1.heap.size, 0, none⟩)]] 140)) := (Below.refl _ _).alloc (Nat.le_refl _) _
  have HB := hid (Below.next (Below.next B1 B2) B4)
  have HI := hid ((B4.cell (show w1.heap.size < w2.heap.size by omega)).trans k2)
  have HT := hid (((Below.next B2 B4).cell (show w.heap.size < w1.heap.size by omega)).trans k1)
  have HH := hid k4
  clear k1 k2 k3 k4 B1 B2 B4
  rw [e1] at HB HI HT HH
  rw [e2] at HH c3 f3
  clear e1 e2
  subst hw3
  subst hw2
  subst hw1
  go_enter Try.func158, Try.ntmps158
  go_wp2_with fail
  go_ret
  exact ⟨w.heap.size, w.heap.size + 1, w.heap.size + 1 + 1, rfl, HT.out, HI.out, HH.out, HB.out⟩

set_option maxHeartbeats 1000000 in
theorem chCoreOf_any (A : Option Addr) (c : Nat) (p : List Int) (t : Int) (w : World) (hl : p.length ≤ 1048576) (hc : Cells w A p) :
    Calls Try.prog 108 #[.slice A p.length c, .int .i64 t] w fun e w' => e = .returned (.bool (isCoreF p t)) ∧ Below w.heap.size w w' := by
  cases hg : good p
  · have h : isCoreF p t = false := by unfold isCoreF crB; rw [hg]; simp
    rw [h]
    have HG := hid hg
    clear h hg
    go_enter Try.func108, Try.ntmps108
    go_wp2_with (go_at_call 77; refine (ptGood_b _ _ _ _ hl hc _ HG.out).mono ?_; rintro e w' ⟨rfl, n, rfl⟩)
    go_ret
    exact ⟨rfl, below_drew' _ _⟩
  cases ht : inB 2 6 t
  · have h : isCoreF p t = false := by unfold isCoreF crB; rw [ht]; simp
    rw [h]
    have HG := hid hg
    have HT := hid ht
    clear h hg ht
    go_enter Try.func108, Try.ntmps108
    go_wp2_with (first | (go_at_call 77; refine (ptGood_b _ _ _ _ hl hc _ HG.out).mono ?_; rintro e w' ⟨rfl, n, rfl⟩) | (go_at_call 82; refine (chRunners_b _ _ _ HT.out).mono ?_; rintro e w' ⟨rfl, rfl⟩))
    go_ret
    exact ⟨rfl, below_drew' _ _⟩
  · have hcr : crB p t = true := by unfold crB; rw [hg, ht]; rfl
    have HG := hid hg
    have HT := hid ht
    have HCI := hid fun W (h : Cells W A p) => chIsCore_any A c p t W hcr h
    obtain ⟨b, hb⟩ : ∃ b, b = isCoreF p t := ⟨_, rfl⟩
    rw [← hb] at HCI ⊢
    clear hcr hg ht hb
    have HCW := hid fun n => (show Cells (w.drewN n) A p from hc)
    go_enter Try.func108, Try.ntmps108
    go_wp2_with (first | (go_at_call 77; refine (ptGood_b _ _ _ _ hl hc _ HG.out).mono ?_; rintro e w' ⟨rfl, n, rfl⟩) | (go_at_call 82; refine (chRunners_b _ _ _ HT.out).mono ?_; rintro e w' ⟨rfl, rfl⟩) | (go_at_call 155; refine (HCI.out _ (HCW.out _)).mono ?_; rintro e w2 ⟨rfl, b2⟩))
    go_ret
    exact ⟨rfl, Below.next (below_drew' w n) b2⟩

end Go.Proofs.Ythbkonpclflkhaa
