/-
  Contracts: ReflectCore of the program and of the model.
-/
import Derived.Test.YtblkmomcdchdoaaRfI
import Derived.Test.YtblkmomcdchdoaaRfT
import Derived.Laws.EntriesVeiled
namespace Go.Proofs.Ytblkmomcdchdoaa
open Go.RowKit

def rsB (t i : Int) : Bool := decide (0 ≤ i) && decide (i < t)
def rfOk (p : List Int) (t i : Int) : Bool := (isCoreF p t && rsB t i) && good (rfL p t.toNat i)
def rfF (p : List Int) (t i : Int) : List Int := if rfOk p t i then rfL p t.toNat i else []
theorem rf_no {p : List Int} {t i : Int} (h : rfOk p t i = false) : rfF p t i = [] := by simp [rfF, h]
theorem rf_yes {p : List Int} {t i : Int} (h : rfOk p t i = true) : rfF p t i = rfL p t.toNat i := by simp [rfF, h]
theorem core_cr {p : List Int} {t : Int} (h : isCoreF p t = true) : crB p t = true := by
  unfold isCoreF at h; rw [Bool.and_eq_true] at h; exact h.1
theorem bound_ReflectCore (p : List Int) (t i : Int) : (rfF p t i).length ≤ 1048576 := by
  unfold rfF; split
  · rename_i h
    unfold rfOk at h
    rw [Bool.and_eq_true] at h
    have := ((good_iff _).1 h.2).len
    omega
  · simp

set_option maxHeartbeats 1000000 in
theorem reflectionAt_any (t : Nat) (i : Int) (w : World) :
    Calls Try.prog 94 #[.int .i64 t, .int .i64 i] w fun e w' => ∃ T I H, e = .returned (.func (.func 123) #[] #[.pointer (some ⟨H, 0, none⟩)]) ∧
      w'.cell? ⟨T, 0, none⟩ = some (.int .i64 t) ∧ w'.cell? ⟨I, 0, none⟩ = some (.int .i64 i) ∧ w'.cell? ⟨H, 0, none⟩ = some (.func (.func 120) #[] #[.pointer (some ⟨T, 0, none⟩), .pointer (some ⟨I, 0, none⟩)]) ∧ Below w.heap.size w w' := by
  obtain ⟨w1, hw1⟩ : ∃ w1, w1 = w.alloc (.cells #[.int .i64 t] 3) := ⟨_, rfl⟩
  obtain ⟨w2, hw2⟩ : ∃ w2, w2 = w1.alloc (.cells #[.int .i64 i] 3) := ⟨_, rfl⟩
  obtain ⟨w3, hw3⟩ : ∃ w3, w3 = w2.alloc (.cells #[.nilFunc] 95) := ⟨_, rfl⟩
  have e1 : w1.heap.size = w.heap.size + 1 := by rw [hw1]; simp
  have e2 : w2.heap.size = w.heap.size + 1 + 1 := by rw [hw2]; simp [e1]
  have k1 : w1.cell? ⟨w.heap.size, 0, none⟩ = some (.int .i64 t) := by
    rw [hw1]; exact World.ownsRow.cellAt (World.ownsRow_lit (base := w.heap.size) (e := 3) (size := 1) w #[.int .i64 t] 1 (Nat.le_refl _) (by unfold maxLen; omega) rfl) 0 (by omega)
  have k2 : w2.cell? ⟨w1.heap.size, 0, none⟩ = some (.int .i64 i) := by
    rw [hw2]; exact World.ownsRow.cellAt (World.ownsRow_lit (base := w1.heap.size) (e := 3) (size := 1) w1 #[.int .i64 i] 1 (Nat.le_refl _) (by unfold maxLen; omega) rfl) 0 (by omega)
  have k3 := World.ownsRow_lit (base := w2.heap.size) (e := 95) (size := 1) w2 #[.nilFunc] 1 (Nat.le_refl _) (by unfold maxLen; omega) rfl
  rw [← hw3] at k3
  have c3 : w3.cell? ⟨w2.heap.size, 0, none⟩ = some .nilFunc := World.ownsRow.cellAt k3 0 (by omega)
  have f3 := World.ownsRow.frozenAt k3 0
  have k4 := World.ownsRow.cellAt (World.ownsRow_lit (base := w2.heap.size) (e := 95) (size := 1) w2 #[.func (.func 120) #[] #[.pointer (some ⟨w.heap.size, 0, none⟩), .pointer (some ⟨w1.heap.size, 0, none⟩)]] 1 (Nat.le_refl _) (by unfold maxLen; omega) rfl) 0 (by omega)
  have B2 : Below w1.heap.size w1 w2 := by rw [hw2]; exact (Below.refl _ _).alloc (Nat.le_refl _) _
  have B1 : Below w.heap.size w w1 := by rw [hw1]; exact (Below.refl _ _).alloc (Nat.le_refl _) _
  have B4 : Below w2.heap.size w2 (w2.alloc (.cells #[.func (.func 120) #[] #[.pointer (some ⟨w.heap.size, 0, none⟩), .pointer (some ⟨w1.heap.size, 0, none⟩)]] 95)) := (Below.refl _ _).alloc (Nat.le_refl _) _
  have HB := hid (Below.next (Below.next B1 B2) B4)
  have HI := hid ((B4.cell (show w1.heap.size < w2.heap.size by omega)).trans k2)
  have HT := hid (((Below.next B2 B4).cell (show w.heap.size < w1.heap.size by omega)).trans k1)
  have HH := hid k4
  clear k1 k2 k3 k4 B1 B2 B4
  rw [e1] at HB HI HT HH
  rw [e2] at HH c3 f3
  clear e1 e2
  subst hw3
  subst hw2
  subst hw1
  go_enter Try.func94, Try.ntmps94
  go_wp2_with fail
  go_ret
  exact ⟨w.heap.size, w.heap.size + 1, w.heap.size + 1 + 1, rfl, HT.out, HI.out, HH.out, HB.out⟩

set_option maxHeartbeats 1000000 in
theorem chCoreOf_any (A : Option Addr) (c : Nat) (p : List Int) (t : Int) (w : World) (hl : p.length ≤ 1048576) (hc : Cells w A p) :
    Calls Try.prog 91 #[.slice A p.length c, .int .i64 t] w fun e w' => e = .returned (.bool (isCoreF p t)) ∧ Below w.heap.size w w' := by
  cases hg : good p
  · have h : isCoreF p t = false := by unfold isCoreF crB; rw [hg]; simp
    rw [h]
    have HG := hid hg
    clear h hg
    go_enter Try.func91, Try.ntmps91
    go_wp2_with (go_at_call 64; refine (ptGood_b _ _ _ _ hl hc _ HG.out).mono ?_; rintro e w' ⟨rfl, n, rfl⟩)
    go_ret
    exact ⟨rfl, below_drew' _ _⟩
  cases ht : inB 2 6 t
  · have h : isCoreF p t = false := by unfold isCoreF crB; rw [ht]; simp
    rw [h]
    have HG := hid hg
    have HT := hid ht
    clear h hg ht
    go_enter Try.func91, Try.ntmps91
    go_wp2_with (first | (go_at_call 64; refine (ptGood_b _ _ _ _ hl hc _ HG.out).mono ?_; rintro e w' ⟨rfl, n, rfl⟩) | (go_at_call 97; refine (chRunners_b _ _ _ HT.out).mono ?_; rintro e w' ⟨rfl, rfl⟩))
    go_ret
    exact ⟨rfl, below_drew' _ _⟩
  · have hcr : crB p t = true := by unfold crB; rw [hg, ht]; rfl
    have HG := hid hg
    have HT := hid ht
    have HCI := hid fun W (h : Cells W A p) => chIsCore_any A c p t W hcr h
    obtain ⟨b, hb⟩ : ∃ b, b = isCoreF p t := ⟨_, rfl⟩
    rw [← hb] at HCI ⊢
    clear hcr hg ht hb
    have HCW := hid fun n => (show Cells (w.drewN n) A p from hc)
    go_enter Try.func91, Try.ntmps91
    go_wp2_with (first | (go_at_call 64; refine (ptGood_b _ _ _ _ hl hc _ HG.out).mono ?_; rintro e w' ⟨rfl, n, rfl⟩) | (go_at_call 97; refine (chRunners_b _ _ _ HT.out).mono ?_; rintro e w' ⟨rfl, rfl⟩) | (go_at_call 117; refine (HCI.out _ (HCW.out _)).mono ?_; rintro e w2 ⟨rfl, b2⟩))
    go_ret
    exact ⟨rfl, Below.next (below_drew' w n) b2⟩

set_option maxHeartbeats 2000000 in
theorem impl_ReflectCore' {B : Nat} (A : Option Addr) (c : Nat) (p : List Int) (t i : Int) (w : World) (hl : p.length ≤ 1048576) (ho : Own w B A c p) (h64 : I64 t) :
    Calls Try.prog 53 #[.slice A p.length c, .int .i64 t, .int .i64 i] w fun e w' => ∃ A' c', e = .returned (.tuple #[.slice A' (rfF p t i).length c', .bool (rfOk p t i)]) ∧ Own w' w.heap.size A' c' (rfF p t i) ∧ Below w.heap.size w w' := by
  have HIC := hid (impl_IsCore A c p t w hl ho.cells h64)
  cases hcr : isCoreF p t
  · have h : rfOk p t i = false := by unfold rfOk; rw [hcr]; rfl
    rw [rf_no h, h]
    rw [hcr] at HIC
    obtain ⟨b, hb⟩ : ∃ b, b = crB p t := ⟨_, rfl⟩
    rw [← hb] at HIC
    clear hcr h hb ho
    go_enter Try.func53, Try.ntmps53
    go_wp2_with fail
    refine HIC.out.mono ?_
    rintro e w1 ⟨rfl, b1⟩
    go_wp2_with fail
    go_ret2
    exact ⟨none, 0, rfl, own_nil _ _, b1⟩
  have hc := core_cr hcr
  obtain ⟨hg, ht⟩ := crB_good hc
  have hin := inB_iff.1 ht
  rw [hcr, hc] at HIC
  cases hrs : rsB t i
  · have h : rfOk p t i = false := by unfold rfOk; rw [hrs]; simp
    rw [rf_no h, h]
    have HRS := hid hrs
    clear hcr h ho hc hg ht hrs hin
    go_enter Try.func53, Try.ntmps53
    go_wp2_with fail
    refine HIC.out.mono ?_
    rintro e w1 ⟨rfl, b1⟩
    go_wp2_with (go_at_call 93; refine (isResidue_b _ _ _ _ HRS.out).mono ?_; rintro e w' ⟨rfl, rfl⟩)
    go_ret2
    exact ⟨none, 0, rfl, own_nil _ _, b1⟩
  obtain ⟨t, rfl⟩ : ∃ m : Nat, t = m := ⟨t.toNat, by omega⟩
  have G := (good_iff p).1 hg
  have hok : rfOk p t i = good (rfL p t i) := by unfold rfOk; rw [hcr, hrs, Int.toNat_natCast]; rfl
  have hF : rfF p t i = if good (rfL p t i) = true then rfL p t i else [] := by
    unfold rfF; rw [hok, Int.toNat_natCast]
  rw [hok, hF]
  have HRS := hid hrs
  have HRA := hid fun W => reflectionAt_any t i W
  have HRF := hid fun T I H W h1 h2 h3 (h : Own W B A c p) => reflect_any T I H t i A c p W G (by omega) h1 h2 h3 h
  have HO := hid ho
  obtain ⟨Fn, hFn⟩ : ∃ Fn, Fn = if good (rfL p t i) = true then rfL p t i else [] := ⟨_, rfl⟩
  obtain ⟨gb, hgb⟩ : ∃ gb, gb = good (rfL p t i) := ⟨_, rfl⟩
  rw [← hFn, ← hgb] at HRF ⊢
  clear hcr hrs ho hc hg ht hin G hok hF hFn hgb
  go_enter Try.func53, Try.ntmps53
  go_wp2_with fail
  refine HIC.out.mono ?_
  rintro e w1 ⟨rfl, b1⟩
  go_wp2_with (first | (go_at_call 93; refine (isResidue_b _ _ _ _ HRS.out).mono ?_; rintro e w' ⟨rfl, rfl⟩) | (go_at_call 94; refine (HRA.out _).mono ?_; rintro e w2 ⟨T, I, H, rfl, c1, c2, c3, b2⟩; have B2 := hid (Below.next b1 b2); have HO2 := hid ((HO.out.below b1).below b2)) | (go_at_call 123; refine (HRF.out T I H _ c1 c2 c3 HO2.out).mono ?_; rintro e w3 ⟨A3, c3', rfl, o3, b3⟩))
  go_ret2
  exact ⟨A3, c3', rfl, o3.more B2.out.size, Below.next B2.out b3⟩
theorem impl_ReflectCore {B : Nat} (A : Option Addr) (c : Nat) (p : List Int) (t i : Int) (w : World) (hl : p.length ≤ 1048576) (ho : Own w B A c p) (h64 : I64 t) (_h64i : I64 i) :
    Calls Try.prog 53 #[.slice A p.length c, .int .i64 t, .int .i64 i] w fun e w' => ∃ A' c', e = .returned (.tuple #[.slice A' (rfF p t i).length c', .bool (rfOk p t i)]) ∧ Own w' w.heap.size A' c' (rfF p t i) ∧ Below w.heap.size w w' :=
  impl_ReflectCore' A c p t i w hl ho h64


set_option maxHeartbeats 2000000 in
theorem spec_ReflectCore {B : Nat} (A : Option Addr) (c : Nat) (p : List Int) (t i : Int) (w : World) (hl : p.length ≤ 1048576) (ho : Own w B A c p) (_h64 : I64 t) (_h64i : I64 i) :
    Calls Try.prog 52 #[.slice A p.length c, .int .i64 t, .int .i64 i] w fun e w' => ∃ A' c', e = .returned (.tuple #[.slice A' (rfF p t i).length c', .bool (rfOk p t i)]) ∧ Own w' w.heap.size A' c' (rfF p t i) ∧ Below w.heap.size w w' := by
  have HIC := hid (chCoreOf_any A c p t w hl ho.cells)
  cases hcr : isCoreF p t
  · have h : rfOk p t i = false := by unfold rfOk; rw [hcr]; rfl
    rw [rf_no h, h]
    rw [hcr] at HIC
    clear hcr h ho
    go_enter Try.func52, Try.ntmps52
    go_wp2_with (go_at_call 91; refine HIC.out.mono ?_; rintro e w1 ⟨rfl, b1⟩)
    go_ret2
    exact ⟨none, 0, rfl, own_nil _ _, b1⟩
  have hc := core_cr hcr
  obtain ⟨hg, ht⟩ := crB_good hc
  have hin := inB_iff.1 ht
  rw [hcr] at HIC
  have hrb : inB 0 (t - 1) i = rsB t i := by
    rw [Bool.eq_iff_iff, inB_iff]; unfold rsB; simp only [Bool.and_eq_true, decide_eq_true_eq]; omega
  cases hrs : rsB t i
  · have h : rfOk p t i = false := by unfold rfOk; rw [hrs]; simp
    rw [rf_no h, h]
    have HRS := hid (hrb.trans hrs)
    clear hcr h ho hc hg ht hrs hrb
    go_enter Try.func52, Try.ntmps52
    go_wp2_with (first | (go_at_call 91; refine HIC.out.mono ?_; rintro e w1 ⟨rfl, b1⟩) | (go_at_call 83; refine (l1In_b _ _ _ _ _ HRS.out).mono ?_; rintro e w' ⟨rfl, rfl⟩))
    go_ret2
    exact ⟨none, 0, rfl, own_nil _ _, b1⟩
  obtain ⟨t, rfl⟩ : ∃ m : Nat, t = m := ⟨t.toNat, by omega⟩
  have G := (good_iff p).1 hg
  have hi := inB_iff.1 (hrb.trans hrs)
  have hok : rfOk p t i = good (rfL p t i) := by unfold rfOk; rw [hcr, hrs, Int.toNat_natCast]; rfl
  have hF : rfF p t i = if good (rfL p t i) = true then rfL p t i else [] := by
    unfold rfF; rw [hok, Int.toNat_natCast]
  rw [hok, hF]
  have HRS := hid (hrb.trans hrs)
  have HRF := hid fun W (h : Own W B A c p) => chReflect_any t i A c p W G (by omega) (by omega) h
  have HO := hid ho
  have h30 : (rfL p t i).length ≤ 1048576 := by
    have := rfK_le p t i
    have := G.len
    rw [show (rfL p t i).length = rfK p t i from fnRow_len _ _]; omega
  obtain ⟨R, hR⟩ : ∃ R, R = rfL p t i := ⟨_, rfl⟩
  rw [← hR] at HRF h30 ⊢
  obtain ⟨gw, hgw⟩ : ∃ gw, gw = grw p t i := ⟨_, rfl⟩
  rw [← hgw] at HRF
  clear hcr hrs hrb ho hc hg ht G hok hF hR hgw
  cases hgd : good R
  · have HGD := hid hgd
    clear hgd
    rw [if_neg (by decide)]
    go_enter Try.func52, Try.ntmps52
    go_wp2_with (first | (go_at_call 91; refine HIC.out.mono ?_; rintro e w1 ⟨rfl, b1⟩) | (go_at_call 83; refine (l1In_b _ _ _ _ _ HRS.out).mono ?_; rintro e w' ⟨rfl, rfl⟩) | (go_at_call 92; refine (HRF.out _ (HO.out.below b1)).mono ?_; rintro e w2 ⟨A2, c2, rfl, o2, b2⟩; have B2 := hid (Below.next b1 b2); have O2 := hid o2) | (go_at_call 64; refine (ptGood_b _ _ _ _ h30 O2.out.cells _ HGD.out).mono ?_; rintro e w' ⟨rfl, n, rfl⟩))
    go_ret2
    exact ⟨none, 0, rfl, own_nil _ _, below_drewN B2.out _⟩
  · have HGD := hid hgd
    clear hgd
    rw [if_pos rfl]
    go_enter Try.func52, Try.ntmps52
    go_wp2_with (first | (go_at_call 91; refine HIC.out.mono ?_; rintro e w1 ⟨rfl, b1⟩) | (go_at_call 83; refine (l1In_b _ _ _ _ _ HRS.out).mono ?_; rintro e w' ⟨rfl, rfl⟩) | (go_at_call 92; refine (HRF.out _ (HO.out.below b1)).mono ?_; rintro e w2 ⟨A2, c2, rfl, o2, b2⟩; have B2 := hid (Below.next b1 b2); have O2 := hid (o2.more b1.size)) | (go_at_call 64; refine (ptGood_b _ _ _ _ h30 O2.out.cells _ HGD.out).mono ?_; rintro e w' ⟨rfl, n, rfl⟩))
    go_ret2
    exact ⟨A2, c2, rfl, own_drewN' O2.out _, below_drewN B2.out _⟩
end Go.Proofs.Ytblkmomcdchdoaa
