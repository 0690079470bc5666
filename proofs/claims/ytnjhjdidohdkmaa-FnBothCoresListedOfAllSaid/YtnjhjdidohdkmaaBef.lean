/-
  The model's order of partitions; a place in an ordered list.
-/
import Derived.Test.YtnjhjdidohdkmaaSets
import Derived.Test.YtnjhjdidohdkmaaCut
import Derived.Test.YtnjhjdidohdkmaaFst
import Derived.Test.YtnjhjdidohdkmaaGrt
namespace Go.Proofs.Ytnjhjdidohdkmaa
open Go.RowKit

def befB : List Int → List Int → Bool
  | x :: p, y :: q => if x = y then befB p q else decide (y < x)
  | _, _ => false
theorem befB_end {p q : List Int} {k : Nat} (h : p.length ≤ k ∨ q.length ≤ k) : befB (p.drop k) (q.drop k) = false := by
  rcases h with h | h
  · rw [List.drop_eq_nil_of_le h]; rfl
  · rw [List.drop_eq_nil_of_le h]; cases p.drop k <;> rfl
theorem drop_getD (xs : List Int) (k : Nat) (h : k < xs.length) : xs.drop k = xs.getD k 0 :: xs.drop (k + 1) := by
  rw [List.drop_eq_getElem_cons h, List.getD_eq_getElem?_getD, List.getElem?_eq_getElem h]; rfl
theorem befB_eq {p q : List Int} {k : Nat} (h1 : k < p.length) (h2 : k < q.length) (h : p.getD k 0 = q.getD k 0) : befB (p.drop k) (q.drop k) = befB (p.drop (k + 1)) (q.drop (k + 1)) := by
  rw [drop_getD p k h1, drop_getD q k h2, befB, if_pos h]
theorem befB_ne {p q : List Int} {k : Nat} (h1 : k < p.length) (h2 : k < q.length) (h : p.getD k 0 ≠ q.getD k 0) : befB (p.drop k) (q.drop k) = decide (q.getD k 0 < p.getD k 0) := by
  rw [drop_getD p k h1, drop_getD q k h2, befB, if_neg h]

set_option maxRecDepth 100000 in
set_option maxHeartbeats 2000000 in
theorem chBefore_any (A B : Option Addr) (c d : Nat) (xs ys : List Int) (w : World) (hl : xs.length ≤ 1048576) (hl2 : ys.length ≤ 1048576) (hA : Cells w A xs) (hB : Cells w B ys) :
    Calls Try.prog 55 #[.slice A xs.length c, .slice B ys.length d] w fun e w' => e = .returned (.bool (befB xs ys)) ∧ ∃ n, w' = w.drewN n := by
  have HR := hid (show befB xs ys = befB (xs.drop 0) (ys.drop 0) from rfl)
  obtain ⟨R, hR⟩ : ∃ R, R = befB xs ys := ⟨_, rfl⟩
  rw [← hR] at HR ⊢
  clear hR
  go_enter Try.func55, Try.ntmps55
  go_wp2_with fail
  go_loopw [5] (fun i wr => ∃ k : Nat, k ≤ xs.length ∧ k ≤ ys.length ∧ i = .int .i64 k ∧ Hid (R = befB (xs.drop k) (ys.drop k)) ∧ ∃ n, wr = w.drewN n) (fun i _ => xs.length - (intOf i).toNat)
  case atStart => exact ⟨0, Nat.zero_le _, Nat.zero_le _, rfl, HR, 0, rfl⟩
  case round =>
    obtain ⟨k, hk, hk2, rfl, HE, n, rfl⟩ := hrel
    by_cases hlt : k < xs.length
    · by_cases hlt2 : k < ys.length
      · obtain ⟨b, o, rfl, hcc⟩ := hA (by omega)
        obtain ⟨b2, o2, rfl, hcc2⟩ := hB (by omega)
        have hck := hcc k hlt
        have hck2 := hcc2 k hlt2
        have H1 := hid (befB_eq hlt hlt2)
        have H2 := hid (befB_ne hlt hlt2)
        clear hcc hcc2
        obtain ⟨x, hx⟩ : ∃ x, x = xs.getD k 0 := ⟨_, rfl⟩
        obtain ⟨y, hy⟩ : ∃ y, y = ys.getD k 0 := ⟨_, rfl⟩
        rw [← hx] at hck H1 H2
        rw [← hy] at hck2 H1 H2
        clear hx hy
        by_cases he : x = y
        · have HS := hid (HE.out.trans (H1.out he))
          subst he
          go_wp2_with fail
          go_quiet (fail)
          go_wp2_with fail
          go_roundw
          case rel => exact ⟨k + 1, by omega, by omega, by go_num, HS, _, rfl⟩
          case measure => simp [intOf]; omega
        · have heb : (x != y) = true := by simpa using he
          have heb2 : (x == y) = false := by simpa using he
          have HS := hid (HE.out.trans (H2.out he))
          clear he
          go_wp2_with fail
          go_quiet (fail)
          go_wp2_with fail
          go_quiet (fail)
          go_wp2_with fail
          go_ret
          exact ⟨ret_bool HS.out.symm, _, by simp only [World.drewN_drewN]; rfl⟩
      · have HS := hid (HE.out.trans (befB_end (.inr (by omega))))
        go_wp2_with fail
        go_ret
        exact ⟨ret_bool HS.out.symm, n, rfl⟩
    · have HS := hid (HE.out.trans (befB_end (.inl (by omega))))
      go_wp2_with fail
      go_ret
      exact ⟨ret_bool HS.out.symm, n, rfl⟩

/-! The place of a partition. -/
def aftB (row p : List Int) : Bool := decide (p.sum < row.sum) || (decide (row.sum = p.sum) && befB p row)
def kIns (rows : List (List Int)) (p : List Int) : Nat → Nat
  | 0 => 0
  | k + 1 => if aftB (rows.getD k []) p = true then kIns rows p k else k + 1
theorem kIns_le (rows : List (List Int)) (p : List Int) : ∀ k, kIns rows p k ≤ k
  | 0 => Nat.le_refl _
  | k + 1 => by
    have := kIns_le rows p k
    rw [kIns]; split <;> omega
def insP (rows : List (List Int)) (p : List Int) : List (List Int) := insR rows (kIns rows p rows.length) p
theorem insP_len (rows : List (List Int)) (p : List Int) : (insP rows p).length = rows.length + 1 := insR_len (kIns_le _ _ _) p
def boK (S : List (List Int)) (m : Nat) : List (List Int) := ((S.take m).map ffF).foldl insP []
theorem boK_succ (S : List (List Int)) (m : Nat) (h : m < S.length) : boK S (m + 1) = insP (boK S m) (ffF (S.getD m [])) := by
  unfold boK
  rw [List.take_succ_eq_append_getElem h, List.map_append, List.foldl_append, List.getD_eq_getElem?_getD, List.getElem?_eq_getElem h]; rfl
theorem boK_len (S : List (List Int)) : ∀ m, m ≤ S.length → (boK S m).length = m
  | 0, _ => rfl
  | m + 1, h => by rw [boK_succ S m h, insP_len, boK_len S m (by omega)]
theorem ffF_good (H : List Int) : good (ffF H) = true := by
  unfold ffF
  split
  · rename_i h
    simp only [ffOk, Bool.and_eq_true] at h
    exact h.2.2
  · rfl
theorem insR_all {Q : List Int → Prop} {rows : List (List Int)} {p : List Int} (k : Nat) (h : ∀ r ∈ rows, Q r) (hp : Q p) : ∀ r ∈ insR rows k p, Q r := by
  intro r hr
  unfold insR at hr
  rw [List.mem_append, List.mem_cons] at hr
  rcases hr with hr | rfl | hr
  · exact h r (List.mem_of_mem_take hr)
  · exact hp
  · exact h r (List.mem_of_mem_drop hr)
theorem boK_good (S : List (List Int)) : ∀ m, m ≤ S.length → ∀ r ∈ boK S m, good r = true
  | 0, _ => fun r hr => by cases hr
  | m + 1, h => by
    rw [boK_succ S m h]
    exact insR_all _ (boK_good S m (by omega)) (ffF_good _)
def boS (a b : Int) : List (List Int) := bsL a b (gapsL a b) []
def boL (a b : Int) : List (List Int) := boK (boS a b) (boS a b).length

theorem addr_add0 (g k : Nat) : (⟨g, 0, none⟩ : Addr).add k = ⟨g, k, none⟩ := by
  unfold Addr.add
  split
  · rename_i h; subst h; rfl
  · simp
theorem addr_add_add (a : Addr) (k j : Nat) : (a.add k).add j = a.add (k + j) := by
  unfold Addr.add
  by_cases h1 : k = 0
  · subst h1; simp
  · by_cases h2 : j = 0
    · subst h2; simp [h1]
    · rw [if_neg h1, if_neg h2, if_neg (by omega)]; simp [Nat.add_assoc]
theorem cut_take {w W : World} {A : Option Addr} {L : List Value} (h : ∀ ad, A = some ad → ∀ j u, L[j]? = some u → w.cell? (ad.add j) = some u) (hW : Below w.heap.size w W) (k : Nat) :
    ∀ ad, A = some ad → ∀ j u, (L.take k)[j]? = some u → W.cell? (ad.add j) = some u := by
  intro ad e j u hu
  rw [List.getElem?_take] at hu
  split at hu
  · have h1 := h ad e j u hu
    rw [hW.cell (World.block_lt_of_cell? w _ h1), h1]
  · cases hu
theorem cut_drop {w W : World} {A : Option Addr} {L : List Value} {c : Nat} (h : ∀ ad, A = some ad → ∀ j u, L[j]? = some u → w.cell? (ad.add j) = some u) (hW : Below w.heap.size w W) (k : Nat) (hc : L.length ≤ c) :
    ∀ ad, cutA A c k = some ad → ∀ j u, (L.drop k)[j]? = some u → W.cell? (ad.add j) = some u := by
  intro ad e j u hu
  rw [List.getElem?_drop] at hu
  have hj := (List.getElem?_eq_some_iff.1 hu).1
  cases A with
  | none => rw [cutA_none] at e; cases e
  | some a0 =>
    rw [cutA_some (by omega)] at e
    cases e
    have h1 := h a0 rfl (k + j) u hu
    rw [addr_add_add, hW.cell (World.block_lt_of_cell? w _ h1), h1]
end Go.Proofs.Ytnjhjdidohdkmaa
