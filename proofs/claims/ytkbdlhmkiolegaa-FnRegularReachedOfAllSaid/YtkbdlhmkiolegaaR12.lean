/-
  Several texts in one.
-/
import Derived.Test.YtkbdlhmkiolegaaCB
import Derived.Test.YtkbdlhmkiolegaaCA
import Derived.Deep.QuietTactic
import Derived.BigQuiet
import Derived.Test.YtkbdlhmkiolegaaR07
import Derived.Test.YtkbdlhmkiolegaaR11
/-
  Contracts: two rows of ints compared, by the program (Equal) and by the model (made by gensame.py).
-/
namespace Go.Proofs.Ytkbdlhmkiolegaa
open Go.RowKit

theorem rows_ext {xs ys : List Int} (hl : xs.length = ys.length) (h : ∀ j, j < xs.length → xs.getD j 0 = ys.getD j 0) : xs = ys := by
  apply List.ext_getElem hl
  intro j h1 h2
  have := h j h1
  rw [List.getD_eq_getElem?_getD, List.getD_eq_getElem?_getD, List.getElem?_eq_getElem h1, List.getElem?_eq_getElem h2] at this
  exact this

set_option maxHeartbeats 1000000 in
theorem equal_any (A B : Option Addr) (c d : Nat) (xs ys : List Int) (w : World) (hl : xs.length ≤ 1048576) (_ : ys.length ≤ 1048576) (hA : Cells w A xs) (hB : Cells w B ys) :
    Calls Try.prog 46 #[.slice A xs.length c, .slice B ys.length d] w fun e w' => e = .returned (.bool (decide (xs = ys))) ∧ ∃ n, w' = w.drewN n := by
  by_cases hlen : xs.length = ys.length
  · have HL := hid hlen
    rw [← hlen]
    clear hlen
    go_enter Try.func46, Try.ntmps46
    go_wp2_with fail
    go_loopw [13] (fun i wr => ∃ k : Nat, k ≤ xs.length ∧ i = .int .i64 k ∧ Hid (∀ j, j < k → xs.getD j 0 = ys.getD j 0) ∧ ∃ n, wr = w.drewN n) (fun i _ => xs.length - (intOf i).toNat)
    case atStart => exact ⟨0, Nat.zero_le _, rfl, hid fun j hj => absurd hj (Nat.not_lt_zero _), 0, rfl⟩
    case round =>
      obtain ⟨k, hk, rfl, HE, n, rfl⟩ := hrel
      by_cases hlt : k < xs.length
      · obtain ⟨b, o, rfl, hcc⟩ := hA (by omega)
        obtain ⟨b2, o2, rfl, hcc2⟩ := hB (by rw [← HL.out]; omega)
        have hck := hcc k hlt
        have hck2 := hcc2 k (by rw [← HL.out]; exact hlt)
        clear hcc hcc2
        obtain ⟨x, hx⟩ : ∃ x, x = xs.getD k 0 := ⟨_, rfl⟩
        obtain ⟨y, hy⟩ : ∃ y, y = ys.getD k 0 := ⟨_, rfl⟩
        rw [← hx] at hck
        rw [← hy] at hck2
        have HX := hid hx; have HY := hid hy
        clear hx hy
        by_cases he : x = y
        · subst he
          go_wp2_with fail
          go_quiet (fail)
          go_wp2_with fail
          go_roundw
          case rel => exact ⟨k + 1, by omega, by go_num, hid fun j hj => by
            rcases Nat.lt_or_ge j k with h | h
            · exact HE.out j h
            · rw [show j = k by omega, ← HX.out, ← HY.out], _, rfl⟩
          case measure => simp [intOf]; omega
        · have heb : (x != y) = true := by simpa using he
          have heb2 : (x == y) = false := by simpa using he
          have HN := hid he
          clear he
          go_wp2_with fail
          go_quiet (fail)
          go_wp2_with fail
          go_ret
          exact ⟨ret_bool (decide_eq_false fun e => HN.out (by rw [HX.out, HY.out, e])).symm, _, World.drewN_drewN ..⟩
      · go_wp2_with fail
        go_ret
        refine ⟨ret_bool (decide_eq_true ?_).symm, n, rfl⟩
        exact rows_ext HL.out fun j hj => HE.out j (by omega)
  · have h1 : ¬ (xs.length : Int) = (ys.length : Int) := by omega
    have heb : ((xs.length : Int) != (ys.length : Int)) = true := by simpa using h1
    have heb2 : ((xs.length : Int) == (ys.length : Int)) = false := by simpa using h1
    have HN := hid hlen
    clear hlen h1
    go_enter Try.func46, Try.ntmps46
    go_wp2_with fail
    go_ret
    exact ⟨ret_bool (decide_eq_false fun e => HN.out (by rw [e])).symm, 0, rfl⟩
theorem equal_b (A B : Option Addr) (c d : Nat) (xs ys : List Int) (w : World) (hl : xs.length ≤ 1048576) (hl2 : ys.length ≤ 1048576) (hA : Cells w A xs) (hB : Cells w B ys) (b : Bool) (h : decide (xs = ys) = b) :
    Calls Try.prog 46 #[.slice A xs.length c, .slice B ys.length d] w fun e w' => e = .returned (.bool b) ∧ ∃ n, w' = w.drewN n := by
  subst h; exact equal_any A B c d xs ys w hl hl2 hA hB

end Go.Proofs.Ytkbdlhmkiolegaa
/-
  The laws' own helpers: qSame, qSameRows, qSum (XEsr with other names).
-/
namespace Go.Proofs.Ytkbdlhmkiolegaa
open Go.RowKit

set_option maxHeartbeats 1000000 in
theorem qSame_d (A B : Option Addr) (c d : Nat) (xs ys : List Int) (w : World) (hl : xs.length ≤ 1048576) (_ : ys.length ≤ 1048576) (hA : Cells w A xs) (hB : Cells w B ys) :
    Calls Try.prog 13 #[.slice A xs.length c, .slice B ys.length d] w fun e w' => e = .returned (.bool (decide (xs = ys))) ∧ ∃ n, w' = w.drewN n := by
  by_cases hlen : xs.length = ys.length
  · have HL := hid hlen
    rw [← hlen]
    clear hlen
    go_enter Try.func13, Try.ntmps13
    go_wp2_with fail
    go_loopw [13] (fun i wr => ∃ k : Nat, k ≤ xs.length ∧ i = .int .i64 k ∧ Hid (∀ j, j < k → xs.getD j 0 = ys.getD j 0) ∧ ∃ n, wr = w.drewN n) (fun i _ => xs.length - (intOf i).toNat)
    case atStart => exact ⟨0, Nat.zero_le _, rfl, hid fun j hj => absurd hj (Nat.not_lt_zero _), 0, rfl⟩
    case round =>
      obtain ⟨k, hk, rfl, HE, n, rfl⟩ := hrel
      by_cases hlt : k < xs.length
      · obtain ⟨b, o, rfl, hcc⟩ := hA (by omega)
        obtain ⟨b2, o2, rfl, hcc2⟩ := hB (by rw [← HL.out]; omega)
        have hck := hcc k hlt
        have hck2 := hcc2 k (by rw [← HL.out]; exact hlt)
        clear hcc hcc2
        obtain ⟨x, hx⟩ : ∃ x, x = xs.getD k 0 := ⟨_, rfl⟩
        obtain ⟨y, hy⟩ : ∃ y, y = ys.getD k 0 := ⟨_, rfl⟩
        rw [← hx] at hck
        rw [← hy] at hck2
        have HX := hid hx; have HY := hid hy
        clear hx hy
        by_cases he : x = y
        · subst he
          go_wp2_with fail
          go_quiet (fail)
          go_wp2_with fail
          go_roundw
          case rel => exact ⟨k + 1, by omega, by go_num, hid fun j hj => by
            rcases Nat.lt_or_ge j k with h | h
            · exact HE.out j h
            · rw [show j = k by omega, ← HX.out, ← HY.out], _, rfl⟩
          case measure => simp [intOf]; omega
        · have heb : (x != y) = true := by simpa using he
          have heb2 : (x == y) = false := by simpa using he
          have HN := hid he
          clear he
          go_wp2_with fail
          go_quiet (fail)
          go_wp2_with fail
          go_ret
          exact ⟨ret_bool (decide_eq_false fun e => HN.out (by rw [HX.out, HY.out, e])).symm, _, World.drewN_drewN ..⟩
      · go_wp2_with fail
        go_ret
        refine ⟨ret_bool (decide_eq_true ?_).symm, n, rfl⟩
        exact rows_ext HL.out fun j hj => HE.out j (by omega)
  · have h1 : ¬ (xs.length : Int) = (ys.length : Int) := by omega
    have heb : ((xs.length : Int) != (ys.length : Int)) = true := by simpa using h1
    have heb2 : ((xs.length : Int) == (ys.length : Int)) = false := by simpa using h1
    have HN := hid hlen
    clear hlen h1
    go_enter Try.func13, Try.ntmps13
    go_wp2_with fail
    go_ret
    exact ⟨ret_bool (decide_eq_false fun e => HN.out (by rw [e])).symm, 0, rfl⟩
set_option maxRecDepth 100000 in
set_option maxHeartbeats 1000000 in
theorem qRows_e (A B : Option Addr) (c d : Nat) (L : List (List Int)) (w : World) (hL : L.length ≤ 10000) (hrow : ∀ k, k < L.length → (L.getD k []).length ≤ 1048576) (hA : Cells2 w A L) (hB : Cells2 w B L) :
    Calls Try.prog 7 #[.slice A L.length c, .slice B L.length d] w fun e w' => e = .returned (.bool true) ∧ ∃ n, w' = w.drewN n := by
  obtain ⟨P, C, h1, h2⟩ := hA
  obtain ⟨P', C', h1', h2'⟩ := hB
  have H1 := hid h1
  have H2 := hid h2
  have H1' := hid h1'
  have H2' := hid h2'
  have HROW := hid hrow
  clear h1 h2 h1' h2' hrow
  go_enter Try.func7, Try.ntmps7
  go_wp2_with fail
  go_loopw [13] (fun i wr => ∃ k : Nat, k ≤ L.length ∧ i = .int .i64 k ∧ ∃ n, wr = w.drewN n) (fun i _ => L.length - (intOf i).toNat)
  case atStart => exact ⟨0, Nat.zero_le _, rfl, 0, rfl⟩
  case round =>
    obtain ⟨k, hk, rfl, n, hwn⟩ := hrel
    by_cases hlt : k < L.length
    · obtain ⟨b, o, rfl, hcc⟩ := H1.out (by omega)
      obtain ⟨b', o', rfl, hcc'⟩ := H1'.out (by omega)
      have hsame : ∀ p, wr.cell? p = w.cell? p := fun p => by rw [hwn]; rfl
      have hck := (hsame ⟨b, o + k, none⟩).trans (hcc k hlt)
      have hck' := (hsame ⟨b', o' + k, none⟩).trans (hcc' k hlt)
      have hx1 : Cells wr (P k) (L.getD k []) := by rw [hwn]; exact H2.out k hlt
      have hx2 : Cells wr (P' k) (L.getD k []) := by rw [hwn]; exact H2'.out k hlt
      have HQ := hid fun W (hx : Cells W (P k) (L.getD k [])) (hy : Cells W (P' k) (L.getD k [])) => qSame_d (P k) (P' k) (C k) (C' k) (L.getD k []) (L.getD k []) W (HROW.out k hlt) (HROW.out k hlt) hx hy
      rw [decide_eq_true rfl] at HQ
      obtain ⟨r, hr⟩ : ∃ r, r = L.getD k [] := ⟨_, rfl⟩
      rw [← hr] at hck hck' HQ hx1 hx2
      have HWN := hid hwn
      clear hcc hcc' hr hwn hsame
      go_wp2_with fail
      go_quiet ((go_at_call 13; exact Calls.quiet_of (HQ.out _ hx1 hx2)))
      go_wp2_with fail
      go_roundw
      case rel => exact ⟨k + 1, by omega, by go_num, by rw [HWN.out]; exact drew2 _ _⟩
      case measure => simp [intOf]; omega
    · have HWN := hid hwn
      clear hwn
      go_wp2_with fail
      go_ret
      exact ⟨rfl, _, HWN.out⟩
set_option maxHeartbeats 400000 in
theorem qSum_e (A : Option Addr) (xs : List Int) (c : Nat) (w : World) (hl : xs.length ≤ 30) (hb : ∀ j, j < xs.length → 0 ≤ xs.getD j 0 ∧ xs.getD j 0 ≤ 10000) (hc : Cells w A xs) :
    Calls Try.prog 9 #[.slice A xs.length c] w fun e w' => e = .returned (.int .i64 xs.sum) ∧ w = w' := by
  have HB := hid hb; clear hb
  go_enter Try.func9, Try.ntmps9
  go_wp2
  go_loop [3, 8] (fun s i => ∃ k : Nat, k ≤ xs.length ∧ i = .int .i64 k ∧ s = .int .i64 (xs.take k).sum) (fun _ i => xs.length - (intOf i).toNat)
  case atStart => exact ⟨0, Nat.zero_le _, rfl, by simp⟩
  case round =>
    obtain ⟨k, hk, rfl, rfl⟩ := hrel
    have hsb := sum_take_bound xs 10000 HB.out (by omega) k
    obtain ⟨s, hs⟩ : ∃ s, s = (xs.take k).sum := ⟨_, rfl⟩
    rw [← hs] at hsb ⊢
    have HS := hid hs; clear hs
    by_cases hlt : k < xs.length
    · obtain ⟨b, o, rfl, hcc⟩ := hc (by omega)
      have hck := hcc k hlt
      have hxb := HB.out k hlt
      clear hcc hc
      obtain ⟨x, hx⟩ : ∃ x, x = xs.getD k 0 := ⟨_, rfl⟩
      rw [← hx] at hck hxb
      have HX := hid hx; clear hx
      go_wp2
      go_round
      case rel => exact ⟨k + 1, by omega, by go_num, by rw [sum_take_succ xs k hlt, ← HS.out, ← HX.out]⟩
      case measure => simp [intOf]; omega
    · go_wp2
      go_ret
      exact ⟨ret_int (by rw [HS.out, List.take_of_length_le (by omega)]), rfl⟩
end Go.Proofs.Ytkbdlhmkiolegaa
/-
  Contracts: which row comes before, and regular ones, as the laws ask for them.
-/
namespace Go.Proofs.Ytkbdlhmkiolegaa
open Go.RowKit

set_option maxRecDepth 100000 in
theorem qRegular_any (A : Option Addr) (c : Nat) (xs : List Int) (t : Int) (w : World) (hl : xs.length ≤ 1048576) (hc : Cells w A xs) (h64 : I64 t) :
    Calls Try.prog 8 #[.slice A xs.length c, .int .i64 t] w fun e w' => e = .returned (.bool (rgB xs t)) ∧ Below w.heap.size w w' := by
  have HH := hid (impl_IsRegular A c xs t w hl hc h64)
  have hcr : rgB xs t = true → giB xs t = true := fun h => by unfold rgB at h; rw [Bool.and_eq_true] at h; exact h.1
  have HCR := hid hcr
  obtain ⟨b, hb⟩ : ∃ b, b = rgB xs t := ⟨_, rfl⟩
  obtain ⟨d, hd⟩ : ∃ d, d = giB xs t := ⟨_, rfl⟩
  rw [← hb, ← hd] at HH HCR
  rw [← hb]
  clear hcr hb hd
  cases b <;> cases d
  · go_enter Try.func8, Try.ntmps8
    go_wp2_with fail
    refine (HH.out).mono ?_
    rintro e w1 ⟨rfl, b1⟩
    go_wp2_with fail
    go_ret
    exact ⟨rfl, b1⟩
  · go_enter Try.func8, Try.ntmps8
    go_wp2_with fail
    refine (HH.out).mono ?_
    rintro e w1 ⟨rfl, b1⟩
    go_wp2_with fail
    go_ret
    exact ⟨rfl, b1⟩
  · exact absurd (HCR.out rfl) (by decide)
  · go_enter Try.func8, Try.ntmps8
    go_wp2_with fail
    refine (HH.out).mono ?_
    rintro e w1 ⟨rfl, b1⟩
    go_wp2_with fail
    go_ret
    exact ⟨rfl, b1⟩
theorem bef_at {p q : List Int} {k : Nat} (h1 : k < p.length) (h2 : k < q.length) : befB (p.drop k) (q.drop k) = if p.getD k 0 = q.getD k 0 then befB (p.drop (k + 1)) (q.drop (k + 1)) else decide (q.getD k 0 < p.getD k 0) := by
  rw [drop_getD p k h1, drop_getD q k h2]; rfl
set_option maxRecDepth 100000 in
set_option maxHeartbeats 1000000 in
theorem qBefore_any (A B : Option Addr) (c d : Nat) (xs ys : List Int) (w : World) (hl : xs.length ≤ 1048576) (hl2 : ys.length ≤ 1048576) (hA : Cells w A xs) (hB : Cells w B ys) :
    Calls Try.prog 10 #[.slice A xs.length c, .slice B ys.length d] w fun e w' => e = .returned (.bool (befB xs ys)) ∧ Below w.heap.size w w' := by
  go_enter Try.func10, Try.ntmps10
  go_wp2_with fail
  go_loopw [5] (fun i wr => ∃ k : Nat, k ≤ xs.length ∧ k ≤ ys.length ∧ i = .int .i64 k ∧ Hid (befB xs ys = befB (xs.drop k) (ys.drop k)) ∧ ∃ n, wr = w.drewN n) (fun i _ => xs.length - (intOf i).toNat)
  case atStart => exact ⟨0, Nat.zero_le _, Nat.zero_le _, rfl, hid (by simp), 0, rfl⟩
  case round =>
    obtain ⟨k, hk, hk2, rfl, HE, n, rfl⟩ := hrel
    by_cases hlt : k < xs.length
    · by_cases hlt2 : k < ys.length
      · obtain ⟨b, o, rfl, hcc⟩ := hA (by omega)
        obtain ⟨b2, o2, rfl, hcc2⟩ := hB (by omega)
        have hck := hcc k hlt
        have hck2 := hcc2 k hlt2
        have HF := hid (HE.out.trans (bef_at hlt hlt2))
        clear hcc hcc2
        obtain ⟨x, hx⟩ : ∃ x, x = xs.getD k 0 := ⟨_, rfl⟩
        obtain ⟨y, hy⟩ : ∃ y, y = ys.getD k 0 := ⟨_, rfl⟩
        rw [← hx] at hck HF
        rw [← hy] at hck2 HF
        clear hx hy
        by_cases he : x = y
        · subst he
          go_wp2_with fail
          go_quiet (fail)
          go_wp2_with fail
          go_roundw
          case rel => exact ⟨k + 1, by omega, by omega, by go_num, hid (by rw [HF.out]; simp), _, rfl⟩
          case measure => simp [intOf]; omega
        · have heb : (x != y) = true := by simpa using he
          have heb2 : (x == y) = false := by simpa using he
          have HN := hid he
          clear he
          go_wp2_with fail
          go_quiet (fail)
          go_wp2_with fail
          go_quiet (fail)
          go_wp2_with fail
          go_ret
          exact ⟨ret_bool (by rw [HF.out, if_neg HN.out]), by first | exact below_drew' _ _ | exact Below.next (below_drew' _ _) (below_drew' _ _) | exact Below.next (Below.next (below_drew' _ _) (below_drew' _ _)) (below_drew' _ _)⟩
      · have h2 : ¬ (k : Int) < (ys.length : Int) := by omega
        have HN := hid hlt2
        go_wp2_with fail
        go_ret
        exact ⟨ret_bool (by rw [HE.out, befB_end (.inr (by have := HN.out; omega))]), below_drew' _ _⟩
    · have h1 : ¬ (k : Int) < (xs.length : Int) := by omega
      have HN := hid hlt
      go_wp2_with fail
      go_ret
      exact ⟨ret_bool (by rw [HE.out, befB_end (.inl (by have := HN.out; omega))]), below_drew' _ _⟩
end Go.Proofs.Ytkbdlhmkiolegaa
