/-
  Several texts in one.
-/
import Derived.Test.YtelfapheigobeaaR17
import Derived.Test.YtelfapheigobeaaR18
import Derived.Test.YtelfapheigobeaaR19
import Derived.Test.YtelfapheigobeaaCB
import Derived.Test.YtelfapheigobeaaR12
import Derived.RangeFuncNested
import Derived.Maps.OwnIn
/-
  Doubles of strict partitions: back again, their cores and the bar cores. No walk in this text.
-/
namespace Go.Proofs.Ytelfapheigobeaa
open Go.RowKit

theorem dbl_chk : ((List.range 16).all fun n => (sA 15 n n).all fun p => decide (fdP (dbL p) = p) && decide ((dbL p).sum = 2 * p.sum)) = true := by decide +kernel
theorem dbc_chk : ((List.range 16).all fun n => (sA 15 n n).all fun p => [3, 5].all fun t : Nat => shB (bcR t 31 p).1 && decide (coreL t (dbL p) = dbL (bcR t 31 p).1)) = true := by decide +kernel
theorem dbl_at {p : List Int} (h : shB p = true) {f : List Int → Bool} (hc : ((List.range 16).all fun n => (sA 15 n n).all f) = true) : f p = true := by
  obtain ⟨hs, h15⟩ := shB_t h
  have h0 := (strB_good hs).sum0
  have h1 := List.all_eq_true.1 hc p.sum.toNat (List.mem_range.2 (by omega))
  exact List.all_eq_true.1 h1 p (str_mem hs (by omega))
/-- A double is one, and it is that of its partition. -/
theorem dbl_one {p : List Int} (h : shB p = true) : good (dbL p) = true ∧ fdB (dbL p) = true ∧ fdF (dbL p) = p ∧ (dbL p).sum = 2 * p.sum := by
  obtain ⟨hs, h15⟩ := shB_t h
  obtain ⟨_, _, _, hg⟩ := db_ok hs h15
  have hc := dbl_at h dbl_chk
  simp only [Bool.and_eq_true, decide_eq_true_eq] at hc
  have hf : fdB (dbL p) = true := by
    rw [fd_iff hg, hc.1, hs, Bool.true_and]
    exact decide_eq_true rfl
  exact ⟨hg, hf, by unfold fdF; rw [if_pos hf, hc.1], hc.2⟩
/-- The core of the double is the double of the bar core. -/
theorem dbl_core {p : List Int} (h : shB p = true) {t : Nat} (ht : t = 3 ∨ t = 5) : crB (dbL p) t = true ∧ brtB p t = true ∧ shB (bcF p t) = true ∧ coF (dbL p) t = dbF (bcF p t) := by
  obtain ⟨hg, _, _, _⟩ := dbl_one h
  have hc := List.all_eq_true.1 (dbl_at h dbc_chk) t (by rcases ht with e | e <;> subst e <;> simp)
  simp only [Bool.and_eq_true, decide_eq_true_eq] at hc
  have hb : brtB p t = true := by
    unfold brtB
    rw [(shB_t h).1, Bool.and_true]
    rcases ht with e | e <;> subst e <;> rfl
  have hcr : crB (dbL p) t = true := by
    unfold crB
    rw [hg, Bool.true_and]
    exact inB_iff.2 (by rcases ht with e | e <;> subst e <;> omega)
  have e : bcF p t = (bcR t 31 p).1 := by unfold bcF; rw [if_pos hb]
  refine ⟨hcr, hb, by rw [e]; exact hc.1, ?_⟩
  rw [(co_yes hcr).1, e, hc.2]
  unfold dbF
  rw [if_pos hc.1]
/-- What is halved is doubled again. -/
theorem dbl_two {q : List Int} (h : fdB q = true) : shB (fdF q) = true ∧ dbF (fdF q) = q := by
  have hg : good q = true := by
    unfold fdB at h
    rw [Bool.and_eq_true] at h
    exact h.1
  have h2 := h
  rw [fd_iff hg, Bool.and_eq_true, decide_eq_true_eq] at h2
  have e : fdF q = fdP q := by unfold fdF; rw [if_pos h]
  have hs : shB (fdP q) = true := by
    unfold shB
    rw [h2.1, Bool.true_and]
    refine decide_eq_true ?_
    rcases Int.lt_or_le 15 (fdP q).sum with h3 | h3
    · have h4 := db_no h2.1 h3
      rw [h2.2] at h4
      have := ((good_iff q).1 hg).sum
      omega
    · exact h3
  rw [e]
  exact ⟨hs, by unfold dbF; rw [if_pos hs, h2.2]⟩
end Go.Proofs.Ytelfapheigobeaa
/-
  The library's walk backwards over a list of ints, once more: what the loop's body must keep is the list's own block and the box of the walk.
-/
namespace Go.Proofs.Ytelfapheigobeaa
open Go.RowKit Go.Shelf
attribute [local go_sem] Oper.semAt_some

/-- Block Bs lies as it lay, and block Ba, where there are numbers. -/
def KeepC (Bs Ba n : Nat) (W W' : World) : Prop := W'.heap[Bs]? = W.heap[Bs]? ∧ (0 < n → W'.heap[Ba]? = W.heap[Ba]?)
theorem KeepC.refl (Bs Ba n : Nat) (W : World) : KeepC Bs Ba n W W := ⟨rfl, fun _ => rfl⟩
theorem KeepC.trans {Bs Ba n : Nat} {A B C : World} (h : KeepC Bs Ba n A B) (k : KeepC Bs Ba n B C) : KeepC Bs Ba n A C := ⟨k.1.trans h.1, fun h0 => (k.2 h0).trans (h.2 h0)⟩
theorem KeepC.cell {Bs Ba n : Nat} {W W' : World} (h : KeepC Bs Ba n W W') : W'.cell? ⟨Bs, 0, none⟩ = W.cell? ⟨Bs, 0, none⟩ := by simp [World.cell?, h.1]
theorem KeepC.row {Bs Ba n : Nat} {W W' : World} (h : KeepC Bs Ba n W W') (h0 : 0 < n) {b : Nat} (hb : b = Ba) (j : Nat) : W'.cell? ⟨b, j, none⟩ = W.cell? ⟨b, j, none⟩ := by subst hb; simp [World.cell?, h.2 h0]
theorem keepC_b {Bs Ba n B : Nat} (h : 0 < n → Ba < B) (h2 : Bs < B) (W : World) (l : Nat) (o o' : Obj) (hl : B ≤ l) (ho : W.heap[l]? = some o) (_ : o.isCells = false) (_ : o.isWalk = false) : KeepC Bs Ba n W (W.putObj l o') :=
  ⟨(grownBy_putObj' W l o').block Bs (by have := (Array.getElem?_eq_some_iff.1 ho).1; omega) (by simp; omega), fun h0 => (grownBy_putObj' W l o').block Ba (by have := (Array.getElem?_eq_some_iff.1 ho).1; have := h h0; omega) (by have := h h0; simp; omega)⟩

set_option maxRecDepth 100000 in
set_option maxHeartbeats 2000000 in
theorem back1c_in (F : Fence) (n : Nat) (hF : F.fn 47) (hro : F.round = none) (hn : 1 ≤ n) (l Bs Ba : Nat) (A : Option Addr) (cap : Nat) (zs : List Int) (hreach : zs.length ≤ 1048576) (J Jx : List (Int × Int) → World → Prop)
    (hY : ∀ pre x W, J pre W → pre.length < zs.length → YieldAt F (n - 1) Try.prog l #[.int .i64 x.1, .int .i64 x.2] W fun e W' =>
      (e = .returned (.bool true) ∧ J (pre ++ [x]) W' ∧ KeepC Bs Ba zs.length W W') ∨ (e = .returned (.bool false) ∧ Jx (pre ++ [x]) W'))
    (W : World) (hBs : W.cell? ⟨Bs, 0, none⟩ = some (.slice A zs.length cap)) (hAb : 0 < zs.length → A.map Addr.block = some Ba) (hc : Cells W A zs) (h0 : J [] W) :
    CallsIn F n Try.prog 47 #[.func (.yield l) #[] #[], .pointer (some ⟨Bs, 0, none⟩)] W fun e W' => (∃ v, e = .returned v) ∧
      ((∃ ys, ys = upto (bk zs) zs.length ∧ J ys W') ∨ (∃ pre, (∃ k, k ≤ zs.length ∧ pre = upto (bk zs) k) ∧ Jx pre W')) := by
  refine callsIn_of_wp Try.func47 rfl hF ?_ hro
  simp only [Try.ntmps47, List.size_toArray, List.length_cons, List.length_nil, Nat.reduceAdd, Nat.reduceSub, Array.replicate_succ, Array.replicate_zero, List.push_toArray, List.append_toArray, List.nil_append, List.cons_append]
  have hw0 : IntKind.i64.wrap ((zs.length : Int) - 1) = (zs.length : Int) - 1 := by rw [IntWalk.i64_in _ (by omega)]
  gi_wp2
  gi_loopw [3] (fun i wr => ∃ k : Nat, k ≤ zs.length ∧ i = .int .i64 ((zs.length : Int) - 1 - k) ∧ J (upto (bk zs) k) wr ∧ KeepC Bs Ba zs.length W wr)
    (fun i _ => (intOf i + 1).toNat)
  case atStart => exact ⟨0, Nat.zero_le _, by simp, h0, KeepC.refl _ _ _ _⟩
  case round =>
    obtain ⟨k, hk, rfl, hJs, hnx⟩ := hrel
    have hsl : wr.cell? ⟨Bs, 0, none⟩ = some (.slice A zs.length cap) := hnx.cell.trans hBs
    by_cases hlt : k < zs.length
    · obtain ⟨b, o, rfl, hcc⟩ := hc (by omega)
      have hba : b = Ba := by have := hAb (by omega); simpa using this
      subst hba
      obtain ⟨i, hi⟩ : ∃ i : Nat, i = zs.length - 1 - k := ⟨_, rfl⟩
      have hcx : wr.cell? ⟨b, o + i, none⟩ = some (.int .i64 (zs.getD i 0)) := (hnx.row (by omega) rfl _).trans (hcc i (by omega))
      have hii : (zs.length : Int) - 1 - k = (i : Int) := by omega
      have hil : i < zs.length := by omega
      have hbk : bk zs k = ((i : Int), zs.getD i 0) := by unfold bk; rw [← hi]
      have hup := upto_succ (bk zs) k
      rw [hbk] at hup
      obtain ⟨x, hx⟩ : ∃ x, x = zs.getD i 0 := ⟨_, rfl⟩
      rw [← hx] at hcx hup
      have HUP := hid hup
      have HI := hid hi
      have HBK := hid hbk
      rw [hii]
      obtain ⟨fn, tmps, assign, body, hy, hR⟩ := hY _ ((i : Int), x) wr hJs (by rw [upto_length]; exact hlt)
      dsimp only at hy
      have hwi : IntKind.i64.wrap ((i : Int) - 1) = (i : Int) - 1 := by rw [IntWalk.i64_in _ (by omega)]
      clear hcc hx hup hi hbk
      gi_wp2
      refine hR.mono ?_
      rintro e W3 (⟨rfl, hJ3, hk3⟩ | ⟨rfl, hJx3⟩)
      · gi_wp2
        go_roundw
        case rel => exact ⟨k + 1, by omega, by congr 1; omega, by rw [HUP.out]; exact hJ3, hnx.trans hk3⟩
        case measure => simp [intOf]
      · gi_wp2
        refine bodyPost_ret (results_none rfl _ _ _) rfl ?_
        exact ⟨⟨_, rfl⟩, .inr ⟨_, ⟨k + 1, by omega, HUP.out.symm⟩, hJx3⟩⟩
    · obtain rfl : k = zs.length := by omega
      have hm1 : (zs.length : Int) - 1 - (zs.length : Nat) = -1 := by omega
      rw [hm1]
      gi_wp2
      go_end0
      exact ⟨⟨_, rfl⟩, .inl ⟨_, rfl, hJs⟩⟩

theorem backc_stops (F : Fence) (n : Nat) (hF : F.fn 47) (hro : F.round = none) (hn : 1 ≤ n) (Bs Ba : Nat) (A : Option Addr) (cap : Nat) (zs : List Int) (hreach : zs.length ≤ 1048576) (w : World) (hBs : Bs < w.heap.size)
    (hb : w.cell? ⟨Bs, 0, none⟩ = some (.slice A zs.length cap)) (hAb : 0 < zs.length → A.map Addr.block = some Ba) (hI : Cells w A zs) :
    SeqStopsK F n Try.prog 47 #[.pointer (some ⟨Bs, 0, none⟩)] (fun x : Int × Int => #[Value.int .i64 x.1, Value.int .i64 x.2]) (KeepC Bs Ba zs.length) (fun ys => ys = upto (bk zs) zs.length)
      (fun pre => ∃ k, k ≤ zs.length ∧ pre = upto (bk zs) k) zs.length w := fun l J Jx W hW _ _ hY h0 => by
  have hc' := (hW.cell (p := ⟨Bs, 0, none⟩) hBs).trans hb
  exact back1c_in F n hF hro hn l Bs Ba A cap zs hreach J Jx hY W hc' hAb (hI.keep fun b hbk hlt => hW.block b hlt) h0

set_option maxHeartbeats 400000 in
theorem Index_any (A : Option Addr) (xs : List Int) (c : Nat) (n : Int) (w : World) (hl : xs.length ≤ 1048576) (hc : Cells w A xs) :
    Calls Try.prog 46 #[.slice A xs.length c, .int .i64 n] w fun e w' => (∃ i : Int, e = .returned (.int .i64 i) ∧ (0 ≤ i ↔ n ∈ xs)) ∧ w = w' := by
  go_enter Try.func46, Try.ntmps46
  go_wp2
  go_loop [5, 8] (fun _ i => ∃ k : Nat, k ≤ xs.length ∧ i = .int .i64 k ∧ Hid (∀ j, j < k → xs.getD j 0 ≠ n)) (fun _ i => xs.length - (intOf i).toNat)
  case atStart => exact ⟨0, Nat.zero_le _, rfl, hid fun j hj => by omega⟩
  case round =>
    obtain ⟨k, hk, rfl, HN⟩ := hrel
    by_cases hlt : k < xs.length
    · obtain ⟨b, o, rfl, hcc⟩ := hc (by omega)
      have hck := hcc k hlt
      clear hcc hc
      have hmem : xs.getD k 0 ∈ xs := by rw [List.getD_eq_getElem?_getD, List.getElem?_eq_getElem hlt]; exact List.getElem_mem hlt
      obtain ⟨x, hx⟩ : ∃ x, x = xs.getD k 0 := ⟨_, rfl⟩
      rw [← hx] at hck hmem
      have HX := hid hx; clear hx
      by_cases he : n = x
      · have HM := hid hmem
        have heb : (n == x) = true := beq_iff_eq.2 he
        have HE := hid he; clear he hmem
        go_wp2
        go_ret
        exact ⟨⟨_, rfl, fun _ => HE.out ▸ HM.out, fun _ => by omega⟩, rfl⟩
      · have heb : (n == x) = false := beq_eq_false_iff_ne.2 he
        have HE := hid he; clear he hmem
        go_wp2
        go_round
        case rel =>
          refine ⟨k + 1, by omega, by go_num, hid fun j hj => ?_⟩
          by_cases h : j < k
          · exact HN.out j h
          · have : j = k := by omega
            subst this; rw [← HX.out]; exact fun e => HE.out e.symm
        case measure => simp [intOf]; omega
    · go_wp2
      go_ret
      refine ⟨⟨_, rfl, fun h => absurd h (by omega), fun hm => ?_⟩, rfl⟩
      exfalso
      obtain ⟨j, hj, e⟩ := List.getElem_of_mem hm
      refine HN.out j (by omega) ?_
      rw [List.getD_eq_getElem?_getD, List.getElem?_eq_getElem hj]
      exact e
theorem Contains_any (A : Option Addr) (xs : List Int) (c : Nat) (n : Int) (w : World) (hl : xs.length ≤ 1048576) (hc : Cells w A xs) :
    Calls Try.prog 31 #[.slice A xs.length c, .int .i64 n] w fun e w' => e = .returned (.bool (decide (n ∈ xs))) ∧ w = w' := by
  go_enter Try.func31, Try.ntmps31
  go_wp2_with (go_at_call 46; refine (Index_any _ _ _ _ _ hl hc).mono ?_; rintro e w' ⟨⟨i, rfl, hi⟩, rfl⟩)
  go_ret
  exact ⟨ret_bool (by simp), rfl⟩
end Go.Proofs.Ytelfapheigobeaa
