/-
  Several texts in one.
-/
import Derived.Test.YtmjncedijddmmaaCC
import Derived.Test.YtmjncedijddmmaaCB
import Derived.Test.YtmjncedijddmmaaR13
import Derived.RangeFuncNested
import Derived.Maps.OwnIn
import Derived.Test.YtmjncedijddmmaaR08
import Derived.Test.YtmjncedijddmmaaR01
import Derived.Test.YtmjncedijddmmaaR05
import Derived.Test.YtmjncedijddmmaaR11
/-
  Contracts: AddableOf of the program and of the model.
-/
namespace Go.Proofs.Ytmjncedijddmmaa
open Go.RowKit

theorem owns_drewN {w : World} {B e s n : Nat} {v : Value} {xs : List Value} (h : w.ownsRow B e s v n xs) (k : Nat) : (w.drewN k).ownsRow B e s v n xs := h

end Go.Proofs.Ytmjncedijddmmaa
/-
  The library's walk backwards over a list of ints, once more: what the loop's body must keep is the list's own block and the box of the walk.
-/
namespace Go.Proofs.Ytmjncedijddmmaa
open Go.RowKit Go.Shelf
attribute [local go_sem] Oper.semAt_some

/-- Block Bs lies as it lay, and block Ba, where there are numbers. -/
def KeepC (Bs Ba n : Nat) (W W' : World) : Prop := W'.heap[Bs]? = W.heap[Bs]? ∧ (0 < n → W'.heap[Ba]? = W.heap[Ba]?)
theorem KeepC.refl (Bs Ba n : Nat) (W : World) : KeepC Bs Ba n W W := ⟨rfl, fun _ => rfl⟩
theorem KeepC.trans {Bs Ba n : Nat} {A B C : World} (h : KeepC Bs Ba n A B) (k : KeepC Bs Ba n B C) : KeepC Bs Ba n A C := ⟨k.1.trans h.1, fun h0 => (k.2 h0).trans (h.2 h0)⟩
theorem KeepC.cell {Bs Ba n : Nat} {W W' : World} (h : KeepC Bs Ba n W W') : W'.cell? ⟨Bs, 0, none⟩ = W.cell? ⟨Bs, 0, none⟩ := by simp [World.cell?, h.1]
theorem KeepC.row {Bs Ba n : Nat} {W W' : World} (h : KeepC Bs Ba n W W') (h0 : 0 < n) {b : Nat} (hb : b = Ba) (j : Nat) : W'.cell? ⟨b, j, none⟩ = W.cell? ⟨b, j, none⟩ := by subst hb; simp [World.cell?, h.2 h0]
theorem keepC_b {Bs Ba n B : Nat} (h : 0 < n → Ba < B) (h2 : Bs < B) (W : World) (l : Nat) (o o' : Obj) (hl : B ≤ l) (ho : W.heap[l]? = some o) (_ : o.isCells = false) (_ : o.isWalk = false) : KeepC Bs Ba n W (W.putObj l o') :=
  ⟨(grownBy_putObj' W l o').block Bs (by have := (Array.getElem?_eq_some_iff.1 ho).1; omega) (by simp; omega), fun h0 => (grownBy_putObj' W l o').block Ba (by have := (Array.getElem?_eq_some_iff.1 ho).1; have := h h0; omega) (by have := h h0; simp; omega)⟩

set_option maxRecDepth 100000 in
set_option maxHeartbeats 2000000 in
theorem back1c_in (F : Fence) (n : Nat) (hF : F.fn 72) (hro : F.round = none) (hn : 1 ≤ n) (l Bs Ba : Nat) (A : Option Addr) (cap : Nat) (zs : List Int) (hreach : zs.length ≤ 1048576) (J Jx : List (Int × Int) → World → Prop)
    (hY : ∀ pre x W, J pre W → pre.length < zs.length → YieldAt F (n - 1) Try.prog l #[.int .i64 x.1, .int .i64 x.2] W fun e W' =>
      (e = .returned (.bool true) ∧ J (pre ++ [x]) W' ∧ KeepC Bs Ba zs.length W W') ∨ (e = .returned (.bool false) ∧ Jx (pre ++ [x]) W'))
    (W : World) (hBs : W.cell? ⟨Bs, 0, none⟩ = some (.slice A zs.length cap)) (hAb : 0 < zs.length → A.map Addr.block = some Ba) (hc : Cells W A zs) (h0 : J [] W) :
    CallsIn F n Try.prog 72 #[.func (.yield l) #[] #[], .pointer (some ⟨Bs, 0, none⟩)] W fun e W' => (∃ v, e = .returned v) ∧
      ((∃ ys, ys = upto (bk zs) zs.length ∧ J ys W') ∨ (∃ pre, (∃ k, k ≤ zs.length ∧ pre = upto (bk zs) k) ∧ Jx pre W')) := by
  refine callsIn_of_wp Try.func72 rfl hF ?_ hro
  simp only [Try.ntmps72, List.size_toArray, List.length_cons, List.length_nil, Nat.reduceAdd, Nat.reduceSub, Array.replicate_succ, Array.replicate_zero, List.push_toArray, List.append_toArray, List.nil_append, List.cons_append]
  have hw0 : IntKind.i64.wrap ((zs.length : Int) - 1) = (zs.length : Int) - 1 := by rw [IntWalk.i64_in _ (by omega)]
  gi_wp2
  gi_loopw [3] (fun i wr => ∃ k : Nat, k ≤ zs.length ∧ i = .int .i64 ((zs.length : Int) - 1 - k) ∧ J (upto (bk zs) k) wr ∧ KeepC Bs Ba zs.length W wr)
    (fun i _ => (intOf i + 1).toNat)
  case atStart => exact ⟨0, Nat.zero_le _, by simp, h0, KeepC.refl _ _ _ _⟩
  case round =>
    obtain ⟨k, hk, rfl, hJs, hnx⟩ := hrel
    have hsl : wr.cell? ⟨Bs, 0, none⟩ = some (.slice A zs.length cap) := hnx.cell.trans hBs
    by_cases hlt : k < zs.length
    · obtain ⟨b, o, rfl, hcc⟩ := hc (by omega)
      have hba : b = Ba := by have := hAb (by omega); simpa using this
      subst hba
      obtain ⟨i, hi⟩ : ∃ i : Nat, i = zs.length - 1 - k := ⟨_, rfl⟩
      have hcx : wr.cell? ⟨b, o + i, none⟩ = some (.int .i64 (zs.getD i 0)) := (hnx.row (by omega) rfl _).trans (hcc i (by omega))
      have hii : (zs.length : Int) - 1 - k = (i : Int) := by omega
      have hil : i < zs.length := by omega
      have hbk : bk zs k = ((i : Int), zs.getD i 0) := by unfold bk; rw [← hi]
      have hup := upto_succ (bk zs) k
      rw [hbk] at hup
      obtain ⟨x, hx⟩ : ∃ x, x = zs.getD i 0 := ⟨_, rfl⟩
      rw [← hx] at hcx hup
      have HUP := hid hup
      have HI := hid hi
      have HBK := hid hbk
      rw [hii]
      obtain ⟨fn, tmps, assign, body, hy, hR⟩ := hY _ ((i : Int), x) wr hJs (by rw [upto_length]; exact hlt)
      dsimp only at hy
      have hwi : IntKind.i64.wrap ((i : Int) - 1) = (i : Int) - 1 := by rw [IntWalk.i64_in _ (by omega)]
      clear hcc hx hup hi hbk
      gi_wp2
      refine hR.mono ?_
      rintro e W3 (⟨rfl, hJ3, hk3⟩ | ⟨rfl, hJx3⟩)
      · gi_wp2
        go_roundw
        case rel => exact ⟨k + 1, by omega, by congr 1; omega, by rw [HUP.out]; exact hJ3, hnx.trans hk3⟩
        case measure => simp [intOf]
      · gi_wp2
        refine bodyPost_ret (results_none rfl _ _ _) rfl ?_
        exact ⟨⟨_, rfl⟩, .inr ⟨_, ⟨k + 1, by omega, HUP.out.symm⟩, hJx3⟩⟩
    · obtain rfl : k = zs.length := by omega
      have hm1 : (zs.length : Int) - 1 - (zs.length : Nat) = -1 := by omega
      rw [hm1]
      gi_wp2
      go_end0
      exact ⟨⟨_, rfl⟩, .inl ⟨_, rfl, hJs⟩⟩

theorem backc_stops (F : Fence) (n : Nat) (hF : F.fn 72) (hro : F.round = none) (hn : 1 ≤ n) (Bs Ba : Nat) (A : Option Addr) (cap : Nat) (zs : List Int) (hreach : zs.length ≤ 1048576) (w : World) (hBs : Bs < w.heap.size)
    (hb : w.cell? ⟨Bs, 0, none⟩ = some (.slice A zs.length cap)) (hAb : 0 < zs.length → A.map Addr.block = some Ba) (hI : Cells w A zs) :
    SeqStopsK F n Try.prog 72 #[.pointer (some ⟨Bs, 0, none⟩)] (fun x : Int × Int => #[Value.int .i64 x.1, Value.int .i64 x.2]) (KeepC Bs Ba zs.length) (fun ys => ys = upto (bk zs) zs.length)
      (fun pre => ∃ k, k ≤ zs.length ∧ pre = upto (bk zs) k) zs.length w := fun l J Jx W hW _ _ hY h0 => by
  have hc' := (hW.cell (p := ⟨Bs, 0, none⟩) hBs).trans hb
  exact back1c_in F n hF hro hn l Bs Ba A cap zs hreach J Jx hY W hc' hAb (hI.keep fun b hbk hlt => hW.block b hlt) h0

end Go.Proofs.Ytmjncedijddmmaa
/-
  Contracts: ResidueCounts of the program and of the model.
-/
namespace Go.Proofs.Ytmjncedijddmmaa
open Go.RowKit

/-- A copy of what a slice shows that is not empty. -/
theorem at_news {w : World} {ad : Addr} {xs : List Int} (hc : Cells w (some ad) xs) (o : Obj) : ∀ k u, (IL xs)[k]? = some u → (w.alloc o).cell? (ad.add k) = some u := by
  intro k u hu
  have hk : k < xs.length := by
    have := (List.getElem?_eq_some_iff.1 hu).1
    simpa [IL] using this
  obtain ⟨b, o', he, hcc⟩ := hc (by omega)
  have h := hcc k hk
  rw [IL_get xs k hk] at hu
  injection he with he
  subst he
  have e : (⟨b, o', none⟩ : Addr).add k = ⟨b, o' + k, none⟩ := by unfold Addr.add; split <;> simp_all
  rw [e, World.cell?_of_block (w := w) (w' := w.alloc o) (Below.heap_alloc _ _ _ (World.block_lt_of_cell? w _ h)), h, hu]
set_option maxRecDepth 100000 in
set_option maxHeartbeats 1000000 in
theorem cloneCells_any (ad : Addr) (c : Nat) (xs : List Int) (w : World) (hl : xs.length ≤ 1048576) (hc : Cells w (some ad) xs) :
    Calls Try.prog 64 #[.slice (some ad) xs.length c] w fun e w' => ∃ A' c', e = .returned (.slice A' xs.length c') ∧ Own w' w.heap.size A' c' xs ∧ Below w.heap.size w w' := by
  obtain ⟨i0, hi, hz0, hz1, hz2⟩ := info_parts Try.infoInt
  have hm0 := World.ownsRow_made (base := w.heap.size) (e := 3) (size := 1) w #[] 0 (Nat.le_refl _) (by unfold maxLen; omega) rfl
  have hb0 : Below w.heap.size w (w.alloc (.cells #[] 3)) := (Below.refl _ _).alloc (Nat.le_refl _) _
  have hat := at_news hc (.cells #[] 3)
  have hnil := fun w => Lib.run_eql_slice_nil (P := Try.prog) w 22 3 (some ad) xs.length c 0 0 Try.underlying22
  go_enter Try.func64, Try.ntmps64
  go_wp2_with (at_builtin; refine wpList_append_own _ rfl _ _ 22 rfl w.heap.size 3 i0 (.int .i64 0) 1 8 Try.underlying22 hi hz0 hz1 hz2 rfl (by decide) _ 0 [] rfl hm0 ad xs.length c (IL xs) rfl (by simp [IL]) hat (IL_oneC xs) (by unfold maxLen; omega) (by omega) (by simp) ?_)
  intro v' w1 hown' hgrow _
  have hb1 : Below w.heap.size w w1 := hb0.grown hgrow (by simp) (fun q hq => (hm0.lt q hq).1)
  obtain ⟨A', c', rfl, ho'⟩ := own_form hown' rfl
  clear hown' hgrow
  go_wp2_with fail
  go_ret
  exact ⟨A', c', rfl, ho', hb1⟩

/-- The six counters of the program after a list of contents. -/
def arrC (t : Nat) (L : List Int) : Nat → Value := fun j => .int .i64 (if j < t then cnt t L j else 0)
theorem arrC_upd (t : Nat) (L : List Int) (x : Int) (m : Nat) (hm : x % (t : Int) = (m : Int)) (hmt : m < t) (k : Nat) : updV (arrC t L) m (.int .i64 (cnt t L m + 1)) k = arrC t (L ++ [x]) k := by
  unfold updV arrC
  rw [cnt_snoc t L x m hm]
  by_cases h : k = m
  · subst h; rw [if_pos rfl, if_pos hmt, if_pos rfl]
  · rw [if_neg h, if_neg h]

theorem arrC_nil (t : Nat) : ca 6 (arrC t []) = #[.int .i64 0, .int .i64 0, .int .i64 0, .int .i64 0, .int .i64 0, .int .i64 0] := by
  rw [ca_ext (d := fun _ => .int .i64 0) (fun k _ => by unfold arrC; congr 1; split <;> rfl)]; rfl
theorem arrC_at (t : Nat) (L : List Int) (m : Nat) (h : m < t) : arrC t L m = .int .i64 (cnt t L m) := by unfold arrC; rw [if_pos h]
theorem takeSnocR (ys : List Int) (k : Nat) (h : k < ys.length) : ys.take (k + 1) = ys.take k ++ [ys.getD k 0] := take_snoc ys k h _ rfl

end Go.Proofs.Ytmjncedijddmmaa
