/-
  Several texts in one.
-/
import Derived.Test.YtkbdlhmkiolegaaCH
import Derived.Test.YtkbdlhmkiolegaaR13
import Derived.Test.YtkbdlhmkiolegaaCB
import Derived.Maps.AppendAt
/-
  Contracts: AllPartitions of the model.
-/
namespace Go.Proofs.Ytkbdlhmkiolegaa
open Go.RowKit


theorem Own2At.top {w : World} {B S : Nat} {A : Option Addr} {c : Nat} {rows : List (List Int)} {P : Nat → Option Addr} {C : Nat → Nat} (h : Own2At w B S A c rows P C) {j : Nat} (hj : j < rows.length) :
    ∃ b o, A = some ⟨b, o, none⟩ ∧ w.cell? ⟨b, o + j, none⟩ = some (.slice (P j) (rows.getD j []).length (C j)) := by
  rcases h.out.2 with ⟨_, h0⟩ | ⟨g, cap, cur, hv, _⟩
  · omega
  · have hA : A = some ⟨g, 0, none⟩ := by injection hv
    subst hA
    refine ⟨g, 0, rfl, ?_⟩
    rw [Nat.zero_add, World.ownsRow.cellAt h.out j (by omega), RL_get P C rows j hj]
theorem own_nil_at {w : World} {B : Nat} (j : Nat) (hj : j < ([[]] : List (List Int)).length) : Own w B none 0 (([[]] : List (List Int)).getD j []) := by
  have : j = 0 := by simpa using hj
  subst this
  exact own_nil _ _
theorem IL_one (xs : List Int) : ∀ u ∈ IL xs, u.oneCell' = true := by
  intro u hu
  obtain ⟨x, _, rfl⟩ := List.mem_map.1 hu
  rfl

set_option maxHeartbeats 1000000 in
theorem ptAll_zero (m : Nat) (w : World) (hm : m ≤ 30) :
    Calls Try.prog 24 #[.int .i64 (0 : Nat), .int .i64 m] w fun e w' => ∃ A' c', e = .returned (.slice A' (lst 0 m (T 0 m)).length c') ∧ Own2 w' w.heap.size w'.heap.size A' c' (lst 0 m (T 0 m)) ∧ Below w.heap.size w w' := by
  rw [T_top m (by omega), lst_zero]
  have h0 : ((0 : Nat) : Int) = 0 := rfl
  rw [h0]
  go_enter Try.func24, Try.ntmps24
  go_wp2_with fail
  go_ret
  refine ⟨some ⟨w.heap.size, 0, none⟩, 1, rfl, ⟨fun _ => none, fun _ => 0, ?_, fun b hb => ?_, fun j hj => own_nil_at j hj, fun j hj b hb => by simp at hb, fun i j hij hj => ?_⟩, (Below.refl _ _).alloc (Nat.le_refl _) _⟩
  · exact World.ownsRow_lit (base := w.heap.size) (e := 22) (size := 1) w #[.slice none 0 0] 1 (Nat.le_refl _) (by unfold maxLen; omega) rfl
  · have : w.heap.size = b := by simpa using hb
    simp; omega
  · simp at hj; omega

set_option maxRecDepth 100000 in
set_option maxHeartbeats 4000000 in
theorem ptAll_any : ∀ (N n m : Nat) (w : World), n ≤ N → n ≤ 30 → m ≤ 30 →
    Calls Try.prog 24 #[.int .i64 n, .int .i64 m] w fun e w' => ∃ A' c', e = .returned (.slice A' (lst n m (T n m)).length c') ∧ Own2 w' w.heap.size w'.heap.size A' c' (lst n m (T n m)) ∧ Below w.heap.size w w' := by
  obtain ⟨i0, hi, hz0, hz1, hz2⟩ := info_parts Try.infoInt
  obtain ⟨i1, hj, hy0, hy1, hy2⟩ := info_parts Try.infoInts
  intro N
  induction N with
  | zero =>
    intro n m w h _ hm
    obtain rfl := Nat.le_zero.1 h
    exact ptAll_zero m w hm
  | succ N ih =>
    intro n m w h hn hm
    rcases Nat.eq_zero_or_pos n with h0 | h0
    · subst h0; exact ptAll_zero m w hm
    have IH := hid ih; clear ih
    obtain ⟨y, hy⟩ : ∃ y, y = min n m := ⟨_, rfl⟩
    have hle := l1Least_s n m w
    have hTy := T_min (l := n) (m := m) (by omega) (by omega)
    rw [← hy] at hle hTy
    have hyn : y ≤ n := by omega
    have hym : y ≤ m := by omega
    have HLE := hid hle
    have HTY := hid hTy
    clear hle hTy hy
    have h0i : ¬ ((n : Int) = 0) := by omega
    go_enter Try.func24, Try.ntmps24
    go_wp2_with fail
    refine HLE.out.mono ?_
    rintro e w1 ⟨rfl, rfl⟩
    go_wp2_with fail
    go_loopw [5, 6] (fun v xv wr => ∃ p : Nat, p ≤ y ∧ xv = .int .i64 p ∧ (∃ P C, Push wr w.heap.size v (lst n m (T n m - T n p)) P C) ∧ Below w.heap.size w wr) (fun _ xv _ => (intOf xv).toNat)
    case atStart => exact ⟨y, Nat.le_refl _, rfl, by rw [HTY.out, Nat.sub_self]; exact ⟨_, _, push_nil _ _⟩, Below.refl _ _⟩
    case round =>
      obtain ⟨p, hp, rfl, ⟨P, C, hpush⟩, hbel⟩ := hrel
      obtain ⟨wo, rfl⟩ : ∃ wo : World, wo = wr := ⟨_, rfl⟩
      have HP := hid hpush; clear hpush
      have HB := hid hbel; clear hbel
      by_cases h1 : 0 < p
      · have h1i : (0 : Int) < p := by omega
        have hwn : IntKind.i64.wrap ((n : Int) - p) = ((n - p : Nat) : Int) := by rw [IntWalk.i64_in _ (by omega)]; omega
        have hcall := IH.out (n - p) p wo (by omega) (by omega) (by omega)
        have HC := hid hcall; clear hcall
        go_wp2_with fail
        refine HC.out.mono ?_
        rintro e wc ⟨Ac, cc, rfl, oc, bc⟩
        obtain ⟨L, hL⟩ : ∃ L, L = T (n - p) p := ⟨_, rfl⟩
        have hLb := T_bound (n - p) (by omega) p (by omega)
        have hNb := T_bound n (by omega) m (by omega)
        rw [← hL] at oc hLb ⊢
        rw [lst_len]
        have HL := hid hL; clear hL
        have OC := hid oc; clear oc
        have BC := hid bc; clear bc
        go_wp2_with fail
        clear hwn
        go_loopw [5, 25] (fun v jv wr => ∃ j : Nat, j ≤ L ∧ jv = .int .i64 j ∧ (∃ P C, Push wr w.heap.size v (lst n m (T n m - T n p + j)) P C) ∧ Hid (Below w.heap.size w wr ∧ wc.heap.size ≤ wr.heap.size ∧ (∀ b, wo.heap.size ≤ b → b < wc.heap.size → wr.heap[b]? = wc.heap[b]?) ∧ ∀ q, v.ownBlock = some q → q < wo.heap.size ∨ wc.heap.size ≤ q)) (fun _ jv _ => L - (intOf jv).toNat)
        case atStart => exact ⟨0, Nat.zero_le _, rfl, ⟨_, _, HP.out.below BC.out⟩, ⟨HB.out.trans (BC.out.mono HB.out.size), Nat.le_refl _, fun _ _ _ => rfl, fun q hq => .inl (HP.out.out.lt q hq).2⟩⟩
        case round =>
          obtain ⟨j, hjL, rfl, ⟨P2, C2, hpush⟩, HK⟩ := hrel
          have HP2 := hid hpush; clear hpush
          by_cases hlt : j < L
          · have hjl2 : (j : Int) < L := by omega
            obtain ⟨b1, b2, b3, b4⟩ := HK.out
            obtain ⟨Pc, Cc, H⟩ := OC.out.keep fun b _ hb1 hb2 => b3 b hb1 hb2
            have hll : (lst (n - p) p L).length = L := lst_len _ _ _
            obtain ⟨rr, hrr⟩ : ∃ rr, rr = (lst (n - p) p L).getD j [] := ⟨_, rfl⟩
            have hrl : rr.length ≤ 30 := by rw [hrr, lst_get _ _ _ _ hlt]; have := pa_len (n - p) (n - p) p j; omega
            obtain ⟨tb, tq, rfl, hckr⟩ := H.top (j := j) (by omega)
            rw [← hrr] at hckr
            have hrow2 := H.row j (by omega)
            rw [← hrr] at hrow2
            have hnone : Pc j = none → rr.length = 0 ∧ Cc j = 0 := fun e => own_none (by rw [← e]; exact hrow2)
            have hnews : ∀ ad, Pc j = some ad → ∀ k u, (IL rr)[k]? = some u → (wr.alloc (.cells #[.int .i64 p] 3)).cell? (ad.add k) = some u := fun ad e => own_news (by rw [← e]; exact hrow2) _
            obtain ⟨PA, hPA⟩ : ∃ PA, PA = Pc j := ⟨_, rfl⟩
            obtain ⟨CA, hCA⟩ : ∃ CA, CA = Cc j := ⟨_, rfl⟩
            rw [← hPA, ← hCA] at hckr hnone
            rw [← hPA] at hnews
            have hsz0 := HB.out.size
            have hsz1 := b1.size
            have hlk : T n m - T n p + j ≤ 12000 := by omega
            have hlst : (lst n m (T n m - T n p + j)).length = T n m - T n p + j := lst_len _ _ _
            have HLST := hid hlst
            have hrw := lst_row (n := n) (m := m) (p := p) (j := j) (by omega) h1 (by omega) (by omega) (by omega) (by rw [← HL.out]; exact hlt)
            rw [← HL.out, ← hrr] at hrw
            have HRW := hid hrw
            have HK2 := hid (show Below w.heap.size w wr ∧ wc.heap.size ≤ wr.heap.size ∧ (∀ b, wo.heap.size ≤ b → b < wc.heap.size → wr.heap[b]? = wc.heap[b]?) from ⟨b1, b2, b3⟩)
            have HK4 := hid b4
            clear hrr hrow2 hPA hCA H hll b1 b2 b3 b4 hlst hrw HK
            go_wp2_with (at_builtin; refine wpList_append_opt _ rfl _ _ 22 rfl wr.heap.size 3 i0 (.int .i64 0) 1 8 Try.underlying22 hi hz0 hz1 hz2 rfl (by decide) _ 1 [.int .i64 (p : Int)] rfl (World.ownsRow_lit (base := wr.heap.size) (e := 3) (size := 1) wr #[.int .i64 (p : Int)] 1 (Nat.le_refl _) (by unfold maxLen; omega) rfl) PA rr.length CA (IL rr) rfl (by simp [IL]) hnone hnews (IL_one rr) (by unfold maxLen; omega) (by omega) (by simp) ?_)
            intro v1 w1 hown1 hgrow1
            obtain ⟨r1, hr1⟩ : ∃ r1, r1 = (p : Int) :: rr := ⟨_, rfl⟩
            have hown2 : w1.ownsRow wr.heap.size 3 1 v1 (1 + rr.length) (IL r1) := by rw [hr1]; exact hown1
            obtain ⟨Ar, cr, rfl, ho1⟩ := own_form hown2 (by rw [hr1]; simp; omega)
            have hb1 : Below wr.heap.size wr w1 := ((Below.refl _ _).alloc (Nat.le_refl _) _).grown hgrow1 (by simp) (fun q hq => Nat.le_of_eq (by simpa [Value.ownBlock] using hq))
            rw [← hr1] at HRW
            have HO1 := hid ho1
            have HB1 := hid hb1
            have hs1 := hb1.size
            clear hown1 hown2 hgrow1 ho1 hb1 hr1 hnews hnone hckr
            go_wp2_with (at_builtin; refine wpList_append_own_at _ rfl _ _ 23 rfl w.heap.size 22 i1 (.slice none 0 0) 1 24 Try.underlying23 hj hy0 hy1 hy2 rfl (by decide) _ _ _ rfl ((HP2.out.below HB1.out).out.alloc _) ⟨w1.heap.size, 0, none⟩ 1 1 [.slice Ar r1.length cr] rfl rfl one_at (one_cellS _ _ _) (by have := HLST.out; unfold maxLen; omega) (by have := HLST.out; omega) (by simp; omega) ?_)
            intro v2 w2 hown2 hgrow2 _ hat
            have hp3 := HP2.out.push HB1.out HO1.out (by omega) hown2 hgrow2
            rw [← HRW.out] at hp3
            have hgs := hgrow2.size
            obtain ⟨k1, k2, k3⟩ := HK2.out
            have hal : ∀ o : Obj, (w1.alloc o).heap.size = w1.heap.size + 1 := fun o => by simp
            have hb2 : Below w.heap.size w w2 := ((k1.trans (HB1.out.mono k1.size)).alloc (by omega) _).grown hgrow2 (by simp; omega) (fun q hq => (HP2.out.out.lt q hq).1)
            have HN := hid (show Below w.heap.size w w2 ∧ wc.heap.size ≤ w2.heap.size ∧ (∀ b, wo.heap.size ≤ b → b < wc.heap.size → w2.heap[b]? = wc.heap[b]?) ∧ ∀ q, v2.ownBlock = some q → q < wo.heap.size ∨ wc.heap.size ≤ q from by
              refine ⟨hb2, by rw [hal] at hgs; omega, fun b hb1 hb2 => ?_, fun q hq => ?_⟩
              · rw [hgrow2.block b (by rw [hal]; omega) (fun e => by have := HK4.out b e.symm; omega), Below.heap_alloc _ _ _ (by omega), HB1.out.block b (by omega)]
                exact k3 b hb1 hb2
              · rcases hat with h | h
                · exact HK4.out q (by rw [← h]; exact hq)
                · rw [h] at hq
                  have : (w1.alloc (Obj.cells #[.slice Ar r1.length cr] 22)).heap.size = q := by simpa using hq
                  rw [hal] at this
                  omega)
            have HP3 := hid hp3
            clear hown2 hgrow2 hat hp3 hgs k1 k2 k3 hb2 hal
            go_wp2_with fail
            go_roundw
            case rel => exact ⟨j + 1, by omega, by go_num, ⟨_, _, HP3.out⟩, HN.out⟩
            case measure => simp [intOf]; omega
          · have hjl : j = L := by omega
            subst hjl
            have hnx := HP2.out
            rw [HL.out, lst_next (by omega) h1 (by omega) (by omega) (by omega)] at hnx
            have HNX := hid hnx
            have hbr := hid HK.out.1
            clear hnx
            go_wp2_with fail
            go_roundw
            case rel => exact ⟨p - 1, by omega, by go_num, ⟨_, _, HNX.out⟩, hbr.out⟩
            case measure => simp [intOf]; omega
      · have hp0 : p = 0 := by omega
        subst hp0
        have hpp := HP.out
        rw [T_none n (by omega) h0, Nat.sub_zero] at hpp
        obtain ⟨A', c', rfl, ho⟩ := hpp.own2
        have HO := hid ho
        clear ho hpp
        go_wp2_with fail
        go_ret
        exact ⟨A', c', rfl, HO.out, HB.out⟩

theorem tot_le (rows : List (List Int)) (B : Nat) (h : ∀ r ∈ rows, r.length ≤ B) : tot rows ≤ rows.length * B := by
  induction rows with
  | nil => simp [tot]
  | cons r t ih =>
    have h1 := h r (List.mem_cons_self ..)
    have h2 := ih fun x hx => h x (List.mem_cons_of_mem _ hx)
    rw [tot, List.length_cons, Nat.add_mul]; omega
theorem bound_AllPartitions (n : Int) : (allF n).length ≤ 1048576 ∧ tot (allF n) ≤ 1048576 := by
  cases h : inB 0 14 n
  · rw [allF_f h]; simp [tot]
  · have hh := inB_iff.1 h
    obtain ⟨m, rfl⟩ : ∃ m : Nat, n = m := ⟨n.toNat, by omega⟩
    rw [allF_t m (by omega)]
    have h1 := T_bound m (by omega) m (by omega)
    have h2 := tot_le (allR m (T m m)) 14 fun r hr => by
      obtain ⟨q, _, rfl⟩ := List.mem_map.1 hr
      have := pa_len m m m q; omega
    rw [allR_len] at h2 ⊢
    omega
end Go.Proofs.Ytkbdlhmkiolegaa
/-
  A row that lies apart from those that are pushed already is pushed.
-/
namespace Go.Proofs.Ytkbdlhmkiolegaa
open Go.RowKit

theorem Push.pushAp {w1 w2 : World} {B : Nat} {v v' : Value} {rows : List (List Int)} {P : Nat → Option Addr} {C : Nat → Nat} {A : Option Addr} {c : Nat} {r : List Int} {o : Obj}
    (h1 : Push w1 B v rows P C) (hr : Own w1 B A c r) (hap : ∀ i, i < rows.length → ∀ b, (P i).map Addr.block = some b → A.map Addr.block ≠ some b)
    (ho : w2.ownsRow B 22 1 v' (rows.length + 1) (RL P C rows ++ [.slice A r.length c])) (hg : (w1.alloc o).grownBy w2 v.ownBlock) :
    Push w2 B v' (rows ++ [r]) (setAt P rows.length A) (setAt C rows.length c) := by
  have keep : ∀ {A' : Option Addr} {c' : Nat} {r' : List Int}, Own w1 B A' c' r' → Own w2 B A' c' r' := fun {A' c' r'} hx => by
    refine hx.keep fun b hbb hlt => ?_
    have e1 : (w1.alloc o).heap[b]? = w1.heap[b]? := Below.heap_alloc _ _ _ hlt
    rw [← e1]
    exact hg.block b (by simp; omega) (fun e => row_ne' h1.out hx b hbb e.symm)
  refine ⟨by rw [RL_snoc, List.length_append]; exact ho, fun j hj => ?_, fun i j hij hj b hbi => ?_⟩
  · rw [List.length_append, List.length_singleton] at hj
    by_cases e : j = rows.length
    · subst e
      rw [setAt_eq, setAt_eq, getD_snoc_eq]
      exact keep hr
    · rw [setAt_ne P A e, setAt_ne C c e, getD_snoc_lt rows r j (by omega)]
      exact keep (h1.row j (by omega))
  · rw [List.length_append, List.length_singleton] at hj
    rw [setAt_ne P A (show i ≠ rows.length by omega)] at hbi
    by_cases e : j = rows.length
    · subst e
      rw [setAt_eq]
      exact hap i (by omega) b hbi
    · rw [setAt_ne P A e]
      exact h1.apart i j hij (by omega) b hbi
theorem push_lit1 {w : World} {B : Nat} {A : Option Addr} {c : Nat} {r : List Int} (h : Own w B A c r) (hB : B ≤ w.heap.size) :
    Push (w.alloc (.cells #[.slice A r.length c] 22)) B (.slice (some ⟨w.heap.size, 0, none⟩) 1 1) [r] (fun _ => A) (fun _ => c) := by
  refine ⟨?_, fun j hj => ?_, fun i j hij hj => by simp at hj; omega⟩
  · have h2 := World.ownsRow_lit (base := B) (e := 22) (size := 1) w #[.slice A r.length c] 1 hB (by unfold maxLen; omega) rfl
    exact h2
  · have hj0 : j = 0 := by simp at hj; omega
    subst hj0
    exact h.below ((Below.refl _ _).alloc (Nat.le_refl _) _)
end Go.Proofs.Ytkbdlhmkiolegaa
/-
  Rows of rows of the call's own: what stays of them, with their rows told.
-/
namespace Go.Proofs.Ytkbdlhmkiolegaa
open Go.RowKit

theorem Own2At.top1 {w : World} {B S : Nat} {A : Option Addr} {c : Nat} {rows : List (List Int)} {P : Nat → Option Addr} {C : Nat → Nat} (h : Own2At w B S A c rows P C) {j : Nat} (hj : j < rows.length) :
    ∃ b, A = some ⟨b, 0, none⟩ ∧ w.cell? ⟨b, j, none⟩ = some (.slice (P j) (rows.getD j []).length (C j)) := by
  rcases h.out.2 with ⟨_, h0⟩ | ⟨g, cap, cur, hv, _⟩
  · omega
  · have hA : A = some ⟨g, 0, none⟩ := by injection hv
    subst hA
    refine ⟨g, rfl, ?_⟩
    rw [World.ownsRow.cellAt h.out j (by omega), RL_get P C rows j hj]
theorem Own2At.keep {w w' : World} {B S : Nat} {A : Option Addr} {c : Nat} {rows : List (List Int)} {P : Nat → Option Addr} {C : Nat → Nat} (h : Own2At w B S A c rows P C) (hk : ∀ b, b < w.heap.size → B ≤ b → b < S → w'.heap[b]? = w.heap[b]?) : Own2At w' B S A c rows P C :=
  ⟨ownsRow_keep h.out fun b hb hlt => hk b hlt (ownsRow_block h.out b hb).1 (h.outS b hb), h.outS,
    fun j hj => (h.row j hj).keep fun b hb hlt => hk b hlt ((h.row j hj).block b hb).1 (h.rowS j hj b hb), h.rowS, h.apart⟩
end Go.Proofs.Ytkbdlhmkiolegaa
