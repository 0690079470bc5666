/-
  Several texts in one.
-/
import Derived.Test.YtmjncedijddmmaaCH
import Derived.Test.YtmjncedijddmmaaR20
import Derived.Test.YtmjncedijddmmaaCB
import Derived.Maps.AppendAt
import Derived.Test.YtmjncedijddmmaaR07
import Derived.Test.YtmjncedijddmmaaR01
/-
  Contracts: AllPartitions of the model.
-/
namespace Go.Proofs.Ytmjncedijddmmaa
open Go.RowKit


theorem Own2At.top {w : World} {B S : Nat} {A : Option Addr} {c : Nat} {rows : List (List Int)} {P : Nat → Option Addr} {C : Nat → Nat} (h : Own2At w B S A c rows P C) {j : Nat} (hj : j < rows.length) :
    ∃ b o, A = some ⟨b, o, none⟩ ∧ w.cell? ⟨b, o + j, none⟩ = some (.slice (P j) (rows.getD j []).length (C j)) := by
  rcases h.out.2 with ⟨_, h0⟩ | ⟨g, cap, cur, hv, _⟩
  · omega
  · have hA : A = some ⟨g, 0, none⟩ := by injection hv
    subst hA
    refine ⟨g, 0, rfl, ?_⟩
    rw [Nat.zero_add, World.ownsRow.cellAt h.out j (by omega), RL_get P C rows j hj]
theorem own_nil_at {w : World} {B : Nat} (j : Nat) (hj : j < ([[]] : List (List Int)).length) : Own w B none 0 (([[]] : List (List Int)).getD j []) := by
  have : j = 0 := by simpa using hj
  subst this
  exact own_nil _ _
theorem IL_one (xs : List Int) : ∀ u ∈ IL xs, u.oneCell' = true := by
  intro u hu
  obtain ⟨x, _, rfl⟩ := List.mem_map.1 hu
  rfl

set_option maxHeartbeats 1000000 in
theorem ptAll_zero (m : Nat) (w : World) (hm : m ≤ 30) :
    Calls Try.prog 90 #[.int .i64 (0 : Nat), .int .i64 m] w fun e w' => ∃ A' c', e = .returned (.slice A' (lst 0 m (T 0 m)).length c') ∧ Own2 w' w.heap.size w'.heap.size A' c' (lst 0 m (T 0 m)) ∧ Below w.heap.size w w' := by
  rw [T_top m (by omega), lst_zero]
  have h0 : ((0 : Nat) : Int) = 0 := rfl
  rw [h0]
  go_enter Try.func90, Try.ntmps90
  go_wp2_with fail
  go_ret
  refine ⟨some ⟨w.heap.size, 0, none⟩, 1, rfl, ⟨fun _ => none, fun _ => 0, ?_, fun b hb => ?_, fun j hj => own_nil_at j hj, fun j hj b hb => by simp at hb, fun i j hij hj => ?_⟩, (Below.refl _ _).alloc (Nat.le_refl _) _⟩
  · exact World.ownsRow_lit (base := w.heap.size) (e := 22) (size := 1) w #[.slice none 0 0] 1 (Nat.le_refl _) (by unfold maxLen; omega) rfl
  · have : w.heap.size = b := by simpa using hb
    simp; omega
  · simp at hj; omega

set_option maxRecDepth 100000 in
set_option maxHeartbeats 4000000 in
theorem ptAll_any : ∀ (N n m : Nat) (w : World), n ≤ N → n ≤ 30 → m ≤ 30 →
    Calls Try.prog 90 #[.int .i64 n, .int .i64 m] w fun e w' => ∃ A' c', e = .returned (.slice A' (lst n m (T n m)).length c') ∧ Own2 w' w.heap.size w'.heap.size A' c' (lst n m (T n m)) ∧ Below w.heap.size w w' := by
  obtain ⟨i0, hi, hz0, hz1, hz2⟩ := info_parts Try.infoInt
  obtain ⟨i1, hj, hy0, hy1, hy2⟩ := info_parts Try.infoInts
  intro N
  induction N with
  | zero =>
    intro n m w h _ hm
    obtain rfl := Nat.le_zero.1 h
    exact ptAll_zero m w hm
  | succ N ih =>
    intro n m w h hn hm
    rcases Nat.eq_zero_or_pos n with h0 | h0
    · subst h0; exact ptAll_zero m w hm
    have IH := hid ih; clear ih
    obtain ⟨y, hy⟩ : ∃ y, y = min n m := ⟨_, rfl⟩
    have hle := l1Least_s n m w
    have hTy := T_min (l := n) (m := m) (by omega) (by omega)
    rw [← hy] at hle hTy
    have hyn : y ≤ n := by omega
    have hym : y ≤ m := by omega
    have HLE := hid hle
    have HTY := hid hTy
    clear hle hTy hy
    have h0i : ¬ ((n : Int) = 0) := by omega
    go_enter Try.func90, Try.ntmps90
    go_wp2_with fail
    refine HLE.out.mono ?_
    rintro e w1 ⟨rfl, rfl⟩
    go_wp2_with fail
    go_loopw [5, 6] (fun v xv wr => ∃ p : Nat, p ≤ y ∧ xv = .int .i64 p ∧ (∃ P C, Push wr w.heap.size v (lst n m (T n m - T n p)) P C) ∧ Below w.heap.size w wr) (fun _ xv _ => (intOf xv).toNat)
    case atStart => exact ⟨y, Nat.le_refl _, rfl, by rw [HTY.out, Nat.sub_self]; exact ⟨_, _, push_nil _ _⟩, Below.refl _ _⟩
    case round =>
      obtain ⟨p, hp, rfl, ⟨P, C, hpush⟩, hbel⟩ := hrel
      obtain ⟨wo, rfl⟩ : ∃ wo : World, wo = wr := ⟨_, rfl⟩
      have HP := hid hpush; clear hpush
      have HB := hid hbel; clear hbel
      by_cases h1 : 0 < p
      · have h1i : (0 : Int) < p := by omega
        have hwn : IntKind.i64.wrap ((n : Int) - p) = ((n - p : Nat) : Int) := by rw [IntWalk.i64_in _ (by omega)]; omega
        have hcall := IH.out (n - p) p wo (by omega) (by omega) (by omega)
        have HC := hid hcall; clear hcall
        go_wp2_with fail
        refine HC.out.mono ?_
        rintro e wc ⟨Ac, cc, rfl, oc, bc⟩
        obtain ⟨L, hL⟩ : ∃ L, L = T (n - p) p := ⟨_, rfl⟩
        have hLb := T_bound (n - p) (by omega) p (by omega)
        have hNb := T_bound n (by omega) m (by omega)
        rw [← hL] at oc hLb ⊢
        rw [lst_len]
        have HL := hid hL; clear hL
        have OC := hid oc; clear oc
        have BC := hid bc; clear bc
        go_wp2_with fail
        clear hwn
        go_loopw [5, 25] (fun v jv wr => ∃ j : Nat, j ≤ L ∧ jv = .int .i64 j ∧ (∃ P C, Push wr w.heap.size v (lst n m (T n m - T n p + j)) P C) ∧ Hid (Below w.heap.size w wr ∧ wc.heap.size ≤ wr.heap.size ∧ (∀ b, wo.heap.size ≤ b → b < wc.heap.size → wr.heap[b]? = wc.heap[b]?) ∧ ∀ q, v.ownBlock = some q → q < wo.heap.size ∨ wc.heap.size ≤ q)) (fun _ jv _ => L - (intOf jv).toNat)
        case atStart => exact ⟨0, Nat.zero_le _, rfl, ⟨_, _, HP.out.below BC.out⟩, ⟨HB.out.trans (BC.out.mono HB.out.size), Nat.le_refl _, fun _ _ _ => rfl, fun q hq => .inl (HP.out.out.lt q hq).2⟩⟩
        case round =>
          obtain ⟨j, hjL, rfl, ⟨P2, C2, hpush⟩, HK⟩ := hrel
          have HP2 := hid hpush; clear hpush
          by_cases hlt : j < L
          · have hjl2 : (j : Int) < L := by omega
            obtain ⟨b1, b2, b3, b4⟩ := HK.out
            obtain ⟨Pc, Cc, H⟩ := OC.out.keep fun b _ hb1 hb2 => b3 b hb1 hb2
            have hll : (lst (n - p) p L).length = L := lst_len _ _ _
            obtain ⟨rr, hrr⟩ : ∃ rr, rr = (lst (n - p) p L).getD j [] := ⟨_, rfl⟩
            have hrl : rr.length ≤ 30 := by rw [hrr, lst_get _ _ _ _ hlt]; have := pa_len (n - p) (n - p) p j; omega
            obtain ⟨tb, tq, rfl, hckr⟩ := H.top (j := j) (by omega)
            rw [← hrr] at hckr
            have hrow2 := H.row j (by omega)
            rw [← hrr] at hrow2
            have hnone : Pc j = none → rr.length = 0 ∧ Cc j = 0 := fun e => own_none (by rw [← e]; exact hrow2)
            have hnews : ∀ ad, Pc j = some ad → ∀ k u, (IL rr)[k]? = some u → (wr.alloc (.cells #[.int .i64 p] 3)).cell? (ad.add k) = some u := fun ad e => own_news (by rw [← e]; exact hrow2) _
            obtain ⟨PA, hPA⟩ : ∃ PA, PA = Pc j := ⟨_, rfl⟩
            obtain ⟨CA, hCA⟩ : ∃ CA, CA = Cc j := ⟨_, rfl⟩
            rw [← hPA, ← hCA] at hckr hnone
            rw [← hPA] at hnews
            have hsz0 := HB.out.size
            have hsz1 := b1.size
            have hlk : T n m - T n p + j ≤ 12000 := by omega
            have hlst : (lst n m (T n m - T n p + j)).length = T n m - T n p + j := lst_len _ _ _
            have HLST := hid hlst
            have hrw := lst_row (n := n) (m := m) (p := p) (j := j) (by omega) h1 (by omega) (by omega) (by omega) (by rw [← HL.out]; exact hlt)
            rw [← HL.out, ← hrr] at hrw
            have HRW := hid hrw
            have HK2 := hid (show Below w.heap.size w wr ∧ wc.heap.size ≤ wr.heap.size ∧ (∀ b, wo.heap.size ≤ b → b < wc.heap.size → wr.heap[b]? = wc.heap[b]?) from ⟨b1, b2, b3⟩)
            have HK4 := hid b4
            clear hrr hrow2 hPA hCA H hll b1 b2 b3 b4 hlst hrw HK
            go_wp2_with (at_builtin; refine wpList_append_opt _ rfl _ _ 22 rfl wr.heap.size 3 i0 (.int .i64 0) 1 8 Try.underlying22 hi hz0 hz1 hz2 rfl (by decide) _ 1 [.int .i64 (p : Int)] rfl (World.ownsRow_lit (base := wr.heap.size) (e := 3) (size := 1) wr #[.int .i64 (p : Int)] 1 (Nat.le_refl _) (by unfold maxLen; omega) rfl) PA rr.length CA (IL rr) rfl (by simp [IL]) hnone hnews (IL_one rr) (by unfold maxLen; omega) (by omega) (by simp) ?_)
            intro v1 w1 hown1 hgrow1
            obtain ⟨r1, hr1⟩ : ∃ r1, r1 = (p : Int) :: rr := ⟨_, rfl⟩
            have hown2 : w1.ownsRow wr.heap.size 3 1 v1 (1 + rr.length) (IL r1) := by rw [hr1]; exact hown1
            obtain ⟨Ar, cr, rfl, ho1⟩ := own_form hown2 (by rw [hr1]; simp; omega)
            have hb1 : Below wr.heap.size wr w1 := ((Below.refl _ _).alloc (Nat.le_refl _) _).grown hgrow1 (by simp) (fun q hq => Nat.le_of_eq (by simpa [Value.ownBlock] using hq))
            rw [← hr1] at HRW
            have HO1 := hid ho1
            have HB1 := hid hb1
            have hs1 := hb1.size
            clear hown1 hown2 hgrow1 ho1 hb1 hr1 hnews hnone hckr
            go_wp2_with (at_builtin; refine wpList_append_own_at _ rfl _ _ 34 rfl w.heap.size 22 i1 (.slice none 0 0) 1 24 Try.underlying34 hj hy0 hy1 hy2 rfl (by decide) _ _ _ rfl ((HP2.out.below HB1.out).out.alloc _) ⟨w1.heap.size, 0, none⟩ 1 1 [.slice Ar r1.length cr] rfl rfl one_at (one_cellS _ _ _) (by have := HLST.out; unfold maxLen; omega) (by have := HLST.out; omega) (by simp; omega) ?_)
            intro v2 w2 hown2 hgrow2 _ hat
            have hp3 := HP2.out.push HB1.out HO1.out (by omega) hown2 hgrow2
            rw [← HRW.out] at hp3
            have hgs := hgrow2.size
            obtain ⟨k1, k2, k3⟩ := HK2.out
            have hal : ∀ o : Obj, (w1.alloc o).heap.size = w1.heap.size + 1 := fun o => by simp
            have hb2 : Below w.heap.size w w2 := ((k1.trans (HB1.out.mono k1.size)).alloc (by omega) _).grown hgrow2 (by simp; omega) (fun q hq => (HP2.out.out.lt q hq).1)
            have HN := hid (show Below w.heap.size w w2 ∧ wc.heap.size ≤ w2.heap.size ∧ (∀ b, wo.heap.size ≤ b → b < wc.heap.size → w2.heap[b]? = wc.heap[b]?) ∧ ∀ q, v2.ownBlock = some q → q < wo.heap.size ∨ wc.heap.size ≤ q from by
              refine ⟨hb2, by rw [hal] at hgs; omega, fun b hb1 hb2 => ?_, fun q hq => ?_⟩
              · rw [hgrow2.block b (by rw [hal]; omega) (fun e => by have := HK4.out b e.symm; omega), Below.heap_alloc _ _ _ (by omega), HB1.out.block b (by omega)]
                exact k3 b hb1 hb2
              · rcases hat with h | h
                · exact HK4.out q (by rw [← h]; exact hq)
                · rw [h] at hq
                  have : (w1.alloc (Obj.cells #[.slice Ar r1.length cr] 22)).heap.size = q := by simpa using hq
                  rw [hal] at this
                  omega)
            have HP3 := hid hp3
            clear hown2 hgrow2 hat hp3 hgs k1 k2 k3 hb2 hal
            go_wp2_with fail
            go_roundw
            case rel => exact ⟨j + 1, by omega, by go_num, ⟨_, _, HP3.out⟩, HN.out⟩
            case measure => simp [intOf]; omega
          · have hjl : j = L := by omega
            subst hjl
            have hnx := HP2.out
            rw [HL.out, lst_next (by omega) h1 (by omega) (by omega) (by omega)] at hnx
            have HNX := hid hnx
            have hbr := hid HK.out.1
            clear hnx
            go_wp2_with fail
            go_roundw
            case rel => exact ⟨p - 1, by omega, by go_num, ⟨_, _, HNX.out⟩, hbr.out⟩
            case measure => simp [intOf]; omega
      · have hp0 : p = 0 := by omega
        subst hp0
        have hpp := HP.out
        rw [T_none n (by omega) h0, Nat.sub_zero] at hpp
        obtain ⟨A', c', rfl, ho⟩ := hpp.own2
        have HO := hid ho
        clear ho hpp
        go_wp2_with fail
        go_ret
        exact ⟨A', c', rfl, HO.out, HB.out⟩

theorem tot_le (rows : List (List Int)) (B : Nat) (h : ∀ r ∈ rows, r.length ≤ B) : tot rows ≤ rows.length * B := by
  induction rows with
  | nil => simp [tot]
  | cons r t ih =>
    have h1 := h r (List.mem_cons_self ..)
    have h2 := ih fun x hx => h x (List.mem_cons_of_mem _ hx)
    rw [tot, List.length_cons, Nat.add_mul]; omega
theorem bound_AllPartitions (n : Int) : (allF n).length ≤ 1048576 ∧ tot (allF n) ≤ 1048576 := by
  cases h : inB 0 14 n
  · rw [allF_f h]; simp [tot]
  · have hh := inB_iff.1 h
    obtain ⟨m, rfl⟩ : ∃ m : Nat, n = m := ⟨n.toNat, by omega⟩
    rw [allF_t m (by omega)]
    have h1 := T_bound m (by omega) m (by omega)
    have h2 := tot_le (allR m (T m m)) 14 fun r hr => by
      obtain ⟨q, _, rfl⟩ := List.mem_map.1 hr
      have := pa_len m m m q; omega
    rw [allR_len] at h2 ⊢
    omega
end Go.Proofs.Ytmjncedijddmmaa
/-
  Contracts: levelsFrom and its users of the program; slices.Concat at rows that may be empty.
-/
namespace Go.Proofs.Ytmjncedijddmmaa
open Go.RowKit

set_option maxRecDepth 100000 in
set_option maxHeartbeats 2000000 in
theorem concat_opt (A : Option Addr) (c : Nat) (rows : List (List Int)) (w : World) (hr : rows.length ≤ 1000) (ht : tot rows ≤ 1000) (P : Nat → Option Addr) (C : Nat → Nat)
    (hA1 : 0 < rows.length → ∃ b o, A = some ⟨b, o, none⟩ ∧ ∀ j, j < rows.length → w.cell? ⟨b, o + j, none⟩ = some (.slice (P j) (rows.getD j []).length (C j))) (hA2 : ∀ j, j < rows.length → Cells w (P j) (rows.getD j [])) (hp : ∀ j, j < rows.length → P j = none → C j = 0) :
    Calls Try.prog 80 #[.slice A rows.length c] w fun e w' => ∃ A' c', e = .returned (.slice A' rows.flatten.length c') ∧ Own w' w.heap.size A' c' rows.flatten ∧ Below w.heap.size w w' := by
  obtain ⟨i0, hi, hz0, hz1, hz2⟩ := info_parts Try.infoInt
  have HP := hid hp; have HA1 := hid hA1; have HA2 := hid hA2
  clear hp hA1 hA2
  go_enter Try.func80, Try.ntmps80
  go_wp2_with fail
  go_loop [3, 11] (fun s i => ∃ k : Nat, k ≤ rows.length ∧ i = .int .i64 k ∧ s = .int .i64 (tot (rows.take k) : Int)) (fun _ i => rows.length - (intOf i).toNat)
  case atStart => exact ⟨0, Nat.zero_le _, rfl, by simp [tot]⟩
  case round =>
    obtain ⟨k, hk, rfl, rfl⟩ := hrel
    by_cases hlt : k < rows.length
    · obtain ⟨b, o, rfl, hcc⟩ := HA1.out (by omega)
      have hck := hcc k hlt
      have hts := tot_take_succ rows k hlt
      have htl := tot_take_le rows (k + 1)
      obtain ⟨m, hm⟩ : ∃ m, m = (rows.getD k []).length := ⟨_, rfl⟩
      obtain ⟨s, hs⟩ : ∃ s, s = tot (rows.take k) := ⟨_, rfl⟩
      rw [← hm] at hck hts
      rw [← hs] at hts ⊢
      have HTS := hid hts
      have hmb : s + m ≤ 1000 := by omega
      clear hcc hm hs htl hts
      go_wp2_with fail
      go_round
      case rel => exact ⟨k + 1, by omega, by go_num, by rw [HTS.out]; go_num⟩
      case measure => simp [intOf]; omega
    · have hkn : k = rows.length := by omega
      subst hkn
      have e : rows.take rows.length = rows := List.take_of_length_le (Nat.le_refl _)
      rw [e]
      clear e
      obtain ⟨T, hT⟩ : ∃ T, T = tot rows := ⟨_, rfl⟩
      rw [← hT] at ht ⊢
      have HT := hid hT
      clear hT
      go_wp2_with (go_at_call 104; refine (grow0_any T _ (by omega)).mono ?_; rintro e w1 ⟨v1, rfl, o1, b1⟩)
      go_loopw [6, 27] (fun v i wr => ∃ k : Nat, k ≤ rows.length ∧ i = .int .i64 k ∧ wr.ownsRow w.heap.size 3 1 v (rows.take k).flatten.length (IL (rows.take k).flatten) ∧ Below w.heap.size w wr) (fun _ i _ => rows.length - (intOf i).toNat)
      case atStart => exact ⟨0, Nat.zero_le _, rfl, by simpa [IL] using o1, b1⟩
      case round =>
        obtain ⟨k, hk, rfl, hown, hbel⟩ := hrel
        by_cases hlt : k < rows.length
        · obtain ⟨b, o, rfl, hcc⟩ := HA1.out (by omega)
          have hck0 := hcc k hlt
          have hck := (hbel.cell (World.block_lt_of_cell? w _ hck0)).trans hck0
          have hpk := HP.out k hlt
          have hr3 := HA2.out k hlt
          have hfs := flat_succ rows k hlt
          have hfl := flat_len (rows.take k)
          have hts := tot_take_succ rows k hlt
          have htl := tot_take_le rows (k + 1)
          obtain ⟨r, hre⟩ : ∃ r, r = rows.getD k [] := ⟨_, rfl⟩
          rw [← hre] at hck hfs hr3 hts
          have hrl : (rows.take k).flatten.length + r.length ≤ 1000 := by have := HT.out; omega
          have HFS := hid hfs
          have hnone : P k = none → r.length = 0 ∧ C k = 0 := fun e => by
            refine ⟨?_, hpk e⟩
            rcases Nat.eq_zero_or_pos r.length with h | h
            · exact h
            · rw [e] at hr3; obtain ⟨b, o, h1, _⟩ := hr3 h; cases h1
          have hnews : ∀ W, Below w.heap.size w W → ∀ ad, P k = some ad → ∀ j u, (IL r)[j]? = some u → W.cell? (ad.add j) = some u := by
            intro W hW ad had j u hu
            have hj : j < r.length := by
              have := (List.getElem?_eq_some_iff.1 hu).1
              simpa [IL] using this
            rw [had] at hr3
            obtain ⟨b3, o3, h1, h2⟩ := hr3 (by omega)
            cases h1
            have h := h2 j hj
            rw [IL_get r j hj] at hu
            have e : (⟨b3, o3, none⟩ : Addr).add j = ⟨b3, o3 + j, none⟩ := by unfold Addr.add; split <;> simp_all
            rw [e, hW.cell (World.block_lt_of_cell? w _ h), h, ← hu]
          obtain ⟨PA, hPA⟩ : ∃ PA, PA = P k := ⟨_, rfl⟩
          obtain ⟨CA, hCA⟩ : ∃ CA, CA = C k := ⟨_, rfl⟩
          rw [← hPA] at hnone hnews hck
          rw [← hCA] at hnone hck
          have HNN := hid hnone
          have HN := hid hnews
          have HOW := hid hown
          have hrn : (IL r).length = r.length * 1 := by simp [IL]
          have HRN := hid hrn
          clear hcc hck0 hr3 hre hfs hfl hts htl hnews hown hrn hnone hPA hCA hpk
          obtain ⟨f, hf⟩ : ∃ f, f = (rows.take k).flatten := ⟨_, rfl⟩
          rw [← hf] at HOW HFS hrl
          have HF := hid hf
          clear hf
          go_wp2_with (at_builtin; refine wpList_append_opt _ rfl _ _ 22 rfl w.heap.size 3 i0 (.int .i64 0) 1 8 Try.underlying22 hi hz0 hz1 hz2 rfl (by decide) _ _ _ rfl HOW.out PA r.length CA (IL r) rfl HRN.out HNN.out (HN.out _ hbel) (IL_oneX r) (by unfold maxLen; omega) (by omega) hbel.size ?_)
          intro v' w2 hown' hgrow
          have hb1 : Below w.heap.size w w2 := hbel.grown hgrow hbel.size (fun q hq => (HOW.out.lt q hq).1)
          have hown2 : w2.ownsRow w.heap.size 3 1 v' (f ++ r).length (IL (f ++ r)) := by rw [IL_app, List.length_append]; exact hown'
          rw [← HFS.out] at hown2
          have HO2 := hid hown2
          clear hown' hgrow hown2
          go_wp2_with fail
          go_roundw
          case rel => exact ⟨k + 1, by omega, by go_num, HO2.out, hb1⟩
          case measure => simp [intOf]; omega
        · have hkn : k = rows.length := by omega
          subst hkn
          rw [List.take_of_length_le (Nat.le_refl _)] at hown
          obtain ⟨A', c', rfl, ho'⟩ := own_form hown rfl
          clear hown
          go_wp2_with fail
          go_ret
          exact ⟨A', c', rfl, ho', hbel⟩

theorem mul3_bd {t : Nat} {x : Int} (ht : 2 ≤ t ∧ t ≤ 6) (hx : -10 ≤ x ∧ x ≤ 10) : -60 ≤ (t : Int) * x ∧ (t : Int) * x ≤ 60 ∧ 0 ≤ (t : Int) * x * x ∧ (t : Int) * x * x ≤ 600 := by
  have h := sq_bd hx
  rw [Int.mul_assoc]
  generalize x * x = y at *
  have : t = 2 ∨ t = 3 ∨ t = 4 ∨ t = 5 ∨ t = 6 := by omega
  rcases this with rfl | rfl | rfl | rfl | rfl <;> simp <;> omega
theorem mul4_bd {a x : Int} (ha : -10 ≤ a ∧ a ≤ 10) (hx : -10 ≤ x ∧ x ≤ 10) : -100 ≤ a * x ∧ a * x ≤ 100 := by
  have : a = -10 ∨ a = -9 ∨ a = -8 ∨ a = -7 ∨ a = -6 ∨ a = -5 ∨ a = -4 ∨ a = -3 ∨ a = -2 ∨ a = -1 ∨ a = 0 ∨ a = 1 ∨ a = 2 ∨ a = 3 ∨ a = 4 ∨ a = 5 ∨ a = 6 ∨ a = 7 ∨ a = 8 ∨ a = 9 ∨ a = 10 := by omega
  rcases this with rfl | rfl | rfl | rfl | rfl | rfl | rfl | rfl | rfl | rfl | rfl | rfl | rfl | rfl | rfl | rfl | rfl | rfl | rfl | rfl | rfl <;> omega
theorem shr_alt (t i : Nat) (x : Int) : shr t i x = (t : Int) * x * x + (2 * (i : Int) - ((t : Int) - 1)) * x := by unfold shr; grind
theorem concat_pair (w : World) (x : Int) (rr : List Int) (PA : Option Addr) (CA : Nat) (hrr : Cells w PA rr) (hn : PA = none → CA = 0) (hl : rr.length ≤ 900) :
    Calls Try.prog 80 #[.slice (some ⟨w.heap.size + 1, 0, none⟩) 2 2] ((w.alloc (.cells #[.int .i64 x] 3)).alloc (.cells #[.slice (some ⟨w.heap.size, 0, none⟩) 1 1, .slice PA rr.length CA] 22)) fun e w' => ∃ A' c', e = .returned (.slice A' (x :: rr).length c') ∧ Own w' w.heap.size A' c' (x :: rr) ∧ Below w.heap.size w w' := by
  have b1 : Below w.heap.size w ((w.alloc (.cells #[.int .i64 x] 3)).alloc (.cells #[.slice (some ⟨w.heap.size, 0, none⟩) 1 1, .slice PA rr.length CA] 22)) := ((Below.refl _ _).alloc (Nat.le_refl _) _).alloc (by simp) _
  have k1 := World.ownsRow.alloc (World.ownsRow_lit (base := w.heap.size) (e := 3) (size := 1) w #[.int .i64 x] 1 (Nat.le_refl _) (by unfold maxLen; omega) rfl) (.cells #[.slice (some ⟨w.heap.size, 0, none⟩) 1 1, .slice PA rr.length CA] 22)
  have k2 := World.ownsRow_lit (base := w.heap.size) (e := 22) (size := 1) (w.alloc (.cells #[.int .i64 x] 3)) #[.slice (some ⟨w.heap.size, 0, none⟩) 1 1, .slice PA rr.length CA] 2 (by simp) (by unfold maxLen; omega) rfl
  have hsz : (w.alloc (.cells #[.int .i64 x] 3)).heap.size = w.heap.size + 1 := by simp
  rw [hsz] at k2
  have h := concat_opt (some ⟨w.heap.size + 1, 0, none⟩) 2 [[x], rr] ((w.alloc (.cells #[.int .i64 x] 3)).alloc (.cells #[.slice (some ⟨w.heap.size, 0, none⟩) 1 1, .slice PA rr.length CA] 22)) (by simp) (by simp [tot]; omega)
    (fun j => if j = 0 then some ⟨w.heap.size, 0, none⟩ else PA) (fun j => if j = 0 then 1 else CA)
    (fun _ => ⟨w.heap.size + 1, 0, rfl, fun j hj => by
      rw [Nat.zero_add, World.ownsRow.cellAt k2 j (by simpa using hj)]
      rcases (show j = 0 ∨ j = 1 by simp at hj; omega) with rfl | rfl <;> rfl⟩)
    (fun j hj => by
      rcases (show j = 0 ∨ j = 1 by simp at hj; omega) with rfl | rfl
      · intro _
        refine ⟨w.heap.size, 0, rfl, fun k hk => ?_⟩
        have : k = 0 := by simpa using hk
        subst this
        rw [Nat.zero_add, World.ownsRow.cellAt k1 0 (by omega)]; rfl
      · exact hrr.later b1)
    (fun j hj e => by
      rcases (show j = 0 ∨ j = 1 by simp at hj; omega) with rfl | rfl
      · cases e
      · exact hn e)
  refine h.mono ?_
  rintro e w' ⟨A', c', rfl, o1, b2⟩
  have e1 : [[x], rr].flatten = x :: rr := by simp
  rw [e1] at o1 ⊢
  exact ⟨A', c', rfl, o1.more b1.size, Below.next b1 b2⟩

def lfr (t r : Nat) (s h l : Int) : List (List Int) := if h - shr t (t - (r + 1)) l < 0 then [] else (lf t r (s - l) (h - shr t (t - (r + 1)) l)).map (l :: ·)
def lfK (t r : Nat) (s h : Int) (K : Nat) : List (List Int) := (lvl 10 K).flatMap (lfr t r s h)
theorem lfK_succ (t r : Nat) (s h : Int) (K : Nat) : lfK t r s h (K + 1) = lfK t r s h K ++ lfr t r s h ((K : Int) - 10) := by
  unfold lfK; rw [lvl_succ, List.flatMap_append]; simp
theorem lfK_all (t r : Nat) (s h : Int) : lfK t r s h 21 = lf t (r + 1) s h := rfl
def lfJ (M : List (List Int)) (l : Int) (j : Nat) : List (List Int) := (M.take j).map (l :: ·)
theorem lfJ_succ {M : List (List Int)} {l : Int} {j : Nat} (hj : j < M.length) : lfJ M l (j + 1) = lfJ M l j ++ [l :: M.getD j []] := by
  unfold lfJ
  rw [List.take_succ_eq_append_getElem hj, List.map_append]; simp [List.getD, hj]
theorem lfJ_len {M : List (List Int)} {l : Int} {j : Nat} (hj : j ≤ M.length) : (lfJ M l j).length = j := by simp [lfJ]; omega
theorem lf_len {t : Nat} : ∀ (r : Nat) (s h : Int), (lf t r s h).length ≤ 21 ^ r
  | 0, s, h => by rw [lf_zero]; split <;> simp
  | r + 1, s, h => by
    rw [lf, List.length_flatMap]
    have : ∀ L : List Int, (L.map fun l => (if h - shr t (t - (r + 1)) l < 0 then [] else (lf t r (s - l) (h - shr t (t - (r + 1)) l)).map (l :: ·)).length).sum ≤ L.length * 21 ^ r := fun L => by
      induction L with
      | nil => simp
      | cons a l ih =>
        rw [List.map_cons, List.sum_cons, List.length_cons, Nat.add_mul]
        have h1 : (if h - shr t (t - (r + 1)) a < 0 then [] else (lf t r (s - a) (h - shr t (t - (r + 1)) a)).map (a :: ·)).length ≤ 21 ^ r := by
          split
          · simp
          · rw [List.length_map]; exact lf_len r _ _
        omega
    have h2 := this (lvl 10 21)
    rw [show (lvl 10 21).length = 21 from rfl] at h2
    rw [Nat.pow_succ]; omega
theorem lfK_len {t : Nat} (r : Nat) (s h : Int) (K : Nat) (hK : K ≤ 21) : (lfK t r s h K).length ≤ 21 ^ (r + 1) := by
  have h1 := lf_len (t := t) (r + 1) s h
  rw [← lfK_all] at h1
  have key : ∀ d, K + d ≤ 21 → (lfK t r s h K).length ≤ (lfK t r s h (K + d)).length := fun d => by
    induction d with
    | zero => intro _; exact Nat.le_refl _
    | succ d ih => intro hd; have := ih (by omega); rw [show K + (d + 1) = K + d + 1 by omega, lfK_succ, List.length_append]; omega
  have := key (21 - K) (by omega)
  rw [show K + (21 - K) = 21 by omega] at this
  omega
theorem pow21 {r : Nat} (h : r ≤ 6) : 21 ^ r ≤ 100000000 := by
  have : r = 0 ∨ r = 1 ∨ r = 2 ∨ r = 3 ∨ r = 4 ∨ r = 5 ∨ r = 6 := by omega
  rcases this with rfl | rfl | rfl | rfl | rfl | rfl | rfl <;> decide
end Go.Proofs.Ytmjncedijddmmaa
/-
  Contracts: levelsFrom, LevelsWith and CountCores of the program.
-/
namespace Go.Proofs.Ytmjncedijddmmaa
open Go.RowKit

def lwOk (t n : Int) : Bool := inB 2 6 t && okN n
def lwF (t n : Int) : List (List Int) := if lwOk t n then chL n (t.toNat - 1) [] else []
def lwN (t n : Int) : Int := (lwF t n).length
theorem lw_no {t n : Int} (h : lwOk t n = false) : lwF t n = [] := by simp [lwF, h]
theorem lw_yes {t n : Int} (h : lwOk t n = true) : lwF t n = chL n (t.toNat - 1) [] := by simp [lwF, h]
theorem bound_LevelsWith (t n : Int) : (lwF t n).length ≤ 1048576 ∧ tot (lwF t n) ≤ 1048576 := by
  cases h : lwOk t n
  · rw [lw_no h]; simp [tot]
  · rw [lw_yes h]
    simp only [lwOk, Bool.and_eq_true] at h
    have hin := inB_iff.1 h.1
    have h1 := chL_len (n := n) (t.toNat - 1) []
    have h2 : 9 ^ (t.toNat - 1) ≤ 59049 := by
      have : t.toNat - 1 = 1 ∨ t.toNat - 1 = 2 ∨ t.toNat - 1 = 3 ∨ t.toNat - 1 = 4 ∨ t.toNat - 1 = 5 := by omega
      rcases this with e | e | e | e | e <;> rw [e] <;> decide
    have h3 := tot_le (chL n (t.toNat - 1) []) 6 fun r hr => by
      have := (mem_chL _ _ hr).2.2.1
      simp at this; omega
    omega

end Go.Proofs.Ytmjncedijddmmaa
