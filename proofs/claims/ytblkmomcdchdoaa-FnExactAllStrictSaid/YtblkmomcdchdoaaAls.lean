/-
  Contracts: AllStrict on both sides.
-/
import Derived.Test.YtblkmomcdchdoaaAlsMath
import Derived.Test.YtblkmomcdchdoaaLst
import Derived.Test.YtblkmomcdchdoaaCH
import Derived.Test.YtblkmomcdchdoaaBarS
import Derived.Test.YtblkmomcdchdoaaTakeF
import Derived.Test.YtblkmomcdchdoaaCB
import Derived.Test.YtblkmomcdchdoaaPushAp
import Derived.Maps.AppendAt
namespace Go.Proofs.Ytblkmomcdchdoaa
open Go.RowKit

theorem sA_len {f n m : Nat} (hn : n ≤ f) (hf : f ≤ 24) (hm : m ≤ 24) : (sA f n m).length ≤ 200 := by
  have e := sA_any (n := n) (m := m) (24 - f) f hn
  rw [show f + (24 - f) = 24 by omega] at e
  rw [e]; exact sA_bd n (by omega) m (by omega)
theorem IL_oneA (xs : List Int) : ∀ u ∈ IL xs, u.oneCell' = true := by
  intro u hu
  obtain ⟨x, _, rfl⟩ := List.mem_map.1 hu
  rfl
set_option maxHeartbeats 1000000 in
theorem brAll_zero (m : Nat) (w : World) :
    Calls Try.prog 108 #[.int .i64 (0 : Nat), .int .i64 m] w fun e w' => ∃ A' c', e = .returned (.slice A' ([[]] : List (List Int)).length c') ∧ Own2 w' w.heap.size w'.heap.size A' c' ([[]] : List (List Int)) ∧ Below w.heap.size w w' := by
  have h0 : ((0 : Nat) : Int) = 0 := rfl
  rw [h0]
  go_enter Try.func108, Try.ntmps108
  go_wp2_with fail
  go_ret
  refine ⟨some ⟨w.heap.size, 0, none⟩, 1, rfl, ⟨fun _ => none, fun _ => 0, ?_, fun b hb => ?_, fun j hj => ?_, fun j hj b hb => by simp at hb, fun i j hij hj => ?_⟩, (Below.refl _ _).alloc (Nat.le_refl _) _⟩
  · exact World.ownsRow_lit (base := w.heap.size) (e := 22) (size := 1) w #[.slice none 0 0] 1 (Nat.le_refl _) (by unfold maxLen; omega) rfl
  · have : w.heap.size = b := by simpa using hb
    simp; omega
  · have : j = 0 := by simpa using hj
    subst this
    exact own_nil _ _
  · simp at hj; omega
theorem map_take_succ (M : List (List Int)) (x : Int) (j : Nat) (h : j < M.length) : (M.take (j + 1)).map (fun r => x :: r) = (M.take j).map (fun r => x :: r) ++ [x :: M.getD j []] := by
  rw [List.take_succ_eq_append_getElem h, List.map_append, List.getD_eq_getElem?_getD, List.getElem?_eq_getElem h]; rfl
theorem sA_rows : ∀ f n m r, r ∈ sA f n m → r.length ≤ f
  | 0, n, m, r, h => by simp [sA] at h; simp [h]
  | f + 1, n, m, r, h => by
    rcases Nat.eq_zero_or_pos n with h0 | h0
    · subst h0; rw [sA_zero] at h; simp at h; simp [h]
    · rw [sA_next h0] at h
      have aux : ∀ k, r ∈ sBg (sA f) n k → r.length ≤ f + 1 := by
        intro k
        induction k with
        | zero => intro h; simp [sBg] at h
        | succ k ih =>
          intro h
          rcases List.mem_append.1 h with h1 | h1
          · obtain ⟨q, hq, rfl⟩ := List.mem_map.1 h1
            have := sA_rows f _ _ _ hq; simp; omega
          · exact ih h1
      exact aux _ h

set_option maxRecDepth 100000 in
set_option maxHeartbeats 4000000 in
theorem brAll_any : ∀ (f n m : Nat) (w : World), n ≤ f → f ≤ 24 → m ≤ 24 →
    Calls Try.prog 108 #[.int .i64 n, .int .i64 m] w fun e w' => ∃ A' c', e = .returned (.slice A' (sA f n m).length c') ∧ Own2 w' w.heap.size w'.heap.size A' c' (sA f n m) ∧ Below w.heap.size w w' := by
  obtain ⟨i0, hi, hz0, hz1, hz2⟩ := info_parts Try.infoInt
  obtain ⟨i1, hj, hy0, hy1, hy2⟩ := info_parts Try.infoInts
  intro f
  induction f with
  | zero =>
    intro n m w h _ _
    obtain rfl := Nat.le_zero.1 h
    exact brAll_zero m w
  | succ f ih =>
    intro n m w hn hf hm
    rcases Nat.eq_zero_or_pos n with h0 | h0
    · subst h0; rw [sA_zero]; exact brAll_zero m w
    have IH := hid ih; clear ih
    have hlen := sA_len hn hf hm
    rw [sA_next h0] at hlen ⊢
    have HLE := hid (l1Least_s n m w)
    have hyn : min n m ≤ n := Nat.min_le_left _ _
    have hym : min n m ≤ m := Nat.min_le_right _ _
    obtain ⟨y, hy⟩ : ∃ y, y = min n m := ⟨_, rfl⟩
    rw [← hy] at HLE hyn hym hlen ⊢
    obtain ⟨F, hF⟩ : ∃ F, F = sBg (sA f) n y := ⟨_, rfl⟩
    rw [← hF] at hlen ⊢
    have HFF := hid hF
    have h0i : ¬ ((n : Int) = 0) := by omega
    clear hy hF
    go_enter Try.func108, Try.ntmps108
    go_wp2_with fail
    refine HLE.out.mono ?_
    rintro e w1 ⟨rfl, rfl⟩
    go_wp2_with fail
    go_loopw [5, 6] (fun v xv wr => ∃ (p : Nat) (D : List (List Int)), p ≤ y ∧ xv = .int .i64 p ∧ Hid (D ++ sBg (sA f) n p = F) ∧ (∃ P C, Push wr w.heap.size v D P C) ∧ Below w.heap.size w wr) (fun _ xv _ => (intOf xv).toNat)
    case atStart => exact ⟨y, [], Nat.le_refl _, rfl, hid HFF.out.symm, ⟨_, _, push_nil _ _⟩, Below.refl _ _⟩
    case round =>
      obtain ⟨p, D, hp, rfl, HD, ⟨P, C, hpush⟩, hbel⟩ := hrel
      obtain ⟨wo, rfl⟩ : ∃ wo : World, wo = wr := ⟨_, rfl⟩
      have HP := hid hpush; clear hpush
      have HB := hid hbel; clear hbel
      by_cases h1 : 0 < p
      · obtain ⟨q, rfl⟩ : ∃ q, p = q + 1 := ⟨p - 1, by omega⟩
        have hwn : IntKind.i64.wrap ((n : Int) - ((q : Int) + 1)) = ((n - (q + 1) : Nat) : Int) := by rw [IntWalk.i64_in _ (by omega)]; omega
        have hcall := IH.out (n - (q + 1)) q wo (by omega) (by omega) (by omega)
        have hd := HD.out
        rw [sBg, ← List.append_assoc] at hd
        have hsl := sA_len (f := f) (n := n - (q + 1)) (m := q) (by omega) (by omega) (by omega)
        have hrow := sA_rows f (n - (q + 1)) q
        obtain ⟨M, hM⟩ : ∃ M, M = sA f (n - (q + 1)) q := ⟨_, rfl⟩
        rw [← hM] at hcall hd hsl hrow
        have HC := hid hcall
        have HDD := hid hd
        have HROWS := hid hrow
        have HML := hid fun j (h : j < M.length) => map_take_succ M ((q : Int) + 1) j h
        have hDl : D.length + M.length ≤ 200 := by
          have := congrArg List.length hd
          simp only [List.length_append, List.length_map] at this
          omega
        obtain ⟨L, hL⟩ : ∃ L, L = M.length := ⟨_, rfl⟩
        have HLL := hid hL
        clear hcall hd hM hrow
        go_wp2_with fail
        refine HC.out.mono ?_
        rintro e wc ⟨Ac, cc, rfl, oc, bc⟩
        rw [← hL]
        rw [← hL] at hsl hDl
        have OC := hid oc; clear oc
        have BC := hid bc; clear bc
        clear hL
        go_wp2_with fail
        clear hwn
        go_loopw [5, 26] (fun v jv wr => ∃ j : Nat, j ≤ L ∧ jv = .int .i64 j ∧ (∃ P C, Push wr w.heap.size v (D ++ (M.take j).map (fun r => ((q : Int) + 1) :: r)) P C) ∧ Hid (Below w.heap.size w wr ∧ wc.heap.size ≤ wr.heap.size ∧ (∀ b, wo.heap.size ≤ b → b < wc.heap.size → wr.heap[b]? = wc.heap[b]?) ∧ ∀ q, v.ownBlock = some q → q < wo.heap.size ∨ wc.heap.size ≤ q)) (fun _ jv _ => L - (intOf jv).toNat)
        case atStart => exact ⟨0, Nat.zero_le _, rfl, ⟨_, _, by rw [List.take_zero, List.map_nil, List.append_nil]; exact HP.out.below BC.out⟩, hid ⟨HB.out.trans (BC.out.mono HB.out.size), Nat.le_refl _, fun _ _ _ => rfl, fun q hq => .inl (HP.out.out.lt q hq).2⟩⟩
        case round =>
          obtain ⟨j, hjL, rfl, ⟨P2, C2, hpush⟩, HK⟩ := hrel
          have HP2 := hid hpush; clear hpush
          by_cases hlt : j < L
          · have hjl2 : (j : Int) < L := by omega
            obtain ⟨b1, b2, b3, b4⟩ := HK.out
            obtain ⟨Pc, Cc, H⟩ := OC.out.keep fun b _ hb1 hb2 => b3 b hb1 hb2
            have hjm : j < M.length := by have := HLL.out; omega
            obtain ⟨rr, hrr⟩ : ∃ rr, rr = M.getD j [] := ⟨_, rfl⟩
            have hrl : rr.length ≤ 24 := by
              have := HROWS.out rr (by rw [hrr, List.getD_eq_getElem?_getD, List.getElem?_eq_getElem hjm]; exact List.getElem_mem _)
              omega
            obtain ⟨tb, rfl, hckr⟩ := H.top1 (j := j) hjm
            rw [← hrr] at hckr
            have hrow2 := H.row j hjm
            rw [← hrr] at hrow2
            have hnone : Pc j = none → rr.length = 0 ∧ Cc j = 0 := fun e => own_none (by rw [← e]; exact hrow2)
            have hnews : ∀ ad, Pc j = some ad → ∀ k u, (IL rr)[k]? = some u → (wr.alloc (.cells #[.int .i64 ((q : Int) + 1)] 3)).cell? (ad.add k) = some u := fun ad e => own_news (by rw [← e]; exact hrow2) _
            obtain ⟨PA, hPA⟩ : ∃ PA, PA = Pc j := ⟨_, rfl⟩
            obtain ⟨CA, hCA⟩ : ∃ CA, CA = Cc j := ⟨_, rfl⟩
            rw [← hPA, ← hCA] at hckr hnone
            rw [← hPA] at hnews
            have hsz0 := HB.out.size
            have hsz1 := b1.size
            have hrw := HML.out j hjm
            rw [← hrr] at hrw
            have HRW := hid hrw
            have hTL : (D ++ (M.take j).map (fun r => ((q : Int) + 1) :: r)).length ≤ 200 := by
              simp only [List.length_append, List.length_map, List.length_take]; have := HLL.out; omega
            have HK2 := hid (show Below w.heap.size w wr ∧ wc.heap.size ≤ wr.heap.size ∧ (∀ b, wo.heap.size ≤ b → b < wc.heap.size → wr.heap[b]? = wc.heap[b]?) from ⟨b1, b2, b3⟩)
            have HK4 := hid b4
            obtain ⟨TL, hTLe⟩ : ∃ TL, TL = D ++ (M.take j).map (fun r => ((q : Int) + 1) :: r) := ⟨_, rfl⟩
            rw [← hTLe] at HP2 hTL
            have HTL := hid hTLe
            clear hrr hrow2 hPA hCA H b1 b2 b3 b4 hrw HK hTLe
            go_wp2_with (at_builtin; refine wpList_append_opt _ rfl _ _ 22 rfl wr.heap.size 3 i0 (.int .i64 0) 1 8 Try.underlying22 hi hz0 hz1 hz2 rfl (by decide) _ 1 [.int .i64 ((q : Int) + 1)] rfl (World.ownsRow_lit (base := wr.heap.size) (e := 3) (size := 1) wr #[.int .i64 ((q : Int) + 1)] 1 (Nat.le_refl _) (by unfold maxLen; omega) rfl) PA rr.length CA (IL rr) rfl (by simp [IL]) hnone hnews (IL_oneA rr) (by unfold maxLen; omega) (by omega) (by simp) ?_)
            intro v1 w1 hown1 hgrow1
            obtain ⟨r1, hr1⟩ : ∃ r1, r1 = ((q : Int) + 1) :: rr := ⟨_, rfl⟩
            have hown2 : w1.ownsRow wr.heap.size 3 1 v1 (1 + rr.length) (IL r1) := by rw [hr1]; exact hown1
            obtain ⟨Ar, cr, rfl, ho1⟩ := own_form hown2 (by rw [hr1]; simp; omega)
            have hb1 : Below wr.heap.size wr w1 := ((Below.refl _ _).alloc (Nat.le_refl _) _).grown hgrow1 (by simp) (fun q hq => Nat.le_of_eq (by simpa [Value.ownBlock] using hq))
            rw [← hr1] at HRW
            have HO1 := hid ho1
            have HB1 := hid hb1
            have hs1 := hb1.size
            clear hown1 hown2 hgrow1 ho1 hb1 hr1 hnews hnone hckr
            go_wp2_with (at_builtin; refine wpList_append_own_at _ rfl _ _ 32 rfl w.heap.size 22 i1 (.slice none 0 0) 1 24 Try.underlying32 hj hy0 hy1 hy2 rfl (by decide) _ _ _ rfl ((HP2.out.below HB1.out).out.alloc _) ⟨w1.heap.size, 0, none⟩ 1 1 [.slice Ar r1.length cr] rfl rfl one_at (one_cellS _ _ _) (by unfold maxLen; omega) (by omega) (by simp; omega) ?_)
            intro v2 w2 hown2 hgrow2 _ hat
            have hp3 := HP2.out.push HB1.out HO1.out (by omega) hown2 hgrow2
            rw [HTL.out, List.append_assoc, ← HRW.out] at hp3
            have hgs := hgrow2.size
            obtain ⟨k1, k2, k3⟩ := HK2.out
            have hal : ∀ o : Obj, (w1.alloc o).heap.size = w1.heap.size + 1 := fun o => by simp
            have hb2 : Below w.heap.size w w2 := ((k1.trans (HB1.out.mono k1.size)).alloc (by omega) _).grown hgrow2 (by simp; omega) (fun q hq => (HP2.out.out.lt q hq).1)
            have HN := hid (show Below w.heap.size w w2 ∧ wc.heap.size ≤ w2.heap.size ∧ (∀ b, wo.heap.size ≤ b → b < wc.heap.size → w2.heap[b]? = wc.heap[b]?) ∧ ∀ q, v2.ownBlock = some q → q < wo.heap.size ∨ wc.heap.size ≤ q from by
              refine ⟨hb2, by rw [hal] at hgs; omega, fun b hb1 hb2 => ?_, fun q hq => ?_⟩
              · rw [hgrow2.block b (by rw [hal]; omega) (fun e => by have := HK4.out b e.symm; omega), Below.heap_alloc _ _ _ (by omega), HB1.out.block b (by omega)]
                exact k3 b hb1 hb2
              · rcases hat with h | h
                · exact HK4.out q (by rw [← h]; exact hq)
                · rw [h] at hq
                  have : (w1.alloc (Obj.cells #[.slice Ar r1.length cr] 22)).heap.size = q := by simpa using hq
                  rw [hal] at this
                  omega)
            have HP3 := hid hp3
            clear hown2 hgrow2 hat hp3 hgs k1 k2 k3 hb2 hal
            go_wp2_with fail
            go_roundw
            case rel => exact ⟨j + 1, by omega, by go_num, ⟨_, _, HP3.out⟩, HN⟩
            case measure => simp [intOf]; omega
          · have hjl : j = M.length := by have := HLL.out; omega
            have hnx := HP2.out
            rw [hjl, List.take_length] at hnx
            have HNX := hid hnx
            have hbr := hid HK.out.1
            have hjl2 : ¬ (j : Int) < L := by omega
            clear hnx hjl
            go_wp2_with fail
            go_roundw
            case rel => exact ⟨q, _, by omega, by go_num, HDD, ⟨_, _, HNX.out⟩, hbr.out⟩
            case measure => simp [intOf] <;> omega
      · have hp0 : p = 0 := by omega
        subst hp0
        have hpp := HP.out
        have e : D = F := by have := HD.out; rwa [sBg, List.append_nil] at this
        subst e
        obtain ⟨A', c', rfl, ho⟩ := hpp.own2
        have HO := hid ho
        clear ho hpp
        go_wp2_with fail
        go_ret
        exact ⟨A', c', rfl, HO.out, HB.out⟩

def alF (n : Int) : List (List Int) := if inB 0 24 n then sA 24 n.toNat n.toNat else []
theorem alF_f {n : Int} (h : inB 0 24 n = false) : alF n = [] := by simp [alF, h]
theorem alF_t (m : Nat) (h : m ≤ 24) : alF m = sA 24 m m := by
  have e : inB 0 24 (m : Int) = true := inB_iff.2 (by omega)
  simp [alF, e]
theorem bound_AllStrict (n : Int) : (alF n).length ≤ 1048576 ∧ tot (alF n) ≤ 1048576 := by
  cases h : inB 0 24 n
  · rw [alF_f h]; simp [tot]
  · have hh := inB_iff.1 h
    obtain ⟨m, rfl⟩ : ∃ m : Nat, n = m := ⟨n.toNat, by omega⟩
    rw [alF_t m (by omega)]
    have h1 := sA_bd m (by omega) m (by omega)
    have tle : ∀ rows : List (List Int), (∀ r ∈ rows, r.length ≤ 24) → tot rows ≤ rows.length * 24 := by
      intro rows h
      induction rows with
      | nil => simp [tot]
      | cons r t ih =>
        have h1 := h r (List.mem_cons_self ..)
        have h2 := ih fun x hx => h x (List.mem_cons_of_mem _ hx)
        rw [tot, List.length_cons, Nat.add_mul]; omega
    have := tle _ (fun r hr => sA_rows 24 m m r hr)
    omega

set_option maxHeartbeats 1000000 in
theorem spec_AllStrict (n : Int) (w : World) (_hn : I64 n) :
    Calls Try.prog 62 #[.int .i64 n] w fun e w' => ∃ A' c', e = .returned (.tuple #[.slice A' (alF n).length c', .bool (inB 0 24 n)]) ∧ Own2 w' w.heap.size w'.heap.size A' c' (alF n) ∧ Below w.heap.size w w' := by
  cases h : inB 0 24 n
  · rw [alF_f h]
    have H := hid h; clear h
    go_enter Try.func62, Try.ntmps62
    go_wp2_with (go_at_call 83; refine (l1In_b _ _ _ _ _ H.out).mono ?_; rintro e w' ⟨rfl, rfl⟩)
    go_ret2
    exact ⟨none, 0, rfl, own2_nil _ _ _, Below.refl _ _⟩
  have hh := inB_iff.1 h
  obtain ⟨m, rfl⟩ : ∃ m : Nat, n = m := ⟨n.toNat, by omega⟩
  have hm : m ≤ 24 := by omega
  rw [alF_t m hm]
  have H := hid h; clear h hh
  have HA := hid (brAll_any 24 m m w hm (Nat.le_refl _) hm)
  go_enter Try.func62, Try.ntmps62
  go_wp2_with (first | (go_at_call 83; refine (l1In_b _ _ _ _ _ H.out).mono ?_; rintro e w' ⟨rfl, rfl⟩) | (go_at_call 108; refine HA.out.mono ?_; rintro e w2 ⟨A', c', rfl, ho, hb⟩))
  go_ret2
  exact ⟨A', c', rfl, ho, hb⟩

set_option maxHeartbeats 1000000 in
theorem impl_AllStrict (n : Int) (w : World) (_hn : I64 n) :
    Calls Try.prog 63 #[.int .i64 n] w fun e w' => ∃ A' c', e = .returned (.tuple #[.slice A' (alF n).length c', .bool (inB 0 24 n)]) ∧ Own2 w' w.heap.size w'.heap.size A' c' (alF n) ∧ Below w.heap.size w w' := by
  cases h : inB 0 24 n
  · rw [alF_f h]
    have h' : ¬ (0 ≤ n ∧ n ≤ 24) := fun hh => by have := inB_iff.2 hh; rw [h] at this; cases this
    clear h
    by_cases h0 : n < 0
    · go_enter Try.func63, Try.ntmps63
      go_wp2_with fail
      go_ret2
      exact ⟨none, 0, rfl, own2_nil _ _ _, Below.refl _ _⟩
    · have h14 : 24 < n := by omega
      clear h'
      go_enter Try.func63, Try.ntmps63
      go_wp2_with fail
      go_ret2
      exact ⟨none, 0, rfl, own2_nil _ _ _, Below.refl _ _⟩
  have hh := inB_iff.1 h
  obtain ⟨m, rfl⟩ : ∃ m : Nat, n = m := ⟨n.toNat, by omega⟩
  have hm : m ≤ 24 := by omega
  rw [alF_t m hm]
  have HL := listStrict_any m w (by omega)
  rw [sA_chk m (by omega)] at HL
  have HLL := hid HL
  clear HL h hh
  go_enter Try.func63, Try.ntmps63
  go_wp2_with (go_at_call 109; refine HLL.out.mono ?_; rintro e w2 ⟨A', c', rfl, ho, hb⟩)
  go_ret2
  exact ⟨A', c', rfl, ho, hb⟩
end Go.Proofs.Ytblkmomcdchdoaa
