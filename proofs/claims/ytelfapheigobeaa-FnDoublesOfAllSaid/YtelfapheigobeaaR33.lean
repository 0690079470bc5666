/-
  Several texts in one.
-/
import Derived.Test.YtelfapheigobeaaR32
import Derived.Test.YtelfapheigobeaaR21
import Derived.LoopIn
import Derived.Test.YtelfapheigobeaaR26
import Derived.Test.YtelfapheigobeaaR18
import Derived.Test.YtelfapheigobeaaR31
import Derived.Test.YtelfapheigobeaaCB
import Derived.Test.YtelfapheigobeaaCC
/-
  Contract: FromMaya of the program.
-/
namespace Go.Proofs.Ytelfapheigobeaa
open Go.RowKit
attribute [local go_sem] Oper.semAt_some

def rowU (m : List Int) (k : Nat) (pre : List (Int × Int)) : List Int := upG m k k ++ posU k pre
theorem rowU_hit (m : List Int) (k : Nat) (pre : List (Int × Int)) {x : Int × Int} (h : 0 ≤ x.2) : rowU m k (pre ++ [x]) = rowU m k pre ++ [wrap64 (x.2 + k)] := by unfold rowU; rw [posU_hit _ _ h, List.append_assoc]
theorem rowU_miss (m : List Int) (k : Nat) (pre : List (Int × Int)) {x : Int × Int} (h : ¬ 0 ≤ x.2) : rowU m k (pre ++ [x]) = rowU m k pre := by unfold rowU; rw [posU_miss _ _ h]
theorem rowU_len (m : List Int) (k : Nat) (pre : List (Int × Int)) : (rowU m k pre).length ≤ k + pre.length := by
  have h1 := upG_len m k k
  have h2 := posU_len k pre
  unfold rowU; rw [List.length_append]; omega
theorem le90 {a k b c : Nat} (h1 : a ≤ k + b) (h2 : b < c) (h3 : c ≤ 60) (h4 : k ≤ 30) : a ≤ 90 := by omega
theorem le_mega {a k n : Nat} (h : a = n) (h1 : k = n) (h2 : k ≤ 30) : a ≤ 1048576 := by omega
theorem rowU_nil (m : List Int) (k : Nat) : rowU m k [] = upG m k k := by simp [rowU, posU]

set_option maxRecDepth 100000 in
set_option maxHeartbeats 8000000 in
theorem FromMaya_in (A : Option Addr) (cap : Nat) (m : List Int) (w : World) (h0 : 0 < m.length) (hb : moB m = true) (hl : m.length ≤ 1048576) (hc : Cells w A m) :
    CallsIn Fence.wide 5 Try.prog 15 #[.slice A m.length cap] w fun e W' => ∃ A' c', e = .returned (.tuple #[.slice A' (unF m).length c', .bool (unOk m)]) ∧ Own W' w.heap.size A' c' (unF m) ∧ Below w.heap.size w W' := by
  have M := moB_iff.1 hb
  have h60 := M.len
  have hn30 := mn_le M
  obtain ⟨hlast, hn0⟩ := MO_last M h0
  have HM := hid M
  clear M
  obtain ⟨n, hn⟩ : ∃ n, n = mn m := ⟨_, rfl⟩
  rw [← hn] at hlast hn30 hn0
  have HN := hid hn
  clear hn
  obtain ⟨i0, hi, hz0, hz1, hz2⟩ := info_parts Try.infoInt
  have hmy : ∀ w : World, Cells w A m → Calls Try.prog 29 #[.slice A m.length cap] w fun e w' => e = .returned (.bool true) ∧ w = w' := fun w hc => by
    have := isMaya_any A cap m w hl hc
    rwa [hb] at this
  obtain ⟨b, o, rfl, hcc⟩ := hc h0
  have hck := hcc (m.length - 1) (by omega)
  clear hcc
  have hwl : IntKind.i64.wrap ((m.length : Int) - 1) = ((m.length - 1 : Nat) : Int) := by rw [IntWalk.i64_in _ (by omega)]; omega
  rw [hlast] at hck
  obtain ⟨l1, hl1⟩ : ∃ l1, l1 = m.length - 1 := ⟨_, rfl⟩
  rw [← hl1] at hck hwl
  have hl1l : l1 < m.length := by omega
  have hwn : IntKind.i64.wrap (n : Int) = n := IntWalk.i64_in _ (by omega)
  have hwn2 : wrap64 (n : Int) = n := IntWalk.wrap64_in _ (by omega)
  clear hlast hl1 hb
  refine callsIn_of_wp_marks Try.func15 rfl trivial ?_ rfl
  simp only [Try.ntmps15, List.size_toArray, List.length_cons, List.length_nil, Nat.reduceAdd, Nat.reduceSub, Array.replicate_succ, Array.replicate_zero, List.push_toArray, List.append_toArray, List.nil_append, List.cons_append]
  gi_wp2_with (first | (refine ⟨trivial, ?_⟩; gi_at_call 29; refine (callsIn_wide.2 (hmy _ hc)).mono ?_; rintro e w' ⟨rfl, rfl⟩) | (refine ⟨trivial, ?_⟩; gi_at_call 30; refine (callsIn_wide.2 (countUp_any n _ (by omega))).mono ?_; rintro e W2 ⟨Au, cu, rfl, ou, bu⟩))
  have P0 := Boxed.new w 3 (.int .i64 n)
  have V0 := Boxed.new (w.alloc (.cells #[.int .i64 n] 3)) 22 (.slice none 0 0)
  rw [World.size_alloc] at V0
  have b0 : Below w.heap.size w ((w.alloc (.cells #[.int .i64 n] 3)).alloc (.cells #[.slice none 0 0] 22)) := ((Below.refl _ _).alloc (Nat.le_refl _) _).alloc (by simp) _
  have B2 := b0.next' bu b0.size
  have p2 := (P0.alloc (.cells #[.slice none 0 0] 22)).below' bu
  have v2 := V0.below' bu
  obtain ⟨g, rfl, hg1, hg2⟩ := ou.at_ (by rw [upTo_len]; exact hn0)
  have hcu := ou.cells
  have hg1' : w.heap.size + 1 < g := by simp at hg1; omega
  have hbw : b < w.heap.size := by
    obtain ⟨b', o', e, h⟩ := hc h0
    injection e with e; injection e with e1 e2; subst e1; subst e2
    exact World.block_lt_of_cell? w _ (h 0 h0)
  clear P0 V0 b0 ou bu hg1 hck
  gi_loopw [26] (fun i wr => ∃ k : Nat, k ≤ n ∧ i = .int .i64 k ∧ (∃ v, Boxed wr (w.heap.size + 1) 22 v ∧ wr.ownsRow (w.heap.size + 1) 3 1 v (upG m n k).length (IL (upG m n k)) ∧ v.ownBlock ≠ some g) ∧ Boxed wr w.heap.size 3 (.int .i64 n) ∧ wr.heap[g]? = W2.heap[g]? ∧ g < wr.heap.size ∧ Below w.heap.size w wr) (fun i _ => n - (intOf i).toNat)
  case atStart => exact ⟨0, Nat.zero_le _, rfl, ⟨_, v2, World.ownsRow_nil _ _ _ _, by simp [Value.ownBlock]⟩, p2, rfl, hg2, B2⟩
  case round =>
    obtain ⟨k, hk, rfl, ⟨v, hv, hrow, hsep⟩, hp, hgk, hgl, hB⟩ := hrel
    have hsz := hB.size
    have hcp := hp.cell
    have hcv := hv.cell
    by_cases hlt : k < n
    · have hcu' : Cells wr (some ⟨g, 0, none⟩) (upTo n) := hcu.keep fun b' hb' _ => by
        have : g = b' := by simpa using hb'
        subst this; exact hgk
      obtain ⟨_, _, e, hck0⟩ := hcu' (by rw [upTo_len]; exact hn0)
      have hck := hck0 k (by rw [upTo_len]; exact hlt)
      injection e with e; injection e with e1 e2; subst e1; subst e2
      rw [show (upTo n).getD k 0 = (k : Int) from fnRow_get _ _ _ hlt] at hck
      rw [Nat.zero_add] at hck
      clear hck0
      have hwk : IntKind.i64.wrap ((k : Int) - n) = (k : Int) - n := IntWalk.i64_in _ (by omega)
      have hwk2 : wrap64 ((k : Int) - n) = (k : Int) - n := IntWalk.wrap64_in _ (by omega)
      have hcm : Cells wr (some ⟨b, o, none⟩) m := hc.below hB
      have hul := upG_len m n k
      have HUL := hid hul; clear hul
      by_cases hm : ((k : Int) - n) ∈ m
      · have hmd := decide_eq_true hm
        have HMM := hid (upG_no hm)
        clear hm
        gi_wp2_with (refine ⟨trivial, ?_⟩; gi_at_call 31; refine (callsIn_wide.2 (Contains_any _ m cap ((k : Int) - n) wr (by omega) hcm)).mono ?_; rw [hmd]; rintro e w' ⟨rfl, rfl⟩)
        go_roundw
        case rel => exact ⟨k + 1, by omega, by go_num, ⟨v, hv, by rw [HMM.out]; exact hrow, hsep⟩, hp, hgk, hgl, hB⟩
        case measure => simp [intOf]; omega
      · have hmd := decide_eq_false hm
        have HMM := hid (upG_yes hm)
        clear hm
        gi_wp2_with (first | (refine ⟨trivial, ?_⟩; gi_at_call 31; refine (callsIn_wide.2 (Contains_any _ m cap ((k : Int) - n) wr (by omega) hcm)).mono ?_; rw [hmd]; rintro e w' ⟨rfl, rfl⟩) | (gi_at_builtin; refine wpListIn_append_own_at _ rfl _ _ 22 rfl (w.heap.size + 1) 3 i0 (.int .i64 0) 1 8 Try.underlying22 hi hz0 hz1 hz2 rfl (by decide) _ _ _ rfl (hrow.alloc _) ⟨wr.heap.size, 0, none⟩ 1 1 [.int .i64 (k : Int)] rfl rfl (cell_one_new _ _ _) (by simp [Value.oneCell']) (by have := HUL.out; unfold maxLen; omega) (by have := HUL.out; omega) (by simp; omega) ?_; intro v3 w4 hown' hgrow _ hat; obtain ⟨g', cap', rfl⟩ := ownsRow_succ hown'; obtain ⟨hv1, hv2, hr2, hk2, hb2⟩ := hv.appended (by decide) hrow (by have := hv.lt; omega) (by omega) hown' hgrow; have hc1 := hv1.cell; have hf1 := hv1.frozen))
        have hkb : w4.heap[g]? = wr.heap[g]? := by rw [hgrow.block g (by simp; omega) (fun e => hsep e.symm), Below.heap_alloc _ _ _ (by omega)]
        have hkb2 : (w4.setCell ⟨w.heap.size + 1, 0, none⟩ (.slice (some ⟨g', 0, none⟩) ((upG m n k).length + 1) cap')).heap[g]? = wr.heap[g]? := (Below.heap_setCell _ _ _ g (by simp; omega)).trans hkb
        have hgl4 : g < (w4.setCell ⟨w.heap.size + 1, 0, none⟩ (.slice (some ⟨g', 0, none⟩) ((upG m n k).length + 1) cap')).heap.size := by have := hb2.size; omega
        have hsep2 : (Value.slice (some ⟨g', 0, none⟩) ((upG m n k).length + 1) cap').ownBlock ≠ some g := by
          intro e
          rcases hat with e1 | e1
          · exact hsep (e1.symm.trans e)
          · have e2 := e1.symm.trans e
            injection e2 with e2; first | omega | (simp at e2; omega)
        have hp2' := ((hp.alloc _).kept hgrow (fun e => by have := (hrow.lt _ e.symm).1; omega)).other (B' := w.heap.size + 1) (by omega) (.slice (some ⟨g', 0, none⟩) ((upG m n k).length + 1) cap')
        have hr3 : (w4.setCell ⟨w.heap.size + 1, 0, none⟩ (.slice (some ⟨g', 0, none⟩) ((upG m n k).length + 1) cap')).ownsRow (w.heap.size + 1) 3 1 (.slice (some ⟨g', 0, none⟩) ((upG m n k).length + 1) cap') (upG m n (k + 1)).length (IL (upG m n (k + 1))) := by
          rw [HMM.out, List.length_append, show IL (upG m n k ++ [(k : Int)]) = IL (upG m n k) ++ [.int .i64 (k : Int)] by simp [IL]]; exact hr2
        go_roundw
        case rel => exact ⟨k + 1, by omega, by go_num, ⟨_, hv2, hr3, hsep2⟩, hp2', hkb2.trans hgk, hgl4, hB.trans (hb2.mono (by omega))⟩
        case measure => simp [intOf]; omega
    · obtain rfl : k = n := by omega
      gi_wp2_with (refine ⟨trivial, ?_⟩; gi_at_call 32; refine (back_in Fence.wide 4 trivial rfl _ _ _ _).mono ?_; rintro e w' ⟨rfl, rfl⟩)
      have s3' := Boxed.new wr 22 (.slice (some ⟨b, o, none⟩) m.length cap)
      obtain ⟨w3, hw3⟩ : ∃ w3, w3 = wr.alloc (.cells #[.slice (some ⟨b, o, none⟩) m.length cap] 22) := ⟨_, rfl⟩
      have s3 : Boxed w3 wr.heap.size 22 (.slice (some ⟨b, o, none⟩) m.length cap) := by rw [hw3]; exact s3'
      have v3 : Boxed w3 (w.heap.size + 1) 22 v := by rw [hw3]; exact hv.alloc _
      have p3 : Boxed w3 w.heap.size 3 (.int .i64 k) := by rw [hw3]; exact hp.alloc _
      have r3 : w3.ownsRow (w.heap.size + 1) 3 1 v (upG m k k).length (IL (upG m k k)) := by rw [hw3]; exact hrow.alloc _
      have b3 : Below w.heap.size w w3 := by rw [hw3]; exact hB.alloc hsz _
      have z3 : w3.heap.size = wr.heap.size + 1 := by rw [hw3]; simp
      have hvl := hv.lt
      have hcm : Cells w3 (some ⟨b, o, none⟩) m := hc.below b3
      rw [← hw3]
      clear hw3 s3' hv hp hrow hB hcp hcv
      have hst := backc_stops Fence.wide 4 trivial rfl (by omega) wr.heap.size b (some ⟨b, o, none⟩) cap m (by omega) w3 (by omega) s3.cell (fun _ => rfl) hcm
      refine wpIn_rangeFunc_ownG rfl (by omega) (gf := 47) (lb := #[.pointer (some ⟨wr.heap.size, 0, none⟩)]) rfl trivial (enters_of Try.func47 (by kernel_rfl) rfl)
        hst KeepC.trans (keepC_b (fun h => by omega) (by omega)) (Below.refl _ _) (fun _ => rfl)
        (fun pre W' => ((∃ v, Boxed W' (w.heap.size + 1) 22 v ∧ W'.ownsRow (w.heap.size + 1) 3 1 v (rowU m k pre).length (IL (rowU m k pre)) ∧ True) ∧ (Boxed W' wr.heap.size 22 (.slice (some ⟨b, o, none⟩) m.length cap) ∧ Boxed W' w.heap.size 3 (.int .i64 k))) ∧ Below w.heap.size w W')
        (fun _ _ _ => False)
        (OwnFrom.and (OwnFrom.and (Own.from (holdsRow_own (w.heap.size + 1) (w.heap.size + 1) 22 3 1 (fun pre => (rowU m k pre).length) (fun pre => IL (rowU m k pre)) (fun _ _ => True)) _) (OwnFrom.and (Own.from (boxed_own _ _ _) _) (Own.from (boxed_own _ _ _) _))) (ownFrom_below (Nat.le_refl _) (by omega)))
        (fun _ _ _ _ _ hs _ _ => hs)
        ⟨⟨⟨v, v3, by rw [rowU_nil]; exact r3, trivial⟩, s3, p3⟩, b3⟩
        (fun x => { tmps := #[.slice (some ⟨b, o, none⟩) m.length cap, undef, .slice none 0 0, .bool false, .pointer (some ⟨w.heap.size, 0, none⟩), .pointer (some ⟨w.heap.size + 1, 0, none⟩), undef, u7, undef, .int .i64 x.2, .slice (some ⟨b, o, none⟩) m.length cap, .int .i64 m.length, .bool false, .slice (some ⟨b, o, none⟩) m.length cap, .bool true, .bool false, .slice (some ⟨b, o, none⟩) m.length cap, .slice (some ⟨b, o, none⟩) m.length cap, .int .i64 m.length, .int .i64 l1, .pointer (some ⟨b, o + l1, none⟩), .int .i64 (-(k : Int)), .int .i64 k, .int .i64 k, .slice (some ⟨g, 0, none⟩) k cu, .int .i64 k, .int .i64 k, .bool false, u28, u29, u30, u31, u32, u33, u34, u35, u36, u37, u38, u39, u40, .slice (some ⟨b, o, none⟩) m.length cap, .func (.func 47) #[] #[.pointer (some ⟨wr.heap.size, 0, none⟩)], .int .i64 x.1, .int .i64 x.2, undef, undef, undef, undef, undef, undef, undef, undef, undef, undef, undef, undef], defers := [] }) ?assign ?body ?done ?stop
      case assign =>
        intro l x W K hK
        clear hst
        gi_wp2
        exact hK
      case stop =>
        rintro D c pre W _ _ h _
        exact h.elim
      case body =>
        rintro l pre x W ⟨⟨⟨v, hv, hrow, -⟩, hs, hp⟩, hB⟩ hlt
        have hcv := hv.cell
        have hcp := hp.cell
        have hsz := hB.size
        have hvl := hv.lt
        have hLl := le90 (rowU_len m k pre) hlt h60 hn30
        have HH := hid (rowU_hit m k pre (x := x))
        have HMS := hid (rowU_miss m k pre (x := x))
        obtain ⟨L, hL⟩ : ∃ L, L = rowU m k pre := ⟨_, rfl⟩
        rw [← hL] at hrow hLl HH HMS
        clear hL
        by_cases h0x : 0 ≤ x.2
        · have HMI := hid (HH.out h0x)
          clear HH HMS
          gi_wp2_with (gi_at_builtin; refine wpListIn_append_own _ rfl _ _ 22 rfl (w.heap.size + 1) 3 i0 (.int .i64 0) 1 8 Try.underlying22 hi hz0 hz1 hz2 rfl (by decide) _ _ _ rfl (hrow.alloc _) ⟨W.heap.size, 0, none⟩ 1 1 [.int .i64 (wrap64 (x.2 + k))] rfl rfl (cell_one_new _ _ _) (by simp [Value.oneCell']) (by unfold maxLen; omega) (by omega) (by simp; omega) ?_; intro v' w4 hown' hgrow _; obtain ⟨g', cap', rfl⟩ := ownsRow_succ hown'; obtain ⟨hv1, hv2, hr2, hk2, hb2⟩ := hv.appended (by decide) hrow (by omega) (Nat.le_refl _) hown' hgrow; have hc1 := hv1.cell; have hf1 := hv1.frozen)
          have hs2 := ((hs.alloc _).kept hgrow (hs.not_row (by decide) hrow)).other (B' := w.heap.size + 1) (by omega) (.slice (some ⟨g', 0, none⟩) (L.length + 1) cap')
          have hp2 := ((hp.alloc _).kept hgrow (fun e => by have := (hrow.lt _ e.symm).1; omega)).other (B' := w.heap.size + 1) (Nat.ne_of_lt (Nat.lt_succ_self _)) (.slice (some ⟨g', 0, none⟩) (L.length + 1) cap')
          exact ⟨hk2.from _, ⟨hs2.trans hs.symm, fun h0 => hb2.block b (by omega)⟩, ⟨⟨_, hv2, by rw [HMI.out]; simpa [IL] using hr2, trivial⟩, hs2, hp2⟩, hB.trans (hb2.mono (by omega))⟩
        · have HMI := hid (HMS.out h0x)
          clear HH HMS
          have hrow2 : W.ownsRow (w.heap.size + 1) 3 1 v (rowU m k (pre ++ [x])).length (IL (rowU m k (pre ++ [x]))) := by rw [HMI.out]; exact hrow
          gi_wp2
          exact ⟨KeepsFrom.refl _ _, KeepC.refl _ _ _ _, ⟨⟨v, hv, by first | exact ⟨hrow2, trivial⟩ | exact hrow2⟩, hs, hp⟩, hB⟩
      case done =>
        rintro D ys W hD rfl ⟨⟨⟨v, hv, hrow, -⟩, -, -⟩, hB⟩ hK
        have e : rowU m k (upto (bk m) m.length) = beadsM m := by unfold rowU; rw [HN.out]; exact beads_pushed HM.out
        rw [e] at hrow
        have hcv := hv.cell
        have hDlt := (Array.getElem?_eq_some_iff.1 hK).1
        obtain ⟨A', c', rfl, ho⟩ := own_form' hrow
        have hFB := hid (impl_FromBeads A' c' (beadsM m) W (le_mega (beadsM_len HM.out) HN.out hn30) ho.cells)
        rw [← unF_beads HM.out, ← unOk_beads HM.out] at hFB
        gi_wp2_with fail
        refine ⟨trivial, ?_⟩
        refine (callsIn_wide.2 hFB.out).mono ?_
        rintro e2 W5 ⟨A5, c5, rfl, o5, b5⟩
        have B5 := Below.next hB b5
        have hK5 : W5.heap[D]? = some (.deferred (some [])) := (b5.block D hDlt).trans hK
        have hb6 := B5.trans (belowK_b (n₀ := w.heap.size) (w := w3) (Nat.le_of_lt (by omega)) W5 D _ (.deferred none) (by omega) hK5 rfl rfl)
        have HO6 := hid (ownsRow_putObj o5 (.deferred none) hK5 rfl)
        have HB6 := hid hb6
        have HH5 := hid hB.size
        have HK5 := hid hK5
        clear hK5 hb6 B5 b5 o5
        gi_wp2
        refine ⟨by simp, .inl ⟨_, _, rfl, run_takeDeferred HK5.out, ?_⟩⟩
        exact ⟨_, results_tmp2 rfl _ _ _, A5, c5, rfl, Own.more HO6.out HH5.out, HB6.out⟩

theorem impl_FromMaya_c (A : Option Addr) (c : Nat) (m : List Int) (w : World) (hl : m.length ≤ 1048576) (hc : Cells w A m) :
    Calls Try.prog 15 #[.slice A m.length c] w fun e w' => ∃ A' c', e = .returned (.tuple #[.slice A' (unF m).length c', .bool (unOk m)]) ∧ Own w' w.heap.size A' c' (unF m) ∧ Below w.heap.size w w' := by
  by_cases h0 : m.length = 0
  · have hm : m = [] := List.eq_nil_of_length_eq_zero h0
    subst hm
    rw [un_nil.1, un_nil.2]
    refine (callsIn_wide (n := 5)).1 ?_
    refine callsIn_of_wp_marks Try.func15 rfl trivial ?_ rfl
    simp only [Try.ntmps15, List.size_toArray, List.length_cons, List.length_nil, Nat.reduceAdd, Nat.reduceSub, Array.replicate_succ, Array.replicate_zero, List.push_toArray, List.append_toArray, List.nil_append, List.cons_append]
    gi_wp2_with fail
    exact ⟨_, results_tmp2 rfl _ _ _, none, 0, rfl, own_nil _ _, Below.refl _ _⟩
  cases hb : moB m
  · have h1 : unOk m = false := by simp [unOk, hb]
    rw [h1, unF_no h1]
    have HM := hid hb
    clear hb h1
    refine (callsIn_wide (n := 5)).1 ?_
    refine callsIn_of_wp_marks Try.func15 rfl trivial ?_ rfl
    simp only [Try.ntmps15, List.size_toArray, List.length_cons, List.length_nil, Nat.reduceAdd, Nat.reduceSub, Array.replicate_succ, Array.replicate_zero, List.push_toArray, List.append_toArray, List.nil_append, List.cons_append]
    gi_wp2_with (refine ⟨trivial, ?_⟩; gi_at_call 29; refine (callsIn_wide.2 (isMaya_any _ _ _ _ hl hc)).mono ?_; rw [HM.out]; rintro e w' ⟨rfl, rfl⟩)
    exact ⟨_, results_tmp2 rfl _ _ _, none, 0, rfl, own_nil _ _, Below.refl _ _⟩
  · exact (callsIn_wide (n := 5)).1 (FromMaya_in A c m w (by omega) hb hl hc)
end Go.Proofs.Ytelfapheigobeaa
/-
  Contracts: DoubleOf on both sides.
-/
namespace Go.Proofs.Ytelfapheigobeaa
open Go.RowKit


set_option maxRecDepth 100000 in
set_option maxHeartbeats 2000000 in
theorem brDouble_any (A : Option Addr) (c : Nat) (xs : List Int) (w : World) (hs : strB xs = true) (hc : Cells w A xs) :
    Calls Try.prog 19 #[.slice A xs.length c] w fun e w' => ∃ A' c', e = .returned (.slice A' (dbL xs).length c') ∧ Own w' w.heap.size A' c' (dbL xs) ∧ Below w.heap.size w w' := by
  obtain ⟨i0, hi, hz0, hz1, hz2⟩ := info_parts Try.infoInt
  have G := strB_good hs
  have hlen := G.len
  have HB := hid fun j (hj : j < xs.length) => (show 1 ≤ xs.getD j 0 ∧ xs.getD j 0 ≤ 30 from ⟨by have := G.pos j hj; omega, G.le j hj⟩)
  have HC := hid hc; clear hc
  clear G hs
  have HZ := hid fun r (hr : 60 ≤ r) => dbN_zero (p := xs) (r := r) xs.length (fun j hj => by have := HB.out j hj; omega)
  go_enter Try.func19, Try.ntmps19
  go_wp2_with fail
  go_loopw [4, 15] (fun v i wr => ∃ k : Nat, k ≤ xs.length ∧ i = .int .i64 k ∧ wr.ownsRow w.heap.size 3 1 v (dbA xs k).length (IL (dbA xs k)) ∧ Below w.heap.size w wr) (fun _ i _ => xs.length - (intOf i).toNat)
  case atStart => exact ⟨0, Nat.zero_le _, rfl, World.ownsRow_nil _ _ _ _, Below.refl _ _⟩
  case round =>
    obtain ⟨k, hk, rfl, hown, hbel⟩ := hrel
    by_cases hlt : k < xs.length
    · obtain ⟨b, o, rfl, hcc⟩ := (HC.out.later hbel) (by omega)
      have hck := hcc k hlt
      have hyb := HB.out k hlt
      have HE := hid (show dbA xs (k + 1) = dbA xs k ++ [xs.getD k 0 + k + 1] from rfl)
      have hL := dbA_len xs k
      obtain ⟨y, hy⟩ : ∃ y, y = xs.getD k 0 := ⟨_, rfl⟩
      rw [← hy] at hck hyb HE
      obtain ⟨L, hLL⟩ : ∃ L, L = dbA xs k := ⟨_, rfl⟩
      rw [← hLL] at hown HE hL
      have HL := hid hL
      clear hcc hy hLL hL
      go_wp2_with (at_builtin; refine wpList_append_own _ rfl _ _ 22 rfl w.heap.size 3 i0 (.int .i64 0) 1 8 Try.underlying22 hi hz0 hz1 hz2 rfl (by decide) _ _ _ rfl (hown.alloc _) ⟨wr.heap.size, 0, none⟩ 1 1 [.int .i64 (y + k + 1)] rfl rfl one_at (one_cell _) (by have := HL.out; unfold maxLen; omega) (by have := HL.out; omega) (by have := hbel.size; simp; omega) ?_)
      intro v' w1 hown' hgrow _
      have hb1 : Below w.heap.size w w1 := (hbel.alloc hbel.size _).grown hgrow (by have := hbel.size; simp; omega) (fun q hq => (hown.lt q hq).1)
      have hown2 := own_snoc HE.out hown'
      clear hgrow hown hown'
      go_wp2_with fail
      go_roundw
      case rel => exact ⟨k + 1, by omega, by go_num, hown2, hb1⟩
      case measure => simp [intOf]; omega
    · have hke : k = xs.length := by omega
      subst hke
      have HO := hid hown; clear hown
      have HBl := hid hbel; clear hbel
      go_wp2_with fail
      go_loopw [4, 7] (fun v i wi => ∃ (r f : Nat) (pre : List Int), i = .int .i64 r ∧ r + f = xs.length + 61 ∧ pre.length + f ≤ 91 ∧ wi.ownsRow w.heap.size 3 1 v pre.length (IL pre) ∧ Below w.heap.size w wi ∧ Hid (dbL xs = pre ++ dbC xs f r)) (fun _ i _ => 200 - (intOf i).toNat)
      case atStart => exact ⟨xs.length, 61, dbA xs xs.length, rfl, rfl, by rw [dbA_len]; omega, HO.out, HBl.out, hid rfl⟩
      case round =>
        obtain ⟨r, f, pre, rfl, hrf, hpl, hown, hbel, HR⟩ := hrel
        go_wp2_with fail
        go_loop [8, 33] (fun n i => ∃ j : Nat, j ≤ xs.length ∧ i = .int .i64 j ∧ n = .int .i64 (dbN xs r j)) (fun _ i => xs.length - (intOf i).toNat)
        case atStart => exact ⟨0, Nat.zero_le _, rfl, rfl⟩
        case round =>
          obtain ⟨j, hj, rfl, rfl⟩ := hrel
          have hnl := dbN_le xs r j
          by_cases hlt : j < xs.length
          · obtain ⟨b, o, rfl, hcc⟩ := (HC.out.later hbel) (by omega)
            have hck := hcc j hlt
            have hyb := HB.out j hlt
            have HE := hid (show dbN xs r (j + 1) = dbN xs r j + if (r : Int) < xs.getD j 0 + j then 1 else 0 from rfl)
            obtain ⟨y, hy⟩ : ∃ y, y = xs.getD j 0 := ⟨_, rfl⟩
            rw [← hy] at hck hyb HE
            obtain ⟨n, hn⟩ : ∃ n, n = dbN xs r j := ⟨_, rfl⟩
            rw [← hn] at HE hnl
            rw [← hn]
            clear hcc hy hn
            by_cases hr : (r : Int) < y + j
            · rw [if_pos hr] at HE
              go_wp2_with fail
              go_round
              case rel => exact ⟨j + 1, by omega, by go_num, by rw [HE.out]; go_num⟩
              case measure => simp [intOf]; omega
            · rw [if_neg hr] at HE
              go_wp2_with fail
              go_round
              case rel => exact ⟨j + 1, by omega, by go_num, by rw [HE.out]; rfl⟩
              case measure => simp [intOf]; omega
          · have hje : j = xs.length := by omega
            subst hje
            have HZ0 := hid fun (h : 60 ≤ r) => HZ.out r h
            have HN := hid hnl
            obtain ⟨n, hn⟩ : ∃ n, n = dbN xs r xs.length := ⟨_, rfl⟩
            rw [← hn] at hnl HZ0 ⊢
            by_cases h0 : n = 0
            · have e : dbL xs = pre := by
                rw [HR.out]
                cases f with
                | zero => simp [dbC]
                | succ g => rw [dbC, if_pos (by omega), List.append_nil]
              subst h0
              have HEE := hid e
              obtain ⟨A', c', rfl, ho⟩ := own_form hown rfl
              have HO2 := hid ho
              clear hown ho e hn
              go_wp2_with fail
              go_ret
              rw [HEE.out]
              exact ⟨A', c', rfl, HO2.out, hbel⟩
            · have hr60 : r < 60 := Nat.lt_of_not_le fun h => h0 (HZ0.out h)
              obtain ⟨g, rfl⟩ : ∃ g, f = g + 1 := ⟨f - 1, by omega⟩
              have HE := hid (show dbL xs = (pre ++ [(n : Int)]) ++ dbC xs g (r + 1) by
                rw [HR.out, dbC, if_neg (by omega), ← hn, List.append_assoc]; rfl)
              clear hn HR
              have hn0 : (n : Int) ≠ 0 := by omega
              go_wp2_with (at_builtin; refine wpList_append_own _ rfl _ _ 22 rfl w.heap.size 3 i0 (.int .i64 0) 1 8 Try.underlying22 hi hz0 hz1 hz2 rfl (by decide) _ _ _ rfl (hown.alloc _) ⟨wr.heap.size, 0, none⟩ 1 1 [.int .i64 (n : Int)] rfl rfl one_at (one_cell _) (by unfold maxLen; omega) (by omega) (by have := hbel.size; simp; omega) ?_)
              intro v' w1 hown' hgrow _
              have hb1 : Below w.heap.size w w1 := (hbel.alloc hbel.size _).grown hgrow (by have := hbel.size; simp; omega) (fun q hq => (hown.lt q hq).1)
              have hown2 := own_snoc (rfl : pre ++ [(n : Int)] = pre ++ [(n : Int)]) hown'
              clear hgrow hown hown'
              go_wp2_with fail
              go_roundw
              case rel => exact ⟨r + 1, g, pre ++ [(n : Int)], by go_num, by omega, by rw [List.length_append, List.length_singleton]; omega, hown2, hb1, HE⟩
              case measure => simp [intOf]; omega

theorem str_ent {xs : List Int} (hs : strB xs = true) (j : Nat) (hj : j < xs.length) : -1000 ≤ xs.getD j 0 ∧ xs.getD j 0 ≤ 1000 := by
  have G := strB_good hs
  have := G.pos j hj
  have := G.le j hj
  omega

set_option maxHeartbeats 1000000 in
theorem impl_DoubleOfC (A : Option Addr) (c : Nat) (xs : List Int) (w : World) (hl : xs.length ≤ 1048576) (hno : A = none → xs.length = 0 ∧ c = 0) (hc : Cells w A xs) :
    Calls Try.prog 4 #[.slice A xs.length c] w fun e w' => ∃ A' c', e = .returned (.tuple #[.slice A' (dbF xs).length c', .bool (shB xs)]) ∧ Own w' w.heap.size A' c' (dbF xs) ∧ Below w.heap.size w w' := by
  have HC := hid hc
  cases hb : shB xs
  · rw [show dbF xs = [] by simp [dbF, hb]]
    have HB := hid hb; clear hb
    go_enter Try.func4, Try.ntmps4
    go_wp2_with (go_at_call 14; refine (isShifted_b _ _ _ _ hl HC.out _ HB.out).mono ?_; rintro e w' ⟨rfl, rfl⟩)
    go_ret2
    exact ⟨none, 0, rfl, own_nil _ _, Below.refl _ _⟩
  rw [show dbF xs = dbL xs by simp [dbF, hb]]
  obtain ⟨hs, h15⟩ := shB_t hb
  obtain ⟨e1, e2, -, -⟩ := db_ok hs h15
  have hlen := (strB_good hs).len
  have HD := hid (doubleMaya_anyC A c xs w (by omega) (str_ent hs) hno hc)
  have hml : (dmL xs).length ≤ 60 := by simp [dmL]; omega
  have HF := hid fun A2 c2 W (h : Cells W A2 (dmL xs)) => impl_FromMaya_c A2 c2 (dmL xs) W (by omega) h
  rw [e1, e2] at HF
  obtain ⟨m, hm⟩ : ∃ m, m = dmL xs := ⟨_, rfl⟩
  rw [← hm] at HD HF hml
  have HB := hid hb
  clear hb hs h15 e1 e2 hm
  go_enter Try.func4, Try.ntmps4
  go_wp2_with (first | (go_at_call 14; refine (isShifted_b _ _ _ _ hl HC.out _ HB.out).mono ?_; rintro e w' ⟨rfl, rfl⟩) | (go_at_call 16; refine HD.out.mono ?_; rintro e w2 ⟨A2, c2, rfl, o2, b2⟩) | (go_at_call 15; refine (HF.out _ _ _ o2.cells).mono ?_; rintro e w3 ⟨A3, c3, rfl, o3, b3⟩))
  go_ret2
  exact ⟨A3, c3, rfl, o3.more b2.size, Below.next b2 b3⟩
theorem impl_DoubleOf {B : Nat} (A : Option Addr) (c : Nat) (xs : List Int) (w : World) (hl : xs.length ≤ 1048576) (ho : Own w B A c xs) :
    Calls Try.prog 4 #[.slice A xs.length c] w fun e w' => ∃ A' c', e = .returned (.tuple #[.slice A' (dbF xs).length c', .bool (shB xs)]) ∧ Own w' w.heap.size A' c' (dbF xs) ∧ Below w.heap.size w w' := impl_DoubleOfC A c xs w hl (own_hnoD ho) ho.cells

set_option maxHeartbeats 1000000 in
theorem spec_DoubleOfC (A : Option Addr) (c : Nat) (xs : List Int) (w : World) (hl : xs.length ≤ 1048576) (hc : Cells w A xs) :
    Calls Try.prog 5 #[.slice A xs.length c] w fun e w' => ∃ A' c', e = .returned (.tuple #[.slice A' (dbF xs).length c', .bool (shB xs)]) ∧ Own w' w.heap.size A' c' (dbF xs) ∧ Below w.heap.size w w' := by
  have HC := hid hc; clear hc
  cases hs : strB xs
  · rw [show dbF xs = [] by simp [dbF, shB, hs], show shB xs = false by simp [shB, hs]]
    have HS := hid hs; clear hs
    go_enter Try.func5, Try.ntmps5
    go_wp2_with (go_at_call 17; refine (brIs_b _ _ _ _ hl HC.out _ HS.out).mono ?_; rintro e w' ⟨rfl, n, rfl⟩)
    go_ret2
    exact ⟨none, 0, rfl, own_nil _ _, below_drew' _ _⟩
  have G := strB_good hs
  have HPS := hid fun W (h : Cells W A xs) => ptSum_any A xs c W G.len (fun j hj => by have := G.pos j hj; have := G.le j hj; omega) h
  by_cases h15 : 15 < xs.sum
  · have hb : shB xs = false := by
      have : decide (xs.sum ≤ 15) = false := decide_eq_false (by omega)
      simp [shB, this]
    rw [show dbF xs = [] by simp [dbF, hb], hb]
    have HS := hid hs; clear hs hb
    obtain ⟨s, hs⟩ : ∃ s, s = xs.sum := ⟨_, rfl⟩
    rw [← hs] at HPS h15
    clear hs G
    go_enter Try.func5, Try.ntmps5
    go_wp2_with (first | (go_at_call 17; refine (brIs_b _ _ _ _ hl HC.out _ HS.out).mono ?_; rintro e w' ⟨rfl, nd0, rfl⟩) | (go_at_call 18; refine (HPS.out _ (by exact HC.out)).mono ?_; rintro e w' ⟨rfl, rfl⟩))
    go_ret2
    exact ⟨none, 0, rfl, own_nil _ _, below_drew' _ _⟩
  have hb : shB xs = true := by
    have : decide (xs.sum ≤ 15) = true := decide_eq_true (by omega)
    simp [shB, hs, this]
  rw [show dbF xs = dbL xs by simp [dbF, hb], hb]
  have HD := hid fun W (h : Cells W A xs) => brDouble_any A c xs W hs h
  have HS := hid hs; clear hs hb
  obtain ⟨s, hs⟩ : ∃ s, s = xs.sum := ⟨_, rfl⟩
  rw [← hs] at HPS h15
  clear hs G
  go_enter Try.func5, Try.ntmps5
  go_wp2_with (first | (go_at_call 17; refine (brIs_b _ _ _ _ hl HC.out _ HS.out).mono ?_; rintro e w' ⟨rfl, nd0, rfl⟩) | (go_at_call 18; refine (HPS.out _ (by exact HC.out)).mono ?_; rintro e w' ⟨rfl, rfl⟩) | (go_at_call 19; refine (HD.out _ (by exact HC.out)).mono ?_; rintro e w3 ⟨A3, c3, rfl, o3, b3⟩))
  go_ret2
  exact ⟨A3, c3, rfl, o3, Below.next (below_drew' _ _) b3⟩
theorem spec_DoubleOf {B : Nat} (A : Option Addr) (c : Nat) (xs : List Int) (w : World) (hl : xs.length ≤ 1048576) (ho : Own w B A c xs) :
    Calls Try.prog 5 #[.slice A xs.length c] w fun e w' => ∃ A' c', e = .returned (.tuple #[.slice A' (dbF xs).length c', .bool (shB xs)]) ∧ Own w' w.heap.size A' c' (dbF xs) ∧ Below w.heap.size w w' := spec_DoubleOfC A c xs w hl ho.cells
theorem dbC_len (p : List Int) : ∀ f r, (dbC p f r).length ≤ f
  | 0, _ => Nat.le_refl _
  | f + 1, r => by
    rw [dbC]; split
    · simp
    · rw [List.length_cons]; have := dbC_len p f (r + 1); omega
theorem bound_DoubleOf (xs : List Int) : (dbF xs).length ≤ 1048576 := by
  unfold dbF
  split
  · next h =>
    have := (strB_good (shB_t h).1).len
    have := dbC_len xs 61 xs.length
    rw [dbL, List.length_append, dbA_len]; omega
  · simp
end Go.Proofs.Ytelfapheigobeaa
