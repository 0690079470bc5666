/-
  Several texts in one.
-/
import Derived.Test.YtmbfobcbnnalbaaCQ
import Derived.Test.YtmbfobcbnnalbaaChn
import Derived.Test.YtmbfobcbnnalbaaSame
import Derived.Test.YtmbfobcbnnalbaaCN
import Derived.Test.YtmbfobcbnnalbaaCH
import Derived.Test.YtmbfobcbnnalbaaWith1
import Derived.Test.YtmbfobcbnnalbaaCyc
/-
  Contracts: the number of ways from one partition to another, by the model.
-/
namespace Go.Proofs.Ytmbfobcbnnalbaa
open Go.RowKit

set_option maxHeartbeats 1000000 in
theorem cnInside_any (A : Option Addr) (c : Nat) (xs : List Int) (B : Option Addr) (d : Nat) (ys : List Int) (w : World) (hl : xs.length ≤ 1048576) (hc : Cells w A xs) (hl2 : ys.length ≤ 1048576) (hd : Cells w B ys) :
    Calls Try.prog 171 #[.slice A xs.length c, .slice B ys.length d] w fun e w' => e = .returned (.bool (insideB xs ys)) ∧ w = w' := by
  by_cases hlen : ys.length < xs.length
  · rw [inside_no_len hlen]
    go_enter Try.func171, Try.ntmps171
    go_wp2_with fail
    go_ret
    exact ⟨rfl, rfl⟩
  go_enter Try.func171, Try.ntmps171
  go_wp2_with fail
  go_loop [14] (fun i => ∃ k : Nat, k ≤ xs.length ∧ i = .int .i64 k ∧ Hid (∀ j, j < k → xs.getD j 0 ≤ ys.getD j 0)) (fun i => xs.length - (intOf i).toNat)
  case atStart => exact ⟨0, Nat.zero_le _, rfl, hid fun j hj => absurd hj (by omega)⟩
  case round =>
    obtain ⟨k, hk, rfl, HK⟩ := hrel
    by_cases hlt : k < xs.length
    · obtain ⟨b, o, rfl, hcc⟩ := hc (by omega)
      obtain ⟨b2, o2, rfl, hdd⟩ := hd (by omega)
      have hck := hcc k hlt
      have hdk := hdd k (by omega)
      clear hcc hdd
      obtain ⟨x, hx⟩ : ∃ x, x = xs.getD k 0 := ⟨_, rfl⟩
      obtain ⟨y, hy⟩ : ∃ y, y = ys.getD k 0 := ⟨_, rfl⟩
      rw [← hx] at hck
      rw [← hy] at hdk
      have HX := hid hx; clear hx
      have HY := hid hy; clear hy
      have hk2 : (k : Int) < ys.length := by omega
      by_cases hxy : x ≤ y
      · go_wp2_with fail
        go_round
        case rel =>
          refine ⟨k + 1, by omega, by go_num, hid fun j hj => ?_⟩
          by_cases hjk : j < k
          · exact HK.out j hjk
          · have : j = k := by omega
            subst this; rw [← HX.out, ← HY.out]; exact hxy
        case measure => simp [intOf]; omega
      · go_wp2_with fail
        go_ret
        exact ⟨by rw [inside_no hlt (by rw [← HX.out, ← HY.out]; omega)]; rfl, rfl⟩
    · go_wp2_with fail
      go_ret
      exact ⟨by rw [inside_yes (by omega) fun j hj => HK.out j (by omega)]; rfl, rfl⟩
theorem cnInside_b (A : Option Addr) (c : Nat) (xs : List Int) (B : Option Addr) (d : Nat) (ys : List Int) (w : World) (hl : xs.length ≤ 1048576) (hc : Cells w A xs) (hl2 : ys.length ≤ 1048576) (hd : Cells w B ys) (b : Bool) (h : insideB xs ys = b) :
    Calls Try.prog 171 #[.slice A xs.length c, .slice B ys.length d] w fun e w' => e = .returned (.bool b) ∧ w = w' := by
  subst h; exact cnInside_any A c xs B d ys w hl hc hl2 hd

set_option maxRecDepth 100000 in
set_option maxHeartbeats 4000000 in
theorem cnBetween_any (A2 : Option Addr) (c2 : Nat) (q : List Int) (Gq : Good q) (h12 : q.sum ≤ 12) : ∀ (f : Nat) {B : Nat} (A : Option Addr) (c : Nat) (p : List Int) (w : World), (q.sum - p.sum).toNat < f → Good p → Own w B A c p → Cells w A2 q →
    Calls Try.prog 97 #[.slice A p.length c, .slice A2 q.length c2] w fun e w' => e = .returned (.int .i64 (nbF p q)) ∧ Below w.heap.size w w'
  | 0, _, _, _, _, _, h, _, _, _ => absurd h (by omega)
  | f + 1, B, A, c, p, w, hf, G, ho, hc2 => by
    have hc := ho.cells
    have hll := G.len
    have hll2 := Gq.len
    cases hi : insideB p q
    · rw [nbF_out G Gq h12 fun h => by rw [ins_iff.2 h] at hi; cases hi]
      have HI := hid (cnInside_b A c p A2 c2 q w (by omega) hc (by omega) hc2 _ hi)
      clear hi
      go_enter Try.func97, Try.ntmps97
      go_wp2_with (go_at_call 171; refine HI.out.mono ?_; rintro e w' ⟨rfl, rfl⟩)
      go_ret
      exact ⟨rfl, Below.refl _ _⟩
    have hin := ins_iff.1 hi
    have HI := hid (cnInside_b A c p A2 c2 q w (by omega) hc (by omega) hc2 _ hi)
    by_cases hpq : p = q
    · have HS := hid (l1Same_b A A2 c c2 p q w (by omega) (by omega) hc hc2 true (by simp [hpq]))
      rw [show nbF p q = 1 by rw [hpq]; exact nbF_self q]
      clear hi hin hpq
      go_enter Try.func97, Try.ntmps97
      go_wp2_with (first | (go_at_call 171; refine HI.out.mono ?_; rintro e w' ⟨rfl, rfl⟩) | (go_at_call 110; refine HS.out.mono ?_; rintro e w' ⟨rfl, n, rfl⟩))
      go_ret
      exact ⟨rfl, below_drew' _ _⟩
    · have HS := hid (l1Same_b A A2 c c2 p q w (by omega) (by omega) hc hc2 false (by simp [hpq]))
      obtain ⟨h1, h2⟩ := ins_sum p q hin Gq.pos
      have hlt : p.sum < q.sum := by
        rcases Int.lt_or_eq_of_le h1 with h | h
        · exact h
        · exact absurd (h2 h) hpq
      have hps := G.sum0
      rw [nbF_in G Gq h12 hin hpq]
      have HAD := hid fun W (h : Cells W A p) => ptAddable_any A c p W hll h
      have hfl := filt_len (addB p) (p.length + 1)
      have HST := hid fun k (hk : k < (filt (addB p) (p.length + 1)).length) => (show ∃ z : List Int, z = incL p ((filt (addB p) (p.length + 1)).getD k 0).toNat ∧ stepB p ((filt (addB p) (p.length + 1)).getD k 0) = true ∧ Good z ∧ (q.sum - z.sum).toNat < f by
        have hm : (filt (addB p) (p.length + 1)).getD k 0 ∈ filt (addB p) (p.length + 1) := by
          rw [List.getD_eq_getElem?_getD, List.getElem?_eq_getElem hk]; exact List.getElem_mem hk
        obtain ⟨r, e, hr, hb⟩ := add_at hm
        rw [e, Int.toNat_natCast]
        refine ⟨_, rfl, stepB_iff.2 ⟨r, rfl, hr, hb⟩, inc_Good G (by omega) hr hb, ?_⟩
        rw [inc_sum p r hr]; omega)
      have HCA := hid fun (r : Int) W (h : Own W B A c p) => cnAdd_any A c p r W hll G.bd h
      have HSW := hid fun k => (show swI (fun r => nbF (incL p r.toNat) q) (filt (addB p) (p.length + 1)) (k + 1) = wrap64 (swI (fun r => nbF (incL p r.toNat) q) (filt (addB p) (p.length + 1)) k + nbF (incL p ((filt (addB p) (p.length + 1)).getD k 0).toNat) q) from rfl)
      obtain ⟨L, hL⟩ : ∃ L, L = filt (addB p) (p.length + 1) := ⟨_, rfl⟩
      rw [← hL] at HAD hfl HST HSW ⊢
      obtain ⟨S, hS⟩ : ∃ S, S = swI (fun r => nbF (incL p r.toNat) q) L := ⟨_, rfl⟩
      have HS0 := hid (show S 0 = 0 by rw [hS]; rfl)
      rw [← hS] at HSW ⊢
      have HIH := hid fun A' c' z W B' (h1 : (q.sum - z.sum).toNat < f) (h2 : Good z) (h3 : Own W B' A' c' z) (h4 : Cells W A2 q) => cnBetween_any A2 c2 q Gq h12 f A' c' z W h1 h2 h3 h4
      have HO := hid ho
      clear hi hin hpq hL hS h1 h2 hlt hps G Gq ho hf
      go_enter Try.func97, Try.ntmps97
      go_wp2_with (first | (go_at_call 171; refine HI.out.mono ?_; rintro e w' ⟨rfl, rfl⟩) | (go_at_call 110; refine HS.out.mono ?_; rintro e w' ⟨rfl, n, rfl⟩) | (go_at_call 106; refine (HAD.out _ (by exact hc)).mono ?_; rintro e w3 ⟨A3, c3, rfl, o3, b3⟩))
      have HB3 := hid (Below.next (below_drew' w n) b3)
      have HC3 := hid o3.cells
      have hs3 := HB3.out.size
      clear b3 o3
      go_loopw [5, 20] (fun v i wr => ∃ k : Nat, k ≤ L.length ∧ i = .int .i64 k ∧ v = .int .i64 (S k) ∧ Hid (Below w3.heap.size w3 wr)) (fun _ i _ => L.length - (intOf i).toNat)
      case atStart => exact ⟨0, Nat.zero_le _, rfl, by rw [HS0.out], hid (Below.refl _ _)⟩
      case round =>
        obtain ⟨k, hk, rfl, rfl, HB⟩ := hrel
        by_cases hlt : k < L.length
        · obtain ⟨b, o, rfl, hcc⟩ := (HC3.out.later HB.out) (by omega)
          have hck := hcc k hlt
          obtain ⟨z, hz, hst, Gz, hzs⟩ := HST.out k hlt
          have HSW' := hid (HSW.out k)
          have hbw := HB3.out.trans (HB.out.mono hs3)
          have HOW := hid (HO.out.below hbw)
          have HQ := hid (hc2.later hbw)
          obtain ⟨r, hr⟩ : ∃ r, r = L.getD k 0 := ⟨_, rfl⟩
          rw [← hr] at hck hz hst HSW'
          rw [← hz] at HSW'
          have HCA' := HCA.out r wr HOW.out
          rw [hst, if_pos rfl, ← hz] at HCA'
          have HCA2 := hid HCA'
          have HIH' := hid fun A' c' W B' (h3 : Own W B' A' c' z) (h4 : Cells W A2 q) => HIH.out A' c' z W B' hzs Gz h3 h4
          obtain ⟨v, hv⟩ : ∃ v, v = nbF z q := ⟨_, rfl⟩
          rw [← hv] at HIH' HSW'
          have hsum : IntKind.i64.wrap (S k + v) = S (k + 1) := by rw [HSW'.out]; exact IntWalk.i64_left _
          clear hcc hz hst Gz hzs hr hv HCA' hbw
          go_wp2_with fail
          refine HCA2.out.mono ?_
          rintro e w5 ⟨A5, c5, rfl, o5, b5⟩
          go_wp2_with fail
          refine (HIH'.out A5 c5 w5 _ o5 (HQ.out.later b5)).mono ?_
          rintro e w6 ⟨rfl, b6⟩
          have HB6 := hid (HB.out.trans (Below.mono (Below.next b5 b6) HB.out.size))
          clear o5 b5 b6
          go_wp2_with fail
          go_roundw
          case rel => exact ⟨k + 1, by omega, by go_num, by first | rw [HSW'.out] | rw [hsum], HB6.out⟩
          case measure => simp [intOf]; omega
        · have hkl : k = L.length := by omega
          subst hkl
          have hbe := HB3.out.trans (HB.out.mono HB3.out.size)
          go_wp2_with fail
          go_ret
          exact ⟨rfl, hbe⟩
end Go.Proofs.Ytmbfobcbnnalbaa
/-
  Contracts: the ways up to a shape, and how many of them go on from a partition.
-/
namespace Go.Proofs.Ytmbfobcbnnalbaa
open Go.RowKit Go.Maps Go.ChangeMaps Go.MapKept Go.WideMaps Go.WideElems Go.WideShapes

theorem Try.infoWays : (Try.prog.info? 110).map (fun i => (i.zero, i.size, i.bytes)) = some (some (.map none), 1, 8) := by kernel_rfl
theorem grown_set (w : World) (g j : Nat) (v : Value) : w.grownBy (w.setCell ⟨g, j, none⟩ v) (some g) := by
  have h := (Below.refl 0 w).setCell (p := ⟨g, j, none⟩) (Nat.zero_le _) v
  exact ⟨h.os, h.tape, h.output, h.size, fun i _ hi => Below.heap_setCell _ _ _ _ (fun e => hi (congrArg some e))⟩
/-- The maps from m cells on are made. -/
structure UPs (w : World) (B g N m : Nat) (q : List Int) (vs : List Value) : Prop where
  out : w.ownsRow B 110 1 (.slice (some ⟨g, 0, none⟩) (N + 1) (N + 1)) (N + 1) vs
  made : ∀ k, m ≤ k → k ≤ N → ∃ b D, vs[k]? = some (.map (some b)) ∧ b ≠ g ∧ SW w b (p12n (N - k)) k (fun F => chG (ones (N - k)) F q) D
structure UP (w : World) (g N : Nat) (q : List Int) : Prop where
  made : ∀ k, k ≤ N → ∃ b D, w.cell? ⟨g, k, none⟩ = some (.map (some b)) ∧ SW w b (p12n (N - k)) k (fun F => chG (ones (N - k)) F q) D
theorem SW.kept {w w' : World} {b n m : Nat} {Φ : (List Int → Int) → Int} {D : DataW Unit} {r : Option Nat} (h : SW w b n m Φ D) (hg : w.grownBy w' r) (hb : r ≠ some b) : SW w' b n m Φ D :=
  ⟨h.own.kept hg (fun e => hb e.symm), h.keys, h.sum⟩
theorem SW.later {w w' : World} {b n m : Nat} {Φ : (List Int → Int) → Int} {D : DataW Unit} (h : SW w b n m Φ D) (hb : Below w.heap.size w w') : SW w' b n m Φ D :=
  h.kept (grown_of_below hb) (by simp)
theorem UP.later {w w' : World} {g N : Nat} {q : List Int} (h : UP w g N q) (hb : Below w.heap.size w w') : UP w' g N q := by
  refine ⟨fun k hk => ?_⟩
  obtain ⟨b, D, h1, h2⟩ := h.made k hk
  exact ⟨b, D, (hb.cell (World.block_lt_of_cell? w _ h1)).trans h1, h2.later hb⟩
theorem UPs.up {w : World} {B g N : Nat} {q : List Int} {vs : List Value} (h : UPs w B g N 0 q vs) : UP w g N q := by
  refine ⟨fun k hk => ?_⟩
  obtain ⟨b, D, h1, _, h2⟩ := h.made k (Nat.zero_le _) hk
  exact ⟨b, D, by rw [World.ownsRow.cellAt h.out k (by omega)]; exact h1, h2⟩
theorem UPs.put {w w2 : World} {B g N m : Nat} {q : List Int} {vs : List Value} (h : UPs w B g N (m + 1) q vs) (hb : Below w.heap.size w w2) (hm : m ≤ N) {b : Nat} {D : DataW Unit} (hbg : b ≠ g) (hs : SW w2 b (p12n (N - m)) m (fun F => chG (ones (N - m)) F q) D) :
    (∃ u, w2.cell? ⟨g, m, none⟩ = some u) ∧ w2.frozen? ⟨g, m, none⟩ = false ∧ UPs (w2.setCell ⟨g, m, none⟩ (.map (some b))) B g N m q (vs.set m (.map (some b))) := by
  have ho : w2.ownsRow B 110 1 (.slice (some ⟨g, 0, none⟩) (N + 1) (N + 1)) (N + 1) vs := ownsRow_keep h.out fun b _ hlt => hb.block b hlt
  have hl := ho.1
  refine ⟨cells_some ho (by omega), World.ownsRow.frozenAt ho _, (ho.stored m (.map (some b))).1, fun k hk hkN => ?_⟩
  by_cases e : k = m
  · subst e
    refine ⟨b, D, List.getElem?_set_self (by omega), hbg, hs.kept (grown_set _ _ _ _) fun e => ?_⟩
    injection e with e; exact hbg e.symm
  · obtain ⟨b', D', h1, h2, h3⟩ := h.made k (by omega) hkN
    refine ⟨b', D', by rw [List.getElem?_set_ne (by omega)]; exact h1, h2, (h3.later hb).kept (grown_set _ _ _ _) fun e => ?_⟩
    injection e with e; exact h2 e.symm
theorem UPs.first {w w2 : World} {g N : Nat} {q : List Int} (hg : g = w.heap.size) (hN : N ≤ 12) (hb : Below (w.heap.size + 1) (w.alloc (.cells (madeCells #[.map none] (N + 1)) 110)) w2) {b : Nat} {D : DataW Unit} (hbg : b ≠ g) (hs : SW w2 b (p12n 0) N (fun F => chG (ones 0) F q) D) :
    (∃ u, w2.cell? ⟨g, N, none⟩ = some u) ∧ w2.frozen? ⟨g, N, none⟩ = false ∧ ∃ vs, UPs (w2.setCell ⟨g, N, none⟩ (.map (some b))) g g N N q vs := by
  subst hg
  have h := World.ownsRow_lit (base := w.heap.size) (e := 110) (size := 1) w (madeCells #[.map none] (N + 1)) (N + 1) (Nat.le_refl _) (by unfold maxLen; omega) (by rw [size_madeCells]; omega)
  rw [toList_madeCells_one] at h
  have hu : UPs (w.alloc (.cells (madeCells #[.map none] (N + 1)) 110)) w.heap.size w.heap.size N (N + 1) q (List.replicate (N + 1) (.map none)) := ⟨h, fun k h1 h2 => by omega⟩
  obtain ⟨a1, a2, a3⟩ := hu.put (m := N) (by rw [World.size_alloc]; exact hb) (Nat.le_refl _) hbg (by rw [Nat.sub_self]; exact hs)
  exact ⟨a1, a2, _, a3⟩

set_option maxRecDepth 100000 in
set_option maxHeartbeats 4000000 in
theorem waysUpTo_any (A : Option Addr) (c : Nat) (q : List Int) (w : World) (G : Good q) (h12 : q.sum ≤ 12) (hc : Cells w A q) :
    Calls Try.prog 100 #[.slice A q.length c] w fun e w' => e = .returned (.slice (some ⟨w.heap.size, 0, none⟩) (q.sum.toNat + 1) (q.sum.toNat + 1)) ∧ UP w' w.heap.size q.sum.toNat q ∧ Below w.heap.size w w' := by
  have hmm := @run_makeMap Try.prog
  have hSh := G.sh h12
  have hps := G.sum0
  have HCC := hid (cellCount_any A q c w G.len G.bd' hc)
  obtain ⟨N, hN⟩ : ∃ N : Nat, q.sum = N := ⟨q.sum.toNat, by omega⟩
  rw [hN] at HCC
  rw [show q.sum.toNat = N by omega]
  have hN12 : N ≤ 12 := by omega
  have hmk := run_make_row' (P := Try.prog) 62 110 (.map none) 8 Try.underlying62 Try.infoWays rfl .i64 .i64 (N + 1) (by omega) (by omega)
  push_cast at hmk
  obtain ⟨X, hX⟩ : ∃ X, X = Obj.cells (madeCells #[.map none] (N + 1)) 110 := ⟨_, rfl⟩
  have hown0 : mOwn ((w.alloc X).alloc (.map #[] 0)) (w.heap.size + 1) 0 (.map []) := by
    have h : mOwn ((w.alloc X).alloc (.map #[] 0)) (w.alloc X).heap.size 0 (.map []) := World.ownsMap_made _ _ _ _
    rw [World.size_alloc] at h; exact h
  have b0 : Below (w.heap.size + 1) (w.alloc X) ((w.alloc X).alloc (.map #[] 0)) := (Below.refl _ _).alloc (by simp) _
  have bw : Below w.heap.size w ((w.alloc X).alloc (.map #[] 0)) := ((Below.refl _ _).alloc (Nat.le_refl _) _).alloc (by simp) _
  have HSO := hid (shapeOf_any A c q ((w.alloc X).alloc (.map #[] 0)) hSh.len (hc.below bw))
  have HO := hid hown0; have HB0 := hid b0; have HBW := hid bw
  rw [hX] at HSO HO HB0 HBW
  have hNN : (N : Int) < (N : Int) + 1 := by omega
  have HN := hid hN
  clear hown0 b0 bw hX hps hN h12
  go_enter Try.func100, Try.ntmps100
  go_wp2_with (go_at_call 94; refine HCC.out.mono ?_; rintro e w' ⟨rfl, rfl⟩)
  clear hmk
  go_wp2_with fail
  refine HSO.out.mono ?_
  rintro e w2 ⟨rfl, b2⟩
  rw [World.size_alloc, World.size_alloc] at b2
  have ho2 := HO.out.kept (grown_of_below (by rw [World.size_alloc, World.size_alloc]; exact b2)) (by simp)
  obtain ⟨w3, hr3, ho3, hg3⟩ := World.ownsMap.update ho2 Try.shKeyed Try.underlying110 (by unfold maxLen; omega) (key_of hSh) (plainElem_int Try.underlying3 (show (Lit.int .i64 1).wf = true by decide))
  have HS3 := hid (SW.one (b := w.heap.size + 1) G HN.out hN12 ho3)
  have h1 := HB0.out.trans (b2.mono (by omega))
  have hb3 := h1.trans (⟨hg3.os, hg3.tape, hg3.output, hg3.size, fun i hi => hg3.block i (by have := h1.size; rw [World.size_alloc] at this; omega) (fun e => by injection e with e; omega)⟩ : Below (w.heap.size + 1) w2 w3)
  have hbw3 := (show Below w.heap.size w (w.alloc _) from (Below.refl _ _).alloc (Nat.le_refl _) _).trans (hb3.mono (by omega))
  have HBW3 := hid hbw3
  obtain ⟨⟨u, hu⟩, hfz, vs0, hup0⟩ := UPs.first (q := q) (D := _) rfl hN12 hb3 (show w.heap.size + 1 ≠ w.heap.size by omega) HS3.out
  have HUP0 := hid hup0
  clear b2 ho2 ho3 hg3 h1 hb3 hbw3 hup0
  go_wp2_with fail
  obtain ⟨w4, hw4⟩ : ∃ w4, w4 = w3.setCell ⟨w.heap.size, N, none⟩ (.map (some (w.heap.size + 1))) := ⟨_, rfl⟩
  rw [← hw4]
  have HU4 := hid (show UPs w4 w.heap.size w.heap.size N N q vs0 by rw [hw4]; exact HUP0.out)
  have HB4 := hid (show Below w.heap.size w w4 by rw [hw4]; exact HBW3.out.setCell (Nat.le_refl _) _)
  clear hw4 hr3 hu hfz hmm
  go_loopw [3] (fun v wr => ∃ (m : Nat) (vs : List Value), m ≤ N ∧ v = .int .i64 m ∧ Hid (UPs wr w.heap.size w.heap.size N m q vs) ∧ Hid (Below w.heap.size w wr)) (fun v _ => (intOf v).toNat)
  case atStart => exact ⟨N, vs0, Nat.le_refl _, rfl, HU4, HB4⟩
  case round =>
    obtain ⟨m, vs, hm, rfl, HU, HB⟩ := hrel
    obtain ⟨wo, rfl⟩ : ∃ wo : World, wo = wr := ⟨_, rfl⟩
    by_cases h0 : m = 0
    · subst h0
      have HF := hid HU.out.up
      go_wp2_with fail
      go_ret
      exact ⟨rfl, HF.out, HB.out⟩
    · obtain ⟨j, rfl⟩ : ∃ j, m = j + 1 := ⟨m - 1, by omega⟩
      obtain ⟨b, D, hv, hbg, hsw⟩ := HU.out.made (j + 1) (Nat.le_refl _) hm
      have hcell : wo.cell? ⟨w.heap.size, j + 1, none⟩ = some (.map (some b)) := by rw [World.ownsRow.cellAt HU.out.out (j + 1) (by omega)]; exact hv
      have HWI := hid (without_any b (p12n (N - (j + 1))) (j + 1) 1 _ D wo (by omega) (by omega) (p12n_bd _ (by omega)) hsw)
      have hgs := (HU.out.out.lt _ rfl).2
      have hj1 : ((j : Int) + 1) < (N : Int) + 1 := by omega
      have hj2 : (j : Int) < (N : Int) + 1 := by omega
      clear hv hbg hsw
      go_wp2_with fail
      refine HWI.out.mono ?_
      rintro e w5 ⟨b5, D5, rfl, hb5, hs5, bel5⟩
      have hs5' : SW w5 b5 (p12n (N - j)) j (fun F => chG (ones (N - j)) F q) D5 := by
        have e1 : N - j = (N - (j + 1)) + 1 := by omega
        have e2 : (fun F => chG (ones (N - j)) F q) = fun F => chG (ones (N - (j + 1))) (tkF 1 F) q := by
          funext F
          rw [e1, chG_ones]
        rw [e2, e1, p12n_succ]
        have e3 : j + 1 - (1 : Int).toNat = j := by have : (1 : Int).toNat = 1 := rfl; omega
        rw [e3] at hs5
        exact hs5
      obtain ⟨⟨u, hu⟩, hfz, hup⟩ := HU.out.put bel5 (by omega) (show b5 ≠ w.heap.size by omega) hs5'
      have HUP := hid hup
      have HB5 := hid ((HB.out.trans (bel5.mono HB.out.size)).setCell (p := ⟨w.heap.size, j, none⟩) (Nat.le_refl _) (.map (some b5)))
      clear hs5 hs5' hup bel5 hcell
      go_wp2_with fail
      go_roundw
      case rel => exact ⟨j, _, by omega, by go_num, HUP, HB5⟩
      case measure => simp [intOf]

theorem nb_sh {p q : List Int} {N m : Nat} (hq : q.sum = N) (hp : p.sum = m) (hm : m ≤ N) : chG (ones (N - m)) (dlt p) q = nbN p q := by
  unfold nbN nB
  rw [show (q.sum - p.sum).toNat = N - m by omega]
theorem nb_gt {p q : List Int} (h : q.sum < p.sum) : nbF p q = 0 := by
  have e : nbN p q = 0 := by
    unfold nbN
    rw [show (q.sum - p.sum).toNat = 0 by omega]
    show dlt p q = 0
    unfold dlt
    rw [if_neg]
    rintro rfl
    omega
  unfold nbF; rw [e]; exact IntWalk.wrap64_in 0 (by omega)

set_option maxRecDepth 100000 in
set_option maxHeartbeats 4000000 in
theorem from_any (A : Option Addr) (c g N : Nat) (p q : List Int) (w : World) (hq : q.sum = N) (h12 : N ≤ 12) (hp30 : p.length ≤ 30) (hpb : ∀ j, j < p.length → 1 ≤ p.getD j 0 ∧ p.getD j 0 ≤ 30) (hU : UP w g N q) (hc : Cells w A p) :
    Calls Try.prog 101 #[.slice (some ⟨g, 0, none⟩) (N + 1) (N + 1), .slice A p.length c] w fun e w' => e = .returned (.int .i64 (nbF p q)) ∧ Below w.heap.size w w' := by
  have HCC := hid (cellCount_any A p c w hp30 (fun j hj => by have := hpb j hj; omega) hc)
  have hl := len_sum p fun j hj => (hpb j hj).1
  obtain ⟨m, hm⟩ : ∃ m : Nat, p.sum = m := ⟨p.sum.toNat, by omega⟩
  rw [hm] at HCC
  by_cases hN : m ≤ N
  · have hSh : Sh p := ⟨by omega, hpb⟩
    obtain ⟨b, D, hcell, hsw⟩ := hU.made m hN
    have HLK := hid fun W (hW : Below w.heap.size w W) => (show (Instr.lookup 110 (.map (some b)) (shV p) false).run Try.prog W = .ok (.int .i64 (nbF p q)) W by
      have hS := hsw.later hW
      obtain ⟨c', hrun, hat, hwc⟩ := hS.own.lookup_int Try.shKeyed Try.underlying110 Try.underlying3 (Try.zeroI _) (key_of hSh)
      have hcv := SW.at hS (by omega) hSh hat
      rw [nb_sh hq hm hN] at hcv
      have e : c' = nbF p q := by
        have h1 := eqw_eq hcv
        unfold nbF
        rw [← h1]
        exact (wfI_wrap hwc).symm
      rw [e] at hrun
      exact hrun)
    have HSO := hid fun W (h : Cells W A p) => shapeOf_any A c p W hSh.len h
    obtain ⟨v, hv⟩ : ∃ v, v = nbF p q := ⟨_, rfl⟩
    rw [← hv] at HLK ⊢
    have hmN : (m : Int) < (N : Int) + 1 := by omega
    have hlt := World.block_lt_of_cell? w _ hcell
    have HC := hid hc
    obtain ⟨sv, hsv⟩ : ∃ sv, sv = shV p := ⟨_, rfl⟩
    rw [← hsv] at HLK HSO
    clear hsw hU hv hpb hSh hl hc hsv
    go_enter Try.func101, Try.ntmps101
    go_wp2_with (go_at_call 94; refine HCC.out.mono ?_; rintro e w' ⟨rfl, rfl⟩)
    go_region_held3 (fun w' => w'.cell? ⟨g, m, none⟩ = some (.map (some b))) (first | exact hcell | exact hc7) ((go_at_call 172; refine (HSO.out _ (by exact HC.out)).mono ?_; rintro e w7 ⟨rfl, b7⟩; have hc7 := (b7.cell hlt).trans hcell; have hrun := HLK.out w7 (Below.next (below_drew' w 1) b7)))
    have hbe := Below.next (below_drew' w 1) b7
    clear hc7 hrun b7
    go_wp2_with fail
    go_ret
    exact ⟨rfl, hbe⟩
  · rw [nb_gt (by omega)]
    have hmN : (N : Int) + 1 ≤ (m : Int) := by omega
    clear hU hpb hl
    go_enter Try.func101, Try.ntmps101
    go_wp2_with (go_at_call 94; refine HCC.out.mono ?_; rintro e w' ⟨rfl, rfl⟩)
    go_ret
    exact ⟨rfl, Below.refl _ _⟩
end Go.Proofs.Ytmbfobcbnnalbaa
/-
  Contracts: CountBetween on both sides.
-/
namespace Go.Proofs.Ytmbfobcbnnalbaa
open Go.RowKit

def chdB (q : List Int) : Bool := good q && decide (q.sum ≤ 12)
theorem chdB_iff {q : List Int} : chdB q = true ↔ Good q ∧ q.sum ≤ 12 := by simp only [chdB, Bool.and_eq_true, decide_eq_true_eq, good_iff]
def cbB (p q : List Int) : Bool := good p && chdB q
def cbF (p q : List Int) : Int := if cbB p q then nbF p q else 0

set_option maxHeartbeats 1000000 in
theorem isChained_any (A : Option Addr) (c : Nat) (q : List Int) (w : World) (hl : q.length ≤ 1048576) (hc : Cells w A q) :
    Calls Try.prog 99 #[.slice A q.length c] w fun e w' => e = .returned (.bool (chdB q)) ∧ w = w' := by
  cases hg : good q
  · rw [show chdB q = false by simp [chdB, hg]]
    have HG := hid hg
    clear hg
    go_enter Try.func99, Try.ntmps99
    go_wp2_with (go_at_call 98; refine (IsPartition_b _ _ _ _ hl hc _ HG.out).mono ?_; rintro e w' ⟨rfl, rfl⟩)
    go_ret
    exact ⟨rfl, rfl⟩
  · have HG := hid hg
    have G := (good_iff q).1 hg
    have HCC := hid (cellCount_any A q c w G.len G.bd' hc)
    rw [show chdB q = decide (q.sum ≤ 12) by simp [chdB, hg]]
    obtain ⟨s, hs⟩ : ∃ s, s = q.sum := ⟨_, rfl⟩
    rw [← hs] at HCC ⊢
    clear hg hs G
    go_enter Try.func99, Try.ntmps99
    go_wp2_with (first | (go_at_call 98; refine (IsPartition_b _ _ _ _ hl hc _ HG.out).mono ?_; rintro e w' ⟨rfl, rfl⟩) | (go_at_call 94; refine HCC.out.mono ?_; rintro e w' ⟨rfl, rfl⟩))
    go_ret
    exact ⟨rfl, rfl⟩
theorem isChained_b (A : Option Addr) (c : Nat) (q : List Int) (w : World) (hl : q.length ≤ 1048576) (hc : Cells w A q) (b : Bool) (h : chdB q = b) :
    Calls Try.prog 99 #[.slice A q.length c] w fun e w' => e = .returned (.bool b) ∧ w = w' := by
  subst h; exact isChained_any A c q w hl hc

set_option maxRecDepth 100000 in
set_option maxHeartbeats 2000000 in
theorem impl_CountBetween' (A : Option Addr) (c : Nat) (p : List Int) (A2 : Option Addr) (c2 : Nat) (q : List Int) (w : World) (hl : p.length ≤ 1048576) (hc : Cells w A p) (hl2 : q.length ≤ 1048576) (hc2 : Cells w A2 q) :
    Calls Try.prog 34 #[.slice A p.length c, .slice A2 q.length c2] w fun e w' => e = .returned (.tuple #[.int .i64 (cbF p q), .bool (cbB p q)]) ∧ Below w.heap.size w w' := by
  cases hg : good p
  · have hb : cbB p q = false := by simp [cbB, hg]
    rw [show cbF p q = 0 by simp [cbF, hb], hb]
    have HG := hid hg
    clear hg hb
    go_enter Try.func34, Try.ntmps34
    go_wp2_with (go_at_call 98; refine (IsPartition_b _ _ _ _ hl hc _ HG.out).mono ?_; rintro e w' ⟨rfl, rfl⟩)
    go_ret2
    exact ⟨rfl, Below.refl _ _⟩
  have HG := hid hg
  cases hg2 : chdB q
  · have hb : cbB p q = false := by simp [cbB, hg2]
    rw [show cbF p q = 0 by simp [cbF, hb], hb]
    have HG2 := hid hg2
    clear hg hg2 hb
    go_enter Try.func34, Try.ntmps34
    go_wp2_with (first | (go_at_call 98; refine (IsPartition_b _ _ _ _ hl hc _ HG.out).mono ?_; rintro e w' ⟨rfl, rfl⟩) | (go_at_call 99; refine (isChained_b _ _ _ _ hl2 hc2 _ HG2.out).mono ?_; rintro e w' ⟨rfl, rfl⟩))
    go_ret2
    exact ⟨rfl, Below.refl _ _⟩
  · have hb : cbB p q = true := by simp [cbB, hg, hg2]
    rw [show cbF p q = nbF p q by simp [cbF, hb], hb]
    have HG2 := hid hg2
    obtain ⟨Gq, h12⟩ := chdB_iff.1 hg2
    have G := (good_iff p).1 hg
    have hqs := Gq.sum0
    obtain ⟨N, hN⟩ : ∃ N : Nat, q.sum = N := ⟨q.sum.toNat, by omega⟩
    have HWU := hid (waysUpTo_any A2 c2 q w Gq h12 hc2)
    rw [show q.sum.toNat = N by omega] at HWU
    have HFR := hid fun g W (hU : UP W g N q) (h : Cells W A p) => from_any A c g N p q W hN (by omega) G.len G.bd hU h
    obtain ⟨v, hv⟩ : ∃ v, v = nbF p q := ⟨_, rfl⟩
    rw [← hv] at HFR ⊢
    clear hg hg2 hb hv G Gq h12 hqs hN
    go_enter Try.func34, Try.ntmps34
    go_wp2_with (first | (go_at_call 98; refine (IsPartition_b _ _ _ _ hl hc _ HG.out).mono ?_; rintro e w' ⟨rfl, rfl⟩) | (go_at_call 99; refine (isChained_b _ _ _ _ hl2 hc2 _ HG2.out).mono ?_; rintro e w' ⟨rfl, rfl⟩) | (go_at_call 100; refine HWU.out.mono ?_; rintro e w5 ⟨rfl, u5, b5⟩) | (go_at_call 101; refine (HFR.out _ _ u5 (hc.later b5)).mono ?_; rintro e w6 ⟨rfl, b6⟩))
    go_ret2
    exact ⟨rfl, Below.next b5 b6⟩
theorem impl_CountBetween {B B2 : Nat} (A : Option Addr) (c : Nat) (p : List Int) (A2 : Option Addr) (c2 : Nat) (q : List Int) (w : World) (hl : p.length ≤ 1048576) (ho : Own w B A c p) (hl2 : q.length ≤ 1048576) (ho2 : Own w B2 A2 c2 q) :
    Calls Try.prog 34 #[.slice A p.length c, .slice A2 q.length c2] w fun e w' => e = .returned (.tuple #[.int .i64 (cbF p q), .bool (cbB p q)]) ∧ Below w.heap.size w w' :=
  impl_CountBetween' A c p A2 c2 q w hl ho.cells hl2 ho2.cells

set_option maxRecDepth 100000 in
set_option maxHeartbeats 2000000 in
theorem spec_CountBetween {B B2 : Nat} (A : Option Addr) (c : Nat) (p : List Int) (A2 : Option Addr) (c2 : Nat) (q : List Int) (w : World) (hl : p.length ≤ 1048576) (ho : Own w B A c p) (hl2 : q.length ≤ 1048576) (ho2 : Own w B2 A2 c2 q) :
    Calls Try.prog 33 #[.slice A p.length c, .slice A2 q.length c2] w fun e w' => e = .returned (.tuple #[.int .i64 (cbF p q), .bool (cbB p q)]) ∧ Below w.heap.size w w' := by
  have hc := ho.cells
  have hc2 := ho2.cells
  clear ho2
  cases hg : good p
  · have hb : cbB p q = false := by simp [cbB, hg]
    rw [show cbF p q = 0 by simp [cbF, hb], hb]
    have HG := hid hg
    clear hg hb
    go_enter Try.func33, Try.ntmps33
    go_wp2_with (go_at_call 90; refine (ptGood_b _ _ _ _ hl hc _ HG.out).mono ?_; rintro e w' ⟨rfl, n, rfl⟩)
    go_ret2
    exact ⟨rfl, below_drew' _ _⟩
  have HG := hid hg
  cases hg2 : good q
  · have hb : cbB p q = false := by simp [cbB, chdB, hg2]
    rw [show cbF p q = 0 by simp [cbF, hb], hb]
    have HG2 := hid hg2
    clear hg hg2 hb
    go_enter Try.func33, Try.ntmps33
    go_wp2_with fail
    refine (ptGood_b _ _ _ _ hl hc _ HG.out).mono ?_
    rintro e w' ⟨rfl, n1, rfl⟩
    go_wp2_with fail
    refine (ptGood_b _ _ _ _ hl2 (by exact hc2) _ HG2.out).mono ?_
    rintro e w' ⟨rfl, n2, rfl⟩
    go_wp2_with fail
    go_ret2
    exact ⟨rfl, below_drew' _ _⟩
  have HG2 := hid hg2
  have G := (good_iff p).1 hg
  have Gq := (good_iff q).1 hg2
  have HSU := hid fun W (h : Cells W A2 q) => ptSum_any A2 q c2 W Gq.len (fun j hj => by have := Gq.pos j hj; have := Gq.le j hj; omega) h
  by_cases h12 : q.sum ≤ 12
  · have hb : cbB p q = true := by simp [cbB, chdB, hg, hg2, h12]
    rw [show cbF p q = nbF p q by simp [cbF, hb], hb]
    have HCB := hid fun W (h1 : Own W B A c p) (h2 : Cells W A2 q) => cnBetween_any A2 c2 q Gq h12 _ A c p W (Nat.lt_succ_self _) G h1 h2
    obtain ⟨v, hv⟩ : ∃ v, v = nbF p q := ⟨_, rfl⟩
    rw [← hv] at HCB ⊢
    obtain ⟨s, hs⟩ : ∃ s, s = q.sum := ⟨_, rfl⟩
    rw [← hs] at HSU h12
    have h12' : ¬ 12 < s := by omega
    have HO := hid ho
    clear hg hg2 hb hv hs G Gq ho
    go_enter Try.func33, Try.ntmps33
    go_wp2_with fail
    refine (ptGood_b _ _ _ _ hl hc _ HG.out).mono ?_
    rintro e w' ⟨rfl, n1, rfl⟩
    go_wp2_with fail
    refine (ptGood_b _ _ _ _ hl2 (by exact hc2) _ HG2.out).mono ?_
    rintro e w' ⟨rfl, n2, rfl⟩
    go_wp2_with fail
    refine (HSU.out _ (by exact hc2)).mono ?_
    rintro e w' ⟨rfl, rfl⟩
    go_wp2_with fail
    refine (HCB.out _ (by exact HO.out) (by exact hc2)).mono ?_
    rintro e w5 ⟨rfl, b5⟩
    have hbe := Below.next (below_drew' w (n1 + n2)) b5
    clear b5
    go_wp2_with fail
    go_ret2
    exact ⟨rfl, hbe⟩
  · have hb : cbB p q = false := by simp [cbB, chdB, h12]
    rw [show cbF p q = 0 by simp [cbF, hb], hb]
    obtain ⟨s, hs⟩ : ∃ s, s = q.sum := ⟨_, rfl⟩
    rw [← hs] at HSU h12
    have h12' : 12 < s := by omega
    clear hg hg2 hb hs G Gq
    go_enter Try.func33, Try.ntmps33
    go_wp2_with fail
    refine (ptGood_b _ _ _ _ hl hc _ HG.out).mono ?_
    rintro e w' ⟨rfl, n1, rfl⟩
    go_wp2_with fail
    refine (ptGood_b _ _ _ _ hl2 (by exact hc2) _ HG2.out).mono ?_
    rintro e w' ⟨rfl, n2, rfl⟩
    go_wp2_with fail
    refine (HSU.out _ (by exact hc2)).mono ?_
    rintro e w' ⟨rfl, rfl⟩
    go_wp2_with fail
    go_ret2
    exact ⟨rfl, below_drew' _ _⟩
end Go.Proofs.Ytmbfobcbnnalbaa
