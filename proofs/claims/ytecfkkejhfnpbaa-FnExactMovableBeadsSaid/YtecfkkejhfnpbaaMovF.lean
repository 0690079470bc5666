/-
  Contracts: MovableBeads of the program (made by genmov.py).
-/
import Derived.Test.YtecfkkejhfnpbaaMovMath
import Derived.Test.YtecfkkejhfnpbaaBase2
import Derived.Test.YtecfkkejhfnpbaaGrow
import Derived.Deep.RegionWith
namespace Go.Proofs.Ytecfkkejhfnpbaa
open Go.RowKit

theorem Blk.keepG {W W' : World} {g : Nat} {t : TypeId} {n : Nat} {c : Nat → Value} {o : Obj} {row : Option Nat} (h : Blk W g t n c) (hg : (W.alloc o).grownBy W' row) (hne : some g ≠ row) : Blk W' g t n c :=
  (h.alloc o).keep (hg.block g (h.alloc o).lt hne)
theorem Box2.keepG {W W' : World} {g : Nat} {t : TypeId} {a b : Value} {o : Obj} {row : Option Nat} (h : Box2 W g t a b) (hg : (W.alloc o).grownBy W' row) (hne : some g ≠ row) : Box2 W' g t a b :=
  (h.alloc o).keep (hg.block g (h.alloc o).lt hne)
theorem owns_below {W W' : World} {B n : Nat} {v : Value} {xs : List Value} (h : W.ownsRow B 3 1 v n xs) (hb : Below W.heap.size W W') : W'.ownsRow B 3 1 v n xs := by
  refine ⟨h.1, ?_⟩
  rcases h.2 with hn | ⟨g, cap, cur, hv, hbb, hgg, rest⟩
  · exact .inl hn
  · exact .inr ⟨g, cap, cur, hv, hbb, by rw [hb.block g (Array.getElem?_eq_some_iff.1 hgg).1]; exact hgg, rest⟩
theorem own_ne_blk {W : World} {B g m n : Nat} {c : Nat → Value} {v : Value} {xs : List Value} (h : W.ownsRow B 3 1 v n xs) (hb : Blk W g 76 m c) : some g = v.ownBlock → False := by
  intro e
  rcases h.2 with ⟨rfl, _⟩ | ⟨g1, cap, cur, rfl, _, hg, _⟩
  · simp [Value.ownBlock] at e
  · have e1 : g = g1 := by simpa [Value.ownBlock] using e
    subst e1
    rw [show W.heap[g]? = _ from hb] at hg
    injection hg with hg
    injection hg with _ ht
    exact absurd ht (by decide)
theorem own_ne_box {W : World} {B g n : Nat} {a b : Value} {v : Value} {xs : List Value} (h : W.ownsRow B 3 1 v n xs) (hb : Box2 W g 29 a b) : some g = v.ownBlock → False := by
  intro e
  rcases h.2 with ⟨rfl, _⟩ | ⟨g1, cap, cur, rfl, _, hg, _⟩
  · simp [Value.ownBlock] at e
  · have e1 : g = g1 := by simpa [Value.ownBlock] using e
    subst e1
    rw [show W.heap[g]? = _ from hb] at hg
    injection hg with hg
    injection hg with _ ht
    exact absurd ht (by decide)

set_option maxRecDepth 100000 in
set_option maxHeartbeats 8000000 in
theorem impl_MovableBeads (r : Int) (A : Option Addr) (c : Nat) (xs : List Int) (w : World) (hl : xs.length ≤ 1048576) (hc : Cells w A xs) :
    Calls Try.prog 46 #[.agg #[.int .i64 r, .slice A xs.length c]] w fun e w' => ∃ A' c', e = .returned (.tuple #[.slice A' (movF r xs).length c', .bool (isAba r xs)]) ∧ Own w' w.heap.size A' c' (movF r xs) ∧ Below w.heap.size w w' := by
  obtain ⟨i0, hi, hz0, hz1, hz2⟩ := info_parts Try.infoInt
  have hz := Try.bdZero
  unfold bdV at hz
  have y0 := Box2.new w 29 (.int .i64 r) (.slice A xs.length c)
  have b0 : Below w.heap.size w (w.alloc (.cells #[.int .i64 r, .slice A xs.length c] 29)) := (Below.refl _ _).alloc (Nat.le_refl _) _
  have HIS := hid fun b (h : isAba r xs = b) => IsAbacus_b r A c xs (w.alloc (.cells #[.int .i64 r, .slice A xs.length c] 29)) hl (hc.below b0) b h
  have h0 := y0.cell0
  have h1 := y0.cell1
  cases hab : isAba r xs
  · rw [show movF r xs = [] by simp [movF, hab]]
    have HA := hid hab
    clear hab
    go_enter Try.func46, Try.ntmps46
    go_wp2_with (go_at_call 86; refine (HIS.out _ HA.out).mono ?_; rintro e w1 ⟨rfl, b1⟩)
    go_ret2
    exact ⟨none, 0, rfl, own_nil _ _, Below.next b0 b1⟩
  rw [show movF r xs = movL r xs by simp [movF, hab]]
  have hab2 := hab
  simp only [isAba, Bool.and_eq_true] at hab2
  have ht := inB_iff.1 hab2.1
  obtain ⟨t, rfl⟩ : ∃ t : Nat, r = t := ⟨r.toNat, by omega⟩
  have ht2 : 2 ≤ t ∧ t ≤ 6 := by omega
  have GB := hid (goodB_iff.1 hab2.2)
  have hlen := GB.out.len
  have HBO := hid fun W (h : Cells W A xs) => boardOf_any t A c xs W ht2 hlen (fun j hj => by have := GB.out.top hj; omega) h
  have HPC := hid fun (x : Int) (hx : x ∈ xs) => put_case ht2 GB.out hx
  have HPT := hid fun F a b W (hb : b < 1000000) => brdPut_any t F a b W ht2 hb
  obtain ⟨F, hF⟩ : ∃ F, F = bitsK t xs xs.length := ⟨_, rfl⟩
  rw [← hF] at HBO HPC
  have HA := hid hab
  have HY := hid y0
  unfold movL
  clear hab hab2 hF y0
  go_enter Try.func46, Try.ntmps46
  go_wp2_with (first | (go_at_call 86; refine (HIS.out _ HA.out).mono ?_; rintro e w1 ⟨rfl, b1⟩; have B1 := Below.next b0 b1; have hh0 := (HY.out.next b1).cell0; have hh1 := (HY.out.next b1).cell1) | (go_at_call 87; refine (HBO.out _ (hc.later B1)).mono ?_; rintro e w2 ⟨rfl, b2⟩; have B2 := Below.next B1 b2; have hs2 := B2.size; have X0 := hid (Blk.new w2 76 217 (brdV 0 fun _ => false)); have Z0 := hid ((((HY.out.next b1).next b2).alloc (.cells (ca 217 (brdV 0 fun _ => false)) 76)).keep (setRow_other (w2.alloc (.cells (ca 217 (brdV 0 fun _ => false)) 76)) w2.heap.size w.heap.size (ca 217 (brdV t F)) (by have := (HY.out.next b1).next b2 |>.lt; omega))); have hza := Z0.out.cell0; have hzb := Z0.out.cell1; clear hh0 hh1) | (refine wpList_store_row rfl 76 _ _ rfl (w2.heap.size) _ rfl rfl 76 _ X0.out (by rw [ca_size]; exact Try.bdSize) (by rw [ca_size, ca_size]) (brd_one _ _) ?_))
  have X3 := hid (setRow_blk X0.out (brdV t F))
  have B3 : Below w.heap.size w ((w2.alloc (.cells (ca 217 (brdV 0 fun _ => false)) 76)).setRow w2.heap.size (ca 217 (brdV t F))) := setRow_below (B2.alloc hs2 _) hs2 _
  go_loopw [5, 16] (fun v i wr => ∃ k : Nat, k ≤ xs.length ∧ i = .int .i64 k ∧ Hid (wr.ownsRow w.heap.size 3 1 v ((xs.take k).filter (canMv t xs)).length (IL ((xs.take k).filter (canMv t xs)))) ∧ Hid (Blk wr w2.heap.size 76 217 (brdV t F)) ∧ Hid (Box2 wr w.heap.size 29 (.int .i64 t) (.slice A xs.length c)) ∧ Below w.heap.size w wr) (fun _ i _ => xs.length - (intOf i).toNat)
  case atStart => exact ⟨0, Nat.zero_le _, rfl, hid (World.ownsRow_nil _ _ _ _), X3, Z0, B3⟩
  case round =>
    obtain ⟨k, hk, rfl, HOW, HX, HZZ, hbw⟩ := hrel
    by_cases hlt : k < xs.length
    · obtain ⟨b, o, rfl, hcc⟩ := (hc.later hbw) (by omega)
      have hck := hcc k hlt
      have hxb := GB.out.top hlt
      have hxm : xs.getD k 0 ∈ xs := mem_getD.2 ⟨k, hlt, rfl⟩
      have hst := filt_t (p := canMv t xs) xs k hlt
      have hsf := filt_f (p := canMv t xs) xs k hlt
      have hpc := HPC.out _ hxm
      have hfll := List.length_filter_le (canMv t xs) (xs.take k)
      rw [List.length_take] at hfll
      have HFL := hid (show ((xs.take k).filter (canMv t xs)).length ≤ 40 by omega)
      obtain ⟨x, hx⟩ : ∃ x, x = xs.getD k 0 := ⟨_, rfl⟩
      rw [← hx] at hck hxb hst hsf hpc
      have HST := hid hst; have HSF := hid hsf
      have hcw := HPT.out F x (x - t)
      have hwr : IntKind.i64.wrap (x - t) = x - t := IntWalk.i64_in _ (by omega)
      have f0 : wr.drew.cell? ⟨w.heap.size, 0, none⟩ = some (.int .i64 t) := HZZ.out.cell0
      have hbwd : Below w.heap.size w wr.drew := below_drewN hbw 1
      have hownd : ∀ {W : World}, Below wr.drew.heap.size wr.drew W → W.ownsRow w.heap.size 3 1 u5 ((xs.take k).filter (canMv t xs)).length (IL ((xs.take k).filter (canMv t xs))) := fun hW => owns_below (show wr.drew.ownsRow _ _ _ _ _ _ from HOW.out) hW
      cases hcm : canMv t xs x
      · have hsame := hpc.1 hcm
        rw [hsame] at hcw
        have HC := hid fun W => hcw W (by omega)
        have heq := fun W => run_eq_bd (t : Int) (by unfold I64; omega) F F W true (by simp)
        have HS := hid (HSF.out hcm)
        clear hcc hxm hst hsf hpc hfll hx hcm hsame hcw HPC HPT
        unfold bdV at heq HC
        go_wp2_with fail
        refine wp_region_any (by kernel_rfl) ?_
        change wpAny _ _ _ _ _ _ _ (World.drew _)
        apply wpAny_take (i := 1) (v := .int .i64 x)
        case hi => simp only [List.getElem?_toArray, List.getElem?_cons_succ, List.getElem?_cons_zero]; rfl
        case hs => kernel_rfl
        case hf => kernel_rfl
        case hr => kernel_rfl
        case hQ => exact fun _ _ _ h => h
        case hy => exact Or.inl ⟨by rfl, fun W => by first | (go_simp; done) | (go_simp; omega)⟩
        try simp only [Act.put, List.setIfInBounds_toArray, List.set_cons_zero, List.set_cons_succ]
        apply wpAny_take (i := 2) (v := .int .i64 x)
        case hi => simp only [List.getElem?_toArray, List.getElem?_cons_succ, List.getElem?_cons_zero]; rfl
        case hs => kernel_rfl
        case hf => kernel_rfl
        case hr => kernel_rfl
        case hQ => exact fun _ _ _ h => h
        case hy => exact Or.inl ⟨by rfl, fun W => by first | (go_simp; done) | (go_simp; omega)⟩
        try simp only [Act.put, List.setIfInBounds_toArray, List.set_cons_zero, List.set_cons_succ]
        apply wpAny_take (i := 3) (v := .pointer (some ⟨w.heap.size, 0, none⟩))
        case hi => simp only [List.getElem?_toArray, List.getElem?_cons_succ, List.getElem?_cons_zero]; rfl
        case hs => kernel_rfl
        case hf => kernel_rfl
        case hr => kernel_rfl
        case hQ => exact fun _ _ _ h => h
        case hy => exact Or.inl ⟨by rfl, fun W => by first | (go_simp; done) | (go_simp; omega)⟩
        try simp only [Act.put, List.setIfInBounds_toArray, List.set_cons_zero, List.set_cons_succ]
        refine wpAny_ready (rs := [0, 4, 7]) (by kernel_rfl) (by simp) ?_
        apply AllReady.cons
        case ho => simp only [List.getElem?_toArray, List.getElem?_cons_zero]; rfl
        case h =>
          intro K hK
          rw [if_pos (by rfl)]
          refine wp_load_row 76 _ rfl (w2.heap.size) rfl 76 _ (0, 0) _ (show Blk wr.drew _ _ _ _ from HX.out) Try.underlying76 rfl (by rw [ca_size]; exact Try.bdSize) ?_
          refine hK _ _ ?_
          clear hK K
          try simp only [Act.put, List.setIfInBounds_toArray, List.set_cons_zero, List.set_cons_succ]
          refine wpAny_ready (rs := [4, 7]) (by kernel_rfl) (by simp) ?_
          apply AllReady.cons
          case ho => simp only [List.getElem?_toArray, List.getElem?_cons_succ, List.getElem?_cons_zero]; rfl
          case h =>
            intro K hK
            go_simp
            refine hK _ _ ?_
            clear hK K
            try simp only [Act.put, List.setIfInBounds_toArray, List.set_cons_zero, List.set_cons_succ]
            apply wpAny_take (i := 5) (v := .int .i64 (x - t))
            case hi => simp only [List.getElem?_toArray, List.getElem?_cons_succ, List.getElem?_cons_zero]; rfl
            case hs => kernel_rfl
            case hf => kernel_rfl
            case hr => kernel_rfl
            case hQ => exact fun _ _ _ h => h
            case hy => exact Or.inl ⟨by rfl, fun W => by first | (go_simp; done) | (go_simp; omega)⟩
            try simp only [Act.put, List.setIfInBounds_toArray, List.set_cons_zero, List.set_cons_succ]
            refine wpAny_ready (rs := [6, 7]) (by kernel_rfl) (by simp) ?_
            apply AllReady.cons
            case ho => simp only [List.getElem?_toArray, List.getElem?_cons_succ, List.getElem?_cons_zero]; rfl
            case h =>
              intro K hK
              go_simp
              refine (HC.out _).mono ?_
              rintro e w4 ⟨rfl, b4⟩
              have HX4 := hid ((show Blk wr.drew _ _ _ _ from HX.out).next b4)
              have HZ4 := hid ((show Box2 wr.drew _ _ _ _ from HZZ.out).next b4)
              have hbw4 := Below.next hbwd b4
              have o4 := hownd b4
              refine hK _ _ ?_
              clear hK K
              try simp only [Act.put, List.setIfInBounds_toArray, List.set_cons_zero, List.set_cons_succ]
              refine wpAny_ready (rs := [7]) (by kernel_rfl) (by simp) ?_
              apply AllReady.cons
              case ho => simp only [List.getElem?_toArray, List.getElem?_cons_succ, List.getElem?_cons_zero]; rfl
              case h =>
                intro K hK
                rw [if_pos (by rfl)]
                refine wp_load_row 76 _ rfl (w2.heap.size) rfl 76 _ (0, 0) _ HX4.out Try.underlying76 rfl (by rw [ca_size]; exact Try.bdSize) ?_
                refine hK _ _ ?_
                clear hK K
                try simp only [Act.put, List.setIfInBounds_toArray, List.set_cons_zero, List.set_cons_succ]
                apply wpAny_take (i := 8) (v := .bool false)
                case hi => simp only [List.getElem?_toArray, List.getElem?_cons_succ, List.getElem?_cons_zero]; rfl
                case hs => kernel_rfl
                case hf => kernel_rfl
                case hr => kernel_rfl
                case hQ => exact fun _ _ _ h => h
                case hy => exact Or.inl ⟨by rfl, fun W => by first | (go_simp; done) | (go_simp; omega)⟩
                try simp only [Act.put, List.setIfInBounds_toArray, List.set_cons_zero, List.set_cons_succ]
                refine wpAny_done (by kernel_rfl) ?_ _
                have HO2 := hid (show w4.ownsRow w.heap.size 3 1 u5 (((xs.take (k + 1)).filter (canMv t xs))).length (IL ((xs.take (k + 1)).filter (canMv t xs))) by rw [HS.out]; exact o4)
                go_wp2_with fail
                go_roundw
                case rel => exact ⟨k + 1, by omega, by go_num, HO2, HX4, HZ4, hbw4⟩
                case measure => simp [intOf]; omega
              exact AllReady.nil
            apply AllReady.cons
            case ho => simp only [List.getElem?_toArray, List.getElem?_cons_succ, List.getElem?_cons_zero]; rfl
            case h =>
              intro K hK
              rw [if_pos (by rfl)]
              refine wp_load_row 76 _ rfl (w2.heap.size) rfl 76 _ (0, 0) _ (show Blk wr.drew _ _ _ _ from HX.out) Try.underlying76 rfl (by rw [ca_size]; exact Try.bdSize) ?_
              refine hK _ _ ?_
              clear hK K
              try simp only [Act.put, List.setIfInBounds_toArray, List.set_cons_zero, List.set_cons_succ]
              refine wpAny_ready (rs := [6]) (by kernel_rfl) (by simp) ?_
              apply AllReady.cons
              case ho => simp only [List.getElem?_toArray, List.getElem?_cons_succ, List.getElem?_cons_zero]; rfl
              case h =>
                intro K hK
                go_simp
                refine (HC.out _).mono ?_
                rintro e w4 ⟨rfl, b4⟩
                have HX4 := hid ((show Blk wr.drew _ _ _ _ from HX.out).next b4)
                have HZ4 := hid ((show Box2 wr.drew _ _ _ _ from HZZ.out).next b4)
                have hbw4 := Below.next hbwd b4
                have o4 := hownd b4
                refine hK _ _ ?_
                clear hK K
                try simp only [Act.put, List.setIfInBounds_toArray, List.set_cons_zero, List.set_cons_succ]
                apply wpAny_take (i := 8) (v := .bool false)
                case hi => simp only [List.getElem?_toArray, List.getElem?_cons_succ, List.getElem?_cons_zero]; rfl
                case hs => kernel_rfl
                case hf => kernel_rfl
                case hr => kernel_rfl
                case hQ => exact fun _ _ _ h => h
                case hy => exact Or.inl ⟨by rfl, fun W => by first | (go_simp; done) | (go_simp; omega)⟩
                try simp only [Act.put, List.setIfInBounds_toArray, List.set_cons_zero, List.set_cons_succ]
                refine wpAny_done (by kernel_rfl) ?_ _
                have HO2 := hid (show w4.ownsRow w.heap.size 3 1 u5 (((xs.take (k + 1)).filter (canMv t xs))).length (IL ((xs.take (k + 1)).filter (canMv t xs))) by rw [HS.out]; exact o4)
                go_wp2_with fail
                go_roundw
                case rel => exact ⟨k + 1, by omega, by go_num, HO2, HX4, HZ4, hbw4⟩
                case measure => simp [intOf]; omega
              exact AllReady.nil
            exact AllReady.nil
          apply AllReady.cons
          case ho => simp only [List.getElem?_toArray, List.getElem?_cons_succ, List.getElem?_cons_zero]; rfl
          case h =>
            intro K hK
            rw [if_pos (by rfl)]
            refine wp_load_row 76 _ rfl (w2.heap.size) rfl 76 _ (0, 0) _ (show Blk wr.drew _ _ _ _ from HX.out) Try.underlying76 rfl (by rw [ca_size]; exact Try.bdSize) ?_
            refine hK _ _ ?_
            clear hK K
            try simp only [Act.put, List.setIfInBounds_toArray, List.set_cons_zero, List.set_cons_succ]
            refine wpAny_ready (rs := [4]) (by kernel_rfl) (by simp) ?_
            apply AllReady.cons
            case ho => simp only [List.getElem?_toArray, List.getElem?_cons_succ, List.getElem?_cons_zero]; rfl
            case h =>
              intro K hK
              go_simp
              refine hK _ _ ?_
              clear hK K
              try simp only [Act.put, List.setIfInBounds_toArray, List.set_cons_zero, List.set_cons_succ]
              apply wpAny_take (i := 5) (v := .int .i64 (x - t))
              case hi => simp only [List.getElem?_toArray, List.getElem?_cons_succ, List.getElem?_cons_zero]; rfl
              case hs => kernel_rfl
              case hf => kernel_rfl
              case hr => kernel_rfl
              case hQ => exact fun _ _ _ h => h
              case hy => exact Or.inl ⟨by rfl, fun W => by first | (go_simp; done) | (go_simp; omega)⟩
              try simp only [Act.put, List.setIfInBounds_toArray, List.set_cons_zero, List.set_cons_succ]
              refine wpAny_ready (rs := [6]) (by kernel_rfl) (by simp) ?_
              apply AllReady.cons
              case ho => simp only [List.getElem?_toArray, List.getElem?_cons_succ, List.getElem?_cons_zero]; rfl
              case h =>
                intro K hK
                go_simp
                refine (HC.out _).mono ?_
                rintro e w4 ⟨rfl, b4⟩
                have HX4 := hid ((show Blk wr.drew _ _ _ _ from HX.out).next b4)
                have HZ4 := hid ((show Box2 wr.drew _ _ _ _ from HZZ.out).next b4)
                have hbw4 := Below.next hbwd b4
                have o4 := hownd b4
                refine hK _ _ ?_
                clear hK K
                try simp only [Act.put, List.setIfInBounds_toArray, List.set_cons_zero, List.set_cons_succ]
                apply wpAny_take (i := 8) (v := .bool false)
                case hi => simp only [List.getElem?_toArray, List.getElem?_cons_succ, List.getElem?_cons_zero]; rfl
                case hs => kernel_rfl
                case hf => kernel_rfl
                case hr => kernel_rfl
                case hQ => exact fun _ _ _ h => h
                case hy => exact Or.inl ⟨by rfl, fun W => by first | (go_simp; done) | (go_simp; omega)⟩
                try simp only [Act.put, List.setIfInBounds_toArray, List.set_cons_zero, List.set_cons_succ]
                refine wpAny_done (by kernel_rfl) ?_ _
                have HO2 := hid (show w4.ownsRow w.heap.size 3 1 u5 (((xs.take (k + 1)).filter (canMv t xs))).length (IL ((xs.take (k + 1)).filter (canMv t xs))) by rw [HS.out]; exact o4)
                go_wp2_with fail
                go_roundw
                case rel => exact ⟨k + 1, by omega, by go_num, HO2, HX4, HZ4, hbw4⟩
                case measure => simp [intOf]; omega
              exact AllReady.nil
            exact AllReady.nil
          exact AllReady.nil
        apply AllReady.cons
        case ho => simp only [List.getElem?_toArray, List.getElem?_cons_succ, List.getElem?_cons_zero]; rfl
        case h =>
          intro K hK
          go_simp
          refine hK _ _ ?_
          clear hK K
          try simp only [Act.put, List.setIfInBounds_toArray, List.set_cons_zero, List.set_cons_succ]
          apply wpAny_take (i := 5) (v := .int .i64 (x - t))
          case hi => simp only [List.getElem?_toArray, List.getElem?_cons_succ, List.getElem?_cons_zero]; rfl
          case hs => kernel_rfl
          case hf => kernel_rfl
          case hr => kernel_rfl
          case hQ => exact fun _ _ _ h => h
          case hy => exact Or.inl ⟨by rfl, fun W => by first | (go_simp; done) | (go_simp; omega)⟩
          try simp only [Act.put, List.setIfInBounds_toArray, List.set_cons_zero, List.set_cons_succ]
          refine wpAny_ready (rs := [0, 7]) (by kernel_rfl) (by simp) ?_
          apply AllReady.cons
          case ho => simp only [List.getElem?_toArray, List.getElem?_cons_zero]; rfl
          case h =>
            intro K hK
            rw [if_pos (by rfl)]
            refine wp_load_row 76 _ rfl (w2.heap.size) rfl 76 _ (0, 0) _ (show Blk wr.drew _ _ _ _ from HX.out) Try.underlying76 rfl (by rw [ca_size]; exact Try.bdSize) ?_
            refine hK _ _ ?_
            clear hK K
            try simp only [Act.put, List.setIfInBounds_toArray, List.set_cons_zero, List.set_cons_succ]
            refine wpAny_ready (rs := [6, 7]) (by kernel_rfl) (by simp) ?_
            apply AllReady.cons
            case ho => simp only [List.getElem?_toArray, List.getElem?_cons_succ, List.getElem?_cons_zero]; rfl
            case h =>
              intro K hK
              go_simp
              refine (HC.out _).mono ?_
              rintro e w4 ⟨rfl, b4⟩
              have HX4 := hid ((show Blk wr.drew _ _ _ _ from HX.out).next b4)
              have HZ4 := hid ((show Box2 wr.drew _ _ _ _ from HZZ.out).next b4)
              have hbw4 := Below.next hbwd b4
              have o4 := hownd b4
              refine hK _ _ ?_
              clear hK K
              try simp only [Act.put, List.setIfInBounds_toArray, List.set_cons_zero, List.set_cons_succ]
              refine wpAny_ready (rs := [7]) (by kernel_rfl) (by simp) ?_
              apply AllReady.cons
              case ho => simp only [List.getElem?_toArray, List.getElem?_cons_succ, List.getElem?_cons_zero]; rfl
              case h =>
                intro K hK
                rw [if_pos (by rfl)]
                refine wp_load_row 76 _ rfl (w2.heap.size) rfl 76 _ (0, 0) _ HX4.out Try.underlying76 rfl (by rw [ca_size]; exact Try.bdSize) ?_
                refine hK _ _ ?_
                clear hK K
                try simp only [Act.put, List.setIfInBounds_toArray, List.set_cons_zero, List.set_cons_succ]
                apply wpAny_take (i := 8) (v := .bool false)
                case hi => simp only [List.getElem?_toArray, List.getElem?_cons_succ, List.getElem?_cons_zero]; rfl
                case hs => kernel_rfl
                case hf => kernel_rfl
                case hr => kernel_rfl
                case hQ => exact fun _ _ _ h => h
                case hy => exact Or.inl ⟨by rfl, fun W => by first | (go_simp; done) | (go_simp; omega)⟩
                try simp only [Act.put, List.setIfInBounds_toArray, List.set_cons_zero, List.set_cons_succ]
                refine wpAny_done (by kernel_rfl) ?_ _
                have HO2 := hid (show w4.ownsRow w.heap.size 3 1 u5 (((xs.take (k + 1)).filter (canMv t xs))).length (IL ((xs.take (k + 1)).filter (canMv t xs))) by rw [HS.out]; exact o4)
                go_wp2_with fail
                go_roundw
                case rel => exact ⟨k + 1, by omega, by go_num, HO2, HX4, HZ4, hbw4⟩
                case measure => simp [intOf]; omega
              exact AllReady.nil
            apply AllReady.cons
            case ho => simp only [List.getElem?_toArray, List.getElem?_cons_succ, List.getElem?_cons_zero]; rfl
            case h =>
              intro K hK
              rw [if_pos (by rfl)]
              refine wp_load_row 76 _ rfl (w2.heap.size) rfl 76 _ (0, 0) _ (show Blk wr.drew _ _ _ _ from HX.out) Try.underlying76 rfl (by rw [ca_size]; exact Try.bdSize) ?_
              refine hK _ _ ?_
              clear hK K
              try simp only [Act.put, List.setIfInBounds_toArray, List.set_cons_zero, List.set_cons_succ]
              refine wpAny_ready (rs := [6]) (by kernel_rfl) (by simp) ?_
              apply AllReady.cons
              case ho => simp only [List.getElem?_toArray, List.getElem?_cons_succ, List.getElem?_cons_zero]; rfl
              case h =>
                intro K hK
                go_simp
                refine (HC.out _).mono ?_
                rintro e w4 ⟨rfl, b4⟩
                have HX4 := hid ((show Blk wr.drew _ _ _ _ from HX.out).next b4)
                have HZ4 := hid ((show Box2 wr.drew _ _ _ _ from HZZ.out).next b4)
                have hbw4 := Below.next hbwd b4
                have o4 := hownd b4
                refine hK _ _ ?_
                clear hK K
                try simp only [Act.put, List.setIfInBounds_toArray, List.set_cons_zero, List.set_cons_succ]
                apply wpAny_take (i := 8) (v := .bool false)
                case hi => simp only [List.getElem?_toArray, List.getElem?_cons_succ, List.getElem?_cons_zero]; rfl
                case hs => kernel_rfl
                case hf => kernel_rfl
                case hr => kernel_rfl
                case hQ => exact fun _ _ _ h => h
                case hy => exact Or.inl ⟨by rfl, fun W => by first | (go_simp; done) | (go_simp; omega)⟩
                try simp only [Act.put, List.setIfInBounds_toArray, List.set_cons_zero, List.set_cons_succ]
                refine wpAny_done (by kernel_rfl) ?_ _
                have HO2 := hid (show w4.ownsRow w.heap.size 3 1 u5 (((xs.take (k + 1)).filter (canMv t xs))).length (IL ((xs.take (k + 1)).filter (canMv t xs))) by rw [HS.out]; exact o4)
                go_wp2_with fail
                go_roundw
                case rel => exact ⟨k + 1, by omega, by go_num, HO2, HX4, HZ4, hbw4⟩
                case measure => simp [intOf]; omega
              exact AllReady.nil
            exact AllReady.nil
          apply AllReady.cons
          case ho => simp only [List.getElem?_toArray, List.getElem?_cons_succ, List.getElem?_cons_zero]; rfl
          case h =>
            intro K hK
            rw [if_pos (by rfl)]
            refine wp_load_row 76 _ rfl (w2.heap.size) rfl 76 _ (0, 0) _ (show Blk wr.drew _ _ _ _ from HX.out) Try.underlying76 rfl (by rw [ca_size]; exact Try.bdSize) ?_
            refine hK _ _ ?_
            clear hK K
            try simp only [Act.put, List.setIfInBounds_toArray, List.set_cons_zero, List.set_cons_succ]
            refine wpAny_ready (rs := [0]) (by kernel_rfl) (by simp) ?_
            apply AllReady.cons
            case ho => simp only [List.getElem?_toArray, List.getElem?_cons_zero]; rfl
            case h =>
              intro K hK
              rw [if_pos (by rfl)]
              refine wp_load_row 76 _ rfl (w2.heap.size) rfl 76 _ (0, 0) _ (show Blk wr.drew _ _ _ _ from HX.out) Try.underlying76 rfl (by rw [ca_size]; exact Try.bdSize) ?_
              refine hK _ _ ?_
              clear hK K
              try simp only [Act.put, List.setIfInBounds_toArray, List.set_cons_zero, List.set_cons_succ]
              refine wpAny_ready (rs := [6]) (by kernel_rfl) (by simp) ?_
              apply AllReady.cons
              case ho => simp only [List.getElem?_toArray, List.getElem?_cons_succ, List.getElem?_cons_zero]; rfl
              case h =>
                intro K hK
                go_simp
                refine (HC.out _).mono ?_
                rintro e w4 ⟨rfl, b4⟩
                have HX4 := hid ((show Blk wr.drew _ _ _ _ from HX.out).next b4)
                have HZ4 := hid ((show Box2 wr.drew _ _ _ _ from HZZ.out).next b4)
                have hbw4 := Below.next hbwd b4
                have o4 := hownd b4
                refine hK _ _ ?_
                clear hK K
                try simp only [Act.put, List.setIfInBounds_toArray, List.set_cons_zero, List.set_cons_succ]
                apply wpAny_take (i := 8) (v := .bool false)
                case hi => simp only [List.getElem?_toArray, List.getElem?_cons_succ, List.getElem?_cons_zero]; rfl
                case hs => kernel_rfl
                case hf => kernel_rfl
                case hr => kernel_rfl
                case hQ => exact fun _ _ _ h => h
                case hy => exact Or.inl ⟨by rfl, fun W => by first | (go_simp; done) | (go_simp; omega)⟩
                try simp only [Act.put, List.setIfInBounds_toArray, List.set_cons_zero, List.set_cons_succ]
                refine wpAny_done (by kernel_rfl) ?_ _
                have HO2 := hid (show w4.ownsRow w.heap.size 3 1 u5 (((xs.take (k + 1)).filter (canMv t xs))).length (IL ((xs.take (k + 1)).filter (canMv t xs))) by rw [HS.out]; exact o4)
                go_wp2_with fail
                go_roundw
                case rel => exact ⟨k + 1, by omega, by go_num, HO2, HX4, HZ4, hbw4⟩
                case measure => simp [intOf]; omega
              exact AllReady.nil
            exact AllReady.nil
          exact AllReady.nil
        apply AllReady.cons
        case ho => simp only [List.getElem?_toArray, List.getElem?_cons_succ, List.getElem?_cons_zero]; rfl
        case h =>
          intro K hK
          rw [if_pos (by rfl)]
          refine wp_load_row 76 _ rfl (w2.heap.size) rfl 76 _ (0, 0) _ (show Blk wr.drew _ _ _ _ from HX.out) Try.underlying76 rfl (by rw [ca_size]; exact Try.bdSize) ?_
          refine hK _ _ ?_
          clear hK K
          try simp only [Act.put, List.setIfInBounds_toArray, List.set_cons_zero, List.set_cons_succ]
          refine wpAny_ready (rs := [0, 4]) (by kernel_rfl) (by simp) ?_
          apply AllReady.cons
          case ho => simp only [List.getElem?_toArray, List.getElem?_cons_zero]; rfl
          case h =>
            intro K hK
            rw [if_pos (by rfl)]
            refine wp_load_row 76 _ rfl (w2.heap.size) rfl 76 _ (0, 0) _ (show Blk wr.drew _ _ _ _ from HX.out) Try.underlying76 rfl (by rw [ca_size]; exact Try.bdSize) ?_
            refine hK _ _ ?_
            clear hK K
            try simp only [Act.put, List.setIfInBounds_toArray, List.set_cons_zero, List.set_cons_succ]
            refine wpAny_ready (rs := [4]) (by kernel_rfl) (by simp) ?_
            apply AllReady.cons
            case ho => simp only [List.getElem?_toArray, List.getElem?_cons_succ, List.getElem?_cons_zero]; rfl
            case h =>
              intro K hK
              go_simp
              refine hK _ _ ?_
              clear hK K
              try simp only [Act.put, List.setIfInBounds_toArray, List.set_cons_zero, List.set_cons_succ]
              apply wpAny_take (i := 5) (v := .int .i64 (x - t))
              case hi => simp only [List.getElem?_toArray, List.getElem?_cons_succ, List.getElem?_cons_zero]; rfl
              case hs => kernel_rfl
              case hf => kernel_rfl
              case hr => kernel_rfl
              case hQ => exact fun _ _ _ h => h
              case hy => exact Or.inl ⟨by rfl, fun W => by first | (go_simp; done) | (go_simp; omega)⟩
              try simp only [Act.put, List.setIfInBounds_toArray, List.set_cons_zero, List.set_cons_succ]
              refine wpAny_ready (rs := [6]) (by kernel_rfl) (by simp) ?_
              apply AllReady.cons
              case ho => simp only [List.getElem?_toArray, List.getElem?_cons_succ, List.getElem?_cons_zero]; rfl
              case h =>
                intro K hK
                go_simp
                refine (HC.out _).mono ?_
                rintro e w4 ⟨rfl, b4⟩
                have HX4 := hid ((show Blk wr.drew _ _ _ _ from HX.out).next b4)
                have HZ4 := hid ((show Box2 wr.drew _ _ _ _ from HZZ.out).next b4)
                have hbw4 := Below.next hbwd b4
                have o4 := hownd b4
                refine hK _ _ ?_
                clear hK K
                try simp only [Act.put, List.setIfInBounds_toArray, List.set_cons_zero, List.set_cons_succ]
                apply wpAny_take (i := 8) (v := .bool false)
                case hi => simp only [List.getElem?_toArray, List.getElem?_cons_succ, List.getElem?_cons_zero]; rfl
                case hs => kernel_rfl
                case hf => kernel_rfl
                case hr => kernel_rfl
                case hQ => exact fun _ _ _ h => h
                case hy => exact Or.inl ⟨by rfl, fun W => by first | (go_simp; done) | (go_simp; omega)⟩
                try simp only [Act.put, List.setIfInBounds_toArray, List.set_cons_zero, List.set_cons_succ]
                refine wpAny_done (by kernel_rfl) ?_ _
                have HO2 := hid (show w4.ownsRow w.heap.size 3 1 u5 (((xs.take (k + 1)).filter (canMv t xs))).length (IL ((xs.take (k + 1)).filter (canMv t xs))) by rw [HS.out]; exact o4)
                go_wp2_with fail
                go_roundw
                case rel => exact ⟨k + 1, by omega, by go_num, HO2, HX4, HZ4, hbw4⟩
                case measure => simp [intOf]; omega
              exact AllReady.nil
            exact AllReady.nil
          apply AllReady.cons
          case ho => simp only [List.getElem?_toArray, List.getElem?_cons_succ, List.getElem?_cons_zero]; rfl
          case h =>
            intro K hK
            go_simp
            refine hK _ _ ?_
            clear hK K
            try simp only [Act.put, List.setIfInBounds_toArray, List.set_cons_zero, List.set_cons_succ]
            apply wpAny_take (i := 5) (v := .int .i64 (x - t))
            case hi => simp only [List.getElem?_toArray, List.getElem?_cons_succ, List.getElem?_cons_zero]; rfl
            case hs => kernel_rfl
            case hf => kernel_rfl
            case hr => kernel_rfl
            case hQ => exact fun _ _ _ h => h
            case hy => exact Or.inl ⟨by rfl, fun W => by first | (go_simp; done) | (go_simp; omega)⟩
            try simp only [Act.put, List.setIfInBounds_toArray, List.set_cons_zero, List.set_cons_succ]
            refine wpAny_ready (rs := [0]) (by kernel_rfl) (by simp) ?_
            apply AllReady.cons
            case ho => simp only [List.getElem?_toArray, List.getElem?_cons_zero]; rfl
            case h =>
              intro K hK
              rw [if_pos (by rfl)]
              refine wp_load_row 76 _ rfl (w2.heap.size) rfl 76 _ (0, 0) _ (show Blk wr.drew _ _ _ _ from HX.out) Try.underlying76 rfl (by rw [ca_size]; exact Try.bdSize) ?_
              refine hK _ _ ?_
              clear hK K
              try simp only [Act.put, List.setIfInBounds_toArray, List.set_cons_zero, List.set_cons_succ]
              refine wpAny_ready (rs := [6]) (by kernel_rfl) (by simp) ?_
              apply AllReady.cons
              case ho => simp only [List.getElem?_toArray, List.getElem?_cons_succ, List.getElem?_cons_zero]; rfl
              case h =>
                intro K hK
                go_simp
                refine (HC.out _).mono ?_
                rintro e w4 ⟨rfl, b4⟩
                have HX4 := hid ((show Blk wr.drew _ _ _ _ from HX.out).next b4)
                have HZ4 := hid ((show Box2 wr.drew _ _ _ _ from HZZ.out).next b4)
                have hbw4 := Below.next hbwd b4
                have o4 := hownd b4
                refine hK _ _ ?_
                clear hK K
                try simp only [Act.put, List.setIfInBounds_toArray, List.set_cons_zero, List.set_cons_succ]
                apply wpAny_take (i := 8) (v := .bool false)
                case hi => simp only [List.getElem?_toArray, List.getElem?_cons_succ, List.getElem?_cons_zero]; rfl
                case hs => kernel_rfl
                case hf => kernel_rfl
                case hr => kernel_rfl
                case hQ => exact fun _ _ _ h => h
                case hy => exact Or.inl ⟨by rfl, fun W => by first | (go_simp; done) | (go_simp; omega)⟩
                try simp only [Act.put, List.setIfInBounds_toArray, List.set_cons_zero, List.set_cons_succ]
                refine wpAny_done (by kernel_rfl) ?_ _
                have HO2 := hid (show w4.ownsRow w.heap.size 3 1 u5 (((xs.take (k + 1)).filter (canMv t xs))).length (IL ((xs.take (k + 1)).filter (canMv t xs))) by rw [HS.out]; exact o4)
                go_wp2_with fail
                go_roundw
                case rel => exact ⟨k + 1, by omega, by go_num, HO2, HX4, HZ4, hbw4⟩
                case measure => simp [intOf]; omega
              exact AllReady.nil
            exact AllReady.nil
          exact AllReady.nil
        exact AllReady.nil
      · obtain ⟨q, hq, hne⟩ := hpc.2 hcm
        obtain ⟨F2, hF2⟩ : ∃ F2, F2 = putB t F x (x - t) := ⟨_, rfl⟩
        rw [← hF2] at hcw hne
        have HC := hid fun W => hcw W (by omega)
        have heq := fun W => run_eq_bd (t : Int) (by unfold I64; omega) F2 F W false (by simp only [Bool.false_eq_true, false_iff]; intro h; exact hne (h q hq).symm)
        have HS := hid (HST.out hcm)
        clear hcc hxm hst hsf hpc hfll hcm hcw HPC HPT hne hF2
        clear hx
        obtain ⟨fl, hfl⟩ : ∃ fl, fl = (xs.take k).filter (canMv t xs) := ⟨_, rfl⟩
        rw [← hfl] at HS HFL hownd
        clear hfl
        unfold bdV at heq HC
        go_wp2_with fail
        refine wp_region_any (by kernel_rfl) ?_
        change wpAny _ _ _ _ _ _ _ (World.drew _)
        apply wpAny_take (i := 1) (v := .int .i64 x)
        case hi => simp only [List.getElem?_toArray, List.getElem?_cons_succ, List.getElem?_cons_zero]; rfl
        case hs => kernel_rfl
        case hf => kernel_rfl
        case hr => kernel_rfl
        case hQ => exact fun _ _ _ h => h
        case hy => exact Or.inl ⟨by rfl, fun W => by first | (go_simp; done) | (go_simp; omega)⟩
        try simp only [Act.put, List.setIfInBounds_toArray, List.set_cons_zero, List.set_cons_succ]
        apply wpAny_take (i := 2) (v := .int .i64 x)
        case hi => simp only [List.getElem?_toArray, List.getElem?_cons_succ, List.getElem?_cons_zero]; rfl
        case hs => kernel_rfl
        case hf => kernel_rfl
        case hr => kernel_rfl
        case hQ => exact fun _ _ _ h => h
        case hy => exact Or.inl ⟨by rfl, fun W => by first | (go_simp; done) | (go_simp; omega)⟩
        try simp only [Act.put, List.setIfInBounds_toArray, List.set_cons_zero, List.set_cons_succ]
        apply wpAny_take (i := 3) (v := .pointer (some ⟨w.heap.size, 0, none⟩))
        case hi => simp only [List.getElem?_toArray, List.getElem?_cons_succ, List.getElem?_cons_zero]; rfl
        case hs => kernel_rfl
        case hf => kernel_rfl
        case hr => kernel_rfl
        case hQ => exact fun _ _ _ h => h
        case hy => exact Or.inl ⟨by rfl, fun W => by first | (go_simp; done) | (go_simp; omega)⟩
        try simp only [Act.put, List.setIfInBounds_toArray, List.set_cons_zero, List.set_cons_succ]
        refine wpAny_ready (rs := [0, 4, 7]) (by kernel_rfl) (by simp) ?_
        apply AllReady.cons
        case ho => simp only [List.getElem?_toArray, List.getElem?_cons_zero]; rfl
        case h =>
          intro K hK
          rw [if_pos (by rfl)]
          refine wp_load_row 76 _ rfl (w2.heap.size) rfl 76 _ (0, 0) _ (show Blk wr.drew _ _ _ _ from HX.out) Try.underlying76 rfl (by rw [ca_size]; exact Try.bdSize) ?_
          refine hK _ _ ?_
          clear hK K
          try simp only [Act.put, List.setIfInBounds_toArray, List.set_cons_zero, List.set_cons_succ]
          refine wpAny_ready (rs := [4, 7]) (by kernel_rfl) (by simp) ?_
          apply AllReady.cons
          case ho => simp only [List.getElem?_toArray, List.getElem?_cons_succ, List.getElem?_cons_zero]; rfl
          case h =>
            intro K hK
            go_simp
            refine hK _ _ ?_
            clear hK K
            try simp only [Act.put, List.setIfInBounds_toArray, List.set_cons_zero, List.set_cons_succ]
            apply wpAny_take (i := 5) (v := .int .i64 (x - t))
            case hi => simp only [List.getElem?_toArray, List.getElem?_cons_succ, List.getElem?_cons_zero]; rfl
            case hs => kernel_rfl
            case hf => kernel_rfl
            case hr => kernel_rfl
            case hQ => exact fun _ _ _ h => h
            case hy => exact Or.inl ⟨by rfl, fun W => by first | (go_simp; done) | (go_simp; omega)⟩
            try simp only [Act.put, List.setIfInBounds_toArray, List.set_cons_zero, List.set_cons_succ]
            refine wpAny_ready (rs := [6, 7]) (by kernel_rfl) (by simp) ?_
            apply AllReady.cons
            case ho => simp only [List.getElem?_toArray, List.getElem?_cons_succ, List.getElem?_cons_zero]; rfl
            case h =>
              intro K hK
              go_simp
              refine (HC.out _).mono ?_
              rintro e w4 ⟨rfl, b4⟩
              have HX4 := hid ((show Blk wr.drew _ _ _ _ from HX.out).next b4)
              have HZ4 := hid ((show Box2 wr.drew _ _ _ _ from HZZ.out).next b4)
              have hbw4 := Below.next hbwd b4
              have o4 := hownd b4
              refine hK _ _ ?_
              clear hK K
              try simp only [Act.put, List.setIfInBounds_toArray, List.set_cons_zero, List.set_cons_succ]
              refine wpAny_ready (rs := [7]) (by kernel_rfl) (by simp) ?_
              apply AllReady.cons
              case ho => simp only [List.getElem?_toArray, List.getElem?_cons_succ, List.getElem?_cons_zero]; rfl
              case h =>
                intro K hK
                rw [if_pos (by rfl)]
                refine wp_load_row 76 _ rfl (w2.heap.size) rfl 76 _ (0, 0) _ HX4.out Try.underlying76 rfl (by rw [ca_size]; exact Try.bdSize) ?_
                refine hK _ _ ?_
                clear hK K
                try simp only [Act.put, List.setIfInBounds_toArray, List.set_cons_zero, List.set_cons_succ]
                apply wpAny_take (i := 8) (v := .bool true)
                case hi => simp only [List.getElem?_toArray, List.getElem?_cons_succ, List.getElem?_cons_zero]; rfl
                case hs => kernel_rfl
                case hf => kernel_rfl
                case hr => kernel_rfl
                case hQ => exact fun _ _ _ h => h
                case hy => exact Or.inl ⟨by rfl, fun W => by first | (go_simp; done) | (go_simp; omega)⟩
                try simp only [Act.put, List.setIfInBounds_toArray, List.set_cons_zero, List.set_cons_succ]
                refine wpAny_done (by kernel_rfl) ?_ _
                go_wp2_with (at_builtin; refine wpList_append_own _ rfl _ _ 22 rfl w.heap.size 3 i0 (.int .i64 0) 1 8 Try.underlying22 hi hz0 hz1 hz2 rfl (by decide) _ _ _ rfl (o4.alloc _) ⟨w4.heap.size, 0, none⟩ 1 1 [.int .i64 x] rfl rfl one_at (one_cell _) (by have := HFL.out; unfold maxLen; omega) (by have := HFL.out; omega) (by have := hbw4.size; simp; omega) ?_)
                intro v' w5 hown' hgrow _
                have hb5 : Below w.heap.size w w5 := (hbw4.alloc hbw4.size _).grown hgrow (by have := hbw4.size; simp; omega) (fun q hq => (o4.lt q hq).1)
                have hown2 := own_snoc HS.out hown'
                have HO2 := hid hown2
                have HX5 := hid (HX4.out.keepG hgrow (fun e => own_ne_blk o4 HX4.out e))
                have HZ5 := hid (HZ4.out.keepG hgrow (fun e => own_ne_box o4 HZ4.out e))
                clear hown' hgrow hown2
                go_wp2_with fail
                go_roundw
                case rel => exact ⟨k + 1, by omega, by go_num, HO2, HX5, HZ5, hb5⟩
                case measure => simp [intOf]; omega
              exact AllReady.nil
            apply AllReady.cons
            case ho => simp only [List.getElem?_toArray, List.getElem?_cons_succ, List.getElem?_cons_zero]; rfl
            case h =>
              intro K hK
              rw [if_pos (by rfl)]
              refine wp_load_row 76 _ rfl (w2.heap.size) rfl 76 _ (0, 0) _ (show Blk wr.drew _ _ _ _ from HX.out) Try.underlying76 rfl (by rw [ca_size]; exact Try.bdSize) ?_
              refine hK _ _ ?_
              clear hK K
              try simp only [Act.put, List.setIfInBounds_toArray, List.set_cons_zero, List.set_cons_succ]
              refine wpAny_ready (rs := [6]) (by kernel_rfl) (by simp) ?_
              apply AllReady.cons
              case ho => simp only [List.getElem?_toArray, List.getElem?_cons_succ, List.getElem?_cons_zero]; rfl
              case h =>
                intro K hK
                go_simp
                refine (HC.out _).mono ?_
                rintro e w4 ⟨rfl, b4⟩
                have HX4 := hid ((show Blk wr.drew _ _ _ _ from HX.out).next b4)
                have HZ4 := hid ((show Box2 wr.drew _ _ _ _ from HZZ.out).next b4)
                have hbw4 := Below.next hbwd b4
                have o4 := hownd b4
                refine hK _ _ ?_
                clear hK K
                try simp only [Act.put, List.setIfInBounds_toArray, List.set_cons_zero, List.set_cons_succ]
                apply wpAny_take (i := 8) (v := .bool true)
                case hi => simp only [List.getElem?_toArray, List.getElem?_cons_succ, List.getElem?_cons_zero]; rfl
                case hs => kernel_rfl
                case hf => kernel_rfl
                case hr => kernel_rfl
                case hQ => exact fun _ _ _ h => h
                case hy => exact Or.inl ⟨by rfl, fun W => by first | (go_simp; done) | (go_simp; omega)⟩
                try simp only [Act.put, List.setIfInBounds_toArray, List.set_cons_zero, List.set_cons_succ]
                refine wpAny_done (by kernel_rfl) ?_ _
                go_wp2_with (at_builtin; refine wpList_append_own _ rfl _ _ 22 rfl w.heap.size 3 i0 (.int .i64 0) 1 8 Try.underlying22 hi hz0 hz1 hz2 rfl (by decide) _ _ _ rfl (o4.alloc _) ⟨w4.heap.size, 0, none⟩ 1 1 [.int .i64 x] rfl rfl one_at (one_cell _) (by have := HFL.out; unfold maxLen; omega) (by have := HFL.out; omega) (by have := hbw4.size; simp; omega) ?_)
                intro v' w5 hown' hgrow _
                have hb5 : Below w.heap.size w w5 := (hbw4.alloc hbw4.size _).grown hgrow (by have := hbw4.size; simp; omega) (fun q hq => (o4.lt q hq).1)
                have hown2 := own_snoc HS.out hown'
                have HO2 := hid hown2
                have HX5 := hid (HX4.out.keepG hgrow (fun e => own_ne_blk o4 HX4.out e))
                have HZ5 := hid (HZ4.out.keepG hgrow (fun e => own_ne_box o4 HZ4.out e))
                clear hown' hgrow hown2
                go_wp2_with fail
                go_roundw
                case rel => exact ⟨k + 1, by omega, by go_num, HO2, HX5, HZ5, hb5⟩
                case measure => simp [intOf]; omega
              exact AllReady.nil
            exact AllReady.nil
          apply AllReady.cons
          case ho => simp only [List.getElem?_toArray, List.getElem?_cons_succ, List.getElem?_cons_zero]; rfl
          case h =>
            intro K hK
            rw [if_pos (by rfl)]
            refine wp_load_row 76 _ rfl (w2.heap.size) rfl 76 _ (0, 0) _ (show Blk wr.drew _ _ _ _ from HX.out) Try.underlying76 rfl (by rw [ca_size]; exact Try.bdSize) ?_
            refine hK _ _ ?_
            clear hK K
            try simp only [Act.put, List.setIfInBounds_toArray, List.set_cons_zero, List.set_cons_succ]
            refine wpAny_ready (rs := [4]) (by kernel_rfl) (by simp) ?_
            apply AllReady.cons
            case ho => simp only [List.getElem?_toArray, List.getElem?_cons_succ, List.getElem?_cons_zero]; rfl
            case h =>
              intro K hK
              go_simp
              refine hK _ _ ?_
              clear hK K
              try simp only [Act.put, List.setIfInBounds_toArray, List.set_cons_zero, List.set_cons_succ]
              apply wpAny_take (i := 5) (v := .int .i64 (x - t))
              case hi => simp only [List.getElem?_toArray, List.getElem?_cons_succ, List.getElem?_cons_zero]; rfl
              case hs => kernel_rfl
              case hf => kernel_rfl
              case hr => kernel_rfl
              case hQ => exact fun _ _ _ h => h
              case hy => exact Or.inl ⟨by rfl, fun W => by first | (go_simp; done) | (go_simp; omega)⟩
              try simp only [Act.put, List.setIfInBounds_toArray, List.set_cons_zero, List.set_cons_succ]
              refine wpAny_ready (rs := [6]) (by kernel_rfl) (by simp) ?_
              apply AllReady.cons
              case ho => simp only [List.getElem?_toArray, List.getElem?_cons_succ, List.getElem?_cons_zero]; rfl
              case h =>
                intro K hK
                go_simp
                refine (HC.out _).mono ?_
                rintro e w4 ⟨rfl, b4⟩
                have HX4 := hid ((show Blk wr.drew _ _ _ _ from HX.out).next b4)
                have HZ4 := hid ((show Box2 wr.drew _ _ _ _ from HZZ.out).next b4)
                have hbw4 := Below.next hbwd b4
                have o4 := hownd b4
                refine hK _ _ ?_
                clear hK K
                try simp only [Act.put, List.setIfInBounds_toArray, List.set_cons_zero, List.set_cons_succ]
                apply wpAny_take (i := 8) (v := .bool true)
                case hi => simp only [List.getElem?_toArray, List.getElem?_cons_succ, List.getElem?_cons_zero]; rfl
                case hs => kernel_rfl
                case hf => kernel_rfl
                case hr => kernel_rfl
                case hQ => exact fun _ _ _ h => h
                case hy => exact Or.inl ⟨by rfl, fun W => by first | (go_simp; done) | (go_simp; omega)⟩
                try simp only [Act.put, List.setIfInBounds_toArray, List.set_cons_zero, List.set_cons_succ]
                refine wpAny_done (by kernel_rfl) ?_ _
                go_wp2_with (at_builtin; refine wpList_append_own _ rfl _ _ 22 rfl w.heap.size 3 i0 (.int .i64 0) 1 8 Try.underlying22 hi hz0 hz1 hz2 rfl (by decide) _ _ _ rfl (o4.alloc _) ⟨w4.heap.size, 0, none⟩ 1 1 [.int .i64 x] rfl rfl one_at (one_cell _) (by have := HFL.out; unfold maxLen; omega) (by have := HFL.out; omega) (by have := hbw4.size; simp; omega) ?_)
                intro v' w5 hown' hgrow _
                have hb5 : Below w.heap.size w w5 := (hbw4.alloc hbw4.size _).grown hgrow (by have := hbw4.size; simp; omega) (fun q hq => (o4.lt q hq).1)
                have hown2 := own_snoc HS.out hown'
                have HO2 := hid hown2
                have HX5 := hid (HX4.out.keepG hgrow (fun e => own_ne_blk o4 HX4.out e))
                have HZ5 := hid (HZ4.out.keepG hgrow (fun e => own_ne_box o4 HZ4.out e))
                clear hown' hgrow hown2
                go_wp2_with fail
                go_roundw
                case rel => exact ⟨k + 1, by omega, by go_num, HO2, HX5, HZ5, hb5⟩
                case measure => simp [intOf]; omega
              exact AllReady.nil
            exact AllReady.nil
          exact AllReady.nil
        apply AllReady.cons
        case ho => simp only [List.getElem?_toArray, List.getElem?_cons_succ, List.getElem?_cons_zero]; rfl
        case h =>
          intro K hK
          go_simp
          refine hK _ _ ?_
          clear hK K
          try simp only [Act.put, List.setIfInBounds_toArray, List.set_cons_zero, List.set_cons_succ]
          apply wpAny_take (i := 5) (v := .int .i64 (x - t))
          case hi => simp only [List.getElem?_toArray, List.getElem?_cons_succ, List.getElem?_cons_zero]; rfl
          case hs => kernel_rfl
          case hf => kernel_rfl
          case hr => kernel_rfl
          case hQ => exact fun _ _ _ h => h
          case hy => exact Or.inl ⟨by rfl, fun W => by first | (go_simp; done) | (go_simp; omega)⟩
          try simp only [Act.put, List.setIfInBounds_toArray, List.set_cons_zero, List.set_cons_succ]
          refine wpAny_ready (rs := [0, 7]) (by kernel_rfl) (by simp) ?_
          apply AllReady.cons
          case ho => simp only [List.getElem?_toArray, List.getElem?_cons_zero]; rfl
          case h =>
            intro K hK
            rw [if_pos (by rfl)]
            refine wp_load_row 76 _ rfl (w2.heap.size) rfl 76 _ (0, 0) _ (show Blk wr.drew _ _ _ _ from HX.out) Try.underlying76 rfl (by rw [ca_size]; exact Try.bdSize) ?_
            refine hK _ _ ?_
            clear hK K
            try simp only [Act.put, List.setIfInBounds_toArray, List.set_cons_zero, List.set_cons_succ]
            refine wpAny_ready (rs := [6, 7]) (by kernel_rfl) (by simp) ?_
            apply AllReady.cons
            case ho => simp only [List.getElem?_toArray, List.getElem?_cons_succ, List.getElem?_cons_zero]; rfl
            case h =>
              intro K hK
              go_simp
              refine (HC.out _).mono ?_
              rintro e w4 ⟨rfl, b4⟩
              have HX4 := hid ((show Blk wr.drew _ _ _ _ from HX.out).next b4)
              have HZ4 := hid ((show Box2 wr.drew _ _ _ _ from HZZ.out).next b4)
              have hbw4 := Below.next hbwd b4
              have o4 := hownd b4
              refine hK _ _ ?_
              clear hK K
              try simp only [Act.put, List.setIfInBounds_toArray, List.set_cons_zero, List.set_cons_succ]
              refine wpAny_ready (rs := [7]) (by kernel_rfl) (by simp) ?_
              apply AllReady.cons
              case ho => simp only [List.getElem?_toArray, List.getElem?_cons_succ, List.getElem?_cons_zero]; rfl
              case h =>
                intro K hK
                rw [if_pos (by rfl)]
                refine wp_load_row 76 _ rfl (w2.heap.size) rfl 76 _ (0, 0) _ HX4.out Try.underlying76 rfl (by rw [ca_size]; exact Try.bdSize) ?_
                refine hK _ _ ?_
                clear hK K
                try simp only [Act.put, List.setIfInBounds_toArray, List.set_cons_zero, List.set_cons_succ]
                apply wpAny_take (i := 8) (v := .bool true)
                case hi => simp only [List.getElem?_toArray, List.getElem?_cons_succ, List.getElem?_cons_zero]; rfl
                case hs => kernel_rfl
                case hf => kernel_rfl
                case hr => kernel_rfl
                case hQ => exact fun _ _ _ h => h
                case hy => exact Or.inl ⟨by rfl, fun W => by first | (go_simp; done) | (go_simp; omega)⟩
                try simp only [Act.put, List.setIfInBounds_toArray, List.set_cons_zero, List.set_cons_succ]
                refine wpAny_done (by kernel_rfl) ?_ _
                go_wp2_with (at_builtin; refine wpList_append_own _ rfl _ _ 22 rfl w.heap.size 3 i0 (.int .i64 0) 1 8 Try.underlying22 hi hz0 hz1 hz2 rfl (by decide) _ _ _ rfl (o4.alloc _) ⟨w4.heap.size, 0, none⟩ 1 1 [.int .i64 x] rfl rfl one_at (one_cell _) (by have := HFL.out; unfold maxLen; omega) (by have := HFL.out; omega) (by have := hbw4.size; simp; omega) ?_)
                intro v' w5 hown' hgrow _
                have hb5 : Below w.heap.size w w5 := (hbw4.alloc hbw4.size _).grown hgrow (by have := hbw4.size; simp; omega) (fun q hq => (o4.lt q hq).1)
                have hown2 := own_snoc HS.out hown'
                have HO2 := hid hown2
                have HX5 := hid (HX4.out.keepG hgrow (fun e => own_ne_blk o4 HX4.out e))
                have HZ5 := hid (HZ4.out.keepG hgrow (fun e => own_ne_box o4 HZ4.out e))
                clear hown' hgrow hown2
                go_wp2_with fail
                go_roundw
                case rel => exact ⟨k + 1, by omega, by go_num, HO2, HX5, HZ5, hb5⟩
                case measure => simp [intOf]; omega
              exact AllReady.nil
            apply AllReady.cons
            case ho => simp only [List.getElem?_toArray, List.getElem?_cons_succ, List.getElem?_cons_zero]; rfl
            case h =>
              intro K hK
              rw [if_pos (by rfl)]
              refine wp_load_row 76 _ rfl (w2.heap.size) rfl 76 _ (0, 0) _ (show Blk wr.drew _ _ _ _ from HX.out) Try.underlying76 rfl (by rw [ca_size]; exact Try.bdSize) ?_
              refine hK _ _ ?_
              clear hK K
              try simp only [Act.put, List.setIfInBounds_toArray, List.set_cons_zero, List.set_cons_succ]
              refine wpAny_ready (rs := [6]) (by kernel_rfl) (by simp) ?_
              apply AllReady.cons
              case ho => simp only [List.getElem?_toArray, List.getElem?_cons_succ, List.getElem?_cons_zero]; rfl
              case h =>
                intro K hK
                go_simp
                refine (HC.out _).mono ?_
                rintro e w4 ⟨rfl, b4⟩
                have HX4 := hid ((show Blk wr.drew _ _ _ _ from HX.out).next b4)
                have HZ4 := hid ((show Box2 wr.drew _ _ _ _ from HZZ.out).next b4)
                have hbw4 := Below.next hbwd b4
                have o4 := hownd b4
                refine hK _ _ ?_
                clear hK K
                try simp only [Act.put, List.setIfInBounds_toArray, List.set_cons_zero, List.set_cons_succ]
                apply wpAny_take (i := 8) (v := .bool true)
                case hi => simp only [List.getElem?_toArray, List.getElem?_cons_succ, List.getElem?_cons_zero]; rfl
                case hs => kernel_rfl
                case hf => kernel_rfl
                case hr => kernel_rfl
                case hQ => exact fun _ _ _ h => h
                case hy => exact Or.inl ⟨by rfl, fun W => by first | (go_simp; done) | (go_simp; omega)⟩
                try simp only [Act.put, List.setIfInBounds_toArray, List.set_cons_zero, List.set_cons_succ]
                refine wpAny_done (by kernel_rfl) ?_ _
                go_wp2_with (at_builtin; refine wpList_append_own _ rfl _ _ 22 rfl w.heap.size 3 i0 (.int .i64 0) 1 8 Try.underlying22 hi hz0 hz1 hz2 rfl (by decide) _ _ _ rfl (o4.alloc _) ⟨w4.heap.size, 0, none⟩ 1 1 [.int .i64 x] rfl rfl one_at (one_cell _) (by have := HFL.out; unfold maxLen; omega) (by have := HFL.out; omega) (by have := hbw4.size; simp; omega) ?_)
                intro v' w5 hown' hgrow _
                have hb5 : Below w.heap.size w w5 := (hbw4.alloc hbw4.size _).grown hgrow (by have := hbw4.size; simp; omega) (fun q hq => (o4.lt q hq).1)
                have hown2 := own_snoc HS.out hown'
                have HO2 := hid hown2
                have HX5 := hid (HX4.out.keepG hgrow (fun e => own_ne_blk o4 HX4.out e))
                have HZ5 := hid (HZ4.out.keepG hgrow (fun e => own_ne_box o4 HZ4.out e))
                clear hown' hgrow hown2
                go_wp2_with fail
                go_roundw
                case rel => exact ⟨k + 1, by omega, by go_num, HO2, HX5, HZ5, hb5⟩
                case measure => simp [intOf]; omega
              exact AllReady.nil
            exact AllReady.nil
          apply AllReady.cons
          case ho => simp only [List.getElem?_toArray, List.getElem?_cons_succ, List.getElem?_cons_zero]; rfl
          case h =>
            intro K hK
            rw [if_pos (by rfl)]
            refine wp_load_row 76 _ rfl (w2.heap.size) rfl 76 _ (0, 0) _ (show Blk wr.drew _ _ _ _ from HX.out) Try.underlying76 rfl (by rw [ca_size]; exact Try.bdSize) ?_
            refine hK _ _ ?_
            clear hK K
            try simp only [Act.put, List.setIfInBounds_toArray, List.set_cons_zero, List.set_cons_succ]
            refine wpAny_ready (rs := [0]) (by kernel_rfl) (by simp) ?_
            apply AllReady.cons
            case ho => simp only [List.getElem?_toArray, List.getElem?_cons_zero]; rfl
            case h =>
              intro K hK
              rw [if_pos (by rfl)]
              refine wp_load_row 76 _ rfl (w2.heap.size) rfl 76 _ (0, 0) _ (show Blk wr.drew _ _ _ _ from HX.out) Try.underlying76 rfl (by rw [ca_size]; exact Try.bdSize) ?_
              refine hK _ _ ?_
              clear hK K
              try simp only [Act.put, List.setIfInBounds_toArray, List.set_cons_zero, List.set_cons_succ]
              refine wpAny_ready (rs := [6]) (by kernel_rfl) (by simp) ?_
              apply AllReady.cons
              case ho => simp only [List.getElem?_toArray, List.getElem?_cons_succ, List.getElem?_cons_zero]; rfl
              case h =>
                intro K hK
                go_simp
                refine (HC.out _).mono ?_
                rintro e w4 ⟨rfl, b4⟩
                have HX4 := hid ((show Blk wr.drew _ _ _ _ from HX.out).next b4)
                have HZ4 := hid ((show Box2 wr.drew _ _ _ _ from HZZ.out).next b4)
                have hbw4 := Below.next hbwd b4
                have o4 := hownd b4
                refine hK _ _ ?_
                clear hK K
                try simp only [Act.put, List.setIfInBounds_toArray, List.set_cons_zero, List.set_cons_succ]
                apply wpAny_take (i := 8) (v := .bool true)
                case hi => simp only [List.getElem?_toArray, List.getElem?_cons_succ, List.getElem?_cons_zero]; rfl
                case hs => kernel_rfl
                case hf => kernel_rfl
                case hr => kernel_rfl
                case hQ => exact fun _ _ _ h => h
                case hy => exact Or.inl ⟨by rfl, fun W => by first | (go_simp; done) | (go_simp; omega)⟩
                try simp only [Act.put, List.setIfInBounds_toArray, List.set_cons_zero, List.set_cons_succ]
                refine wpAny_done (by kernel_rfl) ?_ _
                go_wp2_with (at_builtin; refine wpList_append_own _ rfl _ _ 22 rfl w.heap.size 3 i0 (.int .i64 0) 1 8 Try.underlying22 hi hz0 hz1 hz2 rfl (by decide) _ _ _ rfl (o4.alloc _) ⟨w4.heap.size, 0, none⟩ 1 1 [.int .i64 x] rfl rfl one_at (one_cell _) (by have := HFL.out; unfold maxLen; omega) (by have := HFL.out; omega) (by have := hbw4.size; simp; omega) ?_)
                intro v' w5 hown' hgrow _
                have hb5 : Below w.heap.size w w5 := (hbw4.alloc hbw4.size _).grown hgrow (by have := hbw4.size; simp; omega) (fun q hq => (o4.lt q hq).1)
                have hown2 := own_snoc HS.out hown'
                have HO2 := hid hown2
                have HX5 := hid (HX4.out.keepG hgrow (fun e => own_ne_blk o4 HX4.out e))
                have HZ5 := hid (HZ4.out.keepG hgrow (fun e => own_ne_box o4 HZ4.out e))
                clear hown' hgrow hown2
                go_wp2_with fail
                go_roundw
                case rel => exact ⟨k + 1, by omega, by go_num, HO2, HX5, HZ5, hb5⟩
                case measure => simp [intOf]; omega
              exact AllReady.nil
            exact AllReady.nil
          exact AllReady.nil
        apply AllReady.cons
        case ho => simp only [List.getElem?_toArray, List.getElem?_cons_succ, List.getElem?_cons_zero]; rfl
        case h =>
          intro K hK
          rw [if_pos (by rfl)]
          refine wp_load_row 76 _ rfl (w2.heap.size) rfl 76 _ (0, 0) _ (show Blk wr.drew _ _ _ _ from HX.out) Try.underlying76 rfl (by rw [ca_size]; exact Try.bdSize) ?_
          refine hK _ _ ?_
          clear hK K
          try simp only [Act.put, List.setIfInBounds_toArray, List.set_cons_zero, List.set_cons_succ]
          refine wpAny_ready (rs := [0, 4]) (by kernel_rfl) (by simp) ?_
          apply AllReady.cons
          case ho => simp only [List.getElem?_toArray, List.getElem?_cons_zero]; rfl
          case h =>
            intro K hK
            rw [if_pos (by rfl)]
            refine wp_load_row 76 _ rfl (w2.heap.size) rfl 76 _ (0, 0) _ (show Blk wr.drew _ _ _ _ from HX.out) Try.underlying76 rfl (by rw [ca_size]; exact Try.bdSize) ?_
            refine hK _ _ ?_
            clear hK K
            try simp only [Act.put, List.setIfInBounds_toArray, List.set_cons_zero, List.set_cons_succ]
            refine wpAny_ready (rs := [4]) (by kernel_rfl) (by simp) ?_
            apply AllReady.cons
            case ho => simp only [List.getElem?_toArray, List.getElem?_cons_succ, List.getElem?_cons_zero]; rfl
            case h =>
              intro K hK
              go_simp
              refine hK _ _ ?_
              clear hK K
              try simp only [Act.put, List.setIfInBounds_toArray, List.set_cons_zero, List.set_cons_succ]
              apply wpAny_take (i := 5) (v := .int .i64 (x - t))
              case hi => simp only [List.getElem?_toArray, List.getElem?_cons_succ, List.getElem?_cons_zero]; rfl
              case hs => kernel_rfl
              case hf => kernel_rfl
              case hr => kernel_rfl
              case hQ => exact fun _ _ _ h => h
              case hy => exact Or.inl ⟨by rfl, fun W => by first | (go_simp; done) | (go_simp; omega)⟩
              try simp only [Act.put, List.setIfInBounds_toArray, List.set_cons_zero, List.set_cons_succ]
              refine wpAny_ready (rs := [6]) (by kernel_rfl) (by simp) ?_
              apply AllReady.cons
              case ho => simp only [List.getElem?_toArray, List.getElem?_cons_succ, List.getElem?_cons_zero]; rfl
              case h =>
                intro K hK
                go_simp
                refine (HC.out _).mono ?_
                rintro e w4 ⟨rfl, b4⟩
                have HX4 := hid ((show Blk wr.drew _ _ _ _ from HX.out).next b4)
                have HZ4 := hid ((show Box2 wr.drew _ _ _ _ from HZZ.out).next b4)
                have hbw4 := Below.next hbwd b4
                have o4 := hownd b4
                refine hK _ _ ?_
                clear hK K
                try simp only [Act.put, List.setIfInBounds_toArray, List.set_cons_zero, List.set_cons_succ]
                apply wpAny_take (i := 8) (v := .bool true)
                case hi => simp only [List.getElem?_toArray, List.getElem?_cons_succ, List.getElem?_cons_zero]; rfl
                case hs => kernel_rfl
                case hf => kernel_rfl
                case hr => kernel_rfl
                case hQ => exact fun _ _ _ h => h
                case hy => exact Or.inl ⟨by rfl, fun W => by first | (go_simp; done) | (go_simp; omega)⟩
                try simp only [Act.put, List.setIfInBounds_toArray, List.set_cons_zero, List.set_cons_succ]
                refine wpAny_done (by kernel_rfl) ?_ _
                go_wp2_with (at_builtin; refine wpList_append_own _ rfl _ _ 22 rfl w.heap.size 3 i0 (.int .i64 0) 1 8 Try.underlying22 hi hz0 hz1 hz2 rfl (by decide) _ _ _ rfl (o4.alloc _) ⟨w4.heap.size, 0, none⟩ 1 1 [.int .i64 x] rfl rfl one_at (one_cell _) (by have := HFL.out; unfold maxLen; omega) (by have := HFL.out; omega) (by have := hbw4.size; simp; omega) ?_)
                intro v' w5 hown' hgrow _
                have hb5 : Below w.heap.size w w5 := (hbw4.alloc hbw4.size _).grown hgrow (by have := hbw4.size; simp; omega) (fun q hq => (o4.lt q hq).1)
                have hown2 := own_snoc HS.out hown'
                have HO2 := hid hown2
                have HX5 := hid (HX4.out.keepG hgrow (fun e => own_ne_blk o4 HX4.out e))
                have HZ5 := hid (HZ4.out.keepG hgrow (fun e => own_ne_box o4 HZ4.out e))
                clear hown' hgrow hown2
                go_wp2_with fail
                go_roundw
                case rel => exact ⟨k + 1, by omega, by go_num, HO2, HX5, HZ5, hb5⟩
                case measure => simp [intOf]; omega
              exact AllReady.nil
            exact AllReady.nil
          apply AllReady.cons
          case ho => simp only [List.getElem?_toArray, List.getElem?_cons_succ, List.getElem?_cons_zero]; rfl
          case h =>
            intro K hK
            go_simp
            refine hK _ _ ?_
            clear hK K
            try simp only [Act.put, List.setIfInBounds_toArray, List.set_cons_zero, List.set_cons_succ]
            apply wpAny_take (i := 5) (v := .int .i64 (x - t))
            case hi => simp only [List.getElem?_toArray, List.getElem?_cons_succ, List.getElem?_cons_zero]; rfl
            case hs => kernel_rfl
            case hf => kernel_rfl
            case hr => kernel_rfl
            case hQ => exact fun _ _ _ h => h
            case hy => exact Or.inl ⟨by rfl, fun W => by first | (go_simp; done) | (go_simp; omega)⟩
            try simp only [Act.put, List.setIfInBounds_toArray, List.set_cons_zero, List.set_cons_succ]
            refine wpAny_ready (rs := [0]) (by kernel_rfl) (by simp) ?_
            apply AllReady.cons
            case ho => simp only [List.getElem?_toArray, List.getElem?_cons_zero]; rfl
            case h =>
              intro K hK
              rw [if_pos (by rfl)]
              refine wp_load_row 76 _ rfl (w2.heap.size) rfl 76 _ (0, 0) _ (show Blk wr.drew _ _ _ _ from HX.out) Try.underlying76 rfl (by rw [ca_size]; exact Try.bdSize) ?_
              refine hK _ _ ?_
              clear hK K
              try simp only [Act.put, List.setIfInBounds_toArray, List.set_cons_zero, List.set_cons_succ]
              refine wpAny_ready (rs := [6]) (by kernel_rfl) (by simp) ?_
              apply AllReady.cons
              case ho => simp only [List.getElem?_toArray, List.getElem?_cons_succ, List.getElem?_cons_zero]; rfl
              case h =>
                intro K hK
                go_simp
                refine (HC.out _).mono ?_
                rintro e w4 ⟨rfl, b4⟩
                have HX4 := hid ((show Blk wr.drew _ _ _ _ from HX.out).next b4)
                have HZ4 := hid ((show Box2 wr.drew _ _ _ _ from HZZ.out).next b4)
                have hbw4 := Below.next hbwd b4
                have o4 := hownd b4
                refine hK _ _ ?_
                clear hK K
                try simp only [Act.put, List.setIfInBounds_toArray, List.set_cons_zero, List.set_cons_succ]
                apply wpAny_take (i := 8) (v := .bool true)
                case hi => simp only [List.getElem?_toArray, List.getElem?_cons_succ, List.getElem?_cons_zero]; rfl
                case hs => kernel_rfl
                case hf => kernel_rfl
                case hr => kernel_rfl
                case hQ => exact fun _ _ _ h => h
                case hy => exact Or.inl ⟨by rfl, fun W => by first | (go_simp; done) | (go_simp; omega)⟩
                try simp only [Act.put, List.setIfInBounds_toArray, List.set_cons_zero, List.set_cons_succ]
                refine wpAny_done (by kernel_rfl) ?_ _
                go_wp2_with (at_builtin; refine wpList_append_own _ rfl _ _ 22 rfl w.heap.size 3 i0 (.int .i64 0) 1 8 Try.underlying22 hi hz0 hz1 hz2 rfl (by decide) _ _ _ rfl (o4.alloc _) ⟨w4.heap.size, 0, none⟩ 1 1 [.int .i64 x] rfl rfl one_at (one_cell _) (by have := HFL.out; unfold maxLen; omega) (by have := HFL.out; omega) (by have := hbw4.size; simp; omega) ?_)
                intro v' w5 hown' hgrow _
                have hb5 : Below w.heap.size w w5 := (hbw4.alloc hbw4.size _).grown hgrow (by have := hbw4.size; simp; omega) (fun q hq => (o4.lt q hq).1)
                have hown2 := own_snoc HS.out hown'
                have HO2 := hid hown2
                have HX5 := hid (HX4.out.keepG hgrow (fun e => own_ne_blk o4 HX4.out e))
                have HZ5 := hid (HZ4.out.keepG hgrow (fun e => own_ne_box o4 HZ4.out e))
                clear hown' hgrow hown2
                go_wp2_with fail
                go_roundw
                case rel => exact ⟨k + 1, by omega, by go_num, HO2, HX5, HZ5, hb5⟩
                case measure => simp [intOf]; omega
              exact AllReady.nil
            exact AllReady.nil
          exact AllReady.nil
        exact AllReady.nil
    · have hkl : k = xs.length := by omega
      subst hkl
      have ho := HOW.out
      rw [List.take_of_length_le (Nat.le_refl _)] at ho
      obtain ⟨A', c', rfl, ho'⟩ := own_form ho rfl
      clear ho
      go_wp2_with fail
      go_ret2
      exact ⟨A', c', rfl, ho', hbw⟩
end Go.Proofs.Ytecfkkejhfnpbaa
