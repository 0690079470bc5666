/-
  Several texts in one.
-/
import Derived.Test.YtelfapheigobeaaR33
import Derived.Test.YtelfapheigobeaaR17
import Derived.Test.YtelfapheigobeaaR21
import Derived.Test.YtelfapheigobeaaR27
import Derived.Test.YtelfapheigobeaaR06
import Derived.Test.YtelfapheigobeaaCB
/-
  Contracts: FromDouble and IsDouble on both sides.
-/
namespace Go.Proofs.Ytelfapheigobeaa
open Go.RowKit

theorem own_takeD {w : World} {B : Nat} {A : Option Addr} {c : Nat} {xs : List Int} (h : Own w B A c xs) (k : Nat) : Own w B A c (xs.take k) := by
  unfold Own
  refine ⟨by simp [IL], ?_⟩
  rcases h.2 with ⟨hv, h0⟩ | ⟨g', cap, cur, hv, hB, hh, hn, hmx, hcs, htk⟩
  · injection hv with h1 h2 h3
    refine .inl ⟨?_, by rw [List.length_take]; omega⟩
    rw [h1, h3, List.length_take]
    congr 1
    omega
  · injection hv with h1 h2 h3
    subst h1; subst h3
    refine .inr ⟨g', c, cur, rfl, hB, hh, by rw [List.length_take]; omega, hmx, hcs, ?_⟩
    have e3 : IL (xs.take k) = (IL xs).take k := by simp [IL, List.map_take]
    rw [e3, ← htk, List.take_take, List.length_take]
    congr 1
    omega

set_option maxRecDepth 100000 in
set_option maxHeartbeats 2000000 in
theorem brHalf_any (A : Option Addr) (c : Nat) (q : List Int) (w : World) (hg : good q = true) (hc : Cells w A q) :
    Calls Try.prog 26 #[.slice A q.length c] w fun e w' => ∃ A' c', e = .returned (.tuple #[.slice A' (fdF q).length c', .bool (fdB q)]) ∧ Own w' w.heap.size A' c' (fdF q) ∧ Below w.heap.size w w' := by
  obtain ⟨i0, hi, hz0, hz1, hz2⟩ := info_parts Try.infoInt
  have G := (good_iff q).1 hg
  have hlen := G.len
  have HG := hid G
  have HI := hid (fd_iff hg)
  have HC := hid hc; clear hc G
  have HGG := hid hg; clear hg
  go_enter Try.func26, Try.ntmps26
  go_wp2_with fail
  go_loopw [4, 5] (fun v i wr => ∃ k : Nat, k ≤ q.length ∧ i = .int .i64 k ∧ wr.ownsRow w.heap.size 3 1 v (mayaA q k).length (IL (mayaA q k)) ∧ Below w.heap.size w wr) (fun _ i _ => q.length - (intOf i).toNat)
  case atStart => exact ⟨0, Nat.zero_le _, rfl, World.ownsRow_nil _ _ _ _, Below.refl _ _⟩
  case round =>
    obtain ⟨k, hk, rfl, hown, hbel⟩ := hrel
    by_cases hgo : k < q.length ∧ (k : Int) < q.getD k 0
    · obtain ⟨hlt, hgt⟩ := hgo
      obtain ⟨b, o, rfl, hcc⟩ := (HC.out.later hbel) (by omega)
      have hck := hcc k hlt
      have h30 := HG.out.le k hlt
      have HE := hid (mayaA_yes (p := q) (k := k) (x := q.getD k 0 - k - 1) rfl (by omega))
      have hL := mayaA_len q k
      obtain ⟨y, hy⟩ : ∃ y, y = q.getD k 0 := ⟨_, rfl⟩
      rw [← hy] at hck h30 HE hgt
      obtain ⟨L, hLL⟩ : ∃ L, L = mayaA q k := ⟨_, rfl⟩
      rw [← hLL] at hown HE hL
      clear hcc hy hLL
      go_wp2_with (at_builtin; refine wpList_append_own _ rfl _ _ 22 rfl w.heap.size 3 i0 (.int .i64 0) 1 8 Try.underlying22 hi hz0 hz1 hz2 rfl (by decide) _ _ _ rfl (hown.alloc _) ⟨wr.heap.size, 0, none⟩ 1 1 [.int .i64 (y - k - 1)] rfl rfl one_at (one_cell _) (by unfold maxLen; omega) (by omega) (by have := hbel.size; simp; omega) ?_)
      intro v' w1 hown' hgrow _
      have hb1 : Below w.heap.size w w1 := (hbel.alloc hbel.size _).grown hgrow (by have := hbel.size; simp; omega) (fun q hq => (hown.lt q hq).1)
      have hown2 := own_snoc HE.out hown'
      clear hgrow hown hown'
      go_wp2_with fail
      go_roundw
      case rel => exact ⟨k + 1, by omega, by go_num, hown2, hb1⟩
      case measure => simp [intOf]; omega
    · have HP := hid (fd_stop HG.out hk (by
        rcases Nat.lt_or_ge k q.length with h | h
        · right; have : ¬ (k : Int) < q.getD k 0 := fun h2 => hgo ⟨h, h2⟩
          unfold num; omega
        · left; omega))
      have hpl := mayaA_len q k
      obtain ⟨P, hP⟩ : ∃ P, P = mayaA q k := ⟨_, rfl⟩
      rw [← hP] at hown HP hpl
      clear hP
      obtain ⟨A1, c1, rfl, o1⟩ := own_form hown rfl
      have HO1 := hid o1
      rw [HP.out] at HI
      have HF := hid (show fdF q = if fdB q then P else [] by rw [← HP.out]; rfl)
      clear hown o1
      cases hs : strB P
      · have hb : fdB q = false := by rw [HI.out, hs]; rfl
        rw [hb] at HF
        have HF2 := hid (show fdF q = [] from HF.out)
        have HB := hid hb
        have HS := hid hs
        clear hs hb HF HI
        by_cases hlt : k < q.length
        · have hgt : ¬ (k : Int) < q.getD k 0 := fun h2 => hgo ⟨hlt, h2⟩
          obtain ⟨b, o, hbo, hcc⟩ := (HC.out.later hbel) (by omega)
          subst hbo
          have hck := hcc k hlt
          obtain ⟨y, hy⟩ : ∃ y, y = q.getD k 0 := ⟨_, rfl⟩
          rw [← hy] at hck hgt
          clear hcc hy hgo
          go_wp2_with (go_at_call 17; refine (brIs_b _ _ _ _ (by omega) HO1.out.cells _ HS.out).mono ?_; rintro e w' ⟨rfl, n, rfl⟩)
          go_ret2
          rw [HB.out, HF2.out]
          exact ⟨none, 0, rfl, own_nil _ _, Below.next hbel (below_drew' _ _)⟩
        · clear hgo
          go_wp2_with (go_at_call 17; refine (brIs_b _ _ _ _ (by omega) HO1.out.cells _ HS.out).mono ?_; rintro e w' ⟨rfl, n, rfl⟩)
          go_ret2
          rw [HB.out, HF2.out]
          exact ⟨none, 0, rfl, own_nil _ _, Below.next hbel (below_drew' _ _)⟩
      · have hb : fdB q = decide (dbL P = q) := by rw [HI.out, hs]; rfl
        have HD := hid fun W (h : Cells W A1 P) => brDouble_any A1 c1 P W hs h
        have HS := hid hs
        have hdl : (dbL P).length ≤ 200 := by
          have := dbC_len P 61 P.length
          rw [dbL, List.length_append, dbA_len]; omega
        obtain ⟨D, hD⟩ : ∃ D, D = dbL P := ⟨_, rfl⟩
        rw [← hD] at hb HD hdl
        have HB := hid hb
        clear hs hb hD HI
        cases he : decide (D = q)
        · have HE := hid he
          have HF2 := hid (show fdF q = [] by rw [HF.out, HB.out, he]; rfl)
          have HB2 := hid (show fdB q = false by rw [HB.out, he])
          clear he HF HB
          by_cases hlt : k < q.length
          · have hgt : ¬ (k : Int) < q.getD k 0 := fun h2 => hgo ⟨hlt, h2⟩
            obtain ⟨b, o, hbo, hcc⟩ := (HC.out.later hbel) (by omega)
            have HC2 := hid HC.out
            subst hbo
            have hck := hcc k hlt
            obtain ⟨y, hy⟩ : ∃ y, y = q.getD k 0 := ⟨_, rfl⟩
            rw [← hy] at hck hgt
            clear hcc hy hgo
            go_wp2_with (first | (go_at_call 17; refine (brIs_b _ _ _ _ (by omega) HO1.out.cells _ HS.out).mono ?_; rintro e w' ⟨rfl, nd0, rfl⟩) | (go_at_call 19; refine (HD.out _ (by exact HO1.out.cells)).mono ?_; rintro e w3 ⟨A3, c3, rfl, o3, b3⟩) | (go_at_call 42; refine (l1Same_b _ _ _ _ _ _ _ (by omega) (by omega) o3.cells ((HC.out.later hbel).later (Below.next (below_drew' _ _) b3)) _ HE.out).mono ?_; rintro e w4 ⟨rfl, nd1, rfl⟩))
            go_ret2
            rw [HB2.out, HF2.out]
            exact ⟨none, 0, rfl, own_nil _ _, Below.next (Below.next hbel (Below.next (below_drew' _ _) b3)) (below_drew' _ _)⟩
          · clear hgo
            go_wp2_with (first | (go_at_call 17; refine (brIs_b _ _ _ _ (by omega) HO1.out.cells _ HS.out).mono ?_; rintro e w' ⟨rfl, nd0, rfl⟩) | (go_at_call 19; refine (HD.out _ (by exact HO1.out.cells)).mono ?_; rintro e w3 ⟨A3, c3, rfl, o3, b3⟩) | (go_at_call 42; refine (l1Same_b _ _ _ _ _ _ _ (by omega) (by omega) o3.cells ((HC.out.later hbel).later (Below.next (below_drew' _ _) b3)) _ HE.out).mono ?_; rintro e w4 ⟨rfl, nd1, rfl⟩))
            go_ret2
            rw [HB2.out, HF2.out]
            exact ⟨none, 0, rfl, own_nil _ _, Below.next (Below.next hbel (Below.next (below_drew' _ _) b3)) (below_drew' _ _)⟩
        · have HE := hid he
          have HF2 := hid (show fdF q = P by rw [HF.out, HB.out, he]; rfl)
          have HB2 := hid (show fdB q = true by rw [HB.out, he])
          clear he HF HB
          by_cases hlt : k < q.length
          · have hgt : ¬ (k : Int) < q.getD k 0 := fun h2 => hgo ⟨hlt, h2⟩
            obtain ⟨b, o, hbo, hcc⟩ := (HC.out.later hbel) (by omega)
            subst hbo
            have hck := hcc k hlt
            obtain ⟨y, hy⟩ : ∃ y, y = q.getD k 0 := ⟨_, rfl⟩
            rw [← hy] at hck hgt
            clear hcc hy hgo
            go_wp2_with (first | (go_at_call 17; refine (brIs_b _ _ _ _ (by omega) HO1.out.cells _ HS.out).mono ?_; rintro e w' ⟨rfl, nd0, rfl⟩) | (go_at_call 19; refine (HD.out _ (by exact HO1.out.cells)).mono ?_; rintro e w3 ⟨A3, c3, rfl, o3, b3⟩) | (go_at_call 42; refine (l1Same_b _ _ _ _ _ _ _ (by omega) (by omega) o3.cells ((HC.out.later hbel).later (Below.next (below_drew' _ _) b3)) _ HE.out).mono ?_; rintro e w4 ⟨rfl, nd1, rfl⟩))
            go_ret2
            rw [HB2.out, HF2.out]
            exact ⟨A1, c1, rfl, ownsRow_next' (ownsRow_next' HO1.out (Below.next (below_drew' _ _) b3)) (below_drew' _ _), Below.next (Below.next hbel (Below.next (below_drew' _ _) b3)) (below_drew' _ _)⟩
          · clear hgo
            go_wp2_with (first | (go_at_call 17; refine (brIs_b _ _ _ _ (by omega) HO1.out.cells _ HS.out).mono ?_; rintro e w' ⟨rfl, nd0, rfl⟩) | (go_at_call 19; refine (HD.out _ (by exact HO1.out.cells)).mono ?_; rintro e w3 ⟨A3, c3, rfl, o3, b3⟩) | (go_at_call 42; refine (l1Same_b _ _ _ _ _ _ _ (by omega) (by omega) o3.cells ((HC.out.later hbel).later (Below.next (below_drew' _ _) b3)) _ HE.out).mono ?_; rintro e w4 ⟨rfl, nd1, rfl⟩))
            go_ret2
            rw [HB2.out, HF2.out]
            exact ⟨A1, c1, rfl, ownsRow_next' (ownsRow_next' HO1.out (Below.next (below_drew' _ _) b3)) (below_drew' _ _), Below.next (Below.next hbel (Below.next (below_drew' _ _) b3)) (below_drew' _ _)⟩

set_option maxHeartbeats 1000000 in
theorem spec_FromDouble (A : Option Addr) (c : Nat) (q : List Int) (w : World) (hl : q.length ≤ 1048576) (hc : Cells w A q) :
    Calls Try.prog 12 #[.slice A q.length c] w fun e w' => ∃ A' c', e = .returned (.tuple #[.slice A' (fdF q).length c', .bool (fdB q)]) ∧ Own w' w.heap.size A' c' (fdF q) ∧ Below w.heap.size w w' := by
  cases hg : good q
  · have hb : fdB q = false := by simp [fdB, hg]
    rw [show fdF q = [] by simp [fdF, hb], hb]
    have H := hid hg; clear hg hb
    go_enter Try.func12, Try.ntmps12
    go_wp2_with (go_at_call 25; refine (ptGood_b _ _ _ _ hl hc _ H.out).mono ?_; rintro e w' ⟨rfl, n, rfl⟩)
    go_ret2
    exact ⟨none, 0, rfl, own_nil _ _, below_drew' _ _⟩
  · have HH := hid fun W (h : Cells W A q) => brHalf_any A c q W hg h
    have H := hid hg; clear hg
    go_enter Try.func12, Try.ntmps12
    go_wp2_with (first | (go_at_call 25; refine (ptGood_b _ _ _ _ hl hc _ H.out).mono ?_; rintro e w' ⟨rfl, n, rfl⟩) | (go_at_call 26; refine (HH.out _ (by exact hc)).mono ?_; rintro e w3 ⟨A3, c3, rfl, o3, b3⟩))
    go_ret2
    exact ⟨A3, c3, rfl, o3, Below.next (below_drew' _ _) b3⟩

set_option maxHeartbeats 1000000 in
theorem spec_IsDouble (A : Option Addr) (c : Nat) (q : List Int) (w : World) (hl : q.length ≤ 1048576) (hc : Cells w A q) :
    Calls Try.prog 13 #[.slice A q.length c] w fun e w' => e = .returned (.tuple #[.bool (fdB q), .bool (good q)]) ∧ Below w.heap.size w w' := by
  cases hg : good q
  · have hb : fdB q = false := by simp [fdB, hg]
    rw [hb]
    have H := hid hg; clear hg hb
    go_enter Try.func13, Try.ntmps13
    go_wp2_with (go_at_call 25; refine (ptGood_b _ _ _ _ hl hc _ H.out).mono ?_; rintro e w' ⟨rfl, n, rfl⟩)
    go_ret2
    exact ⟨rfl, below_drew' _ _⟩
  · have HH := hid fun W (h : Cells W A q) => brHalf_any A c q W hg h
    have H := hid hg; clear hg
    go_enter Try.func13, Try.ntmps13
    go_wp2_with (first | (go_at_call 25; refine (ptGood_b _ _ _ _ hl hc _ H.out).mono ?_; rintro e w' ⟨rfl, n, rfl⟩) | (go_at_call 26; refine (HH.out _ (by exact hc)).mono ?_; rintro e w3 ⟨A3, c3, rfl, o3, b3⟩))
    go_ret2
    exact ⟨rfl, Below.next (below_drew' _ _) b3⟩

set_option maxRecDepth 100000 in
set_option maxHeartbeats 2000000 in
theorem impl_FromDouble (A : Option Addr) (c : Nat) (q : List Int) (w : World) (hl : q.length ≤ 1048576) (hc : Cells w A q) :
    Calls Try.prog 7 #[.slice A q.length c] w fun e w' => ∃ A' c', e = .returned (.tuple #[.slice A' (fdF q).length c', .bool (fdB q)]) ∧ Own w' w.heap.size A' c' (fdF q) ∧ Below w.heap.size w w' := by
  have HM := hid (impl_MayaOf A c q w hl hc)
  cases hg : good q
  · have hb : fdB q = false := by simp [fdB, hg]
    rw [show fdF q = [] by simp [fdF, hb], hb]
    rw [show mayaF q = [] by simp [mayaF, hg], hg] at HM
    clear hg hb
    go_enter Try.func7, Try.ntmps7
    go_wp2_with (go_at_call 20; refine HM.out.mono ?_; rintro e w2 ⟨A2, c2, rfl, o2, b2⟩; have hcut := fun W => runI_cut_hi A2 0 c2 0 (Nat.zero_le _) W; have hqt : Int.tdiv (0 : Int) 2 = ((0 : Nat) : Int) := rfl)
    go_ret2
    exact ⟨none, 0, rfl, own_nil _ _, b2⟩
  · have G := (good_iff q).1 hg
    rw [show mayaF q = mayaL q by simp [mayaF, hg], hg] at HM
    have hT := fd_take G
    have hB : fdB q = decide (mayaL q = dmL (fdP q)) := by simp [fdB, hg]
    have hml := (maya_MO G).len
    have hpl := fdP_len G
    have HD := hid fun A2 c2 W (h : Own W w.heap.size A2 c2 (fdP q)) => doubleMaya_any A2 c2 (fdP q) W (by omega) (fun j hj => by have := fdP_at G j hj; omega) h
    have hdl : (dmL (fdP q)).length ≤ 60 := by simp [dmL]; omega
    have hF : fdF q = if fdB q then fdP q else [] := rfl
    obtain ⟨M, hM⟩ : ∃ M, M = mayaL q := ⟨_, rfl⟩
    rw [← hM] at HM hT hB hml
    obtain ⟨P, hP⟩ : ∃ P, P = fdP q := ⟨_, rfl⟩
    rw [← hP] at hT hB hpl HD hdl hF
    obtain ⟨D, hD⟩ : ∃ D, D = dmL P := ⟨_, rfl⟩
    rw [← hD] at hB HD hdl
    have HF := hid hF
    have HB := hid hB
    have HT := hid hT
    obtain ⟨h, hh⟩ : ∃ h, h = M.length / 2 := ⟨_, rfl⟩
    have hPh : P.length = h := by rw [← hT, List.length_take, hh]; omega
    have hqt : Int.tdiv (M.length : Int) 2 = (h : Int) := by rw [hh]; rfl
    have hle : h ≤ M.length := by omega
    rw [← hh] at HT
    have HH := hid hPh
    clear hg G hM hP hD hT hF hB hh hPh
    cases he : decide (M = D)
    · have HE := hid he
      have HF2 := hid (show fdF q = [] by rw [HF.out, HB.out, he]; rfl)
      have HB2 := hid (show fdB q = false by rw [HB.out, he])
      clear he HF HB
      go_enter Try.func7, Try.ntmps7
      go_wp2_with (first | (go_at_call 20; refine HM.out.mono ?_; rintro e w2 ⟨A2, c2, rfl, o2, b2⟩; have hcap := o2.cap; have hcut := fun W => runI_cut_hi A2 M.length c2 h (by omega) W; have HP := hid (show Own w2 w.heap.size A2 c2 P by have := own_takeD o2 h; rwa [HT.out] at this)) | (go_at_call 16; have hd := HD.out A2 c2 w2 HP.out; rw [HH.out] at hd; refine hd.mono ?_; rintro e w3 ⟨A3, c3, rfl, o3, b3⟩) | (go_at_call 21; refine (equal_b _ _ _ _ _ _ _ (by omega) (by omega) (o2.cells.later b3) o3.cells _ HE.out).mono ?_; rintro e w4 ⟨rfl, nd1, rfl⟩))
      go_ret2
      rw [HB2.out, HF2.out]
      exact ⟨none, 0, rfl, own_nil _ _, Below.next (Below.next b2 b3) (below_drew' _ _)⟩
    · have HE := hid he
      have HF2 := hid (show fdF q = P by rw [HF.out, HB.out, he]; rfl)
      have HB2 := hid (show fdB q = true by rw [HB.out, he])
      clear he HF HB
      go_enter Try.func7, Try.ntmps7
      go_wp2_with (first | (go_at_call 20; refine HM.out.mono ?_; rintro e w2 ⟨A2, c2, rfl, o2, b2⟩; have hcap := o2.cap; have hcut := fun W => runI_cut_hi A2 M.length c2 h (by omega) W; have HP := hid (show Own w2 w.heap.size A2 c2 P by have := own_takeD o2 h; rwa [HT.out] at this)) | (go_at_call 16; have hd := HD.out A2 c2 w2 HP.out; rw [HH.out] at hd; refine hd.mono ?_; rintro e w3 ⟨A3, c3, rfl, o3, b3⟩) | (go_at_call 21; refine (equal_b _ _ _ _ _ _ _ (by omega) (by omega) (o2.cells.later b3) o3.cells _ HE.out).mono ?_; rintro e w4 ⟨rfl, nd1, rfl⟩))
      go_ret2
      rw [HB2.out, HF2.out, HH.out]
      exact ⟨A2, c2, rfl, ownsRow_next' (ownsRow_next' HP.out b3) (below_drew' _ _), Below.next (Below.next b2 b3) (below_drew' _ _)⟩

theorem impl_IsDouble (A : Option Addr) (c : Nat) (q : List Int) (w : World) (hl : q.length ≤ 1048576) (hc : Cells w A q) :
    Calls Try.prog 8 #[.slice A q.length c] w fun e w' => e = .returned (.tuple #[.bool (fdB q), .bool (good q)]) ∧ Below w.heap.size w w' := by
  have HF := hid (impl_FromDouble A c q w hl hc)
  obtain ⟨g, hg⟩ : ∃ g, g = good q := ⟨_, rfl⟩
  rw [← hg]
  have HG := hid hg.symm; clear hg
  go_enter Try.func8, Try.ntmps8
  go_wp2_with (first | (go_at_call 7; refine HF.out.mono ?_; rintro e w2 ⟨A2, c2, rfl, o2, b2⟩) | (go_at_call 22; refine (IsPartition_b _ _ _ _ hl (hc.later b2) _ HG.out).mono ?_; rintro e w' ⟨rfl, rfl⟩))
  go_ret2
  exact ⟨rfl, b2⟩
end Go.Proofs.Ytelfapheigobeaa
/-
  A row that lies apart from those that are pushed already is pushed.
-/
namespace Go.Proofs.Ytelfapheigobeaa
open Go.RowKit

theorem Push.pushAp {w1 w2 : World} {B : Nat} {v v' : Value} {rows : List (List Int)} {P : Nat → Option Addr} {C : Nat → Nat} {A : Option Addr} {c : Nat} {r : List Int} {o : Obj}
    (h1 : Push w1 B v rows P C) (hr : Own w1 B A c r) (hap : ∀ i, i < rows.length → ∀ b, (P i).map Addr.block = some b → A.map Addr.block ≠ some b)
    (ho : w2.ownsRow B 22 1 v' (rows.length + 1) (RL P C rows ++ [.slice A r.length c])) (hg : (w1.alloc o).grownBy w2 v.ownBlock) :
    Push w2 B v' (rows ++ [r]) (setAt P rows.length A) (setAt C rows.length c) := by
  have keep : ∀ {A' : Option Addr} {c' : Nat} {r' : List Int}, Own w1 B A' c' r' → Own w2 B A' c' r' := fun {A' c' r'} hx => by
    refine hx.keep fun b hbb hlt => ?_
    have e1 : (w1.alloc o).heap[b]? = w1.heap[b]? := Below.heap_alloc _ _ _ hlt
    rw [← e1]
    exact hg.block b (by simp; omega) (fun e => row_ne' h1.out hx b hbb e.symm)
  refine ⟨by rw [RL_snoc, List.length_append]; exact ho, fun j hj => ?_, fun i j hij hj b hbi => ?_⟩
  · rw [List.length_append, List.length_singleton] at hj
    by_cases e : j = rows.length
    · subst e
      rw [setAt_eq, setAt_eq, getD_snoc_eq]
      exact keep hr
    · rw [setAt_ne P A e, setAt_ne C c e, getD_snoc_lt rows r j (by omega)]
      exact keep (h1.row j (by omega))
  · rw [List.length_append, List.length_singleton] at hj
    rw [setAt_ne P A (show i ≠ rows.length by omega)] at hbi
    by_cases e : j = rows.length
    · subst e
      rw [setAt_eq]
      exact hap i (by omega) b hbi
    · rw [setAt_ne P A e]
      exact h1.apart i j hij (by omega) b hbi
theorem push_lit1 {w : World} {B : Nat} {A : Option Addr} {c : Nat} {r : List Int} (h : Own w B A c r) (hB : B ≤ w.heap.size) :
    Push (w.alloc (.cells #[.slice A r.length c] 22)) B (.slice (some ⟨w.heap.size, 0, none⟩) 1 1) [r] (fun _ => A) (fun _ => c) := by
  refine ⟨?_, fun j hj => ?_, fun i j hij hj => by simp at hj; omega⟩
  · have h2 := World.ownsRow_lit (base := B) (e := 22) (size := 1) w #[.slice A r.length c] 1 hB (by unfold maxLen; omega) rfl
    exact h2
  · have hj0 : j = 0 := by simp at hj; omega
    subst hj0
    exact h.below ((Below.refl _ _).alloc (Nat.le_refl _) _)
end Go.Proofs.Ytelfapheigobeaa
