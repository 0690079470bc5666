/-
  Contract: the border word, the program's side: a builder that is written letter by letter along the border.
-/
import Derived.Test.YtaonkebjakanjaaWord
import Derived.Test.YtaonkebjakanjaaStep
import Derived.Test.YtaonkebjakanjaaCB
import Derived.Test.YtaonkebjakanjaaStr
import Derived.Deep.RegionWith
namespace Go.Proofs.Ytaonkebjakanjaa
open Go.RowKit

theorem letterAt_b' (A : Option Addr) (c : Nat) (xs : List Int) (r k : Nat) (w : World) (hr : 1 ≤ r) (hrl : r ≤ xs.length) (hl : xs.length ≤ 1000) (hc : Cells w A xs) (v : Int) (h : (if (k : Int) = xs.getD (r - 1) 0 then (85 : Int) else 82) = v) :
    Calls Try.prog 26 #[.slice A xs.length c, .agg #[.int .i64 r, .int .i64 k]] w fun e w' => e = .returned (.int .u8 v) ∧ Below w.heap.size w w' := by
  subst h; exact letterAt_any A c xs r k w hr hrl hl hc
theorem stepOf_up' (w : World) : Calls Try.prog 28 #[.int .u8 85] w fun e w' => e = .returned (.func (.func 44) #[] #[]) ∧ w = w' := stepOf_any 85 w
theorem stepOf_right' (w : World) : Calls Try.prog 28 #[.int .u8 82] w fun e w' => e = .returned (.func (.func 45) #[] #[]) ∧ w = w' := stepOf_any 82 w

abbrev IsB (B b : Nat) (bs : List Value) (w : World) : Prop := Lib.IsBuilderF 49 5 B b bs w
theorem isB_keep {B b : Nat} {bs : List Value} {w w' : World} (h : IsB B b bs w) (hk : ∀ (k : Nat) (c : Array Value) (t : TypeId) (fz : Nat × Nat), w.heap[k]? = some (Obj.cells c t fz) → (t = 49 ∨ t = 5) → w'.heap[k]? = w.heap[k]?) : IsB B b bs w' := by
  have key : ∀ p, Lib.BuilderAtF 49 5 B b p bs w → Lib.BuilderAtF 49 5 B b p bs w' := by
    rintro p ⟨hB, v, hb, hown, hne⟩
    refine ⟨hB, v, by rw [hk b _ _ _ hb (.inl rfl)]; exact hb, ⟨hown.1, ?_⟩, hne⟩
    rcases hown.2 with hn | ⟨g, cap, cur, fz, hv, h1, h2, rest⟩
    · exact .inl hn
    · exact .inr ⟨g, cap, cur, fz, hv, h1, by rw [hk g _ _ _ h2 (.inr rfl)]; exact h2, rest⟩
  exact h.elim (fun x => .inl (key _ x)) (fun x => .inr (key _ x))
theorem isB_next {B b : Nat} {bs : List Value} {w w' : World} (h : IsB B b bs w) (hb : Below w.heap.size w w') : IsB B b bs w' :=
  isB_keep h fun k _ _ _ hk _ => hb.block k (Array.getElem?_eq_some_iff.1 hk).1
theorem isB_set2 {B b g : Nat} {bs : List Value} {w : World} {x y : Value} (h : IsB B b bs w) (hg : Box2 w g 42 x y) (u v : Value) : IsB B b bs ((w.setCell ⟨g, 0, none⟩ u).setCell ⟨g, 1, none⟩ v) :=
  isB_keep h fun k c t fz hk ht => by
    have hne : k ≠ g := by
      intro e
      subst e
      have := (show w.heap[k]? = _ from hg).symm.trans hk
      simp only [Option.some.injEq, Obj.cells.injEq] at this
      rcases ht with rfl | rfl
      · exact absurd this.2.1 (by decide)
      · exact absurd this.2.1 (by decide)
    exact (Below.heap_setCell _ _ _ k (by simpa using hne)).trans (Below.heap_setCell _ _ _ k (by simpa using hne))
theorem box_kept {w w' : World} {b g : Nat} {x y : Value} (h : Box2 w g 42 x y) (hk : Lib.OthersKept 5 (some b) w w') (hne : g ≠ b) : Box2 w' g 42 x y :=
  hk g _ h (by simpa using hne) (fun c fz e => by injection e with _ e2; exact absurd e2 (by decide))
def mrow (g : Nat) (w : World) : Nat := match w.cell? ⟨g, 0, none⟩ with | some (.int _ r) => r.toNat | _ => 0
def mcol (g : Nat) (w : World) : Nat := match w.cell? ⟨g, 1, none⟩ with | some (.int _ r) => r.toNat | _ => 0
theorem mrow_eq {g r : Nat} {w : World} {t : TypeId} {y : Value} (h : Box2 w g t (.int .i64 r) y) : mrow g w = r := by unfold mrow; rw [h.cell0]; simp
theorem mcol_eq {g r : Nat} {w : World} {t : TypeId} {y : Value} (h : Box2 w g t y (.int .i64 r)) : mcol g w = r := by unfold mcol; rw [h.cell1]; simp

set_option maxRecDepth 100000 in
set_option maxHeartbeats 4000000 in
theorem BorderWord_t (A : Option Addr) (c : Nat) (xs : List Int) (w : World) (hl : xs.length ≤ 1048576) (hg : good xs = true) (hc : Cells w A xs) :
    Calls Try.prog 6 #[.slice A xs.length c] w fun e w' => e = .returned (.tuple #[.string (strOf (wordL xs)), .bool true]) ∧ Below w.heap.size w w' := by
  have G := (good_iff xs).1 hg
  have hlen := G.len
  have HGG := hid G
  have HG := hid hg
  clear G hg
  go_enter Try.func6, Try.ntmps6
  go_wp2_with (go_at_call 12; refine (IsPartition_b _ _ _ _ hl hc _ HG.out).mono ?_; rintro e w' ⟨rfl, rfl⟩)
  obtain ⟨w0, hw0⟩ : ∃ w0, w0 = (w.alloc (.cells #[.pointer none, .slice none 0 0] 49)).alloc (.cells #[.int .i64 xs.length, .int .i64 0] 42) := ⟨_, rfl⟩
  have i0 : IsB w.heap.size w.heap.size (Lib.byteCells []) w0 := by rw [hw0]; exact isB_next (Lib.IsBuilderF.of (Lib.fresh_isBuilder 49 5 w)) ((Below.refl _ _).alloc (Nat.le_refl _) _)
  have z0 : Box2 w0 (w.heap.size + 1) 42 (.int .i64 xs.length) (.int .i64 0) := by
    rw [hw0]
    have h := Box2.new (w.alloc (.cells #[.pointer none, .slice none 0 0] 49)) 42 (.int .i64 xs.length) (.int .i64 0)
    rw [World.size_alloc] at h; exact h
  have b0 : Below w.heap.size w w0 := by rw [hw0]; exact ((Below.refl _ _).alloc (Nat.le_refl _) _).alloc (by simp) _
  rw [← hw0]
  clear hw0
  go_loopw [6] (fun _ wr => ∃ d a : Nat, d ≤ xs.length ∧ prevN xs d ≤ a ∧ a ≤ 30 ∧ (d < xs.length → a ≤ pn xs (xs.length - 1 - d)) ∧ (d = xs.length → a = prevN xs d) ∧ Box2 wr (w.heap.size + 1) 42 (.int .i64 (xs.length - d : Nat)) (.int .i64 a) ∧ IsB w.heap.size w.heap.size (Lib.byteCells (wordS xs d a)) wr ∧ Below w.heap.size w wr) (fun _ wr => 100 * mrow (w.heap.size + 1) wr + (100 - mcol (w.heap.size + 1) wr))
  case atStart =>
    refine ⟨0, 0, Nat.zero_le _, by simp [prevN], by omega, fun _ => Nat.zero_le _, fun _ => by simp [prevN], by rw [Nat.sub_zero]; exact z0, ?_, b0⟩
    have e : wordS xs 0 0 = [] := by simp [wordS, wordUp, prevN]
    rw [e]; exact i0
  case round =>
    obtain ⟨d, a, hd, ha1, ha30, ha2, ha3, zr, hI, hbel⟩ := hrel
    have hsz := hbel.size
    have hm1 := mrow_eq zr
    have hm2 := mcol_eq zr
    have HM1 := hid hm1
    have HM2 := hid hm2
    obtain ⟨row, hrow⟩ : ∃ row, row = xs.length - d := ⟨_, rfl⟩
    rw [← hrow] at zr
    have p1 := zr.cell0
    have q1 := zr.cell1
    clear hm1 hm2
    by_cases hlt : d < xs.length
    · have hr1 : 1 ≤ row := by omega
      have hrl : row ≤ xs.length := by omega
      have hl1000 : xs.length ≤ 1000 := by omega
      have ha4 := ha2 hlt
      have hpn : (pn xs (xs.length - 1 - d) : Int) = xs.getD (row - 1) 0 := by unfold pn; rw [show xs.length - 1 - d = row - 1 by omega]; have := HGG.out.pos (row - 1) (by omega); omega
      have hwl := wordS_len HGG.out d a ha30
      have hbl : (Lib.byteCells (wordS xs d a)).length + 1 ≤ 140737488355328 := by rw [Lib.byteCells_length]; omega
      have hcr := hc.later hbel
      have HROW := hid hrow
      by_cases hU : (a : Int) = xs.getD (row - 1) 0
      · have hlet : (if (a : Int) = xs.getD (row - 1) 0 then (85 : Int) else 82) = 85 := if_pos hU
        have HU := hid hU
        have HPN := hid hpn
        clear hU hpn hrow
        go_wp2_with (first | (go_at_call 26; refine (letterAt_b' A c xs row a _ hr1 hrl hl1000 hcr 85 hlet).mono ?_; rintro e w2 ⟨rfl, b2⟩; have z2 := zr.next b2; have i2 := isB_next hI b2; have B2 := Below.next hbel b2; have s2 := b2.size))
        have FIN : ∀ w6 : World, Box2 w6 (w.heap.size + 1) 42 (.int .i64 row) (.int .i64 a) → IsB w.heap.size w.heap.size (Lib.byteCells (wordS xs d a) ++ [.int .u8 85]) w6 → Below w.heap.size w w6 →
            (∃ d2 a2 : Nat, d2 ≤ xs.length ∧ prevN xs d2 ≤ a2 ∧ a2 ≤ 30 ∧ (d2 < xs.length → a2 ≤ pn xs (xs.length - 1 - d2)) ∧ (d2 = xs.length → a2 = prevN xs d2) ∧ Box2 ((w6.setCell ⟨w.heap.size + 1, 0, none⟩ (.int .i64 ((row : Int) - 1))).setCell ⟨w.heap.size + 1, 1, none⟩ (.int .i64 a)) (w.heap.size + 1) 42 (.int .i64 (xs.length - d2 : Nat)) (.int .i64 a2) ∧ IsB w.heap.size w.heap.size (Lib.byteCells (wordS xs d2 a2)) ((w6.setCell ⟨w.heap.size + 1, 0, none⟩ (.int .i64 ((row : Int) - 1))).setCell ⟨w.heap.size + 1, 1, none⟩ (.int .i64 a)) ∧ Below w.heap.size w ((w6.setCell ⟨w.heap.size + 1, 0, none⟩ (.int .i64 ((row : Int) - 1))).setCell ⟨w.heap.size + 1, 1, none⟩ (.int .i64 a))) ∧
            100 * mrow (w.heap.size + 1) ((w6.setCell ⟨w.heap.size + 1, 0, none⟩ (.int .i64 ((row : Int) - 1))).setCell ⟨w.heap.size + 1, 1, none⟩ (.int .i64 a)) + (100 - mcol (w.heap.size + 1) ((w6.setCell ⟨w.heap.size + 1, 0, none⟩ (.int .i64 ((row : Int) - 1))).setCell ⟨w.heap.size + 1, 1, none⟩ (.int .i64 a))) < 100 * mrow (w.heap.size + 1) wr + (100 - mcol (w.heap.size + 1) wr) := by
          intro w6 z6 i6 B6
          have z8 := (z6.set0 (.int .i64 ((row : Int) - 1))).set1 (.int .i64 a)
          have i8 := isB_set2 i6 z6 (.int .i64 ((row : Int) - 1)) (.int .i64 a)
          have B8 := (B6.setCell (p := ⟨w.heap.size + 1, 0, none⟩) (Nat.le_succ _) (.int .i64 ((row : Int) - 1))).setCell (p := ⟨w.heap.size + 1, 1, none⟩) (Nat.le_succ _) (.int .i64 a)
          have e8 := HROW.out
          have m1 := HM1.out
          have m2 := HM2.out
          have z9 : Box2 ((w6.setCell ⟨w.heap.size + 1, 0, none⟩ (.int .i64 ((row : Int) - 1))).setCell ⟨w.heap.size + 1, 1, none⟩ (.int .i64 a)) (w.heap.size + 1) 42 (.int .i64 (xs.length - (d + 1) : Nat)) (.int .i64 a) := by
            rw [show ((xs.length - (d + 1) : Nat) : Int) = (row : Int) - 1 by omega]; exact z8
          have n1 := mrow_eq z9
          have n2 := mcol_eq z9
          have ea : a = prevN xs (d + 1) := by rw [prev_succ]; have h1 := HU.out; have h2 := HPN.out; omega
          refine ⟨⟨d + 1, a, by omega, by omega, ha30, ?_, fun _ => ea, z9, ?_, B8⟩, by rw [n1, n2, m1, m2]; omega⟩
          · intro h; rw [ea]; exact prev_le HGG.out h
          · have ew : wordS xs (d + 1) a = wordS xs d a ++ [85] := by
              have e3 : wordS xs (d + 1) a = wordUp xs (d + 1) := by
                have := wordS_zero xs (d + 1)
                rwa [← ea] at this
              rw [e3, ← wordS_U, ← prev_succ, ← ea]
            rw [ew]
            simpa [Lib.byteCells] using i8
        have HF := hid FIN; clear FIN
        refine (WriteByte_k w.heap.size w.heap.size (Lib.byteCells (wordS xs d a)) 85 _ i2 hbl B2.size).mono ?_
        rintro e w3 ⟨rfl, i3', b3, k3⟩
        have i3 : IsB w.heap.size w.heap.size (Lib.byteCells (wordS xs d a) ++ [.int .u8 85]) w3 := .inr i3'
        have z3 := box_kept z2 k3 (by omega)
        have B3 := B2.trans b3
        have p3 := z3.cell0
        have q3 := z3.cell1
        have z3d : Box2 w3.drew (w.heap.size + 1) 42 (.int .i64 row) (.int .i64 a) := z3
        have i3d : IsB w.heap.size w.heap.size (Lib.byteCells (wordS xs d a) ++ [.int .u8 85]) w3.drew := i3
        have B3d : Below w.heap.size w w3.drew := below_drewN B3 1
        clear i3' i2 hI z2 zr p1 q1 k3 b3 B3 B2
        go_wp2_with fail
        go_region_with (first | (go_at_call 28; refine (stepOf_up' _).mono ?_; rintro e w5 ⟨rfl, rfl⟩) | (go_at_call 44; refine (up_any (row : Int) a _ (by omega) (by omega)).mono ?_; rintro e w6 ⟨rfl, b6⟩; have z6 := z3d.next b6; have i6 := isB_next i3d b6; have B6 := Below.next B3d b6; have f1 := z6.cell0; have f2 := z6.froz 0; have z7 := z6.set0 (.int .i64 ((row : Int) - 1)); have f3 := z7.cell1; have f4 := z7.froz 1; have HFI := hid (HF.out w6 z6 i6 B6)))
        all_goals go_wp2_with fail
        all_goals (go_roundw <;> first | exact HFI.out.1 | exact HFI.out.2)
      · have hlet : (if (a : Int) = xs.getD (row - 1) 0 then (85 : Int) else 82) = 82 := if_neg hU
        have HU := hid hU
        have HPN := hid hpn
        clear hU hpn hrow
        go_wp2_with (first | (go_at_call 26; refine (letterAt_b' A c xs row a _ hr1 hrl hl1000 hcr 82 hlet).mono ?_; rintro e w2 ⟨rfl, b2⟩; have z2 := zr.next b2; have i2 := isB_next hI b2; have B2 := Below.next hbel b2; have s2 := b2.size))
        have FIN : ∀ w6 : World, Box2 w6 (w.heap.size + 1) 42 (.int .i64 row) (.int .i64 a) → IsB w.heap.size w.heap.size (Lib.byteCells (wordS xs d a) ++ [.int .u8 82]) w6 → Below w.heap.size w w6 →
            (∃ d2 a2 : Nat, d2 ≤ xs.length ∧ prevN xs d2 ≤ a2 ∧ a2 ≤ 30 ∧ (d2 < xs.length → a2 ≤ pn xs (xs.length - 1 - d2)) ∧ (d2 = xs.length → a2 = prevN xs d2) ∧ Box2 ((w6.setCell ⟨w.heap.size + 1, 0, none⟩ (.int .i64 (row : Nat))).setCell ⟨w.heap.size + 1, 1, none⟩ (.int .i64 (a + 1 : Nat))) (w.heap.size + 1) 42 (.int .i64 (xs.length - d2 : Nat)) (.int .i64 a2) ∧ IsB w.heap.size w.heap.size (Lib.byteCells (wordS xs d2 a2)) ((w6.setCell ⟨w.heap.size + 1, 0, none⟩ (.int .i64 (row : Nat))).setCell ⟨w.heap.size + 1, 1, none⟩ (.int .i64 (a + 1 : Nat))) ∧ Below w.heap.size w ((w6.setCell ⟨w.heap.size + 1, 0, none⟩ (.int .i64 (row : Nat))).setCell ⟨w.heap.size + 1, 1, none⟩ (.int .i64 (a + 1 : Nat)))) ∧
            100 * mrow (w.heap.size + 1) ((w6.setCell ⟨w.heap.size + 1, 0, none⟩ (.int .i64 (row : Nat))).setCell ⟨w.heap.size + 1, 1, none⟩ (.int .i64 (a + 1 : Nat))) + (100 - mcol (w.heap.size + 1) ((w6.setCell ⟨w.heap.size + 1, 0, none⟩ (.int .i64 (row : Nat))).setCell ⟨w.heap.size + 1, 1, none⟩ (.int .i64 (a + 1 : Nat)))) < 100 * mrow (w.heap.size + 1) wr + (100 - mcol (w.heap.size + 1) wr) := by
          intro w6 z6 i6 B6
          have z8 := (z6.set0 (.int .i64 (row : Nat))).set1 (.int .i64 (a + 1 : Nat))
          have i8 := isB_set2 i6 z6 (.int .i64 (row : Nat)) (.int .i64 (a + 1 : Nat))
          have B8 := (B6.setCell (p := ⟨w.heap.size + 1, 0, none⟩) (Nat.le_succ _) (.int .i64 (row : Nat))).setCell (p := ⟨w.heap.size + 1, 1, none⟩) (Nat.le_succ _) (.int .i64 (a + 1 : Nat))
          have e8 := HROW.out
          have m1 := HM1.out
          have m2 := HM2.out
          have z9 : Box2 ((w6.setCell ⟨w.heap.size + 1, 0, none⟩ (.int .i64 (row : Nat))).setCell ⟨w.heap.size + 1, 1, none⟩ (.int .i64 (a + 1 : Nat))) (w.heap.size + 1) 42 (.int .i64 (xs.length - d : Nat)) (.int .i64 (a + 1 : Nat)) := by
            rw [← e8]; exact z8
          have n1 := mrow_eq z9
          have n2 := mcol_eq z9
          have hlt2 : a + 1 ≤ pn xs (xs.length - 1 - d) := by have h1 := HU.out; have h2 := HPN.out; omega
          have h30 := pn_le HGG.out (xs.length - 1 - d)
          refine ⟨⟨d, a + 1, by omega, by omega, by omega, fun _ => hlt2, fun h => by omega, z9, ?_, B8⟩, by rw [n1, n2, m1, m2]; omega⟩
          rw [wordS_R xs d a ha1]
          simpa [Lib.byteCells] using i8
        have HF := hid FIN; clear FIN
        refine (WriteByte_k w.heap.size w.heap.size (Lib.byteCells (wordS xs d a)) 82 _ i2 hbl B2.size).mono ?_
        rintro e w3 ⟨rfl, i3', b3, k3⟩
        have i3 : IsB w.heap.size w.heap.size (Lib.byteCells (wordS xs d a) ++ [.int .u8 82]) w3 := .inr i3'
        have z3 := box_kept z2 k3 (by omega)
        have B3 := B2.trans b3
        have p3 := z3.cell0
        have q3 := z3.cell1
        have z3d : Box2 w3.drew (w.heap.size + 1) 42 (.int .i64 row) (.int .i64 a) := z3
        have i3d : IsB w.heap.size w.heap.size (Lib.byteCells (wordS xs d a) ++ [.int .u8 82]) w3.drew := i3
        have B3d : Below w.heap.size w w3.drew := below_drewN B3 1
        clear i3' i2 hI z2 zr p1 q1 k3 b3 B3 B2
        go_wp2_with fail
        go_region_with (first | (go_at_call 28; refine (stepOf_right' _).mono ?_; rintro e w5 ⟨rfl, rfl⟩) | (go_at_call 45; refine (right_any row a _ (by omega)).mono ?_; rintro e w6 ⟨rfl, b6⟩; have z6 := z3d.next b6; have i6 := isB_next i3d b6; have B6 := Below.next B3d b6; have f1 := z6.cell0; have f2 := z6.froz 0; have z7 := z6.set0 (.int .i64 (row : Nat)); have f3 := z7.cell1; have f4 := z7.froz 1; have HFI := hid (HF.out w6 z6 i6 B6)))
        all_goals go_wp2_with fail
        all_goals (go_roundw <;> first | exact HFI.out.1 | exact HFI.out.2)
    · have hde : d = xs.length := by omega
      have hae := ha3 hde
      subst hde
      have hr0 : row = 0 := by omega
      subst hr0
      have i9 : IsB w.heap.size w.heap.size (Lib.byteCells (wordL xs)) wr := by
        have e : wordS xs xs.length a = wordL xs := by rw [hae, wordS_zero]; rfl
        rw [← e]; exact hI
      clear hae ha3 ha2 ha1 HM1 HM2 hrow
      go_wp2_with (go_at_call 29; refine (String_k w.heap.size w.heap.size (wordL xs) _ i9 hsz).mono ?_; rintro e w2 ⟨rfl, i10, b2, k2⟩)
      go_ret2
      exact ⟨rfl, hbel.trans b2⟩

set_option maxHeartbeats 400000 in
theorem impl_BorderWord (A : Option Addr) (c : Nat) (xs : List Int) (w : World) (hl : xs.length ≤ 1048576) (hc : Cells w A xs) :
    Calls Try.prog 6 #[.slice A xs.length c] w fun e w' => e = .returned (.tuple #[.string (wordF xs), .bool (good xs)]) ∧ Below w.heap.size w w' := by
  cases hg : good xs
  · rw [show wordF xs = ByteArray.empty by simp [wordF, hg]]
    have HG := hid hg; clear hg
    go_enter Try.func6, Try.ntmps6
    go_wp2_with (go_at_call 12; refine (IsPartition_b _ _ _ _ hl hc _ HG.out).mono ?_; rintro e w' ⟨rfl, rfl⟩)
    go_ret2
    exact ⟨rfl, Below.refl _ _⟩
  · rw [show wordF xs = strOf (wordL xs) by simp [wordF, hg]]
    exact BorderWord_t A c xs w hl hg hc
end Go.Proofs.Ytaonkebjakanjaa
