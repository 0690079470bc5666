/-
  Contracts: AbacusText of the program and of the model.
-/
import Derived.Test.YtjhcbbafldflaaaDoorPtx
import Derived.Test.YtjhcbbafldflaaaDoorCB
import Derived.Test.YtjhcbbafldflaaaDoorCE
namespace Go.Proofs.YtjhcbbafldflaaaDoor
open Go.RowKit Go.Shelf

def commaT : ByteArray := ⟨#[44]⟩
theorem jnT_size (sep : ByteArray) (hs : sep.size ≤ 1) (xs : List Int) (k : Nat) (h : k ≤ xs.length) : (jnT sep (xs.take k)).size ≤ 3 * k := by
  have := jnT_len sep hs xs k h
  unfold jnT
  rw [show (⟨(Lib.join ((jnB (xs.take k)).map (·.data.toList)) sep.data.toList).toArray⟩ : ByteArray).size = (Lib.join ((jnB (xs.take k)).map (·.data.toList)) sep.data.toList).length from List.size_toArray ..]
  exact this
theorem jnT_pos (sep : ByteArray) (xs : List Int) (k : Nat) (h : k < xs.length) : 0 < (jnT sep (xs.take (k + 1))).size := by
  have h2 := numT_size (xs.getD k 0).toNat
  rw [jnT_snoc sep xs k h, ByteArray.size_append]; omega
def abT (r : Int) (xs : List Int) : ByteArray := numT r.toNat ++ ⟨#[58]⟩ ++ (if xs.length = 0 then ⟨#[45]⟩ else jnT commaT xs)
def abtF (r : Int) (xs : List Int) : ByteArray := if isAba r xs then abT r xs else ⟨#[]⟩

set_option maxRecDepth 100000 in
set_option maxHeartbeats 2000000 in
theorem impl_AbacusText (r : Int) (A : Option Addr) (c : Nat) (xs : List Int) (w : World) (hl : xs.length ≤ 1048576) (hc : Cells w A xs) :
    Calls Tryd.prog 18 #[.agg #[.int .i64 r, .slice A xs.length c]] w fun e w' => e = .returned (.tuple #[.string (abtF r xs), .bool (isAba r xs)]) ∧ Below w.heap.size w w' := by
  obtain ⟨w0, hw0⟩ : ∃ w0, w0 = w.alloc (.cells #[.int .i64 r, .slice A xs.length c] 36) := ⟨_, rfl⟩
  have y0 : Box2 w0 w.heap.size 36 (.int .i64 r) (.slice A xs.length c) := by rw [hw0]; exact Box2.new _ _ _ _
  have b0 : Below w.heap.size w w0 := by rw [hw0]; exact (Below.refl _ _).alloc (Nat.le_refl _) _
  have HY := hid y0
  have HW := hid hw0
  clear hw0
  cases hab : isAba r xs
  · have e : abtF r xs = ⟨#[]⟩ := by simp [abtF, hab]
    rw [e]
    have HA := hid hab
    have f0 := y0.cell0
    have f1 := y0.cell1
    clear hab e y0
    go_enter Tryd.func18, Tryd.ntmps18
    go_wp2_with fail
    rw [← HW.out]
    refine (IsAbacus_b _ A c xs w0 hl (hc.below b0) _ HA.out).mono ?_
    rintro e w1 ⟨rfl, b1⟩
    go_wp2_with fail
    go_ret2
    exact ⟨rfl, Below.next b0 b1⟩
  have HA := hid hab
  have e : abtF r xs = abT r xs := by simp [abtF, hab]
  rw [e]
  simp only [isAba, Bool.and_eq_true] at hab
  have hr := inB_iff.1 hab.1
  obtain ⟨t, rfl⟩ : ∃ t : Nat, r = t := ⟨r.toNat, by omega⟩
  have GB := goodB_iff.1 hab.2
  have HI := hid fun W => itoa_any t W (by omega)
  have hts := numT_size t
  have f0 := y0.cell0
  have f1 := y0.cell1
  by_cases hn : xs.length = 0
  · have HE := hid (show abT t xs = numT t ++ ⟨#[58]⟩ ++ ⟨#[45]⟩ by unfold abT; rw [if_pos hn, Int.toNat_natCast])
    have hp1 : (ByteArray.mk #[58]).size = 1 := rfl
    have hp2 : (ByteArray.mk #[45]).size = 1 := rfl
    obtain ⟨s, hs⟩ : ∃ s, s = numT t := ⟨_, rfl⟩
    rw [← hs] at HI HE hts
    obtain ⟨u, hu⟩ : ∃ u, u = s ++ ⟨#[58]⟩ := ⟨_, rfl⟩
    have hus : u.size = s.size + 1 := by rw [hu, ByteArray.size_append]; rfl
    have hcat1 : ¬ 9223372036854775807 < s.size + 1 := by omega
    have hcat2 : ¬ 9223372036854775807 < u.size + 1 := by omega
    rw [← hu] at HE
    have hu2 : s ++ ⟨#[58]⟩ = u := hu.symm
    have hz : ¬ (0 : Int) < (xs.length : Int) := by omega
    clear hab e y0 hu hus hs hn GB hr
    go_enter Tryd.func18, Tryd.ntmps18
    go_wp2_with fail
    rw [← HW.out]
    refine (IsAbacus_b _ A c xs w0 hl (hc.below b0) _ HA.out).mono ?_
    rintro e w1 ⟨rfl, b1⟩
    have g0 := (HY.out.next b1).cell0
    have g1 := (HY.out.next b1).cell1
    clear f0 f1
    go_wp2_with fail
    refine (HI.out _).mono ?_
    rintro e w2 ⟨rfl, rfl⟩
    go_wp2_with fail
    go_ret2
    exact ⟨by rw [HE.out]; rfl, Below.next b0 b1⟩
  · have HE := hid (show abT t xs = numT t ++ ⟨#[58]⟩ ++ jnT commaT xs by unfold abT; rw [if_neg hn, Int.toNat_natCast])
    have hjs := jnT_size commaT (by decide) xs xs.length (Nat.le_refl _)
    rw [List.take_of_length_le (Nat.le_refl _)] at hjs
    have hgl := GB.len
    have HJ := hid fun W (h : Cells W A xs) => joinNumbers_any A c xs commaT W GB.len (fun j hj => ⟨(GB.top hj).1, by have := (GB.top hj).2; omega⟩) (by decide) h
    have hp1 : (ByteArray.mk #[58]).size = 1 := rfl
    obtain ⟨s, hs⟩ : ∃ s, s = numT t := ⟨_, rfl⟩
    rw [← hs] at HI HE hts
    obtain ⟨j, hj⟩ : ∃ j, j = jnT commaT xs := ⟨_, rfl⟩
    rw [← hj] at HJ HE hjs
    obtain ⟨u, hu⟩ : ∃ u, u = s ++ ⟨#[58]⟩ := ⟨_, rfl⟩
    have hus : u.size = s.size + 1 := by rw [hu, ByteArray.size_append]; rfl
    have hcat1 : ¬ 9223372036854775807 < s.size + 1 := by omega
    have hcat2 : ¬ 9223372036854775807 < u.size + j.size := by omega
    rw [← hu] at HE
    have hu2 : s ++ ⟨#[58]⟩ = u := hu.symm
    have hz : (0 : Int) < (xs.length : Int) := by omega
    clear hab e y0 hu hus hs hn GB hr hj hjs hgl
    go_enter Tryd.func18, Tryd.ntmps18
    go_wp2_with fail
    rw [← HW.out]
    refine (IsAbacus_b _ A c xs w0 hl (hc.below b0) _ HA.out).mono ?_
    rintro e w1 ⟨rfl, b1⟩
    have g0 := (HY.out.next b1).cell0
    have g1 := (HY.out.next b1).cell1
    clear f0 f1
    go_wp2_with fail
    refine (HJ.out _ ((hc.below b0).below b1)).mono ?_
    rintro e w2 ⟨rfl, b2⟩
    have k0 := ((HY.out.next b1).next b2).cell0
    clear g0 g1
    go_wp2_with fail
    refine (HI.out _).mono ?_
    rintro e w3 ⟨rfl, rfl⟩
    go_wp2_with fail
    go_ret2
    exact ⟨by rw [HE.out]; rfl, Below.next (Below.next b0 b1) b2⟩

set_option maxRecDepth 100000 in
set_option maxHeartbeats 4000000 in
theorem abText_any (t : Nat) (A : Option Addr) (c : Nat) (xs : List Int) (w : World) (ht : t < 100) (hl : xs.length ≤ 40) (hb : ∀ j, j < xs.length → 0 ≤ xs.getD j 0 ∧ xs.getD j 0 < 100) (hc : Cells w A xs) :
    Calls Tryd.prog 32 #[.agg #[.int .i64 t, .slice A xs.length c]] w fun e w' => e = .returned (.string (abT t xs)) ∧ Below w.heap.size w w' := by
  obtain ⟨w0, hw0⟩ : ∃ w0, w0 = w.alloc (.cells #[.int .i64 t, .slice A xs.length c] 36) := ⟨_, rfl⟩
  have y0 : Box2 w0 w.heap.size 36 (.int .i64 t) (.slice A xs.length c) := by rw [hw0]; exact Box2.new _ _ _ _
  have b0 : Below w.heap.size w w0 := by rw [hw0]; exact (Below.refl _ _).alloc (Nat.le_refl _) _
  have hs0 : w.heap.size < w0.heap.size := by rw [hw0]; simp
  have HY := hid y0
  have HW := hid hw0
  have f1 := y0.cell1
  have HB := hid hb
  have HT := hid fun W => l1Num_any t W ht
  have hts := numT_size t
  have hsz := jnT_size commaT (by decide) xs
  have HSZ := hid hsz
  clear hw0 y0 hsz hb
  go_enter Tryd.func32, Tryd.ntmps32
  go_wp2_with fail
  rw [← HW.out]
  go_loopw [3, 9] (fun s i wr => ∃ k : Nat, k ≤ xs.length ∧ i = .int .i64 k ∧ s = .string (jnT commaT (xs.take k)) ∧ Below w0.heap.size w0 wr) (fun _ i _ => xs.length - (intOf i).toNat)
  case atStart => exact ⟨0, Nat.zero_le _, rfl, rfl, Below.refl _ _⟩
  case round =>
    obtain ⟨k, hk, rfl, rfl, hbel0⟩ := hrel
    have hbel := Below.next b0 hbel0
    have hsz := HSZ.out k hk
    by_cases hlt : k < xs.length
    · obtain ⟨b, o, rfl, hcc⟩ := (hc.later hbel) (by omega)
      have hck := hcc k hlt
      have hx0 := (HB.out k hlt).1
      have hx1 := (HB.out k hlt).2
      obtain ⟨x, hx⟩ : ∃ x : Nat, xs.getD k 0 = x := ⟨(xs.getD k 0).toNat, by omega⟩
      rw [hx] at hck hx0 hx1
      have HN := hid (fun W => l1Num_any x W (by omega))
      have hns := numT_size x
      have HS := hid (show jnT commaT (xs.take (k + 1)) = (if k = 0 then jnT commaT (xs.take k) else jnT commaT (xs.take k) ++ ⟨#[44]⟩) ++ numT x by rw [jnT_snoc commaT xs k hlt, hx, Int.toNat_natCast]; rfl)
      obtain ⟨s, hs⟩ : ∃ s, s = jnT commaT (xs.take k) := ⟨_, rfl⟩
      rw [← hs] at hsz HS ⊢
      obtain ⟨y, hy⟩ : ∃ y, y = numT x := ⟨_, rfl⟩
      rw [← hy] at HN HS hns
      clear hcc hx hs hy
      by_cases h0 : k = 0
      · have HE := hid (HS.out.trans (by rw [if_pos h0]))
        have hk0 : ¬ (0 : Int) < (k : Int) := by omega
        have hcat : ¬ 9223372036854775807 < s.size + y.size := by omega
        clear h0 f1
        go_wp2_with fail
        refine (HN.out _).mono ?_
        rintro e w2 ⟨rfl, b2⟩
        have hb2 := hbel0.trans (b2.mono hbel0.size)
        go_wp2_with fail
        go_roundw
        case rel => exact ⟨k + 1, by omega, by go_num, by rw [HE.out], hb2⟩
        case measure => simp [intOf]; omega
      · have HE := hid (HS.out.trans (by rw [if_neg h0]))
        have hk0 : (0 : Int) < (k : Int) := by omega
        have hp1 : (ByteArray.mk #[44]).size = 1 := rfl
        obtain ⟨u, hu⟩ : ∃ u, u = s ++ ⟨#[44]⟩ := ⟨_, rfl⟩
        have hus : u.size = s.size + 1 := by rw [hu, ByteArray.size_append]; rfl
        have hcat1 : ¬ 9223372036854775807 < s.size + 1 := by omega
        have hcat2 : ¬ 9223372036854775807 < u.size + y.size := by omega
        rw [← hu] at HE
        have hu2 : s ++ ⟨#[44]⟩ = u := hu.symm
        clear h0 hu hus f1
        go_wp2_with fail
        refine (HN.out _).mono ?_
        rintro e w2 ⟨rfl, b2⟩
        have hb2 := hbel0.trans (b2.mono hbel0.size)
        go_wp2_with fail
        go_roundw
        case rel => exact ⟨k + 1, by omega, by go_num, by rw [HE.out], hb2⟩
        case measure => simp [intOf]; omega
    · have hke : k = xs.length := by omega
      subst hke
      have g0 := (HY.out.next hbel0).cell0
      clear hlt f1
      rw [List.take_of_length_le (Nat.le_refl _)] at hsz ⊢
      by_cases hn : xs.length = 0
      · have hx0 : xs = [] := List.eq_nil_of_length_eq_zero hn
        have HP := hid (show abT t xs = numT t ++ ⟨#[58]⟩ ++ ⟨#[45]⟩ by unfold abT; rw [if_pos hn, Int.toNat_natCast])
        have HJ := hid (show jnT commaT xs = ⟨#[]⟩ by rw [hx0]; rfl)
        rw [HJ.out]
        obtain ⟨s, hs⟩ : ∃ s, s = numT t := ⟨_, rfl⟩
        rw [← hs] at HT HP hts
        have hp1 : (ByteArray.mk #[58]).size = 1 := rfl
        have hp2 : (ByteArray.mk #[45]).size = 1 := rfl
        obtain ⟨u, hu⟩ : ∃ u, u = s ++ ⟨#[58]⟩ := ⟨_, rfl⟩
        have hus : u.size = s.size + 1 := by rw [hu, ByteArray.size_append]; rfl
        have hcat1 : ¬ 9223372036854775807 < s.size + 1 := by omega
        have hcat2 : ¬ 9223372036854775807 < u.size + 1 := by omega
        rw [← hu] at HP
        have hu2 : s ++ ⟨#[58]⟩ = u := hu.symm
        clear hu hus hs hx0 hn
        go_wp2_with fail
        refine (HT.out _).mono ?_
        rintro e w2 ⟨rfl, b2⟩
        go_wp2_with fail
        go_ret
        exact ⟨by rw [HP.out]; rfl, Below.next hbel b2⟩
      · have HP := hid (show abT t xs = numT t ++ ⟨#[58]⟩ ++ jnT commaT xs by unfold abT; rw [if_neg hn, Int.toNat_natCast])
        have hpos := jnT_pos commaT xs (xs.length - 1) (by omega)
        rw [show xs.length - 1 + 1 = xs.length by omega, List.take_of_length_le (Nat.le_refl _)] at hpos
        obtain ⟨v, hv⟩ : ∃ v, v = jnT commaT xs := ⟨_, rfl⟩
        rw [← hv] at hpos HP hsz ⊢
        have hie : v.toList.isEmpty = false := by
          rw [ByteArray.toList_eq]
          cases hl : v.data.toList with
          | nil => have h2 : v.size = v.data.toList.length := (Array.length_toList).symm; rw [hl, List.length_nil] at h2; exact absurd hpos (by rw [h2]; exact Nat.lt_irrefl 0)
          | cons _ _ => rfl
        obtain ⟨s, hs⟩ : ∃ s, s = numT t := ⟨_, rfl⟩
        rw [← hs] at HT HP hts
        have hp1 : (ByteArray.mk #[58]).size = 1 := rfl
        obtain ⟨u, hu⟩ : ∃ u, u = s ++ ⟨#[58]⟩ := ⟨_, rfl⟩
        have hus : u.size = s.size + 1 := by rw [hu, ByteArray.size_append]; rfl
        have hcat1 : ¬ 9223372036854775807 < s.size + 1 := by omega
        have hcat2 : ¬ 9223372036854775807 < u.size + v.size := by omega
        rw [← hu] at HP
        have hu2 : s ++ ⟨#[58]⟩ = u := hu.symm
        clear hu hus hs hv hn
        go_wp2_with fail
        refine (HT.out _).mono ?_
        rintro e w2 ⟨rfl, b2⟩
        go_wp2_with fail
        go_ret
        exact ⟨by rw [HP.out]; rfl, Below.next hbel b2⟩

set_option maxHeartbeats 1000000 in
theorem spec_AbacusText (r : Int) (A : Option Addr) (c : Nat) (xs : List Int) (w : World) (hl : xs.length ≤ 1048576) (hc : Cells w A xs) :
    Calls Tryd.prog 16 #[.agg #[.int .i64 r, .slice A xs.length c]] w fun e w' => e = .returned (.tuple #[.string (abtF r xs), .bool (isAba r xs)]) ∧ Below w.heap.size w w' := by
  obtain ⟨w0, hw0⟩ : ∃ w0, w0 = w.alloc (.cells #[.int .i64 r, .slice A xs.length c] 36) := ⟨_, rfl⟩
  have y0 : Box2 w0 w.heap.size 36 (.int .i64 r) (.slice A xs.length c) := by rw [hw0]; exact Box2.new _ _ _ _
  have b0 : Below w.heap.size w w0 := by rw [hw0]; exact (Below.refl _ _).alloc (Nat.le_refl _) _
  have HY := hid y0
  have HW := hid hw0
  have f0 := y0.cell0
  have f1 := y0.cell1
  clear hw0 y0
  cases hab : isAba r xs
  · have e : abtF r xs = ⟨#[]⟩ := by simp [abtF, hab]
    rw [e]
    have HA := hid hab
    clear hab e
    go_enter Tryd.func16, Tryd.ntmps16
    go_wp2_with fail
    rw [← HW.out]
    refine (abIs_b _ A c xs w0 hl (hc.below b0) _ HA.out).mono ?_
    rintro e w1 ⟨rfl, b1⟩
    go_wp2_with fail
    go_ret2
    exact ⟨rfl, Below.next b0 b1⟩
  have HA := hid hab
  have e : abtF r xs = abT r xs := by simp [abtF, hab]
  rw [e]
  simp only [isAba, Bool.and_eq_true] at hab
  have hr := inB_iff.1 hab.1
  obtain ⟨t, rfl⟩ : ∃ t : Nat, r = t := ⟨r.toNat, by omega⟩
  have GB := goodB_iff.1 hab.2
  have HT := hid fun W (h : Cells W A xs) => abText_any t A c xs W (by omega) GB.len (fun j hj => ⟨(GB.top hj).1, by have := (GB.top hj).2; omega⟩) h
  clear hab e GB hr
  go_enter Tryd.func16, Tryd.ntmps16
  go_wp2_with fail
  rw [← HW.out]
  refine (abIs_b _ A c xs w0 hl (hc.below b0) _ HA.out).mono ?_
  rintro e w1 ⟨rfl, b1⟩
  have g0 := (HY.out.next b1).cell0
  have g1 := (HY.out.next b1).cell1
  clear f0 f1
  go_wp2_with fail
  refine (HT.out _ ((hc.below b0).below b1)).mono ?_
  rintro e w2 ⟨rfl, b2⟩
  go_wp2_with fail
  go_ret2
  exact ⟨rfl, Below.next (Below.next b0 b1) b2⟩
end Go.Proofs.YtjhcbbafldflaaaDoor
