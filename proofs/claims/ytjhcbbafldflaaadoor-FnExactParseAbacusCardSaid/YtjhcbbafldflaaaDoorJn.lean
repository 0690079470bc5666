/-
  Contract: joinNumbers of the program, for numbers below 100.
-/
import Derived.Test.YtjhcbbafldflaaaDoorShj
import Derived.Test.YtjhcbbafldflaaaDoorItoa
import Derived.Test.YtjhcbbafldflaaaDoorCB
namespace Go.Proofs.YtjhcbbafldflaaaDoor
open Go.RowKit Go.Shelf

theorem Tryd.infoStr : (Tryd.prog.info? 9).map (fun i => (i.zero, i.size, i.bytes)) = some (some (.string ⟨#[]⟩), 1, 16) := by kernel_rfl
def jnB (xs : List Int) : List ByteArray := xs.map fun x => numT x.toNat
def jnT (sep : ByteArray) (xs : List Int) : ByteArray := ⟨(Lib.join ((jnB xs).map (·.data.toList)) sep.data.toList).toArray⟩
theorem jnB_len (xs : List Int) : (jnB xs).length = xs.length := by simp [jnB]
theorem join_snoc (sep : List UInt8) (l : List (List UInt8)) (y : List UInt8) : Lib.join (l ++ [y]) sep = if l = [] then y else Lib.join l sep ++ sep ++ y := by
  cases l with
  | nil => simp [Lib.join_one]
  | cons a r =>
    rw [if_neg (by simp), List.cons_append, Lib.join_cons, Lib.join_cons]
    simp [Lib.joinTail]
theorem jnB_snoc (xs : List Int) (k : Nat) (h : k < xs.length) : jnB (xs.take (k + 1)) = jnB (xs.take k) ++ [numT (xs.getD k 0).toNat] := by
  unfold jnB
  rw [List.take_succ_eq_append_getElem h, List.map_append]
  simp [List.getD, h]
theorem jnT_len (sep : ByteArray) (hs : sep.size ≤ 1) (xs : List Int) : ∀ k, k ≤ xs.length → (Lib.join ((jnB (xs.take k)).map (·.data.toList)) sep.data.toList).length ≤ 3 * k
  | 0, _ => by simp [jnB, Lib.join_nil]
  | k + 1, h => by
    have ih := jnT_len sep hs xs k (by omega)
    have h2 : (numT (xs.getD k 0).toNat).data.toList.length ≤ 2 := by
      unfold numT
      split
      · show (digT _).data.toList.length ≤ 2
        rw [show (digT (xs.getD k 0).toNat).data.toList.length = 1 from rfl]; omega
      · rw [ByteArray.data_append]
        simp [digT, strOfNums]
    have h3 : sep.data.toList.length ≤ 1 := hs
    rw [jnB_snoc xs k (by omega), List.map_append, List.map_cons, List.map_nil, join_snoc]
    split
    · omega
    · rw [List.length_append, List.length_append]; omega

set_option maxRecDepth 100000 in
set_option maxHeartbeats 4000000 in
theorem joinNumbers_any (A : Option Addr) (c : Nat) (xs : List Int) (sep : ByteArray) (w : World) (hl : xs.length ≤ 40) (hb : ∀ j, j < xs.length → 0 ≤ xs.getD j 0 ∧ xs.getD j 0 < 100) (hs : sep.size ≤ 1) (hc : Cells w A xs) :
    Calls Tryd.prog 27 #[.slice A xs.length c, .string sep] w fun e w' => e = .returned (.string (jnT sep xs)) ∧ Below w.heap.size w w' := by
  obtain ⟨i0, hi, hz0, hz1, hz2⟩ := info_parts Tryd.infoStr
  have HB := hid hb; clear hb
  have HL := hid (jnT_len sep hs xs)
  go_enter Tryd.func27, Tryd.ntmps27
  go_wp2_with fail
  go_loopw [5, 10] (fun v i wr => ∃ k : Nat, k ≤ xs.length ∧ i = .int .i64 k ∧ Hid (wr.ownsRow w.heap.size 9 1 v k ((jnB (xs.take k)).map Value.string)) ∧ Below w.heap.size w wr) (fun _ i _ => xs.length - (intOf i).toNat)
  case atStart => exact ⟨0, Nat.zero_le _, rfl, hid (World.ownsRow_nil _ _ _ _), Below.refl _ _⟩
  case round =>
    obtain ⟨k, hk, rfl, HR, hbel⟩ := hrel
    have hsz := hbel.size
    by_cases hlt : k < xs.length
    · obtain ⟨b, o, rfl, hcc⟩ := (hc.below hbel) (by omega)
      have hck := hcc k hlt
      have hx := HB.out k hlt
      obtain ⟨x, hxx⟩ : ∃ x : Nat, xs.getD k 0 = x := ⟨(xs.getD k 0).toNat, by omega⟩
      have HI := hid fun W => itoa_any x W (by omega)
      have hsn := jnB_snoc xs k hlt
      rw [hxx, Int.toNat_natCast] at hsn
      rw [hxx] at hck
      have HS := hid (show (jnB (xs.take (k + 1))).map Value.string = (jnB (xs.take k)).map Value.string ++ [Value.string (numT x)] by rw [hsn, List.map_append]; rfl)
      obtain ⟨s, hss⟩ : ∃ s, s = numT x := ⟨_, rfl⟩
      rw [← hss] at HI HS
      clear hcc hsn hss hxx
      go_wp2_with fail
      refine (HI.out _).mono ?_
      rintro e w2 ⟨rfl, rfl⟩
      have hrow := HR.out.alloc (.cells #[.string s] 9)
      go_wp2_with (at_builtin; refine wpList_append_own _ rfl _ _ 49 rfl w.heap.size 9 i0 (.string ⟨#[]⟩) 1 16 Tryd.underlying49 hi hz0 hz1 hz2 rfl (by decide) _ _ _ rfl hrow ⟨wr.heap.size, 0, none⟩ 1 1 [.string s] rfl rfl one_at (fun u hu => by rw [List.mem_singleton.1 hu]; rfl) (by unfold maxLen; omega) (by omega) (by simp; omega) ?_)
      intro v' w4 hown' hgrow _
      have hb1 : Below w.heap.size w w4 := (hbel.alloc hsz _).grown hgrow (by simp; omega) (fun q hq => (HR.out.lt q hq).1)
      rw [← HS.out] at hown'
      have HO := hid hown'
      clear hown' hgrow hrow
      go_wp2_with fail
      go_roundw
      case rel => exact ⟨k + 1, by omega, by go_num, HO, hb1⟩
      case measure => simp [intOf]; omega
    · have hkl : k = xs.length := by omega
      subst hkl
      have hrow := HR.out
      rw [List.take_of_length_le (Nat.le_refl _)] at hrow
      have hjl := jnB_len xs
      have hle := HL.out xs.length (Nat.le_refl _)
      rw [List.take_of_length_le (Nat.le_refl _)] at hle
      rcases hrow.2 with ⟨hv, h0⟩ | ⟨g, cap, cur, hv, hgb, hg, hcap, hmax, hsz2, htk⟩
      · subst hv
        have hx0 : xs = [] := List.eq_nil_of_length_eq_zero h0
        have e1 : jnT sep xs = ⟨#[]⟩ := by rw [hx0]; rfl
        have HE1 := hid e1
        clear hrow HR e1 hle hjl h0 hx0
        go_wp2_with fail
        refine (Tryd.strings_Join_none none 0 sep wr).mono ?_
        rintro e w2 ⟨rfl, rfl⟩
        go_wp2_with fail
        go_ret
        exact ⟨by rw [HE1.out]; rfl, hbel⟩
      · subst hv
        have hcl := fun j (hj : j < xs.length) => World.ownsRow.cellAt hrow j (by omega)
        have hglt : g < wr.heap.size := (Array.getElem?_eq_some_iff.1 hg).1
        have HJ := hid (Tryd.strings_Join g 0 cap (jnB xs) sep wr (fun j x hx => by
          have hj : j < (jnB xs).length := (List.getElem?_eq_some_iff.1 hx).1
          rw [Nat.zero_add, hcl j (by omega), List.getElem?_map, hx]; rfl) hglt (by omega) (by omega) (by omega))
        rw [hjl] at HJ
        change Hid (Calls Tryd.prog 43 #[.slice (some ⟨g, 0, none⟩) xs.length cap, .string sep] wr fun e w' => e = .returned (.string (jnT sep xs)) ∧ Below wr.heap.size wr w') at HJ
        clear hrow HR hle hjl hcl htk hg
        go_wp2_with fail
        refine HJ.out.mono ?_
        rintro e w2 ⟨rfl, b2⟩
        go_wp2_with fail
        go_ret
        exact ⟨rfl, Below.next hbel b2⟩
end Go.Proofs.YtjhcbbafldflaaaDoor
