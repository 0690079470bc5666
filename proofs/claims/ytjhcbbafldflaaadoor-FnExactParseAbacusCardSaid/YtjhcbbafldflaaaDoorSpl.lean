/-
  Contracts: words of a text, of the model.
-/
import Derived.Test.YtjhcbbafldflaaaDoorPpMath
import Derived.Test.YtjhcbbafldflaaaDoorFromS
namespace Go.Proofs.YtjhcbbafldflaaaDoor
open Go.RowKit Go.Shelf

def mkB (l : List UInt8) : ByteArray := ⟨l.toArray⟩
theorem mkB_str (s : ByteArray) : mkB (strL s) = s := by cases s; simp [mkB, strL]
theorem str_mkB (l : List UInt8) : strL (mkB l) = l := by simp [mkB, strL]
theorem ext_str (s : ByteArray) (f k : Nat) : s.extract f k = mkB (((strL s).drop f).take (k - f)) := by
  apply ByteArray.ext
  apply Array.toList_inj.1
  rw [Lib.extract_data]
  simp [mkB, strL]
theorem strL_len (s : ByteArray) : (strL s).length = s.size := bl_len s
theorem strL_get (s : ByteArray) (k : Nat) (h : k < s.size) : (strL s)[k]'(by rw [strL_len]; exact h) = s[k] := bl_get s k h
/-- How far the words have come: those that are done, where the next one begins. -/
structure Sp (b : UInt8) (s : ByteArray) (done : List (List UInt8)) (f k : Nat) : Prop where
  fk : f ≤ k
  all : spW b (strL s) = done ++ spW b ((strL s).drop f)
  free : b ∉ ((strL s).drop f).take (k - f)
  len : done.length ≤ f
theorem Sp.start (b : UInt8) (s : ByteArray) : Sp b s [] 0 0 := ⟨Nat.le_refl _, by simp, by simp, by simp⟩
theorem drop_at (l : List UInt8) (f k : Nat) (hf : f ≤ k) (hk : k < l.length) : l.drop f = (l.drop f).take (k - f) ++ l[k] :: l.drop (k + 1) := by
  have h1 := (List.take_append_drop (k - f) (l.drop f)).symm
  rw [List.drop_drop, show f + (k - f) = k by omega, List.drop_eq_getElem_cons hk] at h1
  exact h1
theorem Sp.mark {b : UInt8} {s : ByteArray} {done : List (List UInt8)} {f k : Nat} (h : Sp b s done f k) (hk : k < s.size) (hb : s[k] = b) :
    Sp b s (done ++ [((strL s).drop f).take (k - f)]) (k + 1) (k + 1) := by
  have hk2 : k < (strL s).length := by rw [strL_len]; exact hk
  refine ⟨Nat.le_refl _, ?_, by simp, by have := h.len; have := h.fk; rw [List.length_append, List.length_singleton]; omega⟩
  have e := drop_at (strL s) f k h.fk hk2
  rw [strL_get s k hk, hb] at e
  rw [h.all]
  conv => lhs; rw [e]
  rw [(spW_free b _ h.free).2]
  simp
theorem Sp.next {b : UInt8} {s : ByteArray} {done : List (List UInt8)} {f k : Nat} (h : Sp b s done f k) (hk : k < s.size) (hb : s[k] ≠ b) : Sp b s done f (k + 1) := by
  have hk2 : k < (strL s).length := by rw [strL_len]; exact hk
  have hf := h.fk
  refine ⟨by omega, h.all, ?_, h.len⟩
  have e := drop_at (strL s) f k h.fk hk2
  have hl : k - f < ((strL s).drop f).length := by rw [List.length_drop]; omega
  have e3 : ((strL s).drop f)[k - f]'hl = s[k] := by
    have h1 := strL_get s k hk
    have h2 : f + (k - f) = k := by omega
    rw [List.getElem_drop]
    simp only [h2]
    exact h1
  have e2 : ((strL s).drop f).take (k + 1 - f) = ((strL s).drop f).take (k - f) ++ [s[k]] := by
    rw [show k + 1 - f = (k - f) + 1 by omega, List.take_succ_eq_append_getElem hl, e3]
  rw [e2]
  intro hm
  rcases List.mem_append.1 hm with h1 | h1
  · exact h.free h1
  · rw [List.mem_singleton] at h1; exact hb h1.symm
theorem Sp.last {b : UInt8} {s : ByteArray} {done : List (List UInt8)} {f : Nat} (h : Sp b s done f s.size) : spW b (strL s) = done ++ [(strL s).drop f] := by
  have hf := h.fk
  have e : ((strL s).drop f).take (s.size - f) = (strL s).drop f := List.take_of_length_le (by rw [List.length_drop, strL_len]; omega)
  have := h.free
  rw [e] at this
  rw [h.all, (spW_free b _ this).1]
/-- Words as cells. -/
def wcL (ws : List (List UInt8)) : List Value := ws.map fun l => Value.string (mkB l)
theorem wcL_snoc (ws : List (List UInt8)) (l : List UInt8) : wcL (ws ++ [l]) = wcL ws ++ [Value.string (mkB l)] := by simp [wcL]
theorem wcL_get (ws : List (List UInt8)) (k : Nat) (h : k < ws.length) : (wcL ws)[k]? = some (Value.string (mkB (ws.getD k []))) := by
  simp [wcL, List.getD, h]

set_option maxRecDepth 100000 in
set_option maxHeartbeats 4000000 in
theorem l1Split_any (s : ByteArray) (b : UInt8) (n : Int) (w : World) (hs : s.size ≤ 1048576) (hn : (b.toNat : Int) = n) :
    Calls Tryd.prog 35 #[.string s, .int .u8 n] w fun e w' => ∃ v, e = .returned v ∧ w'.ownsRow w.heap.size 9 1 v (spW b (strL s)).length (wcL (spW b (strL s))) ∧ Below w.heap.size w w' := by
  obtain ⟨i0, hi, hz0, hz1, hz2⟩ := info_parts Tryd.infoStr
  go_enter Tryd.func35, Tryd.ntmps35
  go_wp2_with fail
  go_loopw [5, 6, 7] (fun v f i wr => ∃ k f0 done, k ≤ s.size ∧ i = .int .i64 (k : Nat) ∧ f = .int .i64 (f0 : Nat) ∧ f0 ≤ k ∧ Hid (Sp b s done f0 k) ∧ Hid (wr.ownsRow w.heap.size 9 1 v done.length (wcL done)) ∧ Below w.heap.size w wr) (fun _ _ i _ => s.size - (intOf i).toNat)
  case atStart => exact ⟨0, 0, [], Nat.zero_le _, rfl, rfl, Nat.le_refl _, hid (Sp.start b s), hid (World.ownsRow_nil _ _ _ _), Below.refl _ _⟩
  case round =>
    obtain ⟨k, f0, done, hk, rfl, rfl, hfk, HS, HR, hbel⟩ := hrel
    have hsz := hbel.size
    have hdl : done.length ≤ 1048576 := by have := HS.out.len; omega
    by_cases hlt : k < s.size
    · by_cases hb : s[k] = b
      · have hc1 : ((s[k].toNat : Int) = n) := by rw [hb, hn]
        have HX := hid (ext_str s f0 k)
        have HN := hid (HS.out.mark hlt hb)
        have hrow := HR.out.alloc (.cells #[.string (s.extract f0 k)] 9)
        have HE := hid (show wcL (done ++ [((strL s).drop f0).take (k - f0)]) = wcL done ++ [Value.string (s.extract f0 k)] by rw [HX.out, wcL_snoc])
        clear hb HX
        go_wp2_with (at_builtin; refine wpList_append_own _ rfl _ _ 49 rfl w.heap.size 9 i0 (.string ⟨#[]⟩) 1 16 Tryd.underlying49 hi hz0 hz1 hz2 rfl (by decide) _ _ _ rfl hrow ⟨wr.heap.size, 0, none⟩ 1 1 [.string (s.extract f0 k)] rfl rfl one_at (fun u hu => by rw [List.mem_singleton.1 hu]; rfl) (by unfold maxLen; omega) (by omega) (by simp; omega) ?_)
        intro v' w4 hown' hgrow _
        have hb1 : Below w.heap.size w w4 := (hbel.alloc hsz _).grown hgrow (by simp; omega) (fun q hq => (HR.out.lt q hq).1)
        rw [← HE.out] at hown'
        have HO := hid hown'
        clear hown' hgrow hrow
        go_wp2_with fail
        go_roundw
        case rel => exact ⟨k + 1, k + 1, _, by omega, by go_num, by go_num, Nat.le_refl _, HN, hid (by rw [List.length_append]; exact HO.out), hb1⟩
        case measure => simp [intOf]; omega
      · have hc1 : ¬ ((s[k].toNat : Int) = n) := fun e => hb (UInt8.toNat_inj.1 (by omega))
        have HN := hid (HS.out.next hlt hb)
        clear hb
        go_wp2_with fail
        go_roundw
        case rel => exact ⟨k + 1, f0, done, by omega, by go_num, rfl, by omega, HN, HR, hbel⟩
        case measure => simp [intOf]; omega
    · have hke : k = s.size := by omega
      subst hke
      have hx : s.extract f0 s.size = mkB ((strL s).drop f0) := by
        rw [ext_str, List.take_of_length_le (by rw [List.length_drop, strL_len]; omega)]
      have hlast := HS.out.last
      have hrow := HR.out.alloc (.cells #[.string (s.extract f0 s.size)] 9)
      have HE := hid (show wcL (spW b (strL s)) = wcL done ++ [Value.string (s.extract f0 s.size)] by rw [hlast, hx, wcL_snoc])
      have HL := hid (show (spW b (strL s)).length = done.length + 1 by rw [hlast, List.length_append]; rfl)
      clear hx hlast
      go_wp2_with (at_builtin; refine wpList_append_own _ rfl _ _ 49 rfl w.heap.size 9 i0 (.string ⟨#[]⟩) 1 16 Tryd.underlying49 hi hz0 hz1 hz2 rfl (by decide) _ _ _ rfl hrow ⟨wr.heap.size, 0, none⟩ 1 1 [.string (s.extract f0 s.size)] rfl rfl one_at (fun u hu => by rw [List.mem_singleton.1 hu]; rfl) (by unfold maxLen; omega) (by omega) (by simp; omega) ?_)
      intro v' w4 hown' hgrow _
      have hb1 : Below w.heap.size w w4 := (hbel.alloc hsz _).grown hgrow (by simp; omega) (fun q hq => (HR.out.lt q hq).1)
      rw [← HE.out] at hown'
      have HO := hid hown'
      clear hown' hgrow hrow
      go_wp2_with fail
      go_ret
      exact ⟨v', rfl, by rw [HL.out]; exact HO.out, hb1⟩
end Go.Proofs.YtjhcbbafldflaaaDoor
