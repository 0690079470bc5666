/-
  Plain facts: texts of abaci read back. No program's run in this text.
-/
import Derived.Test.YtjhcbbafldflaaaDoorPpMath
import Derived.Test.YtjhcbbafldflaaaDoorSpl
import Derived.Test.YtjhcbbafldflaaaDoorAbt
namespace Go.Proofs.YtjhcbbafldflaaaDoor
open Go.RowKit Go.Shelf

/-- What the model reads. -/
def paW (s : ByteArray) : List (List UInt8) := spW 58 (strL s)
def paR (s : ByteArray) : Int := rdW ((paW s).getD 0 [])
def paL (s : ByteArray) : List Int := if (paW s).getD 1 [] = [45] then [] else (spW 44 ((paW s).getD 1 [])).map rdW
def paB (s : ByteArray) : Bool := decide ((paW s).length = 2) && (isAba (paR s) (paL s) && decide (abT (paR s) (paL s) = s))
def paF (s : ByteArray) : List Int := if paB s then paL s else []
def paT (s : ByteArray) : Int := if paB s then paR s else 0
/-- What the program reads. -/
def cuA (s : ByteArray) : List UInt8 := (Lib.cut (strL s) [58]).1
def cuB (s : ByteArray) : List UInt8 := (Lib.cut (strL s) [58]).2.1
def snX (s : ByteArray) : List Int := if snB 44 (mkB (cuB s)) then snV 44 (mkB (cuB s)) else []
theorem jnT_size2 (sep : ByteArray) (hs : sep.size ≤ 1) (xs : List Int) : ∀ k, k < xs.length → (jnT sep (xs.take (k + 1))).size + 1 ≤ 3 * (k + 1)
  | 0, h => by
    have := numT_size (xs.getD 0 0).toNat
    rw [jnT_snoc sep xs 0 h, if_pos rfl, ByteArray.size_append]
    have : (jnT sep (xs.take 0)).size = 0 := rfl
    omega
  | k + 1, h => by
    have ih := jnT_size2 sep hs xs k (by omega)
    have := numT_size (xs.getD (k + 1) 0).toNat
    rw [jnT_snoc sep xs (k + 1) h, if_neg (by omega), ByteArray.size_append, ByteArray.size_append]
    omega
theorem join_no (b m : UInt8) (hbm : b ≠ m) : ∀ ws : List (List UInt8), (∀ w ∈ ws, b ∉ w) → b ∉ Lib.join ws [m]
  | [], _ => by simp [Lib.join_nil]
  | [w], h => by rw [Lib.join_one]; exact h w (by simp)
  | w :: w2 :: r, h => by
    have e : Lib.join (w :: w2 :: r) [m] = w ++ m :: Lib.join (w2 :: r) [m] := by
      rw [Lib.join_cons, Lib.join_cons]; simp [Lib.joinTail]
    rw [e]
    intro hm
    rcases List.mem_append.1 hm with h1 | h1
    · exact h w (by simp) h1
    · rcases List.mem_cons.1 h1 with h2 | h2
      · exact hbm h2
      · exact join_no b m hbm (w2 :: r) (fun x hx => h x (List.mem_cons_of_mem _ hx)) h2
theorem jn_no {b : UInt8} (hb : b ≠ 44) (hd : ∀ n, n < 100 → b ∉ dgL n) {xs : List Int} (hx : ∀ j, j < xs.length → 0 ≤ xs.getD j 0 ∧ xs.getD j 0 < 100) : b ∉ strL (jnT commaT xs) := by
  have e : strL (jnT commaT xs) = Lib.join (xs.map fun x => dgL x.toNat) [44] := by
    unfold jnT strL; rw [jnB_dg]; rfl
  rw [e]
  refine join_no b 44 hb _ fun w hw => ?_
  obtain ⟨x, hx', rfl⟩ := List.mem_map.1 hw
  obtain ⟨j, hj, rfl⟩ := List.getElem_of_mem hx'
  have := hx j hj
  rw [List.getD_eq_getElem?_getD, List.getElem?_eq_getElem hj] at this
  exact hd _ (by simp at this; omega)
structure PaK (r : Int) (xs : List Int) (s : ByteArray) : Prop where
  len : (paW s).length = 2
  run : paR s = r
  beads : paL s = xs
  okA : okW (cuA s) = true
  valA : vW (cuA s) = r
  okB : snB 44 (mkB (cuB s)) = true ∨ cuB s = [45]
  valB : snX s = xs
  size : s.size ≤ 121
theorem pa_key {r : Int} {xs : List Int} {s : ByteArray} (h : isAba r xs = true) (ht : abT r xs = s) : PaK r xs s := by
  have hab := h
  simp only [isAba, Bool.and_eq_true] at hab
  have hr := inB_iff.1 hab.1
  have GB := goodB_iff.1 hab.2
  obtain ⟨t, rfl⟩ : ∃ t : Nat, r = t := ⟨r.toNat, by omega⟩
  have hx : ∀ j, j < xs.length → 0 ≤ xs.getD j 0 ∧ xs.getD j 0 < 100 := fun j hj => ⟨(GB.top hj).1, by have := (GB.top hj).2; omega⟩
  obtain ⟨d1, d2, d3⟩ := rd_chk t (by omega)
  have hd58 := (dg_chk t (by omega)).2.2.1
  obtain ⟨R, hR⟩ : ∃ R : List UInt8, R = if xs.length = 0 then [45] else strL (jnT commaT xs) := ⟨_, rfl⟩
  have hl : strL s = dgL t ++ 58 :: R := by
    rw [← ht, hR]
    unfold abT strL dgL
    rw [Int.toNat_natCast]
    by_cases h0 : xs.length = 0
    · rw [if_pos h0, if_pos h0]; simp
    · rw [if_neg h0, if_neg h0]; simp
  have hR58 : (58 : UInt8) ∉ R := by
    rw [hR]
    split
    · decide
    · exact jn_no (by decide) (fun n hn => (dg_chk n hn).2.2.1) hx
  have hw : paW s = [dgL t, R] := by
    unfold paW
    rw [hl, (spW_free 58 _ hd58).2, (spW_free 58 R hR58).1]
  have hc : Lib.cut (strL s) [58] = (dgL t, R, true) := by
    have hi := (index_free 58 hd58).2 R
    unfold Lib.cut
    rw [hl, hi, if_pos (by omega)]
    have e1 : ((dgL t).length : Int).toNat = (dgL t).length := by omega
    rw [e1, List.take_left]
    have e2 : (dgL t ++ 58 :: R).drop ((dgL t).length + [(58 : UInt8)].length) = R := by
      rw [← List.drop_drop, List.drop_left]; rfl
    rw [e2]
  have cA : cuA s = dgL t := by unfold cuA; rw [hc]
  have cB : cuB s = R := by unfold cuB; rw [hc]
  have hsz : s.size ≤ 121 := by
    rw [← ht]
    unfold abT
    rw [Int.toNat_natCast, ByteArray.size_append, ByteArray.size_append]
    have h1 : (numT t).size = 1 := by unfold numT; rw [if_pos (by omega)]; rfl
    have h2 : (ByteArray.mk #[58]).size = 1 := rfl
    have h4 := GB.len
    split
    · have h3 : (ByteArray.mk #[45]).size = 1 := rfl
      omega
    · have h3 := jnT_size2 commaT (by decide) xs (xs.length - 1) (by omega)
      rw [show xs.length - 1 + 1 = xs.length by omega, List.take_of_length_le (Nat.le_refl _)] at h3
      omega
  have hrun : paR s = t := by unfold paR; rw [hw]; exact d3
  by_cases h0 : xs.length = 0
  · have hx0 : xs = [] := List.eq_nil_of_length_eq_zero h0
    have hR2 : R = [45] := by rw [hR, if_pos h0]
    refine ⟨by rw [hw]; rfl, hrun, ?_, by rw [cA]; exact d1, by rw [cA]; exact d2, Or.inr (by rw [cB]; exact hR2), ?_, hsz⟩
    · unfold paL; rw [hw, hR2, hx0]; rfl
    · unfold snX
      rw [cB, hR2, hx0]
      have : snB 44 (mkB [45]) = false := by decide +kernel
      rw [this]; rfl
  · have hne : xs ≠ [] := fun e => h0 (by rw [e]; rfl)
    have hR2 : R = strL (jnT commaT xs) := by rw [hR, if_neg h0]
    obtain ⟨k1, k2, k3⟩ := read_all (b := 44) (fun n hn => (dg_chk n hn).2.1) hne hx
    have hmk : mkB R = jnT commaT xs := by rw [hR2, mkB_str]
    have hR45 : R ≠ [45] := by
      intro e
      have := jn_no (b := 45) (by decide) (fun n hn => (dg_chk n hn).2.2.2.1) hx
      rw [← hR2, e] at this
      exact this (by simp)
    refine ⟨by rw [hw]; rfl, hrun, ?_, by rw [cA]; exact d1, by rw [cA]; exact d2, Or.inl (by rw [cB, hmk]; exact k2), ?_, hsz⟩
    · unfold paL
      rw [hw]
      show (if R = [45] then [] else (spW 44 R).map rdW) = xs
      rw [if_neg hR45, hR2]; exact k1
    · unfold snX
      rw [cB, hmk]
      have : snB 44 (jnT commaT xs) = true := k2
      rw [this, if_pos rfl]; exact k3
/-- What the program finds is what the model finds. -/
theorem pa_impl (s : ByteArray) : paB s = (decide (s.size ≤ 121) && (okW (cuA s) && ((snB 44 (mkB (cuB s)) || decide (cuB s = [45])) && (isAba (vW (cuA s)) (snX s) && decide (abT (vW (cuA s)) (snX s) = s)))))
    ∧ (paB s = true → paT s = vW (cuA s) ∧ paF s = snX s) := by
  have h1 : paB s = true → PaK (paR s) (paL s) s ∧ isAba (paR s) (paL s) = true ∧ abT (paR s) (paL s) = s := fun h => by
    unfold paB at h
    rw [Bool.and_eq_true, Bool.and_eq_true, decide_eq_true_eq, decide_eq_true_eq] at h
    exact ⟨pa_key h.2.1 h.2.2, h.2.1, h.2.2⟩
  refine ⟨?_, fun h => ?_⟩
  · cases h : paB s
    · cases hh : (decide (s.size ≤ 121) && (okW (cuA s) && ((snB 44 (mkB (cuB s)) || decide (cuB s = [45])) && (isAba (vW (cuA s)) (snX s) && decide (abT (vW (cuA s)) (snX s) = s)))))
      · rfl
      · exfalso
        simp only [Bool.and_eq_true, decide_eq_true_eq] at hh
        obtain ⟨_, _, _, h2, h3⟩ := hh
        have K := pa_key h2 h3
        unfold paB at h
        rw [K.len, K.run, K.beads, h2, decide_eq_true h3] at h
        cases h
    · obtain ⟨K, h2, h3⟩ := h1 h
      rw [decide_eq_true K.size, K.okA, K.valA, K.valB, h2, decide_eq_true h3]
      rcases K.okB with e | e
      · rw [e]; rfl
      · rw [decide_eq_true e]; simp
  · obtain ⟨K, _, _⟩ := h1 h
    unfold paT paF
    rw [if_pos h, if_pos h, K.valA, K.valB]
    exact ⟨rfl, rfl⟩
end Go.Proofs.YtjhcbbafldflaaaDoor
