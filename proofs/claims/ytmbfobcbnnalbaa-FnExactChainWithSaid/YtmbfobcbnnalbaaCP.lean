/-
  Several texts in one.
-/
import Derived.Test.YtmbfobcbnnalbaaTakeRim
import Derived.Shelf.SortM.Plain
import Derived.Shelf.SlGeneric
import Derived.Test.YtmbfobcbnnalbaaCB
import Derived.Shelf.SortM.SortNone
import Derived.Lib.OwnBridge
/-
  Plain facts: runs of rims that are taken away. No program in this text.
-/
namespace Go.Proofs.Ytmbfobcbnnalbaa
open Go.RowKit

theorem sum_filter_pos : ∀ (l : List Int), (∀ x ∈ l, 0 ≤ x) → (l.filter fun n => decide (0 < n)).sum = l.sum
  | [], _ => rfl
  | x :: t, h => by
    have ih := sum_filter_pos t (fun y hy => h y (List.mem_cons_of_mem _ hy))
    have hx := h x List.mem_cons_self
    by_cases h0 : 0 < x
    · rw [List.filter_cons_of_pos (by simpa using h0), List.sum_cons, List.sum_cons, ih]
    · rw [List.filter_cons_of_neg (by simpa using h0), List.sum_cons, ih]; omega
theorem sum_le_of : ∀ (xs ys : List Int), xs.length = ys.length → (∀ j, j < xs.length → ys.getD j 0 ≤ xs.getD j 0) → ys.sum ≤ xs.sum
  | [], [], _, _ => by simp
  | [], _ :: _, h, _ => by simp at h
  | _ :: _, [], h, _ => by simp at h
  | x :: t, y :: u, hl, h => by
    have h0 := h 0 (by simp)
    have := sum_le_of t u (by simpa using hl) (fun j hj => by simpa using h (j + 1) (by simpa using hj))
    simp only [List.getD_cons_zero] at h0
    simp only [List.sum_cons]; omega
theorem sum_lt_of : ∀ (xs ys : List Int), xs.length = ys.length → (∀ j, j < xs.length → ys.getD j 0 ≤ xs.getD j 0) → ∀ k, k < xs.length → ys.getD k 0 < xs.getD k 0 → ys.sum < xs.sum
  | [], _, _, _, k, hk, _ => absurd hk (by simp)
  | _ :: _, [], h, _, _, _, _ => by simp at h
  | x :: t, y :: u, hl, h, 0, _, hs => by
    have := sum_le_of t u (by simpa using hl) (fun j hj => by simpa using h (j + 1) (by simpa using hj))
    simp only [List.getD_cons_zero] at hs
    simp only [List.sum_cons]; omega
  | x :: t, y :: u, hl, h, k + 1, hk, hs => by
    have h0 := h 0 (by simp)
    have := sum_lt_of t u (by simpa using hl) (fun j hj => by simpa using h (j + 1) (by simpa using hj)) k (by simpa using hk) (by simpa using hs)
    simp only [List.getD_cons_zero] at h0
    simp only [List.sum_cons]; omega

theorem out_good {xs : List Int} {r k low : Nat} (R : RimOK xs r k low) : Good (outL xs r k low) ∧ (outL xs r k low).sum < xs.sum := by
  have hL := restL_len xs r k low
  have hnn : ∀ x ∈ restL xs r k low, 0 ≤ x := by
    intro x hx
    obtain ⟨j, hj, rfl⟩ := List.getElem_of_mem hx
    have := (R.rest_pos (j := j) (by rw [restL_len] at hj; exact hj)).1
    rw [← restL_get xs r k low j (by rw [restL_len] at hj; exact hj), List.getD_eq_getElem?_getD, List.getElem?_eq_getElem hj] at this
    exact this
  have hsum : (outL xs r k low).sum = (restL xs r k low).sum := sum_filter_pos _ hnn
  have hle : ∀ j, j < xs.length → (restL xs r k low).getD j 0 ≤ xs.getD j 0 := fun j hj => by
    rw [restL_get xs r k low j hj]
    unfold rest
    split
    · rename_i h; have := R.fr_lt h.2; omega
    · omega
  have hlt : (restL xs r k low).sum < xs.sum := by
    refine sum_lt_of xs _ hL.symm hle r (by have := R.low_lt; have := R.r_le; omega) ?_
    rw [restL_get xs r k low r (by have := R.low_lt; have := R.r_le; omega)]
    unfold rest
    rw [if_pos ⟨Nat.le_refl _, R.r_le⟩]
    exact R.fr_lt R.r_le
  obtain ⟨m, h1, h2⟩ := out_ex R xs.length (Nat.le_refl _) (fun j h1 h2 => by omega)
  have hlen : (outL xs r k low).length = m := by rw [← h2, List.length_take, restL_len]; omega
  have hget : ∀ j, j < m → (outL xs r k low).getD j 0 = rest xs r k low j := fun j hj => by
    rw [← h2, List.getD_eq_getElem?_getD, List.getElem?_take, if_pos hj, ← List.getD_eq_getElem?_getD, restL_get xs r k low j (by omega)]
  have hp : ∀ j, j < m → 1 ≤ (outL xs r k low).getD j 0 := fun j hj => by
    have hm : (outL xs r k low).getD j 0 ∈ outL xs r k low := by
      rw [List.getD_eq_getElem?_getD, List.getElem?_eq_getElem (by rw [hlen]; exact hj)]; exact List.getElem_mem _
    have := (List.mem_filter.1 hm).2
    simp only [decide_eq_true_eq] at this
    omega
  have h30 := R.good.len
  have hs := R.good.sum
  refine ⟨⟨by omega, fun j hj => hp j (by omega), fun j hj => ?_, fun j hj => ?_, ?_, by omega⟩, by omega⟩
  · rw [hget j (by omega)]; exact (R.rest_pos (by omega)).2
  · rw [hget j (by omega), hget (j + 1) (by omega)]; exact R.rest_down (by omega)
  · rw [hsum]
    have := sum_le_of (restL xs r k low) (List.replicate (restL xs r k low).length 0) (by simp) (fun j hj => by
      have h0 : (List.replicate (restL xs r k low).length (0 : Int)).getD j 0 = 0 := by rw [List.getD_eq_getElem?_getD, List.getElem?_replicate]; split <;> rfl
      rw [h0, restL_get xs r k low j (by rw [restL_len] at hj; exact hj)]
      exact (R.rest_pos (by rw [restL_len] at hj; exact hj)).1)
    have hz : ∀ n : Nat, (List.replicate n (0 : Int)).sum = 0 := fun n => by induction n with
      | zero => rfl
      | succ n ih => rw [List.replicate_succ, List.sum_cons, ih]; rfl
    rw [hz] at this
    exact this
theorem take_good {xs : List Int} {t k : Int} (h : takeB xs t k = true) : Good (takeF xs t k) ∧ (takeF xs t k).sum < xs.sum ∧ (takeS xs t k = 1 ∨ takeS xs t k = -1) ∧ crB (takeF xs t k) t = true := by
  obtain ⟨hg, k', rfl, hkl⟩ := takeB_nat h
  have hm2 := rimCs_mem (getD_mem (rimCs xs t) k' (0, 0) hkl)
  have R := rim_ok ((good_iff xs).1 (crB_good hg).1) hm2.1 hm2.2
  have ho := out_good R
  have e : takeF xs t k' = outL xs ((rimCs xs t).getD k' (0, 0)).1 ((rimCs xs t).getD k' (0, 0)).2 ((colH xs ((rimCs xs t).getD k' (0, 0)).2).toNat - 1) := by simp [takeF, h, takeL, takeAt, lowN]
  rw [← e] at ho
  refine ⟨ho.1, ho.2, ?_, ?_⟩
  · simp only [takeS, h, if_true, takeSg, sgn]
    split
    · exact .inl rfl
    · exact .inr rfl
  · simp only [crB, (crB_good hg).2, Bool.and_true]
    exact (good_iff _).2 ho.1

def leftAt (xs : List Int) (t : Int) (cs : List Int) : Nat → List Int
  | 0 => xs
  | i + 1 => takeF (leftAt xs t cs i) t (cs.getD i 0)
def sgnAt (xs : List Int) (t : Int) (cs : List Int) : Nat → Int
  | 0 => 1
  | i + 1 => sgnAt xs t cs i * takeS (leftAt xs t cs i) t (cs.getD i 0)
def okTo (xs : List Int) (t : Int) (cs : List Int) : Nat → Bool
  | 0 => true
  | i + 1 => okTo xs t cs i && takeB (leftAt xs t cs i) t (cs.getD i 0)
def trail (xs : List Int) (t : Int) (cs : List Int) (n : Nat) : List (List Int) := (List.range n).map (leftAt xs t cs)
theorem trail_len (xs : List Int) (t : Int) (cs : List Int) (n : Nat) : (trail xs t cs n).length = n := by simp [trail]
theorem trail_succ (xs : List Int) (t : Int) (cs : List Int) (n : Nat) : trail xs t cs (n + 1) = trail xs t cs n ++ [leftAt xs t cs n] := by simp [trail, List.range_succ]
theorem left_good {xs : List Int} {t : Int} {cs : List Int} (hc : crB xs t = true) : ∀ n, okTo xs t cs n = true → crB (leftAt xs t cs n) t = true ∧ (leftAt xs t cs n).sum + n ≤ xs.sum ∧ (sgnAt xs t cs n = 1 ∨ sgnAt xs t cs n = -1)
  | 0, _ => ⟨hc, by simp [leftAt], .inl rfl⟩
  | n + 1, h => by
    simp only [okTo, Bool.and_eq_true] at h
    obtain ⟨_, b, c⟩ := left_good hc n h.1
    obtain ⟨_, e, f, g⟩ := take_good h.2
    refine ⟨g, ?_, ?_⟩
    · simp only [leftAt]; omega
    · simp only [sgnAt]
      rcases c with c | c <;> rcases f with f | f <;> rw [c, f] <;> decide
theorem left_len {xs : List Int} {t : Int} {cs : List Int} (hc : crB xs t = true) (n : Nat) (h : okTo xs t cs n = true) : (leftAt xs t cs n).length ≤ 30 := ((good_iff _).1 (crB_good (left_good hc n h).1).1).len
theorem left_n {xs : List Int} {t : Int} {cs : List Int} (hc : crB xs t = true) (n : Nat) (h : okTo xs t cs n = true) : n ≤ 30 := by
  have h1 := left_good hc n h
  have h2 := ((good_iff _).1 (crB_good h1.1).1).sum0
  have h3 := ((good_iff _).1 (crB_good hc).1).sum
  omega
theorem okTo_le {xs : List Int} {t : Int} {cs : List Int} {n : Nat} : ∀ {m : Nat}, okTo xs t cs m = true → n ≤ m → okTo xs t cs n = true
  | 0, h, hn => by have : n = 0 := by omega
                   subst this; exact h
  | m + 1, h, hn => by
    by_cases e : n = m + 1
    · subst e; exact h
    · simp only [okTo, Bool.and_eq_true] at h
      exact okTo_le h.1 (by omega)
theorem tot_trail {xs : List Int} {t : Int} {cs : List Int} (hc : crB xs t = true) : ∀ n, okTo xs t cs n = true → tot (trail xs t cs (n + 1)) ≤ 30 * (n + 1)
  | 0, h => by
    have := left_len hc 0 h
    rw [trail_succ, tot_append]
    simp only [trail, List.range_zero, List.map_nil, tot]; omega
  | n + 1, h => by
    have h1 := left_len hc (n + 1) h
    have := tot_trail hc n (okTo_le h (by omega))
    rw [trail_succ, tot_append]
    simp only [tot]; omega

def runB (xs : List Int) (t : Int) (cs : List Int) : Bool := crB xs t && (decide (cs.length ≤ 200) && okTo xs t cs cs.length)
def runF (xs : List Int) (t : Int) (cs : List Int) : List (List Int) := if runB xs t cs then trail xs t cs (cs.length + 1) else []
def runS (xs : List Int) (t : Int) (cs : List Int) : Int := if runB xs t cs then sgnAt xs t cs cs.length else 0
theorem bound_RunOf (xs : List Int) (t : Int) (cs : List Int) : (runF xs t cs).length ≤ 1048576 ∧ tot (runF xs t cs) ≤ 1048576 := by
  unfold runF
  split
  · rename_i h
    simp only [runB, Bool.and_eq_true] at h
    have h1 := tot_trail h.1 cs.length h.2.2
    have h2 := left_n h.1 cs.length h.2.2
    rw [trail_len]; omega
  · simp [tot]
/-- Down to the core: how many steps, and the sign. -/
def coreAt (xs : List Int) (t : Int) (n : Nat) : Prop := okTo xs t [] n = true ∧ (rimCs (leftAt xs t [] n) t).length = 0
theorem core_one {xs : List Int} {t : Int} {n m : Nat} (hn : coreAt xs t n) (hm : coreAt xs t m) : n = m := by
  have no : ∀ {a b : Nat}, coreAt xs t a → coreAt xs t b → ¬ a < b := by
    intro a b ha hb hlt
    have h := okTo_le hb.1 (show a + 1 ≤ b from hlt)
    simp only [okTo, Bool.and_eq_true] at h
    obtain ⟨_, k', _, hk⟩ := takeB_nat h.2
    have := ha.2
    omega
  rcases Nat.lt_trichotomy n m with h | h | h
  · exact absurd h (no hn hm)
  · exact h
  · exact absurd h (no hm hn)
open Classical in
noncomputable def signF (xs : List Int) (t : Int) : Int := if h : crB xs t = true ∧ ∃ n, coreAt xs t n then sgnAt xs t [] (Classical.choose h.2) else 0
theorem signF_eq {xs : List Int} {t : Int} {n : Nat} (hc : crB xs t = true) (h : coreAt xs t n) : signF xs t = sgnAt xs t [] n := by
  unfold signF
  rw [dif_pos ⟨hc, n, h⟩]
  have hs := Classical.choose_spec (show ∃ n, coreAt xs t n from ⟨n, h⟩)
  exact congrArg (sgnAt xs t []) (core_one hs h)
theorem signF_f {xs : List Int} {t : Int} (hc : crB xs t = false) : signF xs t = 0 := by
  unfold signF
  rw [dif_neg (by rintro ⟨h, _⟩; rw [hc] at h; cases h)]
theorem take0 {xs : List Int} {t : Int} (hc : crB xs t = true) (h : (rimCs xs t).length ≠ 0) : takeB xs t 0 = true := by
  simp only [takeB, hc, Bool.true_and, Bool.and_eq_true, decide_eq_true_eq]; omega
end Go.Proofs.Ytmbfobcbnnalbaa
/-
  The library's contract laid at this program: sortI.
-/
namespace Go.Proofs.Ytmbfobcbnnalbaa
open Go.RowKit Go.Shelf Go.Sort

def sortIRen : Go.Shelf.Ren := ⟨fun | 5 => 228 | 8 => 224 | 7 => 244 | 19 => 240 | 20 => 241 | 10 => 252 | 11 => 253 | 12 => 254 | 13 => 255 | 14 => 256 | 15 => 257 | 16 => 258 | 17 => 259 | 18 => 260 | 30 => 262 | 31 => 247 | 32 => 248 | 33 => 263 | 34 => 264 | 35 => 251 | 40 => 265 | n => n, fun | 23 => 22 | 25 => 3 | 3 => 3 | 32 => 159 | 22 => 22 | 0 => 0 | 44 => 171 | 46 => 173 | 4 => 4 | 36 => 165 | 35 => 164 | 41 => 23 | 5 => 5 | 9 => 9 | 53 => 175 | 57 => 179 | 63 => 185 | 64 => 186 | n => n, fun | n => n⟩
theorem sortILays : Go.Proofs.SlLaysM.n5 Try.prog sortIRen := {
  mixed := by kernel_rfl
  f5 := ⟨Try.f228.name, by decide, Try.func228.trans (congrArg some (by kernel_rfl))⟩
  f7 := ⟨Try.f244.name, by decide, Try.func244.trans (congrArg some (by kernel_rfl))⟩
  f8 := Try.func224.trans (congrArg some (by kernel_rfl))
  f10 := ⟨Try.f252.name, by decide, Try.func252.trans (congrArg some (by kernel_rfl))⟩
  f11 := ⟨Try.f253.name, by decide, Try.func253.trans (congrArg some (by kernel_rfl))⟩
  f12 := ⟨Try.f254.name, by decide, Try.func254.trans (congrArg some (by kernel_rfl))⟩
  f13 := ⟨Try.f255.name, by decide, Try.func255.trans (congrArg some (by kernel_rfl))⟩
  f14 := ⟨Try.f256.name, by decide, Try.func256.trans (congrArg some (by kernel_rfl))⟩
  f15 := ⟨Try.f257.name, by decide, Try.func257.trans (congrArg some (by kernel_rfl))⟩
  f16 := ⟨Try.f258.name, by decide, Try.func258.trans (congrArg some (by kernel_rfl))⟩
  f17 := ⟨Try.f259.name, by decide, Try.func259.trans (congrArg some (by kernel_rfl))⟩
  f18 := ⟨Try.f260.name, by decide, Try.func260.trans (congrArg some (by kernel_rfl))⟩
  f19 := Try.func240.trans (congrArg some (by kernel_rfl))
  f20 := Try.func241.trans (congrArg some (by kernel_rfl))
  f30 := ⟨Try.f262.name, by decide, Try.func262.trans (congrArg some (by kernel_rfl))⟩
  f31 := Try.func247.trans (congrArg some (by kernel_rfl))
  f32 := Try.func248.trans (congrArg some (by kernel_rfl))
  f33 := ⟨Try.f263.name, by decide, Try.func263.trans (congrArg some (by kernel_rfl))⟩
  f34 := ⟨Try.f264.name, by decide, Try.func264.trans (congrArg some (by kernel_rfl))⟩
  f35 := ⟨Try.f251.name, by decide, Try.func251.trans (congrArg some (by kernel_rfl))⟩
  f40 := ⟨Try.f265.name, by decide, Try.func265.trans (congrArg some (by kernel_rfl))⟩
  t0 := Try.underlying0
  a0 := Try.isAgg0
  z0 := Try.sizeOf0
  v0 := Try.zeroValue0
  t3 := Try.underlying3
  a3 := Try.isAgg3
  z3 := Try.sizeOf3
  v3 := Try.zeroValue3
  t4 := Try.underlying4
  a4 := Try.isAgg4
  z4 := Try.sizeOf4
  v4 := Try.zeroValue4
  t5 := Try.underlying5
  a5 := Try.isAgg5
  z5 := Try.sizeOf5
  v5 := Try.zeroValue5
  t9 := Try.underlying9
  a9 := Try.isAgg9
  z9 := Try.sizeOf9
  v9 := Try.zeroValue9
  t22 := Try.underlying22
  a22 := Try.isAgg22
  z22 := Try.sizeOf22
  v22 := Try.zeroValue22
  t23 := Try.underlying22
  a23 := Try.isAgg22
  z23 := Try.sizeOf22
  v23 := Try.zeroValue22
  t25 := Try.underlying3
  a25 := Try.isAgg3
  z25 := Try.sizeOf3
  v25 := Try.zeroValue3
  t32 := Try.underlying159
  a32 := Try.isAgg159
  z32 := Try.sizeOf159
  v32 := Try.zeroValue159
  t35 := Try.underlying164
  a35 := Try.isAgg164
  z35 := Try.sizeOf164
  v35 := Try.zeroValue164
  t36 := Try.underlying165
  a36 := Try.isAgg165
  z36 := Try.sizeOf165
  v36 := Try.zeroValue165
  t41 := Try.underlying23
  a41 := Try.isAgg23
  z41 := Try.sizeOf23
  v41 := Try.zeroValue23
  t44 := Try.underlying171
  a44 := Try.isAgg171
  z44 := Try.sizeOf171
  v44 := Try.zeroValue171
  t46 := Try.underlying173
  a46 := Try.isAgg173
  z46 := Try.sizeOf173
  v46 := Try.zeroValue173
  t53 := Try.underlying175
  a53 := Try.isAgg175
  z53 := Try.sizeOf175
  v53 := Try.zeroValue175
  t57 := Try.underlying179
  a57 := Try.isAgg179
  z57 := Try.sizeOf179
  v57 := Try.zeroValue179
  t63 := Try.underlying185
  a63 := Try.isAgg185
  z63 := Try.sizeOf185
  v63 := Try.zeroValue185
  t64 := Try.underlying186
  a64 := Try.isAgg186
  z64 := Try.sizeOf186
  v64 := Try.zeroValue186 }
end Go.Proofs.Ytmbfobcbnnalbaa
/-
  The library's sort of a row of ints.
-/
namespace Go.Proofs.Ytmbfobcbnnalbaa
open Go.RowKit Go.Shelf Go.Sort

theorem sortI_any (A : Option Addr) (c : Nat) (xs : List Int) (w : World) (B : Nat) (ho : Own w B A c xs) (hl : xs.length ≤ 1000) :
    Calls Try.prog 228 #[.slice A xs.length c] w fun e w' => e = .returned (.tuple #[]) ∧ Own w' B A c (xs.mergeSort fun x y => decide (x ≤ y)) ∧ ∀ B0 w0, B0 ≤ B → Below B0 w0 w → Below B0 w0 w' := by
  rcases ho.2 with ⟨hv, h0⟩ | ⟨g, cap, cur, hv, hbg, hgg, hrest⟩
  · injection hv with h1 h2 h3
    subst h1; subst h3
    have e : xs = [] := List.eq_nil_of_length_eq_zero h0
    subst e
    have hcall := AnyM.slices_Sort_int_none sortILays none 0 w
    change Calls Try.prog 228 #[.slice none 0 0] w _ at hcall
    refine hcall.mono ?_
    rintro e w' ⟨rfl, rfl⟩
    exact ⟨rfl, by simpa using ho, fun _ _ _ h => h⟩
  · injection hv with h1 h2 h3
    subst h1; subst h3
    have hout : w.ownsRow B 3 1 (.slice (some ⟨g, 0, none⟩) xs.length c) xs.length (xs.map (Value.int .i64)) := ho
    obtain ⟨g', cap', hv', -, hgw, -, -, -, hH⟩ := Lib.holds_of_ownsRow hout (fun e => by injection e with h1; cases h1)
    injection hv' with h1 h2 h3
    injection h1 with h1
    injection h1 with h1
    subst h1; subst h3
    have hcall := AnyM.slices_Sort_int sortILays g 0 c xs w hH hgw (by omega)
    refine hcall.mono ?_
    rintro e w' ⟨rfl, n, os, rfl⟩
    have hml : (xs.mergeSort fun x y => decide (x ≤ y)).length = xs.length := List.length_mergeSort _
    refine ⟨rfl, ?_, ?_⟩
    · have h2 := Lib.ownsRow_putRow (q := n) (k := xs.length) hout hml (Nat.le_refl _)
      rw [List.take_of_length_le (by omega)] at h2
      have h3 := ownsRow_keep (w' := grow (putRow (Value.int .i64) (Sort.ahead w n) g 0 (xs.mergeSort fun x y => decide (x ≤ y)).toArray) os) h2 fun b _ hb => heap_grow_old _ _ hb
      unfold Own
      rw [hml]
      exact h3
    · intro B0 w0 hB0 hbel
      have h3 := Lib.below_putRow (enc := Value.int .i64) (q := n) (d := (xs.mergeSort fun x y => decide (x ≤ y)).toArray) hbel (Nat.le_trans hB0 hbg)
      refine ⟨h3.os, h3.tape, h3.output, ?_, fun k hk => ?_⟩
      · rw [size_grow]; have := h3.size; omega
      · by_cases hks : k < (putRow (Value.int .i64) (Sort.ahead w n) g 0 (xs.mergeSort fun x y => decide (x ≤ y)).toArray).heap.size
        · rw [heap_grow_old _ _ hks]; exact h3.block k hk
        · rw [size_putRow] at hks
          exact absurd (show k < w.heap.size by have := hbel.size; omega) hks
end Go.Proofs.Ytmbfobcbnnalbaa
