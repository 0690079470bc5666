/-
  Several texts in one.
-/
import Derived.Test.YthbkonpclflkhaaCX
import Derived.Test.YthbkonpclflkhaaBack2
/-
  Words of arrows up. No program in this text.
-/
namespace Go.Proofs.Ythbkonpclflkhaa

theorem Good.nil : Good [] := by
  refine ⟨by simp, fun j hj => absurd hj (by simp), fun j hj => absurd hj (by simp), fun j hj => absurd hj (by simp), by simp, by simp⟩
theorem up_eq {m : List Int} (G : Good m) (hs : m.sum ≤ 29) {t : Nat} (ht : 2 ≤ t ∧ t ≤ 6) (i : Int) : upOk m t i = auB m t i ∧ upF m t i = auL m t i ∧ (auB m t i = true → Good (auL m t i) ∧ (auL m t i).sum = m.sum + 1 ∧ 0 ≤ i ∧ i < t) := by
  cases hu : upR (red (sig m t i)) with
  | none =>
    obtain ⟨e1, e2⟩ := au_none hu
    rw [show upOk m t i = (asB m t i && (auB m t i && good (auL m t i))) by simp [upOk], show upF m t i = if asB m t i && good (auL m t i) then auL m t i else [] by simp [upF], e1, e2]
    refine ⟨by simp, by split <;> rfl, fun h => by cases h⟩
  | some r =>
    obtain ⟨e1, e2⟩ := au_some hu
    obtain ⟨h1, h2, h3⟩ := up_ok G hu
    have hres := (sg65 G h3).2
    have hm0 := Int.emod_nonneg (m.getD r 0 - r) (show (t : Int) ≠ 0 by omega)
    have hm1 := Int.emod_lt_of_pos (m.getD r 0 - r) (show (0 : Int) < t by omega)
    rw [hres] at hm0 hm1
    have hG := inc_Good G hs h1 ((add_iff G).2 h2)
    have ha : asB m t i = true := by
      unfold asB
      rw [(good_iff m).2 G, inB_iff.2 (show (2 : Int) ≤ (t : Int) ∧ (t : Int) ≤ 6 by omega), inB_iff.2 (show (0 : Int) ≤ i ∧ i ≤ (t : Int) - 1 by omega)]; rfl
    rw [show upOk m t i = (asB m t i && (auB m t i && good (auL m t i))) by simp [upOk], show upF m t i = if asB m t i && good (auL m t i) then auL m t i else [] by simp [upF], e1, e2, ha, (good_iff _).2 hG]
    exact ⟨rfl, by simp, fun _ => ⟨hG, inc_sum m r h1, hm0, hm1⟩⟩
/-- What k arrows up make, from the word's last letter on. -/
def byN (t : Nat) (word : List Int) : Nat → Option (List Int)
  | 0 => some []
  | k + 1 => (byN t word k).bind fun m => if auB m t (word.getD (word.length - 1 - k) 0) then some (auL m t (word.getD (word.length - 1 - k) 0)) else none
theorem byN_none {t : Nat} {word : List Int} {k : Nat} (h : byN t word k = none) : ∀ d, byN t word (k + d) = none
  | 0 => h
  | d + 1 => by
    have := byN_none h d
    show (byN t word (k + d)).bind _ = none
    rw [this]; rfl
theorem byN_ok {t : Nat} (ht : 2 ≤ t ∧ t ≤ 6) {word : List Int} : ∀ {k : Nat} {m : List Int}, k ≤ 30 → byN t word k = some m → Good m ∧ m.sum = k ∧ ∀ j, j < k → 0 ≤ word.getD (word.length - 1 - j) 0 ∧ word.getD (word.length - 1 - j) 0 < t
  | 0, m, _, h => by
    have e : m = [] := by simpa [byN] using h.symm
    subst e
    exact ⟨Good.nil, rfl, fun j hj => absurd hj (by omega)⟩
  | k + 1, m, hk, h => by
    cases hb : byN t word k with
    | none => rw [byN, hb] at h; cases h
    | some p =>
      obtain ⟨g, s, hl⟩ := byN_ok ht (by omega) hb
      rw [byN, hb] at h
      simp only [Option.bind_some] at h
      split at h
      · rename_i ha
        obtain ⟨_, _, h3⟩ := up_eq g (by omega) ht (word.getD (word.length - 1 - k) 0)
        obtain ⟨a, b, c⟩ := h3 ha
        injection h with h
        subst h
        refine ⟨a, by rw [b, s]; omega, fun j hj => ?_⟩
        by_cases e : j = k
        · subst e; exact c
        · exact hl j (by omega)
      · cases h
def byO (t : Nat) (word : List Int) : Option (List Int) := byN t word word.length
def byL (t : Nat) (word : List Int) : List Int := (byO t word).getD []
def byB (t : Nat) (word : List Int) : Bool := (byO t word).isSome
theorem by_some {t : Nat} {word m : List Int} (h : byN t word word.length = some m) : byL t word = m ∧ byB t word = true := by simp [byL, byB, byO, h]
theorem by_none {t : Nat} {word : List Int} {k : Nat} (hk : k ≤ word.length) (h : byN t word k = none) : byL t word = [] ∧ byB t word = false := by
  have := byN_none h (word.length - k)
  rw [show k + (word.length - k) = word.length by omega] at this
  simp [byL, byB, byO, this]
theorem by_bad {t : Nat} (ht : 2 ≤ t ∧ t ≤ 6) {word : List Int} (hl : word.length ≤ 30) (h : word.all (inB 0 ((t : Int) - 1)) = false) : byL t word = [] ∧ byB t word = false := by
  cases hb : byN t word word.length with
  | none => exact by_none (Nat.le_refl _) hb
  | some m =>
    exfalso
    obtain ⟨_, _, h3⟩ := byN_ok ht hl hb
    rw [List.all_eq_false] at h
    obtain ⟨x, hx, hn⟩ := h
    obtain ⟨j, hj, rfl⟩ := List.getElem_of_mem hx
    have := h3 (word.length - 1 - j) (by omega)
    rw [show word.length - 1 - (word.length - 1 - j) = j by omega, List.getD_eq_getElem?_getD, List.getElem?_eq_getElem hj] at this
    simp only [Option.getD_some] at this
    exact hn (inB_iff.2 (by omega))
theorem byL_len {t : Nat} (ht : 2 ≤ t ∧ t ≤ 6) {word : List Int} (hl : word.length ≤ 30) : (byL t word).length ≤ 30 := by
  cases hb : byN t word word.length with
  | none => rw [(by_none (Nat.le_refl _) hb).1]; simp
  | some m => rw [(by_some hb).1]; exact (byN_ok ht hl hb).1.len
def abwG (t : Int) (word : List Int) : Bool := inB 2 6 t && decide (word.length ≤ 30)
def abwF (t : Int) (word : List Int) : List Int := if abwG t word then byL t.toNat word else []
def abwB (t : Int) (word : List Int) : Bool := abwG t word && byB t.toNat word
theorem bound_ArrowByWord (t : Int) (word : List Int) : (abwF t word).length ≤ 1048576 := by
  unfold abwF; split
  · rename_i h
    simp only [abwG, Bool.and_eq_true, decide_eq_true_eq] at h
    have ht := inB_iff.1 h.1
    have := byL_len (t := t.toNat) (by omega) h.2
    omega
  · simp
/-! The mirror. -/
def mwL (t : Nat) (xs : List Int) : List Int := (awL t xs).map fun i => (-i) % (t : Int)
def mirF (xs : List Int) (t : Int) : List Int := if rgB xs t then byL t.toNat (mwL t.toNat xs) else []
def mirB (xs : List Int) (t : Int) : Bool := rgB xs t && byB t.toNat (mwL t.toNat xs)
theorem mwL_len (t : Nat) (xs : List Int) : (mwL t xs).length = (awL t xs).length := by simp [mwL]
theorem bound_MirrorOf (xs : List Int) (t : Int) : (mirF xs t).length ≤ 1048576 := by
  unfold mirF; split
  · rename_i h
    obtain ⟨_, G, ht, _, _⟩ := rgB_t h
    have h1 := awL_len t.toNat G
    have := byL_len (t := t.toNat) (by omega) (word := mwL t.toNat xs) (by rw [mwL_len]; exact h1)
    omega
  · simp
end Go.Proofs.Ythbkonpclflkhaa
/-
  Contracts: ArrowByWord and MirrorOf of the model.
-/
namespace Go.Proofs.Ythbkonpclflkhaa
open Go.RowKit

set_option maxRecDepth 100000 in
set_option maxHeartbeats 4000000 in
theorem arBy_any (t : Nat) (A : Option Addr) (c : Nat) (xs : List Int) (w : World) (ht : 2 ≤ t ∧ t ≤ 6) (hl : xs.length ≤ 30) (hc : Cells w A xs) :
    Calls Try.prog 98 #[.int .i64 t, .slice A xs.length c] w fun e w' => ∃ A' c', e = .returned (.tuple #[.slice A' (byL t xs).length c', .bool (byB t xs)]) ∧ Own w' w.heap.size A' c' (byL t xs) ∧ Below w.heap.size w w' := by
  have HOK := hid fun k m (hk : k ≤ 30) (h : byN t xs k = some m) => byN_ok ht hk h
  have HSUCC := hid fun k m (h : byN t xs k = some m) => (show byN t xs (k + 1) = if auB m t (xs.getD (xs.length - 1 - k) 0) then some (auL m t (xs.getD (xs.length - 1 - k) 0)) else none by rw [byN, h]; rfl)
  have HSOME := hid fun m (h : byN t xs xs.length = some m) => by_some h
  have HNONE := hid fun k (hk : k ≤ xs.length) (h : byN t xs k = none) => by_none hk h
  have HC := hid hc
  obtain ⟨R, hR⟩ : ∃ R, R = byL t xs := ⟨_, rfl⟩
  obtain ⟨S, hS⟩ : ∃ S, S = byB t xs := ⟨_, rfl⟩
  rw [← hR, ← hS] at HSOME HNONE
  rw [← hR, ← hS]
  clear hR hS hc
  go_enter Try.func98, Try.ntmps98
  go_wp2_with fail
  go_loopw [6, 7] (fun mv kv wr => ∃ (j : Nat) (m : List Int) (A1 : Option Addr) (c1 : Nat), j ≤ xs.length ∧ kv = .int .i64 ((xs.length : Int) - 1 - j) ∧ mv = .slice A1 m.length c1 ∧ Hid (byN t xs j = some m) ∧ Hid (Own wr w.heap.size A1 c1 m) ∧ Below w.heap.size w wr) (fun _ kv _ => (intOf kv + 1).toNat)
  case atStart => exact ⟨0, [], none, 0, Nat.zero_le _, by simp, rfl, hid rfl, hid (own_nil _ _), Below.refl _ _⟩
  case round =>
    obtain ⟨j, m, A1, c1, hj, rfl, rfl, HB, HO, hbel⟩ := hrel
    obtain ⟨g, s, _⟩ := HOK.out j m (by omega) HB.out
    by_cases hlt : j < xs.length
    · obtain ⟨b, o, rfl, hcc⟩ := (HC.out.later hbel) (by omega)
      obtain ⟨p, hp⟩ : ∃ p, p = xs.length - 1 - j := ⟨_, rfl⟩
      have hck := hcc p (by omega)
      have hpi : (xs.length : Int) - 1 - j = (p : Int) := by omega
      have hpl : p < xs.length := by omega
      have hsc := HSUCC.out j m HB.out
      rw [← hp] at hsc
      rw [hpi]
      obtain ⟨x, hx⟩ : ∃ x, x = xs.getD p 0 := ⟨_, rfl⟩
      rw [← hx] at hck hsc
      have HU := hid (arUp_any A1 c1 m t x wr g ht (own_hno HO.out) HO.out.cells)
      have hp0 : (0 : Int) ≤ (p : Int) := by omega
      cases ha : auB m t x
      · rw [ha] at HU hsc
        have hN := HNONE.out (j + 1) (by omega) (by rw [hsc]; rfl)
        have HN := hid hN
        obtain ⟨z, hz⟩ : ∃ z, z = auL m t x := ⟨_, rfl⟩
        rw [← hz] at HU
        clear hsc hcc hx ha hz g s hN hp hpi
        go_wp2_with fail
        refine HU.out.mono ?_
        rintro e w2 ⟨A2, c2, rfl, o2, b2⟩
        have HBB := hid (Below.next hbel b2)
        clear o2 b2
        go_wp2_with fail
        go_ret2
        exact ⟨none, 0, by rw [HN.out.1, HN.out.2]; rfl, by rw [HN.out.1]; exact own_nil _ _, HBB.out⟩
      · rw [ha] at HU hsc
        have HN := hid (show byN t xs (j + 1) = some (auL m t x) by rw [hsc]; rfl)
        obtain ⟨z, hz⟩ : ∃ z, z = auL m t x := ⟨_, rfl⟩
        rw [← hz] at HU HN
        have HP := hid hp
        have HP := hid hp
        clear hsc hcc hx ha hz g s hp hpi
        go_wp2_with fail
        refine HU.out.mono ?_
        rintro e w2 ⟨A2, c2, rfl, o2, b2⟩
        have HBB := hid (Below.next hbel b2)
        have HO2 := hid (o2.more hbel.size)
        clear o2 b2
        go_wp2_with fail
        go_roundw
        case rel => exact ⟨j + 1, z, A2, c2, by omega, by congr 1; have := HP.out; omega, rfl, HN, HO2, HBB.out⟩
        case measure => simp [intOf] <;> omega
    · have hje : j = xs.length := by omega
      have hm1 : (xs.length : Int) - 1 - j = -1 := by omega
      have hS := HB.out
      rw [hje] at hS
      have HS := hid (HSOME.out m hS)
      rw [hm1]
      clear hS hje hm1 g s
      go_wp2_with fail
      go_ret2
      exact ⟨A1, c1, by rw [HS.out.1, HS.out.2]; rfl, by rw [HS.out.1]; exact HO.out, hbel⟩

set_option maxRecDepth 100000 in
set_option maxHeartbeats 1000000 in
theorem spec_ArrowByWord (t : Int) (A : Option Addr) (c : Nat) (xs : List Int) (w : World) (_ : I64 t) (hl : xs.length ≤ 1048576) (hc : Cells w A xs) :
    Calls Try.prog 47 #[.int .i64 t, .slice A xs.length c] w fun e w' => ∃ A' c', e = .returned (.tuple #[.slice A' (abwF t xs).length c', .bool (abwB t xs)]) ∧ Own w' w.heap.size A' c' (abwF t xs) ∧ Below w.heap.size w w' := by
  cases ht : inB 2 6 t
  · rw [show abwF t xs = [] by simp [abwF, abwG, ht], show abwB t xs = false by simp [abwB, abwG, ht]]
    have HT := hid ht
    clear ht
    go_enter Try.func47, Try.ntmps47
    go_wp2_with (go_at_call 82; refine (chRunners_b _ _ _ HT.out).mono ?_; rintro e w' ⟨rfl, rfl⟩)
    go_ret2
    exact ⟨none, 0, rfl, own_nil _ _, Below.refl _ _⟩
  by_cases h30 : 30 < xs.length
  · rw [show abwF t xs = [] by simp [abwF, abwG, show ¬ xs.length ≤ 30 by omega], show abwB t xs = false by simp [abwB, abwG, show ¬ xs.length ≤ 30 by omega]]
    have HT := hid ht
    have h30i : (30 : Int) < (xs.length : Int) := by omega
    clear ht h30
    go_enter Try.func47, Try.ntmps47
    go_wp2_with (go_at_call 82; refine (chRunners_b _ _ _ HT.out).mono ?_; rintro e w' ⟨rfl, rfl⟩)
    go_ret2
    exact ⟨none, 0, rfl, own_nil _ _, Below.refl _ _⟩
  have htb := inB_iff.1 ht
  obtain ⟨n, rfl⟩ : ∃ n : Nat, t = n := ⟨t.toNat, by omega⟩
  have hlen : xs.length ≤ 30 := by omega
  have hG : abwG n xs = true := by simp [abwG, ht, hlen]
  rw [show abwF n xs = byL n xs by simp [abwF, hG], show abwB n xs = byB n xs by simp [abwB, hG]]
  have HT := hid ht
  have hn30 : ¬ (30 : Int) < (xs.length : Int) := by omega
  have hw : IntKind.i64.wrap ((n : Int) - 1) = (n : Int) - 1 := IntWalk.i64_in _ (by omega)
  have HBY := hid (arBy_any n A c xs w (by omega) hlen hc)
  cases ha : xs.all (inB 0 ((n : Int) - 1))
  · obtain ⟨e1, e2⟩ := by_bad (t := n) (by omega) hlen ha
    rw [e1, e2]
    have HA := hid ha
    clear ha ht h30 hG e1 e2
    go_enter Try.func47, Try.ntmps47
    go_wp2_with (first | (go_at_call 82; refine (chRunners_b _ _ _ HT.out).mono ?_; rintro e w' ⟨rfl, rfl⟩) | (go_at_call 97; refine (l1All_b _ _ _ _ _ _ hl hc _ HA.out).mono ?_; rintro e w' ⟨rfl, rfl⟩))
    go_ret2
    exact ⟨none, 0, rfl, own_nil _ _, Below.refl _ _⟩
  · have HA := hid ha
    obtain ⟨R, hR⟩ : ∃ R, R = byL n xs := ⟨_, rfl⟩
    obtain ⟨S, hS⟩ : ∃ S, S = byB n xs := ⟨_, rfl⟩
    rw [← hR, ← hS] at HBY
    rw [← hR, ← hS]
    clear ha ht h30 hG hR hS
    go_enter Try.func47, Try.ntmps47
    go_wp2_with (first | (go_at_call 82; refine (chRunners_b _ _ _ HT.out).mono ?_; rintro e w' ⟨rfl, rfl⟩) | (go_at_call 97; refine (l1All_b _ _ _ _ _ _ hl hc _ HA.out).mono ?_; rintro e w' ⟨rfl, rfl⟩))
    refine HBY.out.mono ?_
    rintro e w2 ⟨A2, c2, rfl, o2, b2⟩
    have HO := hid o2
    have HB := hid b2
    clear o2 b2
    go_wp2_with fail
    go_ret2
    exact ⟨A2, c2, rfl, HO.out, HB.out⟩
end Go.Proofs.Ythbkonpclflkhaa
/-
  Contract: ArrowByWord of the program: a walk backwards over the word that may be left early.
-/
namespace Go.Proofs.Ythbkonpclflkhaa
open Go.RowKit Go.Shelf
attribute [local go_sem] Oper.semAt_some

theorem run_loadVar_one {P : Program} (w : World) (g : Nat) (ty : TypeId) (v : Value) (hagg : (isAgg ty).run P w = .ok false w) (hc : w.cell? ⟨g, 0, none⟩ = some v) : (loadVar ty ⟨g, 0, none⟩).run P w = .ok v w := by
  simp [loadVar, Sem.run_bind, hagg, Result.andThen, go_sem, hc]
theorem results_cells2 {P : Program} {fn : Func} {p q : Tmp} {t u : TypeId} (h : fn.results = #[.cell p t, .cell q u]) (tmps : Array Value) (w : World) (g k : Nat) (v x : Value)
    (hp : tmps.getD p undef = .pointer (some ⟨g, 0, none⟩)) (hq : tmps.getD q undef = .pointer (some ⟨k, 0, none⟩)) (ht : (isAgg t).run P w = .ok false w) (hu : (isAgg u).run P w = .ok false w)
    (hv : w.cell? ⟨g, 0, none⟩ = some v) (hx : w.cell? ⟨k, 0, none⟩ = some x) : (results fn tmps).run P w = .ok (.tuple #[v, x]) w := by
  have hp' : tmps[p]?.getD undef = .pointer (some ⟨g, 0, none⟩) := by simpa using hp
  have hq' : tmps[q]?.getD undef = .pointer (some ⟨k, 0, none⟩) := by simpa using hq
  simp [results, h, hp', hq', asAddr, run_loadVar_one w g t v ht hv, run_loadVar_one w k u x hu hx, Sem.run_bind, Result.andThen]

theorem boxed_below {W W' : World} {B : Nat} {t : TypeId} {v : Value} (h : Boxed W B t v) (hb : Below W.heap.size W W') : Boxed W' B t v := (hb.block B h.lt).trans h
theorem keeps_below {W W' : World} (B : Nat) (h : Below W.heap.size W W') : KeepsFrom B W W' :=
  ⟨h.size, fun k _ _ hk _ => (h.block k (Array.getElem?_eq_some_iff.1 hk).1).trans hk⟩
theorem keeps_set (B : Nat) (W : World) (b : Nat) (v : Value) (hb : b < B) : KeepsFrom B W (W.setCell ⟨b, 0, none⟩ v) :=
  KeepsFrom.of_grownBy (grownBy_setCell' W b v) (fun j e => by cases e; exact hb)
/-- What the letters that have come make. -/
def byP (t : Nat) (pre : List (Int × Int)) : Option (List Int) := pre.foldl (fun o x => o.bind fun m => if auB m t x.2 then some (auL m t x.2) else none) (some [])
theorem byP_snoc (t : Nat) (pre : List (Int × Int)) (x : Int × Int) : byP t (pre ++ [x]) = (byP t pre).bind fun m => if auB m t x.2 then some (auL m t x.2) else none := by
  simp [byP, List.foldl_append]
theorem byP_up (t : Nat) (word : List Int) : ∀ k, byP t (upto (bk word) k) = byN t word k
  | 0 => rfl
  | k + 1 => by rw [upto_succ, byP_snoc, byP_up t word k]; rfl
theorem byP_ok {t : Nat} (ht : 2 ≤ t ∧ t ≤ 6) (pre : List (Int × Int)) : ∀ {m : List Int}, pre.length ≤ 30 → byP t pre = some m → Good m ∧ m.sum = pre.length := by
  induction pre using snoc_ind with
  | h0 => intro m _ h; have e : m = [] := by simpa [byP] using h.symm
          subst e; exact ⟨Good.nil, rfl⟩
  | h1 l a ih =>
    intro m hl h
    rw [List.length_append, List.length_singleton] at hl ⊢
    rw [byP_snoc] at h
    cases hb : byP t l with
    | none => rw [hb] at h; cases h
    | some p =>
      obtain ⟨g, s⟩ := ih (by omega) hb
      rw [hb] at h
      simp only [Option.bind_some] at h
      split at h
      · rename_i ha
        obtain ⟨_, _, h3⟩ := up_eq g (by omega) ht a.2
        obtain ⟨e1, e2, _⟩ := h3 ha
        injection h with h
        subst h
        exact ⟨e1, by rw [e2, s]; omega⟩
      · cases h

set_option maxRecDepth 100000 in
set_option maxHeartbeats 8000000 in
theorem ArrowByWord_in (n : Nat) (A : Option Addr) (cap : Nat) (xs : List Int) (w : World) (hn : 2 ≤ n ∧ n ≤ 6) (hl : xs.length ≤ 30) (hc : Cells w A xs) :
    CallsIn Fence.wide 5 Try.prog 48 #[.int .i64 n, .slice A xs.length cap] w fun e W' => ∃ A' c', e = .returned (.tuple #[.slice A' (byL n xs).length c', .bool (byB n xs)]) ∧ Own W' w.heap.size A' c' (byL n xs) ∧ Below w.heap.size w W' := by
  have HT := hid (inB_iff.2 (show (2 : Int) ≤ (n : Int) ∧ (n : Int) ≤ 6 by omega))
  have hn30 : ¬ (30 : Int) < (xs.length : Int) := by omega
  have q0 := Boxed.new w 3 (.int .i64 n)
  have q1 := Boxed.new (w.alloc (.cells #[.int .i64 n] 3)) 22 (.slice none 0 0)
  have q2 := Boxed.new ((w.alloc (.cells #[.int .i64 n] 3)).alloc (.cells #[.slice none 0 0] 22)) 4 (.bool false)
  rw [World.size_alloc] at q1
  rw [World.size_alloc, World.size_alloc] at q2
  obtain ⟨w1, hw1⟩ : ∃ w1, w1 = ((w.alloc (.cells #[.int .i64 n] 3)).alloc (.cells #[.slice none 0 0] 22)).alloc (.cells #[.bool false] 4) := ⟨_, rfl⟩
  have t1 : Boxed w1 w.heap.size 3 (.int .i64 n) := by rw [hw1]; exact (q0.alloc _).alloc _
  have r1 : Boxed w1 (w.heap.size + 1) 22 (.slice none 0 0) := by rw [hw1]; exact q1.alloc _
  have k1 : Boxed w1 (w.heap.size + 1 + 1) 4 (.bool false) := by rw [hw1]; exact q2
  have b1 : Below w.heap.size w w1 := by rw [hw1]; exact (((Below.refl _ _).alloc (Nat.le_refl _) _).alloc (by simp) _).alloc (by simp; omega) _
  have z1 : w1.heap.size = w.heap.size + 1 + 1 + 1 := by rw [hw1]; simp
  have HW1 := hid hw1
  have Z1 := hid z1
  clear z1
  have ft1 := t1.cell
  clear q0 q1 q2 hw1
  refine callsIn_of_wp_marks Try.func48 rfl trivial ?_ rfl
  simp only [Try.ntmps48, List.size_toArray, List.length_cons, List.length_nil, Nat.reduceAdd, Nat.reduceSub, Array.replicate_succ, Array.replicate_zero, List.push_toArray, List.append_toArray, List.nil_append, List.cons_append]
  gi_wp2
  rw [← HW1.out]
  refine ⟨trivial, (callsIn_wide.2 (hasRunners_b _ _ _ HT.out)).mono ?_⟩
  rintro e w' ⟨rfl, rfl⟩
  gi_wp2_with (refine ⟨trivial, ?_⟩; gi_at_call 99; refine (back_in Fence.wide 4 trivial rfl _ _ _ _).mono ?_; rintro e w' ⟨rfl, rfl⟩)
  rw [decide_eq_false (show ¬ (30 : Int) < (xs.length : Int) by omega)]
  have z1 := Z1.out
  have m0 := Boxed.new w1 22 (.slice none 0 0)
  have s0 := Boxed.new (w1.alloc (.cells #[.slice none 0 0] 22)) 22 (.slice A xs.length cap)
  rw [World.size_alloc] at s0
  obtain ⟨w3, hw3⟩ : ∃ w3, w3 = (w1.alloc (.cells #[.slice none 0 0] 22)).alloc (.cells #[.slice A xs.length cap] 22) := ⟨_, rfl⟩
  have m3 : Boxed w3 w1.heap.size 22 (.slice none 0 0) := by rw [hw3]; exact m0.alloc _
  have s3 : Boxed w3 (w1.heap.size + 1) 22 (.slice A xs.length cap) := by rw [hw3]; exact s0
  have b3 : Below w1.heap.size w1 w3 := by rw [hw3]; exact ((Below.refl _ _).alloc (Nat.le_refl _) _).alloc (by simp) _
  have z3 : w3.heap.size = w1.heap.size + 1 + 1 := by rw [hw3]; simp
  have t3 := boxed_below t1 b3
  have r3 := boxed_below r1 b3
  have k3 := boxed_below k1 b3
  have hc3 := (hc.below b1).below b3
  rw [← hw3]
  clear m0 s0 hw3
  have hst := back_stops Fence.wide 4 trivial rfl (by omega) (w1.heap.size + 1) w.heap.size A cap xs (by omega) w3 (by omega) s3.cell (fun h0 => cells_lt hc h0) hc3
  refine wpIn_rangeFunc_ownG rfl (by omega) (gf := 152) (lb := #[.pointer (some ⟨w1.heap.size + 1, 0, none⟩)]) rfl trivial (enters_of Try.func152 (by kernel_rfl) rfl)
    hst KeepB.trans (keepB_b (by omega) (by omega)) (Below.refl _ _) (fun _ => rfl)
    (fun pre W => ((∃ v, Boxed W w1.heap.size 22 v ∧ W.ownsRow w1.heap.size 3 1 v ((byP n pre).getD []).length (IL ((byP n pre).getD [])) ∧ (byP n pre).isSome = true) ∧ (Boxed W (w1.heap.size + 1) 22 (.slice A xs.length cap) ∧ (Boxed W w.heap.size 3 (.int .i64 n) ∧ (Boxed W (w.heap.size + 1) 22 (.slice none 0 0) ∧ Boxed W (w.heap.size + 1 + 1) 4 (.bool false))))) ∧ Below w.heap.size w W)
    (fun c pre W => ((c = .ret ∧ byP n pre = none) ∧ (Boxed W (w.heap.size + 1) 22 (.slice none 0 0) ∧ Boxed W (w.heap.size + 1 + 1) 4 (.bool false))) ∧ Below w.heap.size w W)
    (OwnFrom.and (OwnFrom.and (Own.from (holdsRow_own w1.heap.size w1.heap.size 22 3 1 (fun pre => ((byP n pre).getD []).length) (fun pre => IL ((byP n pre).getD [])) (fun pre _ => (byP n pre).isSome = true)) _) (OwnFrom.and (Own.from (boxed_own _ _ _) _) (OwnFrom.and (Own.from (boxed_own _ _ _) _) (OwnFrom.and (Own.from (boxed_own _ _ _) _) (Own.from (boxed_own _ _ _) _))))) (ownFrom_below (Nat.le_refl _) (by omega)))
    (fun _ => OwnFrom.and (OwnFrom.and (fun _ _ _ _ hs _ _ => hs) (OwnFrom.and (Own.from (boxed_own _ _ _) _) (Own.from (boxed_own _ _ _) _))) (ownFrom_below (Nat.le_refl _) (by omega)))
    ⟨⟨⟨_, m3, World.ownsRow_nil _ _ _ _, rfl⟩, s3, t3, r3, k3⟩, Below.next b1 b3⟩
    (fun x => { tmps := #[.int .i64 n, .slice A xs.length cap, .pointer (some ⟨w.heap.size, 0, none⟩), undef, .pointer (some ⟨w.heap.size + 1, 0, none⟩), .pointer (some ⟨w.heap.size + 1 + 1, 0, none⟩), .pointer (some ⟨w1.heap.size, 0, none⟩), undef, .int .i64 x.2, undef, undef, .int .i64 n, .bool true, .bool false, .bool false, .slice A xs.length cap, .int .i64 xs.length, .bool false, .bool false, .slice A xs.length cap, .func (.func 152) #[] #[.pointer (some ⟨w1.heap.size + 1, 0, none⟩)], .int .i64 x.1, .int .i64 x.2, undef, undef, undef, undef, undef, undef, undef, undef, undef, undef, undef], defers := [] }) ?assign ?body ?done ?stop
  case assign =>
    intro l x W K hK
    clear z1 z3
    gi_wp2
    exact hK
  case body =>
    rintro l pre x W ⟨⟨⟨v, hv, hrow, hsome⟩, hs, ht, hr, hk⟩, hB⟩ hlt
    have Z3 := hid z3
    clear z1 z3
    cases hb : byP n pre with
    | none => rw [hb] at hsome; cases hsome
    | some m =>
      rw [hb] at hrow
      simp only [Option.getD_some] at hrow
      obtain ⟨g, sm⟩ := byP_ok hn pre (by omega) hb
      obtain ⟨e1, e2, e3⟩ := up_eq g (by omega) hn x.2
      obtain ⟨Am, cm, rfl, hom⟩ := own_form hrow rfl
      have hcall := impl_ArrowUpC Am cm m n x.2 W (by have := g.len; omega) (own_hno hom) hom.cells
      rw [e1, e2] at hcall
      have hnx := byP_snoc n pre x
      rw [hb] at hnx
      simp only [Option.bind_some] at hnx
      have hcv := hv.cell
      have hct := ht.cell
      have hsz := hB.size
      have hl3 := hv.lt
      cases ha : auB m n x.2
      · rw [ha] at hcall hnx
        have HN := hid (show byP n (pre ++ [x]) = none by rw [hnx]; rfl)
        have HCA := hid hcall
        obtain ⟨R, hR⟩ : ∃ R, R = auL m n x.2 := ⟨_, rfl⟩
        rw [← hR] at HCA
        clear hnx hcall e1 e2 e3 ha hR g sm
        gi_wp2
        refine ⟨trivial, (CallsIn.inRound l (callsIn_wide.2 HCA.out)).mono ?_⟩
        rintro e W2 ⟨A2, c2, rfl, o2, b2⟩
        have hr2 := boxed_below hr b2
        have hk2 := boxed_below hk b2
        have fr2 := hr2.frozen
        have fk2 := hk2.frozen
        have cr2 := hr2.cell
        have ck2 := hk2.cell
        have HB2 := hid b2
        have HR2 := hid hr2
        have HK2 := hid hk2
        clear b2 hr2 hk2
        gi_wp2
        have hz := Z3.out
        have hz1 := Z1.out
        exact ⟨((keeps_below _ HB2.out).trans (keeps_set _ _ _ _ (by omega))).trans (keeps_set _ _ _ _ (by omega)), ⟨⟨rfl, HN.out⟩, (HR2.out.set _).other (B' := w.heap.size + 1 + 1) (by omega) _, (HK2.out.other (B' := w.heap.size + 1) (by omega) _).set _⟩, ((Below.next hB HB2.out).setCell (Nat.le_succ _) _).setCell (by show w.heap.size ≤ w.heap.size + 1 + 1; omega) _⟩
      · rw [ha] at hcall hnx
        have HN := hid (show byP n (pre ++ [x]) = some (auL m n x.2) by rw [hnx]; rfl)
        have HCA := hid hcall
        obtain ⟨R, hR⟩ : ∃ R, R = auL m n x.2 := ⟨_, rfl⟩
        rw [← hR] at HCA HN
        clear hnx hcall e1 e2 e3 ha hR g sm
        gi_wp2
        refine ⟨trivial, (CallsIn.inRound l (callsIn_wide.2 HCA.out)).mono ?_⟩
        rintro e W2 ⟨A2, c2, rfl, o2, b2⟩
        have hv2 := boxed_below hv b2
        have fv2 := hv2.frozen
        have cv2 := hv2.cell
        have HB2 := hid b2
        have HO2 := hid o2
        have HV2 := hid hv2
        clear b2 hv2 o2
        gi_wp2
        have hz := Z3.out
        have hz1 := Z1.out
        have hs2 := (boxed_below hs HB2.out).other (B' := w1.heap.size) (by omega) (.slice A2 R.length c2)
        have hor : Own (W2.setCell ⟨w1.heap.size, 0, none⟩ (.slice A2 R.length c2)) w1.heap.size A2 c2 R :=
          (HO2.out.keep fun b hb hlt => Below.heap_setCell _ _ _ b (by have := (HO2.out.block b hb).1; show b ≠ w1.heap.size; omega)).more (by omega)
        exact ⟨(keeps_below _ HB2.out).trans (keeps_set _ _ _ _ (by omega)), ⟨(HB2.out.mono hsz).setCell (by show w.heap.size ≤ w1.heap.size; omega) _, hs2.trans hs.symm⟩,
          ⟨⟨_, HV2.out.set _, by rw [HN.out]; exact hor, by rw [HN.out]; rfl⟩, hs2, (boxed_below ht HB2.out).other (B' := w1.heap.size) (by omega) _, (boxed_below hr HB2.out).other (B' := w1.heap.size) (by omega) _, (boxed_below hk HB2.out).other (B' := w1.heap.size) (by omega) _⟩, (Below.next hB HB2.out).setCell (by show w.heap.size ≤ w1.heap.size; omega) _⟩
  case stop =>
    rintro D c pre W hD ⟨k, hk, rfl⟩ ⟨⟨⟨rfl, hno⟩, hr, hok⟩, hB⟩ hKD
    have Z3 := hid z3
    clear z1 z3
    rw [byP_up] at hno
    obtain ⟨e1, e2⟩ := by_none hk hno
    have E := hid (And.intro e1 e2)
    clear e1 e2
    gi_wp2
    refine ⟨by simp, .inl ⟨_, _, rfl, run_takeDeferred hKD, ?_⟩⟩
    have g0 := grownBy_putObj' W D (.deferred none)
    have hlr := hr.lt
    have hlk := hok.lt
    have hz := Z3.out
    have hz1 := Z1.out
    refine ⟨_, results_cells2 rfl _ _ _ _ _ _ rfl rfl (run_isAgg_plain Try.underlying22 rfl _) (run_isAgg_plain Try.underlying4 rfl _) (hr.kept g0 (by simp; omega)).cell (hok.kept g0 (by simp; omega)).cell, none, 0, by rw [E.out.1, E.out.2]; rfl, by rw [E.out.1]; exact own_nil _ _, hB.trans (belowK_b (w := w) (Nat.le_refl _) W D _ _ (by omega) hKD rfl rfl)⟩
  case done =>
    rintro D ys W hD rfl ⟨⟨⟨v, hv, hrow, hsome⟩, hs, ht, hr, hk⟩, hB⟩ hKD
    have Z3 := hid z3
    clear z1 z3
    rw [byP_up] at hrow hsome
    cases hb : byN n xs xs.length with
    | none => rw [hb] at hsome; cases hsome
    | some m =>
      obtain ⟨e1, e2⟩ := by_some hb
      rw [hb] at hrow
      simp only [Option.getD_some] at hrow
      obtain ⟨Am, cm, rfl, hom⟩ := own_form hrow rfl
      have E := hid (And.intro e1 e2)
      have hcv := hv.cell
      have fr := hr.frozen
      have fk := hk.frozen
      have cr := hr.cell
      have ck := hk.cell
      clear e1 e2 hb hsome
      have hz := Z3.out
      have hz1 := Z1.out
      have fk2 := (hk.other (B' := w.heap.size + 1) (by omega) (.slice Am m.length cm)).frozen
      have ck2 := (hk.other (B' := w.heap.size + 1) (by omega) (.slice Am m.length cm)).cell
      have HZ := hid hz
      have HZ1 := hid hz1
      clear hz hz1
      gi_wp2
      have hz := HZ.out
      have hz1 := HZ1.out
      have k1' : (W.setCell ⟨w.heap.size + 1, 0, none⟩ (.slice Am m.length cm)).heap[D]? = some (.deferred (some [])) := (Below.heap_setCell _ _ _ D (by show D ≠ w.heap.size + 1; omega)).trans hKD
      have k2' : ((W.setCell ⟨w.heap.size + 1, 0, none⟩ (.slice Am m.length cm)).setCell ⟨w.heap.size + 1 + 1, 0, none⟩ (.bool true)).heap[D]? = some (.deferred (some [])) := (Below.heap_setCell _ _ _ D (by show D ≠ w.heap.size + 1 + 1; omega)).trans k1'
      refine ⟨by simp, .inl ⟨_, _, rfl, run_takeDeferred k2', ?_⟩⟩
      have g0 := grownBy_putObj' ((W.setCell ⟨w.heap.size + 1, 0, none⟩ (.slice Am m.length cm)).setCell ⟨w.heap.size + 1 + 1, 0, none⟩ (.bool true)) D (.deferred none)
      have hrr := (hr.set (.slice Am m.length cm)).other (B' := w.heap.size + 1 + 1) (by omega) (.bool true)
      have hkk := (hk.other (B' := w.heap.size + 1) (by omega) (.slice Am m.length cm)).set (.bool true)
      have hb2 : Below w.heap.size w ((W.setCell ⟨w.heap.size + 1, 0, none⟩ (.slice Am m.length cm)).setCell ⟨w.heap.size + 1 + 1, 0, none⟩ (.bool true)) := (hB.setCell (by show w.heap.size ≤ w.heap.size + 1; omega) _).setCell (by show w.heap.size ≤ w.heap.size + 1 + 1; omega) _
      have hoo : Own ((W.setCell ⟨w.heap.size + 1, 0, none⟩ (.slice Am m.length cm)).setCell ⟨w.heap.size + 1 + 1, 0, none⟩ (.bool true)) w1.heap.size Am cm m :=
        hom.keep fun b hb hlt => (Below.heap_setCell _ _ _ b (by have := (hom.block b hb).1; show b ≠ w.heap.size + 1 + 1; omega)).trans (Below.heap_setCell _ _ _ b (by have := (hom.block b hb).1; show b ≠ w.heap.size + 1; omega))
      have hoo2 := ownsRow_putObj hoo (.deferred none) k2' rfl
      exact ⟨_, results_cells2 rfl _ _ _ _ _ _ rfl rfl (run_isAgg_plain Try.underlying22 rfl _) (run_isAgg_plain Try.underlying4 rfl _) (hrr.kept g0 (by simp; omega)).cell (hkk.kept g0 (by simp; omega)).cell, Am, cm, by rw [E.out.1, E.out.2], by rw [E.out.1]; exact Own.more hoo2 (by omega), hb2.trans (belowK_b (w := w) (Nat.le_refl _) _ D _ _ (by omega) k2' rfl rfl)⟩

set_option maxRecDepth 100000 in
set_option maxHeartbeats 2000000 in
theorem ArrowByWord_no (t : Int) (A : Option Addr) (cap : Nat) (xs : List Int) (w : World) (hl : xs.length ≤ 1048576) (h : abwG t xs = false) :
    Calls Try.prog 48 #[.int .i64 t, .slice A xs.length cap] w fun e w' => ∃ A' c', e = .returned (.tuple #[.slice A' ([] : List Int).length c', .bool false]) ∧ Own w' w.heap.size A' c' [] ∧ Below w.heap.size w w' := by
  have q0 := Boxed.new w 3 (.int .i64 t)
  have q1 := Boxed.new (w.alloc (.cells #[.int .i64 t] 3)) 22 (.slice none 0 0)
  have q2 := Boxed.new ((w.alloc (.cells #[.int .i64 t] 3)).alloc (.cells #[.slice none 0 0] 22)) 4 (.bool false)
  rw [World.size_alloc] at q1
  rw [World.size_alloc, World.size_alloc] at q2
  obtain ⟨w1, hw1⟩ : ∃ w1, w1 = ((w.alloc (.cells #[.int .i64 t] 3)).alloc (.cells #[.slice none 0 0] 22)).alloc (.cells #[.bool false] 4) := ⟨_, rfl⟩
  have t1 : Boxed w1 w.heap.size 3 (.int .i64 t) := by rw [hw1]; exact (q0.alloc _).alloc _
  have r1 : Boxed w1 (w.heap.size + 1) 22 (.slice none 0 0) := by rw [hw1]; exact q1.alloc _
  have k1 : Boxed w1 (w.heap.size + 1 + 1) 4 (.bool false) := by rw [hw1]; exact q2
  have b1 : Below w.heap.size w w1 := by rw [hw1]; exact (((Below.refl _ _).alloc (Nat.le_refl _) _).alloc (by simp) _).alloc (by simp; omega) _
  have HW1 := hid hw1
  have ft1 := t1.cell
  have fr1 := r1.frozen
  have fk1 := k1.frozen
  have cr1 := r1.cell
  have ck1 := k1.cell
  have fk2 := (k1.other (B' := w.heap.size + 1) (by omega) (.slice none 0 0)).frozen
  have ck2 := (k1.other (B' := w.heap.size + 1) (by omega) (.slice none 0 0)).cell
  have HR := hid ((r1.set (.slice none 0 0)).other (B' := w.heap.size + 1 + 1) (by omega) (.bool false)).cell
  have HK := hid ((k1.other (B' := w.heap.size + 1) (by omega) (.slice none 0 0)).set (.bool false)).cell
  have HB := hid ((b1.setCell (p := ⟨w.heap.size + 1, 0, none⟩) (by show w.heap.size ≤ w.heap.size + 1; omega) (.slice none 0 0)).setCell (p := ⟨w.heap.size + 1 + 1, 0, none⟩) (by show w.heap.size ≤ w.heap.size + 1 + 1; omega) (.bool false))
  clear q0 q1 q2 hw1 t1 r1 k1 b1
  refine (callsIn_wide (n := 5)).1 ?_
  refine callsIn_of_wp_marks Try.func48 rfl trivial ?_ rfl
  simp only [Try.ntmps48, List.size_toArray, List.length_cons, List.length_nil, Nat.reduceAdd, Nat.reduceSub, Array.replicate_succ, Array.replicate_zero, List.push_toArray, List.append_toArray, List.nil_append, List.cons_append]
  cases ht : inB 2 6 t
  · have HT := hid ht
    clear ht h
    gi_wp2
    rw [← HW1.out]
    refine ⟨trivial, (callsIn_wide.2 (hasRunners_b _ _ _ HT.out)).mono ?_⟩
    rintro e w' ⟨rfl, rfl⟩
    gi_wp2
    exact ⟨_, results_cells2 rfl _ _ _ _ _ _ rfl rfl (run_isAgg_plain Try.underlying22 rfl _) (run_isAgg_plain Try.underlying4 rfl _) HR.out HK.out, none, 0, rfl, own_nil _ _, HB.out⟩
  · have hb : 30 < xs.length := by
      unfold abwG at h
      rw [ht, Bool.true_and, decide_eq_false_iff_not] at h
      omega
    have hbi : (30 : Int) < (xs.length : Int) := by omega
    have HT := hid ht
    clear ht h hb
    gi_wp2
    rw [← HW1.out]
    refine ⟨trivial, (callsIn_wide.2 (hasRunners_b _ _ _ HT.out)).mono ?_⟩
    rintro e w' ⟨rfl, rfl⟩
    gi_wp2
    exact ⟨_, results_cells2 rfl _ _ _ _ _ _ rfl rfl (run_isAgg_plain Try.underlying22 rfl _) (run_isAgg_plain Try.underlying4 rfl _) HR.out HK.out, none, 0, rfl, own_nil _ _, HB.out⟩
theorem impl_ArrowByWord (t : Int) (A : Option Addr) (c : Nat) (xs : List Int) (w : World) (_ : I64 t) (hl : xs.length ≤ 1048576) (hc : Cells w A xs) :
    Calls Try.prog 48 #[.int .i64 t, .slice A xs.length c] w fun e w' => ∃ A' c', e = .returned (.tuple #[.slice A' (abwF t xs).length c', .bool (abwB t xs)]) ∧ Own w' w.heap.size A' c' (abwF t xs) ∧ Below w.heap.size w w' := by
  cases h : abwG t xs
  · rw [show abwF t xs = [] by simp [abwF, h], show abwB t xs = false by simp [abwB, h]]
    exact ArrowByWord_no t A c xs w hl h
  · have h2 := h
    simp only [abwG, Bool.and_eq_true, decide_eq_true_eq] at h2
    have ht := inB_iff.1 h2.1
    obtain ⟨n, rfl⟩ : ∃ n : Nat, t = n := ⟨t.toNat, by omega⟩
    rw [show abwF n xs = byL n xs by simp [abwF, h], show abwB n xs = byB n xs by simp [abwB, h]]
    exact (callsIn_wide (n := 5)).1 (ArrowByWord_in n A c xs w (by omega) h2.2 hc)
end Go.Proofs.Ythbkonpclflkhaa
/-
  Contracts: MirrorOf of the program and of the model.
-/
namespace Go.Proofs.Ythbkonpclflkhaa
open Go.RowKit

/-- The word whose first k letters are turned. -/
def mwM (t : Nat) (xs : List Int) (k : Nat) : List Int := (mwL t xs).take k ++ (awL t xs).drop k
theorem mwM_len (t : Nat) (xs : List Int) (k : Nat) : (mwM t xs k).length = (awL t xs).length := by
  have := mwL_len t xs
  simp only [mwM, List.length_append, List.length_take, List.length_drop]; omega
theorem mwM_zero (t : Nat) (xs : List Int) : mwM t xs 0 = awL t xs := by simp [mwM]
theorem mwM_full (t : Nat) (xs : List Int) : mwM t xs (awL t xs).length = mwL t xs := by
  have := mwL_len t xs
  simp [mwM, ← this]
theorem mwM_get (t : Nat) (xs : List Int) (k : Nat) (h : k < (awL t xs).length) : (mwM t xs k).getD k 0 = (awL t xs).getD k 0 := by
  have := mwL_len t xs
  unfold mwM
  rw [List.getD_eq_getElem?_getD, List.getElem?_append_right (by rw [List.length_take]; omega), List.length_take, show k - min k (mwL t xs).length = 0 by omega, List.getElem?_drop, Nat.add_zero, ← List.getD_eq_getElem?_getD]
theorem mwL_get (t : Nat) (xs : List Int) (k : Nat) (h : k < (awL t xs).length) : (mwL t xs).getD k 0 = (-(awL t xs).getD k 0) % (t : Int) := by simp [mwL, List.getD, h]
theorem mwM_set (t : Nat) (xs : List Int) (k : Nat) (h : k < (awL t xs).length) : (mwM t xs k).set k ((-(awL t xs).getD k 0) % (t : Int)) = mwM t xs (k + 1) := by
  have hl := mwL_len t xs
  unfold mwM
  rw [List.set_append_right _ _ (by rw [List.length_take]; omega), List.length_take, show k - min k (mwL t xs).length = 0 by omega, List.drop_eq_getElem_cons h, List.set_cons_zero]
  rw [take_snoc_get (mwL t xs) 0 k (by omega), mwL_get t xs k h, List.append_assoc]; rfl

set_option maxRecDepth 100000 in
set_option maxHeartbeats 4000000 in
theorem impl_MirrorOfC (A : Option Addr) (c : Nat) (xs : List Int) (t : Int) (w : World) (hl : xs.length ≤ 1048576) (hno : A = none → xs.length = 0 ∧ c = 0) (hc : Cells w A xs) (h64 : I64 t) :
    Calls Try.prog 50 #[.slice A xs.length c, .int .i64 t] w fun e w' => ∃ A' c', e = .returned (.tuple #[.slice A' (mirF xs t).length c', .bool (mirB xs t)]) ∧ Own w' w.heap.size A' c' (mirF xs t) ∧ Below w.heap.size w w' := by
  have HW := hid (impl_ArrowWordC A c xs t w hl hno hc h64)
  cases hg : rgB xs t
  · rw [show mirF xs t = [] by simp [mirF, hg], show mirB xs t = false by simp [mirB, hg]]
    rw [hg] at HW
    obtain ⟨R, hR⟩ : ∃ R, R = awF xs t := ⟨_, rfl⟩
    rw [← hR] at HW
    clear hg hR
    go_enter Try.func50, Try.ntmps50
    go_wp2_with fail
    refine HW.out.mono ?_
    rintro e w1 ⟨A1, c1, rfl, o1, b1⟩
    go_wp2_with fail
    go_ret2
    exact ⟨none, 0, rfl, own_nil _ _, b1⟩
  · obtain ⟨_, G, ht, hrg, hgi⟩ := rgB_t hg
    obtain ⟨n, rfl⟩ : ∃ n : Nat, t = n := ⟨t.toNat, by omega⟩
    rw [hg, show awF xs n = awL n xs by simp [awF, hg]] at HW
    rw [show mirF xs n = byL n (mwL n xs) by simp [mirF, hg], show mirB xs n = byB n (mwL n xs) by simp [mirB, hg]]
    rw [Int.toNat_natCast] at hrg
    have hlen := awL_len n G
    have hmem := awL_mem G (show 2 ≤ n by omega) hrg
    have HBD := hid fun k (h : k < (awL n xs).length) => hmem _ (mem_getD (d := 0) h)
    have hml := mwL_len n xs
    have hG : abwG n (mwL n xs) = true := by
      simp only [abwG, (giB_t hgi).2, Bool.true_and, decide_eq_true_eq]; omega
    have HBY := hid fun A1 c1 W (h : Cells W A1 (mwL n xs)) => (by
      have h1 := impl_ArrowByWord n A1 c1 (mwL n xs) W h64 (by omega) h
      rw [show abwF n (mwL n xs) = byL n (mwL n xs) by simp [abwF, hG], show abwB n (mwL n xs) = byB n (mwL n xs) by simp [abwB, hG]] at h1
      exact h1 : Calls Try.prog 48 #[.int .i64 n, .slice A1 (mwL n xs).length c1] W fun e w' => ∃ A' c', e = .returned (.tuple #[.slice A' (byL n (mwL n xs)).length c', .bool (byB n (mwL n xs))]) ∧ Own w' W.heap.size A' c' (byL n (mwL n xs)) ∧ Below W.heap.size W w')
    have HML := hid fun k => mwM_len n xs k
    have HZ := hid (mwM_zero n xs)
    have HF := hid (mwM_full n xs)
    have HGT := hid fun k (h : k < (awL n xs).length) => mwM_get n xs k h
    have HST := hid fun k (h : k < (awL n xs).length) => mwM_set n xs k h
    have HRS := hid fun W z => residueOf_any z n W (by omega)
    obtain ⟨R, hR⟩ : ∃ R, R = byL n (mwL n xs) := ⟨_, rfl⟩
    obtain ⟨S, hS⟩ : ∃ S, S = byB n (mwL n xs) := ⟨_, rfl⟩
    rw [← hR, ← hS] at HBY
    rw [← hR, ← hS]
    obtain ⟨V, hV⟩ : ∃ V, V = mwL n xs := ⟨_, rfl⟩
    rw [← hV] at HBY HF
    have HVL := hid (show V.length = (awL n xs).length by rw [hV, mwL_len])
    obtain ⟨L, hL⟩ : ∃ L, L = awL n xs := ⟨_, rfl⟩
    rw [← hL] at HW HBD HML HZ HF HGT HST HVL hlen
    clear hg hgi hrg G hmem hml hG hR hS hV hL hc hno
    go_enter Try.func50, Try.ntmps50
    go_wp2_with fail
    refine HW.out.mono ?_
    rintro e w1 ⟨A1, c1, rfl, o1, b1⟩
    have HO1 := hid (show Own w1 w.heap.size A1 c1 (mwM n xs 0) by rw [HZ.out]; exact o1)
    have HB1 := hid b1
    clear o1 b1
    obtain ⟨m, hm⟩ : ∃ m, m = L.length := ⟨_, rfl⟩
    rw [← hm] at hlen HBD HML HF HGT HST HVL
    rw [← hm]
    clear hm
    go_wp2_with fail
    go_loopw [20] (fun kv wr => ∃ k : Nat, k ≤ m ∧ kv = .int .i64 k ∧ Hid (Own wr w.heap.size A1 c1 (mwM n xs k)) ∧ Below w.heap.size w wr) (fun kv _ => m - (intOf kv).toNat)
    case atStart => exact ⟨0, Nat.zero_le _, rfl, HO1, HB1.out⟩
    case round =>
      obtain ⟨k, hk, rfl, HO, hbel⟩ := hrel
      by_cases hlt : k < m
      · obtain ⟨g, rfl, hg1, -⟩ := HO.out.at_ (by rw [HML.out]; omega)
        have hck := own_get HO.out (k := k) (by rw [HML.out]; exact hlt)
        rw [HGT.out k hlt] at hck
        have hfz := own_froz HO.out k
        have hst := own_set HO.out k ((-(L.getD k 0)) % (n : Int))
        rw [HST.out k hlt] at hst
        have hbd := HBD.out k hlt
        have hrs := HRS.out wr (-(L.getD k 0))
        obtain ⟨x, hx⟩ : ∃ x, x = L.getD k 0 := ⟨_, rfl⟩
        rw [← hx] at hck hst hbd hrs
        obtain ⟨z, hz⟩ : ∃ z, z = (-x) % (n : Int) := ⟨_, rfl⟩
        rw [← hz] at hst hrs
        have HS := hid hst
        have HR := hid hrs
        have HG1 := hid hg1
        clear hst hrs hx hz hg1
        go_wp2_with (go_at_call 100; refine HR.out.mono ?_; rintro e w' ⟨rfl, rfl⟩)
        go_roundw
        case rel => exact ⟨k + 1, by omega, by go_num, hid HS.out, hbel.setCell HG1.out _⟩
        case measure => simp [intOf]; omega
      · have hkm : k = m := by omega
        have hO := HO.out
        rw [hkm, HF.out] at hO
        have HOV := hid hO
        have HCL := hid (HBY.out A1 c1 wr hO.cells)
        rw [HVL.out] at HCL
        clear hO hkm
        go_wp2_with fail
        refine HCL.out.mono ?_
        rintro e w2 ⟨A2, c2, rfl, o2, b2⟩
        have HO2 := hid (o2.more hbel.size)
        have HB2 := hid (Below.next hbel b2)
        clear o2 b2
        go_wp2_with fail
        go_ret2
        exact ⟨A2, c2, rfl, HO2.out, HB2.out⟩

set_option maxRecDepth 100000 in
set_option maxHeartbeats 4000000 in
theorem spec_MirrorOfC (A : Option Addr) (c : Nat) (xs : List Int) (t : Int) (w : World) (hl : xs.length ≤ 1048576) (hno : A = none → xs.length = 0 ∧ c = 0) (hc : Cells w A xs) (_ : I64 t) :
    Calls Try.prog 49 #[.slice A xs.length c, .int .i64 t] w fun e w' => ∃ A' c', e = .returned (.tuple #[.slice A' (mirF xs t).length c', .bool (mirB xs t)]) ∧ Own w' w.heap.size A' c' (mirF xs t) ∧ Below w.heap.size w w' := by
  obtain ⟨i0, hi, hz0, hz1, hz2⟩ := info_parts Try.infoInt
  have HGI := hid fun b hb => arGiven_b A c xs t w hl hc b hb
  cases hg : rgB xs t
  · rw [show mirF xs t = [] by simp [mirF, hg], show mirB xs t = false by simp [mirB, hg]]
    have H := hid hg
    clear hg
    go_enter Try.func49, Try.ntmps49
    go_wp2_with (go_at_call 94; refine (HGI.out _ H.out).mono ?_; rintro e w' ⟨rfl, n, rfl⟩)
    go_ret2
    exact ⟨none, 0, rfl, own_nil _ _, below_drew' _ _⟩
  · obtain ⟨_, G, ht, hrg, hgi⟩ := rgB_t hg
    obtain ⟨n, rfl⟩ : ∃ n : Nat, t = n := ⟨t.toNat, by omega⟩
    rw [show mirF xs n = byL n (mwL n xs) by simp [mirF, hg], show mirB xs n = byB n (mwL n xs) by simp [mirB, hg]]
    rw [Int.toNat_natCast] at hrg
    have hlen := awL_len n G
    have hmem := awL_mem G (show 2 ≤ n by omega) hrg
    have HBD := hid fun k (h : k < (awL n xs).length) => hmem _ (mem_getD (d := 0) h)
    have hml := mwL_len n xs
    have HBY := hid fun A1 c1 W (h : Cells W A1 (mwL n xs)) => arBy_any n A1 c1 (mwL n xs) W (by omega) (by omega) h
    have HW := hid fun W (h : Cells W A xs) => arWord_any A c xs n W G (by omega) hrg hno h
    have HSN := hid fun k (h : k < (awL n xs).length) => (by
      rw [take_snoc_get (mwL n xs) 0 k (by omega), mwL_get n xs k h] : (mwL n xs).take (k + 1) = (mwL n xs).take k ++ [(-(awL n xs).getD k 0) % (n : Int)])
    have HGI1 := hid (HGI.out true hg)
    obtain ⟨R, hR⟩ : ∃ R, R = byL n (mwL n xs) := ⟨_, rfl⟩
    obtain ⟨S, hS⟩ : ∃ S, S = byB n (mwL n xs) := ⟨_, rfl⟩
    rw [← hR, ← hS] at HBY
    rw [← hR, ← hS]
    obtain ⟨V, hV⟩ : ∃ V, V = mwL n xs := ⟨_, rfl⟩
    rw [← hV] at HBY HSN hml
    obtain ⟨L, hL⟩ : ∃ L, L = awL n xs := ⟨_, rfl⟩
    rw [← hL] at HW HBD HSN hml hlen
    have HML := hid hml
    clear hg hgi hrg G hmem hml hR hS hV hL hno
    go_enter Try.func49, Try.ntmps49
    go_wp2_with (go_at_call 94; refine HGI1.out.mono ?_; rintro e w' ⟨rfl, q, rfl⟩)
    refine (HW.out _ (by exact hc)).mono ?_
    rintro e w1 ⟨A1, c1, rfl, o1, b1⟩
    have HO1 := hid o1
    have HB1 := hid (Below.next (below_drew' w q) b1)
    clear o1 b1
    obtain ⟨m, hm⟩ : ∃ m, m = L.length := ⟨_, rfl⟩
    have HM := hid hm
    rw [← hm] at hlen HBD HSN HML
    rw [← hm]
    clear hm
    go_wp2_with fail
    go_loopw [6, 17] (fun vv kv wr => ∃ (k : Nat) (Av : Option Addr) (cv : Nat), k ≤ m ∧ kv = .int .i64 k ∧ vv = .slice Av k cv ∧ Hid (Own wr w1.heap.size Av cv (V.take k)) ∧ Below w1.heap.size w1 wr) (fun _ kv _ => m - (intOf kv).toNat)
    case atStart => exact ⟨0, none, 0, Nat.zero_le _, rfl, rfl, hid (own_nil _ _), Below.refl _ _⟩
    case round =>
      obtain ⟨k, Av, cv, hk, rfl, rfl, HO, hbel⟩ := hrel
      have htl : (V.take k).length = k := by rw [List.length_take, HML.out]; omega
      have hown := HO.out
      unfold Own at hown
      rw [htl] at hown
      have HOW := hid hown
      have HTL := hid htl
      clear hown htl
      by_cases hlt : k < m
      · obtain ⟨b, o, rfl, hcc⟩ := (HO1.out.cells.later hbel) (by rw [← HM.out]; omega)
        have hck := hcc k (by rw [← HM.out]; exact hlt)
        have hbd := HBD.out k hlt
        have hsn := HSN.out k hlt
        obtain ⟨x, hx⟩ : ∃ x, x = L.getD k 0 := ⟨_, rfl⟩
        rw [← hx] at hck hbd hsn
        obtain ⟨z, hz⟩ : ∃ z, z = (-x) % (n : Int) := ⟨_, rfl⟩
        rw [← hz] at hsn
        have hrem : Int.tmod ((n : Int) - x) (n : Int) = z := by
          rw [Int.tmod_eq_emod_of_nonneg (by omega), hz, show (n : Int) - x = -x + n by omega, Int.add_emod_right]
        have hn0 : ¬ ((n : Int) = 0) := by omega
        have HS := hid hsn
        have hsz := hbel.size
        have hzb := Int.emod_nonneg (-x) (show (n : Int) ≠ 0 by omega)
        have hzb2 := Int.emod_lt_of_pos (-x) (show (0 : Int) < n by omega)
        rw [← hz] at hzb hzb2
        clear hcc hx hz hsn
        go_wp2_with (at_builtin; refine wpList_append_own _ rfl _ _ 22 rfl w1.heap.size 3 i0 (.int .i64 0) 1 8 Try.underlying22 hi hz0 hz1 hz2 rfl (by decide) _ _ _ rfl (HOW.out.alloc _) ⟨wr.heap.size, 0, none⟩ 1 1 [.int .i64 z] rfl rfl one_at (one_cell _) (by unfold maxLen; omega) (by omega) (by simp; omega) ?_)
        intro v3 w3 hown3 hgrow3 _
        have hb3 : Below w1.heap.size w1 w3 := (hbel.alloc hbel.size _).grown hgrow3 (by simp; omega) (fun q hq => (HOW.out.lt q hq).1)
        have hown4 : w3.ownsRow w1.heap.size 3 1 v3 (V.take (k + 1)).length (IL (V.take (k + 1))) := own_snoc HS.out (by rw [HTL.out]; exact hown3)
        obtain ⟨A3, c3, e3, o3⟩ := own_form hown4 rfl
        have hl3 : (V.take (k + 1)).length = k + 1 := by rw [List.length_take, HML.out]; omega
        rw [hl3] at e3
        subst e3
        have HO3 := hid o3
        have HB3 := hid hb3
        clear hown3 hgrow3 hown4 o3 hb3 hl3
        go_wp2_with fail
        go_roundw
        case rel => exact ⟨k + 1, A3, c3, by omega, by go_num, rfl, HO3, HB3.out⟩
        case measure => simp [intOf]; omega
      · have hkm : k = m := by omega
        have hO := HO.out
        rw [hkm, ← HML.out, List.take_length] at hO
        have HCL := hid (HBY.out Av cv wr hO.cells)
        rw [HML.out] at HCL
        rw [hkm]
        have HB2' := hid (Below.next HB1.out hbel)
        clear hO hkm
        go_wp2_with fail
        refine HCL.out.mono ?_
        rintro e w2 ⟨A2, c2, rfl, o2, b2⟩
        have HO2 := hid (o2.more HB2'.out.size)
        have HB2 := hid (Below.next HB2'.out b2)
        clear o2 b2
        go_wp2_with fail
        go_ret2
        exact ⟨A2, c2, rfl, HO2.out, HB2.out⟩
theorem spec_MirrorOf {B : Nat} (A : Option Addr) (c : Nat) (xs : List Int) (t : Int) (w : World) (hl : xs.length ≤ 1048576) (ho : Own w B A c xs) (h : I64 t) :
    Calls Try.prog 49 #[.slice A xs.length c, .int .i64 t] w fun e w' => ∃ A' c', e = .returned (.tuple #[.slice A' (mirF xs t).length c', .bool (mirB xs t)]) ∧ Own w' w.heap.size A' c' (mirF xs t) ∧ Below w.heap.size w w' :=
  spec_MirrorOfC A c xs t w hl (own_hno ho) ho.cells h
theorem impl_MirrorOf {B : Nat} (A : Option Addr) (c : Nat) (xs : List Int) (t : Int) (w : World) (hl : xs.length ≤ 1048576) (ho : Own w B A c xs) (h : I64 t) :
    Calls Try.prog 50 #[.slice A xs.length c, .int .i64 t] w fun e w' => ∃ A' c', e = .returned (.tuple #[.slice A' (mirF xs t).length c', .bool (mirB xs t)]) ∧ Own w' w.heap.size A' c' (mirF xs t) ∧ Below w.heap.size w w' :=
  impl_MirrorOfC A c xs t w hl (own_hno ho) ho.cells h
end Go.Proofs.Ythbkonpclflkhaa
