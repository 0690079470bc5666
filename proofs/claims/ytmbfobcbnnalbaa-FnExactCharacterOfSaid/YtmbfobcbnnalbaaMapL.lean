/-
  Maps from shapes to numbers: what a key reads as; sums over the entries; an entry that is got and stored again.
-/
import Derived.Test.YtmbfobcbnnalbaaShp
import Derived.DeepKeys4
import Derived.WideKeyEntry
import Derived.Maps.RangeWalk
namespace Go.Proofs.Ytmbfobcbnnalbaa
open Go.RowKit Go.Maps Go.ChangeMaps Go.MapKept Go.WideMaps Go.WideElems Go.WideShapes

theorem Try.mLaid : laidOutB Try.prog = true := by kernel_rfl
theorem Try.shDeep : Try.prog.keyTypeAt 2 107 = true := by kernel_rfl
theorem Try.shRow : (107 : TypeId) < Try.prog.types.size := of_decide_eq_true (by kernel_rfl)
theorem Try.shWide : (match Try.prog.underlying 107 with | some (.array _ _) | some (.struct _) => true | _ => false) = true := by rw [Try.underlying107]
set_option maxRecDepth 100000 in
theorem Try.shLaw : KeyLaw Try.prog 107 := deep_law_laid Try.mLaid (m := 2) (by omega) Try.shRow Try.shDeep Try.shWide
theorem Try.shKeyed : Keyed Try.prog 107 := Keyed.of_law Try.shLaw
theorem Try.shKT : Try.prog.keyType 107 = true := by kernel_rfl
theorem Try.shCells : Try.prog.cellsOf 107 = 12 := by kernel_rfl
theorem Try.intCells : Try.prog.cellsOf 3 = 1 := by kernel_rfl
theorem Try.tySome : ∃ m, Try.prog.types.size = m + 1 := ⟨Try.prog.types.size - 1, by have h : (107 : Nat) < Try.prog.types.size := Try.shRow; omega⟩
theorem Try.zeroI (w : World) : (zeroValue 3).run Try.prog w = .ok (.int .i64 0) w := by kernel_rfl

theorem mapM_range {α : Type} {f : Nat → Option α} {g : Nat → α} (h : ∀ i, f i = some (g i)) : ∀ l : List Nat, l.mapM f = some (l.map g)
  | [] => rfl
  | x :: t => by rw [List.mapM_cons, h x, mapM_range h t]; rfl
theorem mapM_range' {α : Type} {f : Nat → Option α} {g : Nat → α} : ∀ l : List Nat, (∀ i ∈ l, f i = some (g i)) → l.mapM f = some (l.map g)
  | [], _ => rfl
  | x :: t, h => by rw [List.mapM_cons, h x (by simp), mapM_range' t (fun i hi => h i (by simp [hi]))]; rfl
/-- A list that a shape can hold. -/
structure Sh (p : List Int) : Prop where
  len : p.length ≤ 12
  pos : ∀ j, j < p.length → 1 ≤ p.getD j 0 ∧ p.getD j 0 ≤ 30
theorem Sh.bd {p : List Int} (h : Sh p) (j : Nat) : 0 ≤ p.getD j 0 ∧ p.getD j 0 ≤ 30 := by
  by_cases hj : j < p.length
  · have := h.pos j hj; omega
  · rw [getD_past p j (by omega)]; omega
def klit (p : List Int) : Lit := .string (keyBytes ((List.range 12).map fun j => Lit.int .i64 (p.getD j 0)))
theorem wf30 {x : Int} (h : 0 ≤ x ∧ x ≤ 30) : (Lit.int .i64 x).wf = true := WalkArith.wf_i64 (by omega)
theorem key_of {p : List Int} (h : Sh p) : keyOf Try.prog 107 (shV p) = some (klit p) := by
  obtain ⟨m, hm⟩ := Try.tySome
  unfold keyOf
  simp only [Try.underlying107]
  rw [if_pos (by simp [Try.shKT, Value.formed, shV, Try.underlying107, Try.shCells, ca_size]), hm]
  unfold Program.keyLits
  simp only [Try.underlying107, shV, Value.cells]
  have hl : (ca 12 (shC p)).toList.length = 12 := by show (caL 12 (shC p)).length = 12; exact caL_len _ _
  rw [if_pos (by rw [hl, Try.shCells]), mapM_range' (g := fun i => [Lit.int .i64 (p.getD i 0)])]
  · simp only [Option.map_some, klit]
    congr 3
  · intro i hi
    have hi12 : i < 12 := List.mem_range.1 hi
    rw [Try.intCells, Nat.mul_one]
    have e : ((ca 12 (shC p)).toList.drop i).take 1 = [.int .i64 (p.getD i 0)] := by
      show ((caL 12 (shC p)).drop i).take 1 = _
      have hil : i < (caL 12 (shC p)).length := by rw [caL_len]; exact hi12
      rw [List.drop_eq_getElem_cons hil]
      simp only [List.take_succ_cons, List.take_zero]
      have := caL_get 12 (shC p) i hi12
      rw [List.getElem?_eq_getElem hil] at this
      injection this with this
      rw [this]; rfl
    rw [e]
    have hw := wf30 (h.bd i)
    unfold Program.keyLits
    simp only [Try.underlying3]
    simp only [true_and]
    exact if_pos hw
theorem key_inj {p q : List Int} (hp : Sh p) (hq : Sh q) (h : klit p = klit q) : p = q := by
  have e := Try.shKeyed.inj (key_of hp) (h ▸ key_of hq)
  have e2 : ca 12 (shC p) = ca 12 (shC q) := by
    have := e
    unfold shV at this
    injection this
  have hg : ∀ j, j < 12 → p.getD j 0 = q.getD j 0 := fun j hj => by
    have h1 := ca_get 12 (shC p) j hj
    rw [e2, ca_get 12 (shC q) j hj] at h1
    injection h1 with h1
    unfold shC at h1
    injection h1 with _ h1
    exact h1.symm
  have hlen : p.length = q.length := by
    rcases Nat.lt_trichotomy p.length q.length with h1 | h1 | h1
    · have := hg p.length (by have := hq.len; omega)
      rw [getD_past p _ (Nat.le_refl _)] at this
      have := hq.pos p.length h1; omega
    · exact h1
    · have := hg q.length (by have := hp.len; omega)
      rw [getD_past q _ (Nat.le_refl _)] at this
      have := hp.pos q.length h1; omega
  apply List.ext_getElem hlen
  intro j h1 h2
  have := hg j (by have := hp.len; omega)
  rw [List.getD_eq_getElem?_getD, List.getD_eq_getElem?_getD, List.getElem?_eq_getElem h1, List.getElem?_eq_getElem h2] at this
  exact this

/-! Sums over entries. -/
def dval {H : Type} : DataW H → Int
  | .lit (.int _ c) => c
  | _ => 0
def sumE {H : Type} (es : List (Lit × DataW H)) (g : Lit → Int) : Int := (es.map fun x => g x.1 * dval x.2).sum
def sumD {H : Type} : DataW H → (Lit → Int) → Int
  | .map es, g => sumE es g
  | _, _ => 0
theorem sumE_perm {H : Type} {a b : List (Lit × DataW H)} (h : a.Perm b) (g : Lit → Int) : sumE a g = sumE b g := by
  unfold sumE
  induction h with
  | nil => rfl
  | cons x _ ih => simp [ih]
  | swap x y l => simp; omega
  | trans _ _ h1 h2 => exact h1.trans h2
theorem sumE_cons {H : Type} (x : Lit × DataW H) (l : List (Lit × DataW H)) (g : Lit → Int) : sumE (x :: l) g = g x.1 * dval x.2 + sumE l g := by simp [sumE]
def atE {H : Type} (es : List (Lit × DataW H)) (k : Lit) : Int := dval ((DataW.map es).atKey k (.lit (.int .i64 0)))
theorem atE_nil {H : Type} (k : Lit) : atE ([] : List (Lit × DataW H)) k = 0 := rfl
theorem atE_cons {H : Type} (x : Lit × DataW H) (l : List (Lit × DataW H)) (k : Lit) : atE (x :: l) k = if x.1.sameKey k then dval x.2 else atE l k := by
  unfold atE DataW.atKey
  simp only [List.find?_cons]
  cases h : x.1.sameKey k <;> simp
theorem atE_none {H : Type} (l : List (Lit × DataW H)) (k : Lit) (h : ∀ x ∈ l, x.1.sameKey k = false) : atE l k = 0 := by
  induction l with
  | nil => rfl
  | cons x t ih => rw [atE_cons, h x (by simp), if_neg (by decide)]; exact ih fun y hy => h y (by simp [hy])
/-- The entries at other keys, and the one at k. -/
theorem sumE_split {H : Type} (k : Lit) (g : Lit → Int) : ∀ (es : List (Lit × DataW H)), es.Pairwise (fun p q => p.1 ≠ q.1) → sumE es g = sumE (es.filter (notKey k)) g + g k * atE es k
  | [], _ => by simp [sumE, atE_nil]
  | x :: t, h => by
    obtain ⟨h1, h2⟩ := List.pairwise_cons.1 h
    have ih := sumE_split k g t h2
    rw [sumE_cons, atE_cons]
    cases hs : x.1.sameKey k
    · rw [List.filter_cons_of_pos (by simp [notKey, hs]), sumE_cons, if_neg (by decide), ih]; omega
    · have e := WideAt.sameKey_eq hs
      rw [List.filter_cons_of_neg (by simp [notKey, hs]), if_pos rfl, ih]
      have hz : atE t k = 0 := atE_none t k fun y hy => by
        cases hy2 : y.1.sameKey k
        · rfl
        · exact absurd (e.trans (WideAt.sameKey_eq hy2).symm) (h1 y hy)
      rw [hz, e]; omega
theorem sumD_put {H : Type} {D : DataW H} (hD : Tidy D) (k : Lit) (d : DataW H) (g : Lit → Int) : sumD (D.put k d) g = sumD D g + g k * (dval d - dval (D.atKey k (.lit (.int .i64 0)))) := by
  obtain ⟨es, rfl, hp⟩ := hD
  rw [DataW.put_eq]
  show sumE (putKey k d es) g = sumE es g + g k * (dval d - atE es k)
  unfold putKey
  rw [sumE_perm (insert_perm _ _) g, sumE_cons, sumE_split k g es hp, Int.mul_sub]
  simp only
  omega
theorem sumD_del {H : Type} {D : DataW H} (hD : Tidy D) (k : Lit) (g : Lit → Int) : sumD (D.del k) g = sumD D g - g k * dval (D.atKey k (.lit (.int .i64 0))) := by
  obtain ⟨es, rfl, hp⟩ := hD
  rw [DataW.del_eq]
  show sumE (delKey k es) g = sumE es g - g k * atE es k
  unfold delKey
  rw [sumE_split k g es hp]
  omega
/-- The sum over what a mark tells. -/
theorem sumE_zero {H : Type} (l : List (Lit × DataW H)) (g : Lit → Int) (h : ∀ x ∈ l, g x.1 = 0) : sumE l g = 0 := by
  induction l with
  | nil => rfl
  | cons x t ih => rw [sumE_cons, h x (by simp), ih fun y hy => h y (by simp [hy])]; omega
theorem sumD_one {H : Type} {D : DataW H} (hD : Tidy D) {k : Lit} (hk : WideAt.IsKeyLit k) (g : Lit → Int) : sumD D (fun z => if z.sameKey k then g z else 0) = g k * dval (D.atKey k (.lit (.int .i64 0))) := by
  obtain ⟨es, rfl, hp⟩ := hD
  show sumE es (fun z => if z.sameKey k then g z else 0) = g k * atE es k
  rw [sumE_split k _ es hp, WideAt.sameKey_self hk, if_pos rfl, sumE_zero]
  · omega
  · intro x hx
    have hn := (List.mem_filter.1 hx).2
    unfold notKey at hn
    cases hs : x.1.sameKey k
    · rw [if_neg (by decide)]
    · rw [hs] at hn; cases hn
theorem sumD_add {H : Type} (D : DataW H) (f g : Lit → Int) : sumD D (fun z => f z + g z) = sumD D f + sumD D g := by
  unfold sumD
  split
  · rename_i es
    unfold sumE
    induction es with
    | nil => rfl
    | cons x t ih => simp only [List.map_cons, List.sum_cons, Int.add_mul] at ih ⊢; omega
  · rfl
theorem sumD_congr {H : Type} {D : DataW H} {f g : Lit → Int} (h : ∀ k, has D k = true → f k = g k) (hk : ∀ es, D = .map es → ∀ p ∈ es, WideAt.IsKeyLit p.1) : sumD D f = sumD D g := by
  unfold sumD
  split
  · rename_i es
    unfold sumE
    congr 1
    apply List.map_congr_left
    intro x hx
    rw [h x.1 (List.any_eq_true.2 ⟨x, hx, WideAt.sameKey_self (hk es rfl x hx)⟩)]
  · rfl

/-! An entry that is got, and stored again. -/
section
variable {P : Program} {t k e : TypeId} {w : World} {b n : Nat} {D : DataW Unit}
theorem setBlock_twice (w : World) (b : Nat) (o o' : Obj) : setBlock (setBlock w b o) b o' = setBlock w b o' := by
  unfold setBlock
  simp only [Array.setIfInBounds_setIfInBounds]
theorem own_entry (K : KeyLaw P k) (ht : P.underlying t = some (.map k e)) (he : P.underlying e = some (.int .i64)) (hz : ∀ u : World, (zeroValue e).run P u = .ok (.int .i64 0) u)
    (hown : w.ownsMap P k (plainElem P e) b n D) (hn : n < maxLen) {key : Value} {kl : Lit} (hkey : keyOf P k key = some kl) :
    ∃ (c st : Int) (w5 : World), (Instr.lookup t (.map (some b)) key false).run P w = .ok (.int .i64 c) w ∧ D.atKey kl (.lit (.int .i64 0)) = .lit (.int .i64 c) ∧
      (Instr.mapEntry t (.map (some b)) key).run P w = .ok (.tuple #[.int .i64 c, .int .i64 st]) w5 ∧ (Instr.lookup t (.map (some b)) key false).run P w5 = .ok (.int .i64 c) w5 ∧ w.grownBy w5 (some b) ∧
      ∀ x : Int, (Lit.int .i64 x).wf = true → ∃ w6, (Instr.entryStore t (.map (some b)) (.int .i64 st) (.int .i64 x)).run P w5 = .ok () w6 ∧ w6.ownsMap P k (plainElem P e) b (n + 1) (D.put kl (.lit (.int .i64 x))) ∧ w.grownBy w6 (some b) := by
  have KK := Keyed.of_law K
  obtain ⟨c, hl1, hat, hwc⟩ := hown.lookup_int KK ht he (hz w) hkey
  have hown' := hown
  obtain ⟨es, clock, hb, F, hs, hD⟩ := hown
  obtain ⟨v0, st, es1, clock1, hen, hv0, hst⟩ := entry_then_store K ht hz hb F hkey
  have h5 := heap_setBlock_same hb (.map es1 clock1)
  have hg5 : w.grownBy (setBlock w b (.map es1 clock1)) (some b) := ⟨rfl, rfl, rfl, by simp [setBlock], fun i _ hi => heap_setBlock_other hb _ (fun e => hi (by rw [e]))⟩
  have hstore : ∀ x : Int, (Lit.int .i64 x).wf = true → ∃ w6, (Instr.entryStore t (.map (some b)) (.int .i64 st) (.int .i64 x)).run P (setBlock w b (.map es1 clock1)) = .ok () w6 ∧ w6.ownsMap P k (plainElem P e) b (n + 1) (D.put kl (.lit (.int .i64 x))) ∧ w.grownBy w6 (some b) := by
    intro x hx
    obtain ⟨es', clock', hr1, hr2⟩ := hst (setBlock w b (.map es1 clock1)) (.int .i64 x) h5
    obtain ⟨w6, hr3, ho, hg⟩ := hown'.update KK ht hn hkey (plainElem_int he hx)
    rw [hr2] at hr3
    injection hr3 with _ hr3
    rw [setBlock_twice] at hr1
    exact ⟨w6, by rw [← hr3]; exact hr1, ho, hg⟩
  rcases K.find w hkey es.toList F.keys with ⟨h1, h2⟩ | ⟨j, e0, h1, h2, h3⟩
  · have r0 : (Instr.lookup t (.map (some b)) key false).run P w = .ok (.int .i64 0) w := by
      simp [Instr.lookup, run_underlying ht, MapKept.run_getObj_map hb, K.check w _ hkey, h1, hz, Result.andThen]
    rw [r0] at hl1
    injection hl1 with hl1 _
    injection hl1 with _ hl1
    subst hl1
    have r1 : (Instr.mapEntry t (.map (some b)) key).run P w = .ok (.tuple #[.int .i64 0, goInt clock]) (setBlock w b (.map (es.push ⟨key, .int .i64 0, clock⟩) (clock + 1))) := by
      simp [Instr.mapEntry, run_underlying ht, MapKept.run_getObj_map hb, K.check w false hkey, h1, hz, MapKept.run_setObj_map _ hb, Result.andThen, setBlock]
    have r2 : (Instr.mapUpdate t (.map (some b)) key (.int .i64 0)).run P w = .ok () (setBlock w b (.map (es.push ⟨key, .int .i64 0, clock⟩) (clock + 1))) := by
      simp [Instr.mapUpdate, run_underlying ht, MapKept.run_getObj_map hb, K.check w false hkey, h1, MapKept.run_setObj_map _ hb, Result.andThen, setBlock]
    obtain ⟨w6, hr3, ho, hg⟩ := hown'.update KK ht hn hkey (plainElem_int (H := Unit) he (show (Lit.int .i64 0).wf = true by decide))
    rw [r2] at hr3
    injection hr3 with _ hr3
    have hen' := hen
    rw [r1] at hen'
    injection hen' with e1 e2
    rw [e2] at hr3
    rw [← hr3] at ho
    obtain ⟨c2, hl2, hat2, _⟩ := ho.lookup_int KK ht he (hz _) hkey
    rw [atKey_put_same (hown'.tidy KK).isMap (KK.key hkey)] at hat2
    injection hat2 with hat2
    injection hat2 with _ hat2
    subst hat2
    have ev : v0 = .int .i64 0 := by
      injection e1 with e1
      simp at e1
      exact e1.1.symm
    exact ⟨0, st, _, r0, hat, by rw [← ev]; exact hen, hl2, hg5, hstore⟩
  · have hj : es[j]? = some e0 := by simpa using h2
    have r0 : (Instr.lookup t (.map (some b)) key false).run P w = .ok e0.val w := by
      simp [Instr.lookup, run_underlying ht, MapKept.run_getObj_map hb, K.check w _ hkey, h1, Result.andThen]
    have hl1' := hl1
    rw [r0] at hl1
    injection hl1 with hl1 _
    have hsame : es.modify j (fun e => { e with key := key }) = es := by
      apply Array.ext'
      rw [Array.toList_modify, modify_eq_set _ _ _ _ h2]
      have : ({ e0 with key := key } : MapEntry) = e0 := by rw [← h3]
      rw [this]
      exact set_self _ _ _ h2
    have r1 : (Instr.mapEntry t (.map (some b)) key).run P w = .ok (.tuple #[e0.val, goInt e0.born]) (setBlock w b (.map es clock)) := by
      simp [Instr.mapEntry, run_underlying ht, MapKept.run_getObj_map hb, K.check w false hkey, h1, hj, h3, K.stays w hkey, hsame, MapKept.run_setObj_map _ hb, Result.andThen, setBlock]
    have hen' := hen
    rw [r1] at hen'
    injection hen' with e1 e2
    have ev : v0 = .int .i64 c := by
      injection e1 with e1
      simp at e1
      rw [← hl1]; exact e1.1.symm
    have h6 := heap_setBlock_same hb (.map es clock)
    rw [e2] at h6
    have ho5 : (setBlock w b (.map es1 clock1)).ownsMap P k (plainElem P e) b n D := ⟨es, clock, h6, F, hs, hD⟩
    obtain ⟨c2, hl2, hat2, _⟩ := ho5.lookup_int KK ht he (hz _) hkey
    rw [hat] at hat2
    injection hat2 with hat2
    injection hat2 with _ hat2
    subst hat2
    exact ⟨c, st, _, hl1', hat, by rw [← ev]; exact hen, hl2, hg5, hstore⟩
end
end Go.Proofs.Ytmbfobcbnnalbaa
