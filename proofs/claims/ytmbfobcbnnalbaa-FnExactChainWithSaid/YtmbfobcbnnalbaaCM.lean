/-
  Several texts in one.
-/
import Derived.Test.YtmbfobcbnnalbaaShp
import Derived.DeepKeys4
import Derived.WideKeyEntry
import Derived.Maps.RangeWalk
import Derived.Test.YtmbfobcbnnalbaaCL
import Derived.Test.YtmbfobcbnnalbaaWith1
import Derived.Test.YtmbfobcbnnalbaaCB
/-
  Maps from shapes to numbers: what a key reads as; sums over the entries; an entry that is got and stored again.
-/
namespace Go.Proofs.Ytmbfobcbnnalbaa
open Go.RowKit Go.Maps Go.ChangeMaps Go.MapKept Go.WideMaps Go.WideElems Go.WideShapes

theorem Try.mLaid : laidOutB Try.prog = true := by kernel_rfl
theorem Try.shDeep : Try.prog.keyTypeAt 2 107 = true := by kernel_rfl
theorem Try.shRow : (107 : TypeId) < Try.prog.types.size := of_decide_eq_true (by kernel_rfl)
theorem Try.shWide : (match Try.prog.underlying 107 with | some (.array _ _) | some (.struct _) => true | _ => false) = true := by rw [Try.underlying107]
set_option maxRecDepth 100000 in
theorem Try.shLaw : KeyLaw Try.prog 107 := deep_law_laid Try.mLaid (m := 2) (by omega) Try.shRow Try.shDeep Try.shWide
theorem Try.shKeyed : Keyed Try.prog 107 := Keyed.of_law Try.shLaw
theorem Try.shKT : Try.prog.keyType 107 = true := by kernel_rfl
theorem Try.shCells : Try.prog.cellsOf 107 = 12 := by kernel_rfl
theorem Try.intCells : Try.prog.cellsOf 3 = 1 := by kernel_rfl
theorem Try.tySome : ∃ m, Try.prog.types.size = m + 1 := ⟨Try.prog.types.size - 1, by have h : (107 : Nat) < Try.prog.types.size := Try.shRow; omega⟩
theorem Try.zeroI (w : World) : (zeroValue 3).run Try.prog w = .ok (.int .i64 0) w := by kernel_rfl

theorem mapM_range {α : Type} {f : Nat → Option α} {g : Nat → α} (h : ∀ i, f i = some (g i)) : ∀ l : List Nat, l.mapM f = some (l.map g)
  | [] => rfl
  | x :: t => by rw [List.mapM_cons, h x, mapM_range h t]; rfl
theorem mapM_range' {α : Type} {f : Nat → Option α} {g : Nat → α} : ∀ l : List Nat, (∀ i ∈ l, f i = some (g i)) → l.mapM f = some (l.map g)
  | [], _ => rfl
  | x :: t, h => by rw [List.mapM_cons, h x (by simp), mapM_range' t (fun i hi => h i (by simp [hi]))]; rfl
/-- A list that a shape can hold. -/
structure Sh (p : List Int) : Prop where
  len : p.length ≤ 12
  pos : ∀ j, j < p.length → 1 ≤ p.getD j 0 ∧ p.getD j 0 ≤ 30
theorem Sh.bd {p : List Int} (h : Sh p) (j : Nat) : 0 ≤ p.getD j 0 ∧ p.getD j 0 ≤ 30 := by
  by_cases hj : j < p.length
  · have := h.pos j hj; omega
  · rw [getD_past p j (by omega)]; omega
def klit (p : List Int) : Lit := .string (keyBytes ((List.range 12).map fun j => Lit.int .i64 (p.getD j 0)))
theorem wf30 {x : Int} (h : 0 ≤ x ∧ x ≤ 30) : (Lit.int .i64 x).wf = true := WalkArith.wf_i64 (by omega)
theorem key_of {p : List Int} (h : Sh p) : keyOf Try.prog 107 (shV p) = some (klit p) := by
  obtain ⟨m, hm⟩ := Try.tySome
  unfold keyOf
  simp only [Try.underlying107]
  rw [if_pos (by simp [Try.shKT, Value.formed, shV, Try.underlying107, Try.shCells, ca_size]), hm]
  unfold Program.keyLits
  simp only [Try.underlying107, shV, Value.cells]
  have hl : (ca 12 (shC p)).toList.length = 12 := by show (caL 12 (shC p)).length = 12; exact caL_len _ _
  rw [if_pos (by rw [hl, Try.shCells]), mapM_range' (g := fun i => [Lit.int .i64 (p.getD i 0)])]
  · simp only [Option.map_some, klit]
    congr 3
  · intro i hi
    have hi12 : i < 12 := List.mem_range.1 hi
    rw [Try.intCells, Nat.mul_one]
    have e : ((ca 12 (shC p)).toList.drop i).take 1 = [.int .i64 (p.getD i 0)] := by
      show ((caL 12 (shC p)).drop i).take 1 = _
      have hil : i < (caL 12 (shC p)).length := by rw [caL_len]; exact hi12
      rw [List.drop_eq_getElem_cons hil]
      simp only [List.take_succ_cons, List.take_zero]
      have := caL_get 12 (shC p) i hi12
      rw [List.getElem?_eq_getElem hil] at this
      injection this with this
      rw [this]; rfl
    rw [e]
    have hw := wf30 (h.bd i)
    unfold Program.keyLits
    simp only [Try.underlying3]
    simp only [true_and]
    exact if_pos hw
theorem key_inj {p q : List Int} (hp : Sh p) (hq : Sh q) (h : klit p = klit q) : p = q := by
  have e := Try.shKeyed.inj (key_of hp) (h ▸ key_of hq)
  have e2 : ca 12 (shC p) = ca 12 (shC q) := by
    have := e
    unfold shV at this
    injection this
  have hg : ∀ j, j < 12 → p.getD j 0 = q.getD j 0 := fun j hj => by
    have h1 := ca_get 12 (shC p) j hj
    rw [e2, ca_get 12 (shC q) j hj] at h1
    injection h1 with h1
    unfold shC at h1
    injection h1 with _ h1
    exact h1.symm
  have hlen : p.length = q.length := by
    rcases Nat.lt_trichotomy p.length q.length with h1 | h1 | h1
    · have := hg p.length (by have := hq.len; omega)
      rw [getD_past p _ (Nat.le_refl _)] at this
      have := hq.pos p.length h1; omega
    · exact h1
    · have := hg q.length (by have := hp.len; omega)
      rw [getD_past q _ (Nat.le_refl _)] at this
      have := hp.pos q.length h1; omega
  apply List.ext_getElem hlen
  intro j h1 h2
  have := hg j (by have := hp.len; omega)
  rw [List.getD_eq_getElem?_getD, List.getD_eq_getElem?_getD, List.getElem?_eq_getElem h1, List.getElem?_eq_getElem h2] at this
  exact this

/-! Sums over entries. -/
def dval {H : Type} : DataW H → Int
  | .lit (.int _ c) => c
  | _ => 0
def sumE {H : Type} (es : List (Lit × DataW H)) (g : Lit → Int) : Int := (es.map fun x => g x.1 * dval x.2).sum
def sumD {H : Type} : DataW H → (Lit → Int) → Int
  | .map es, g => sumE es g
  | _, _ => 0
theorem sumE_perm {H : Type} {a b : List (Lit × DataW H)} (h : a.Perm b) (g : Lit → Int) : sumE a g = sumE b g := by
  unfold sumE
  induction h with
  | nil => rfl
  | cons x _ ih => simp [ih]
  | swap x y l => simp; omega
  | trans _ _ h1 h2 => exact h1.trans h2
theorem sumE_cons {H : Type} (x : Lit × DataW H) (l : List (Lit × DataW H)) (g : Lit → Int) : sumE (x :: l) g = g x.1 * dval x.2 + sumE l g := by simp [sumE]
def atE {H : Type} (es : List (Lit × DataW H)) (k : Lit) : Int := dval ((DataW.map es).atKey k (.lit (.int .i64 0)))
theorem atE_nil {H : Type} (k : Lit) : atE ([] : List (Lit × DataW H)) k = 0 := rfl
theorem atE_cons {H : Type} (x : Lit × DataW H) (l : List (Lit × DataW H)) (k : Lit) : atE (x :: l) k = if x.1.sameKey k then dval x.2 else atE l k := by
  unfold atE DataW.atKey
  simp only [List.find?_cons]
  cases h : x.1.sameKey k <;> simp
theorem atE_none {H : Type} (l : List (Lit × DataW H)) (k : Lit) (h : ∀ x ∈ l, x.1.sameKey k = false) : atE l k = 0 := by
  induction l with
  | nil => rfl
  | cons x t ih => rw [atE_cons, h x (by simp), if_neg (by decide)]; exact ih fun y hy => h y (by simp [hy])
/-- The entries at other keys, and the one at k. -/
theorem sumE_split {H : Type} (k : Lit) (g : Lit → Int) : ∀ (es : List (Lit × DataW H)), es.Pairwise (fun p q => p.1 ≠ q.1) → sumE es g = sumE (es.filter (notKey k)) g + g k * atE es k
  | [], _ => by simp [sumE, atE_nil]
  | x :: t, h => by
    obtain ⟨h1, h2⟩ := List.pairwise_cons.1 h
    have ih := sumE_split k g t h2
    rw [sumE_cons, atE_cons]
    cases hs : x.1.sameKey k
    · rw [List.filter_cons_of_pos (by simp [notKey, hs]), sumE_cons, if_neg (by decide), ih]; omega
    · have e := WideAt.sameKey_eq hs
      rw [List.filter_cons_of_neg (by simp [notKey, hs]), if_pos rfl, ih]
      have hz : atE t k = 0 := atE_none t k fun y hy => by
        cases hy2 : y.1.sameKey k
        · rfl
        · exact absurd (e.trans (WideAt.sameKey_eq hy2).symm) (h1 y hy)
      rw [hz, e]; omega
theorem sumD_put {H : Type} {D : DataW H} (hD : Tidy D) (k : Lit) (d : DataW H) (g : Lit → Int) : sumD (D.put k d) g = sumD D g + g k * (dval d - dval (D.atKey k (.lit (.int .i64 0)))) := by
  obtain ⟨es, rfl, hp⟩ := hD
  rw [DataW.put_eq]
  show sumE (putKey k d es) g = sumE es g + g k * (dval d - atE es k)
  unfold putKey
  rw [sumE_perm (insert_perm _ _) g, sumE_cons, sumE_split k g es hp, Int.mul_sub]
  simp only
  omega
theorem sumD_del {H : Type} {D : DataW H} (hD : Tidy D) (k : Lit) (g : Lit → Int) : sumD (D.del k) g = sumD D g - g k * dval (D.atKey k (.lit (.int .i64 0))) := by
  obtain ⟨es, rfl, hp⟩ := hD
  rw [DataW.del_eq]
  show sumE (delKey k es) g = sumE es g - g k * atE es k
  unfold delKey
  rw [sumE_split k g es hp]
  omega
/-- The sum over what a mark tells. -/
theorem sumE_zero {H : Type} (l : List (Lit × DataW H)) (g : Lit → Int) (h : ∀ x ∈ l, g x.1 = 0) : sumE l g = 0 := by
  induction l with
  | nil => rfl
  | cons x t ih => rw [sumE_cons, h x (by simp), ih fun y hy => h y (by simp [hy])]; omega
theorem sumD_one {H : Type} {D : DataW H} (hD : Tidy D) {k : Lit} (hk : WideAt.IsKeyLit k) (g : Lit → Int) : sumD D (fun z => if z.sameKey k then g z else 0) = g k * dval (D.atKey k (.lit (.int .i64 0))) := by
  obtain ⟨es, rfl, hp⟩ := hD
  show sumE es (fun z => if z.sameKey k then g z else 0) = g k * atE es k
  rw [sumE_split k _ es hp, WideAt.sameKey_self hk, if_pos rfl, sumE_zero]
  · omega
  · intro x hx
    have hn := (List.mem_filter.1 hx).2
    unfold notKey at hn
    cases hs : x.1.sameKey k
    · rw [if_neg (by decide)]
    · rw [hs] at hn; cases hn
theorem sumD_add {H : Type} (D : DataW H) (f g : Lit → Int) : sumD D (fun z => f z + g z) = sumD D f + sumD D g := by
  unfold sumD
  split
  · rename_i es
    unfold sumE
    induction es with
    | nil => rfl
    | cons x t ih => simp only [List.map_cons, List.sum_cons, Int.add_mul] at ih ⊢; omega
  · rfl
theorem sumD_congr {H : Type} {D : DataW H} {f g : Lit → Int} (h : ∀ k, has D k = true → f k = g k) (hk : ∀ es, D = .map es → ∀ p ∈ es, WideAt.IsKeyLit p.1) : sumD D f = sumD D g := by
  unfold sumD
  split
  · rename_i es
    unfold sumE
    congr 1
    apply List.map_congr_left
    intro x hx
    rw [h x.1 (List.any_eq_true.2 ⟨x, hx, WideAt.sameKey_self (hk es rfl x hx)⟩)]
  · rfl

/-! An entry that is got, and stored again. -/
section
variable {P : Program} {t k e : TypeId} {w : World} {b n : Nat} {D : DataW Unit}
theorem setBlock_twice (w : World) (b : Nat) (o o' : Obj) : setBlock (setBlock w b o) b o' = setBlock w b o' := by
  unfold setBlock
  simp only [Array.setIfInBounds_setIfInBounds]
theorem own_entry (K : KeyLaw P k) (ht : P.underlying t = some (.map k e)) (he : P.underlying e = some (.int .i64)) (hz : ∀ u : World, (zeroValue e).run P u = .ok (.int .i64 0) u)
    (hown : w.ownsMap P k (plainElem P e) b n D) (hn : n < maxLen) {key : Value} {kl : Lit} (hkey : keyOf P k key = some kl) :
    ∃ (c st : Int) (w5 : World), (Instr.lookup t (.map (some b)) key false).run P w = .ok (.int .i64 c) w ∧ D.atKey kl (.lit (.int .i64 0)) = .lit (.int .i64 c) ∧
      (Instr.mapEntry t (.map (some b)) key).run P w = .ok (.tuple #[.int .i64 c, .int .i64 st]) w5 ∧ (Instr.lookup t (.map (some b)) key false).run P w5 = .ok (.int .i64 c) w5 ∧ w.grownBy w5 (some b) ∧
      ∀ x : Int, (Lit.int .i64 x).wf = true → ∃ w6, (Instr.entryStore t (.map (some b)) (.int .i64 st) (.int .i64 x)).run P w5 = .ok () w6 ∧ w6.ownsMap P k (plainElem P e) b (n + 1) (D.put kl (.lit (.int .i64 x))) ∧ w.grownBy w6 (some b) := by
  have KK := Keyed.of_law K
  obtain ⟨c, hl1, hat, hwc⟩ := hown.lookup_int KK ht he (hz w) hkey
  have hown' := hown
  obtain ⟨es, clock, hb, F, hs, hD⟩ := hown
  obtain ⟨v0, st, es1, clock1, hen, hv0, hst⟩ := entry_then_store K ht hz hb F hkey
  have h5 := heap_setBlock_same hb (.map es1 clock1)
  have hg5 : w.grownBy (setBlock w b (.map es1 clock1)) (some b) := ⟨rfl, rfl, rfl, by simp [setBlock], fun i _ hi => heap_setBlock_other hb _ (fun e => hi (by rw [e]))⟩
  have hstore : ∀ x : Int, (Lit.int .i64 x).wf = true → ∃ w6, (Instr.entryStore t (.map (some b)) (.int .i64 st) (.int .i64 x)).run P (setBlock w b (.map es1 clock1)) = .ok () w6 ∧ w6.ownsMap P k (plainElem P e) b (n + 1) (D.put kl (.lit (.int .i64 x))) ∧ w.grownBy w6 (some b) := by
    intro x hx
    obtain ⟨es', clock', hr1, hr2⟩ := hst (setBlock w b (.map es1 clock1)) (.int .i64 x) h5
    obtain ⟨w6, hr3, ho, hg⟩ := hown'.update KK ht hn hkey (plainElem_int he hx)
    rw [hr2] at hr3
    injection hr3 with _ hr3
    rw [setBlock_twice] at hr1
    exact ⟨w6, by rw [← hr3]; exact hr1, ho, hg⟩
  rcases K.find w hkey es.toList F.keys with ⟨h1, h2⟩ | ⟨j, e0, h1, h2, h3⟩
  · have r0 : (Instr.lookup t (.map (some b)) key false).run P w = .ok (.int .i64 0) w := by
      simp [Instr.lookup, run_underlying ht, MapKept.run_getObj_map hb, K.check w _ hkey, h1, hz, Result.andThen]
    rw [r0] at hl1
    injection hl1 with hl1 _
    injection hl1 with _ hl1
    subst hl1
    have r1 : (Instr.mapEntry t (.map (some b)) key).run P w = .ok (.tuple #[.int .i64 0, goInt clock]) (setBlock w b (.map (es.push ⟨key, .int .i64 0, clock⟩) (clock + 1))) := by
      simp [Instr.mapEntry, run_underlying ht, MapKept.run_getObj_map hb, K.check w false hkey, h1, hz, MapKept.run_setObj_map _ hb, Result.andThen, setBlock]
    have r2 : (Instr.mapUpdate t (.map (some b)) key (.int .i64 0)).run P w = .ok () (setBlock w b (.map (es.push ⟨key, .int .i64 0, clock⟩) (clock + 1))) := by
      simp [Instr.mapUpdate, run_underlying ht, MapKept.run_getObj_map hb, K.check w false hkey, h1, MapKept.run_setObj_map _ hb, Result.andThen, setBlock]
    obtain ⟨w6, hr3, ho, hg⟩ := hown'.update KK ht hn hkey (plainElem_int (H := Unit) he (show (Lit.int .i64 0).wf = true by decide))
    rw [r2] at hr3
    injection hr3 with _ hr3
    have hen' := hen
    rw [r1] at hen'
    injection hen' with e1 e2
    rw [e2] at hr3
    rw [← hr3] at ho
    obtain ⟨c2, hl2, hat2, _⟩ := ho.lookup_int KK ht he (hz _) hkey
    rw [atKey_put_same (hown'.tidy KK).isMap (KK.key hkey)] at hat2
    injection hat2 with hat2
    injection hat2 with _ hat2
    subst hat2
    have ev : v0 = .int .i64 0 := by
      injection e1 with e1
      simp at e1
      exact e1.1.symm
    exact ⟨0, st, _, r0, hat, by rw [← ev]; exact hen, hl2, hg5, hstore⟩
  · have hj : es[j]? = some e0 := by simpa using h2
    have r0 : (Instr.lookup t (.map (some b)) key false).run P w = .ok e0.val w := by
      simp [Instr.lookup, run_underlying ht, MapKept.run_getObj_map hb, K.check w _ hkey, h1, Result.andThen]
    have hl1' := hl1
    rw [r0] at hl1
    injection hl1 with hl1 _
    have hsame : es.modify j (fun e => { e with key := key }) = es := by
      apply Array.ext'
      rw [Array.toList_modify, modify_eq_set _ _ _ _ h2]
      have : ({ e0 with key := key } : MapEntry) = e0 := by rw [← h3]
      rw [this]
      exact set_self _ _ _ h2
    have r1 : (Instr.mapEntry t (.map (some b)) key).run P w = .ok (.tuple #[e0.val, goInt e0.born]) (setBlock w b (.map es clock)) := by
      simp [Instr.mapEntry, run_underlying ht, MapKept.run_getObj_map hb, K.check w false hkey, h1, hj, h3, K.stays w hkey, hsame, MapKept.run_setObj_map _ hb, Result.andThen, setBlock]
    have hen' := hen
    rw [r1] at hen'
    injection hen' with e1 e2
    have ev : v0 = .int .i64 c := by
      injection e1 with e1
      simp at e1
      rw [← hl1]; exact e1.1.symm
    have h6 := heap_setBlock_same hb (.map es clock)
    rw [e2] at h6
    have ho5 : (setBlock w b (.map es1 clock1)).ownsMap P k (plainElem P e) b n D := ⟨es, clock, h6, F, hs, hD⟩
    obtain ⟨c2, hl2, hat2, _⟩ := ho5.lookup_int KK ht he (hz _) hkey
    rw [hat] at hat2
    injection hat2 with hat2
    injection hat2 with _ hat2
    subst hat2
    exact ⟨c, st, _, hl1', hat, by rw [← ev]; exact hen, hl2, hg5, hstore⟩
end
end Go.Proofs.Ytmbfobcbnnalbaa
/-
  Sums of signs over shapes, held in a map: what a step does to them.
-/
namespace Go.Proofs.Ytmbfobcbnnalbaa
open Go.RowKit Go.Maps Go.ChangeMaps Go.MapKept Go.WideMaps Go.WideElems Go.WideShapes

/-- Alike but for multiples of 2^64. -/
def eqw (a b : Int) : Prop := ∃ q : Int, a - b = q * 18446744073709551616
theorem eqw.refl (a : Int) : eqw a a := ⟨0, by omega⟩
theorem eqw.of {a b : Int} (h : a = b) : eqw a b := ⟨0, by omega⟩
theorem eqw.symm {a b : Int} (h : eqw a b) : eqw b a := let ⟨q, e⟩ := h; ⟨-q, by omega⟩
theorem eqw.trans {a b c : Int} (h : eqw a b) (k : eqw b c) : eqw a c := let ⟨q, e⟩ := h; let ⟨r, f⟩ := k; ⟨q + r, by omega⟩
theorem eqw.add {a b c d : Int} (h : eqw a b) (k : eqw c d) : eqw (a + c) (b + d) := let ⟨q, e⟩ := h; let ⟨r, f⟩ := k; ⟨q + r, by omega⟩
theorem eqw.mul {a b : Int} (c : Int) (h : eqw a b) : eqw (c * a) (c * b) := by
  obtain ⟨q, e⟩ := h
  exact ⟨c * q, by rw [← Int.mul_sub, e, Int.mul_assoc]⟩
theorem eqw_wrap (n : Int) : eqw (wrap64 n) n := ⟨(wrap64 n - n) / 18446744073709551616, by unfold wrap64; omega⟩
theorem eqw_eq {a b : Int} (h : eqw a b) : wrap64 a = wrap64 b := by
  obtain ⟨q, e⟩ := h
  unfold wrap64; omega
theorem Good.sh {p : List Int} (G : Good p) (h : p.sum ≤ 12) : Sh p := ⟨by have := G.len_le; omega, fun j hj => ⟨G.pos j hj, G.le j hj⟩⟩

open Classical in
/-- The list that a key tells. -/
noncomputable def dec (l : Lit) : List Int := if h : ∃ p, Sh p ∧ klit p = l then Classical.choose h else []
theorem dec_k {p : List Int} (h : Sh p) : dec (klit p) = p := by
  have hx : ∃ q, Sh q ∧ klit q = klit p := ⟨p, h, rfl⟩
  unfold dec
  rw [dif_pos hx]
  have := Classical.choose_spec hx
  exact key_inj this.1 h this.2
theorem klit_key {p : List Int} (h : Sh p) : WideAt.IsKeyLit (klit p) := Try.shKeyed.key (key_of h)

/-- What a step makes of a number for each shape. -/
def tkF (t : Int) (G : List Int → Int) (p : List Int) : Int := ((tkL p t).map fun x => x.2 * G x.1).sum
def tkS' (L : List (List Int × Int)) (G : List Int → Int) : Int := (L.map fun x => x.2 * G x.1).sum
theorem tkS_take (L : List (List Int × Int)) (G : List Int → Int) (k : Nat) (h : k < L.length) : tkS' (L.take (k + 1)) G = tkS' (L.take k) G + (L.getD k tnil).2 * G (L.getD k tnil).1 := by
  unfold tkS'
  rw [List.take_succ_eq_append_getElem h, List.map_append, List.sum_append]
  have e : L.getD k tnil = L[k] := by rw [List.getD_eq_getElem?_getD, List.getElem?_eq_getElem h]; rfl
  rw [e]; simp
theorem tkK_mem {p : List Int} (G : Good p) {t : Int} (ht : 0 < t) : ∀ k, k ≤ p.length → ∀ x ∈ tkK p t k, Good x.1 ∧ x.1.sum = p.sum - t ∧ x.1.length ≤ p.length
  | 0, _, x, hx => by simp [tkK] at hx
  | k + 1, hk, x, hx => by
    cases h : tkB p t k
    · rw [tkK_no G (by omega) h] at hx
      exact tkK_mem G ht k (by omega) x hx
    · obtain ⟨q, e, _, h2, h3, h4, _⟩ := tkK_yes G ht (by omega) h
      rw [e, List.mem_append, List.mem_singleton] at hx
      rcases hx with hx | rfl
      · exact tkK_mem G ht k (by omega) x hx
      · exact ⟨h2, h4, h3⟩
theorem tkL_at {p : List Int} (G : Good p) {t : Int} (ht : 0 < t) (k : Nat) (h : k < (tkL p t).length) : Good ((tkL p t).getD k tnil).1 ∧ ((tkL p t).getD k tnil).1.sum = p.sum - t ∧ ((tkL p t).getD k tnil).1.length ≤ p.length := by
  refine tkK_mem G ht p.length (Nat.le_refl _) _ ?_
  rw [List.getD_eq_getElem?_getD, List.getElem?_eq_getElem h]
  exact List.getElem_mem h

abbrev mOwn (w : World) (b n : Nat) (D : DataW Unit) : Prop := w.ownsMap Try.prog 107 (plainElem Try.prog 3) b n D
abbrev mRng (w : World) (b r n : Nat) (D : DataW Unit) (left : Lit → Bool) (cnt : Nat) : Prop := w.ranges Try.prog 107 (plainElem Try.prog 3) b r n D left cnt
def KeysAt (D : DataW Unit) (m : Nat) : Prop := ∀ l, has D l = true → ∃ p, Good p ∧ p.sum = m ∧ l = klit p
structure SW (w : World) (b n m : Nat) (Φ : (List Int → Int) → Int) (D : DataW Unit) : Prop where
  own : mOwn w b n D
  keys : KeysAt D m
  sum : ∀ G : List Int → Int, eqw (sumD D fun l => G (dec l)) (Φ G)
theorem mOwn.tidy' {w : World} {b n : Nat} {D : DataW Unit} (h : mOwn w b n D) : Tidy D := h.tidy Try.shKeyed
theorem mOwn.kl {w : World} {b n : Nat} {D : DataW Unit} (h : mOwn w b n D) : ∀ es, D = .map es → ∀ p ∈ es, WideAt.IsKeyLit p.1 := by
  intro es e p hp
  obtain ⟨es', e', _, hk⟩ := h.entries Try.shKeyed
  rw [e] at e'
  injection e' with e'
  rw [e'] at hp
  exact hk p hp
theorem keys_put {D : DataW Unit} {m : Nat} (h : KeysAt D m) {q : List Int} (Gq : Good q) (hq : q.sum = m) (d : DataW Unit) : KeysAt (D.put (klit q) d) m := by
  intro l hl
  by_cases e : l = klit q
  · exact ⟨q, Gq, hq, e⟩
  · rw [has_put_other e] at hl; exact h l hl
theorem keys_del {D : DataW Unit} {m : Nat} (h : KeysAt D m) (k : Lit) : KeysAt (D.del k) m := by
  intro l hl
  by_cases e : l = k
  · subst e; rw [has_del_same] at hl; cases hl
  · rw [has_del_other e] at hl; exact h l hl

/-- What the entries that have come have made. -/
noncomputable def came (D : DataW Unit) (left : Lit → Bool) (F : List Int → Int) : Int := sumD D fun l => if left l then 0 else F (dec l)
theorem came_start {w : World} {b n : Nat} {D : DataW Unit} (h : mOwn w b n D) (F : List Int → Int) : came D (has D) F = 0 := by
  unfold came
  have hz : sumD D (fun l => if has D l then 0 else F (dec l)) = sumD D (fun _ => 0) := sumD_congr (fun k hk => by rw [if_pos hk]) (fun es e p hp => h.kl es e p hp)
  rw [hz]
  unfold sumD
  split
  · exact sumE_zero _ _ fun _ _ => rfl
  · rfl
theorem came_end {D : DataW Unit} {left : Lit → Bool} (h : ∀ l, left l = false) (F : List Int → Int) : came D left F = sumD D fun l => F (dec l) := by
  unfold came
  congr 1
  funext l
  rw [h l]; rfl
theorem came_step {w : World} {b n : Nat} {D : DataW Unit} (h : mOwn w b n D) {left : Lit → Bool} {p : List Int} (hp : Sh p) (hl : left (klit p) = true) {c : Int} (hat : D.atKey (klit p) (.lit (.int .i64 0)) = .lit (.int .i64 c)) (F : List Int → Int) :
    came D (fun z => left z && !z.sameKey (klit p)) F = came D left F + F p * c := by
  have hk := klit_key hp
  have e1 : came D (fun z => left z && !z.sameKey (klit p)) F = sumD D (fun l => (if left l then 0 else F (dec l)) + (if l.sameKey (klit p) then F (dec l) else 0)) := by
    unfold came
    congr 1
    funext l
    cases hs : l.sameKey (klit p)
    · cases hll : left l <;> simp [hs, hll]
    · have e := WideAt.sameKey_eq hs
      subst e
      simp [hs, hl]
  rw [e1, sumD_add]
  have e2 := sumD_one h.tidy' hk (fun l => F (dec l))
  rw [hat, dec_k hp] at e2
  rw [e2]; rfl
end Go.Proofs.Ytmbfobcbnnalbaa
/-
  Contract: one more rim taken away in all ways.
-/
namespace Go.Proofs.Ytmbfobcbnnalbaa
open Go.RowKit Go.Maps Go.ChangeMaps Go.MapKept Go.WideMaps Go.WideElems Go.WideShapes

theorem iwrap (n : Int) : IntKind.i64.wrap n = wrap64 n := IntWalk.i64_left n
theorem size_le {w : World} {b n : Nat} {D : DataW Unit} (h : mOwn w b n D) : Maps.size D ≤ n := by
  obtain ⟨es, clock, _, _, hs, rfl⟩ := h
  simp only [Maps.size, length_sorted, List.length_map, Array.length_toList]
  exact hs
/-- What the outer loop keeps. -/
structure OutR (wr : World) (b b1 r n m' : Nat) (t : Int) (D0 : DataW Unit) (left : Lit → Bool) (cnt n1 : Nat) (D1 : DataW Unit) : Prop where
  rng : mRng wr b r n D0 left cnt
  own : mOwn wr b1 n1 D1
  keys : KeysAt D1 m'
  cnt : n1 + 12 * cnt ≤ 12 * n
  sum : ∀ G : List Int → Int, eqw (sumD D1 fun l => G (dec l)) (came D0 left (tkF t G))
/-- What the inner loop keeps: k rims of the entry at p have come. -/
structure InnR (wr : World) (b b1 r n m' : Nat) (t : Int) (D0 : DataW Unit) (left left' : Lit → Bool) (cnt n1 : Nat) (c : Int) (L : List (List Int × Int)) (k : Nat) (D1 : DataW Unit) : Prop where
  rng : mRng wr b r n D0 left' cnt
  own : mOwn wr b1 n1 D1
  keys : KeysAt D1 m'
  cnt : n1 + 12 + 12 * cnt ≤ 12 * n + k
  sum : ∀ G : List Int → Int, eqw (sumD D1 fun l => G (dec l)) (came D0 left (tkF t G) + c * tkS' (L.take k) G)
theorem InnR.keep {wr w' : World} {b b1 r n m' : Nat} {t : Int} {D0 : DataW Unit} {left left' : Lit → Bool} {cnt n1 : Nat} {c : Int} {L : List (List Int × Int)} {k : Nat} {D1 : DataW Unit}
    (h : InnR wr b b1 r n m' t D0 left left' cnt n1 c L k D1) (hb : Below wr.heap.size wr w') : InnR w' b b1 r n m' t D0 left left' cnt n1 c L k D1 := by
  have hg : wr.grownBy w' none := ⟨hb.os, hb.tape, hb.output, hb.size, fun i hi _ => hb.block i hi⟩
  exact ⟨h.rng.kept hg (by simp) (by simp), h.own.kept hg (by simp), h.keys, h.cnt, h.sum⟩

theorem grown_of_below {a c : World} (h : Below a.heap.size a c) : a.grownBy c none := ⟨h.os, h.tape, h.output, h.size, fun i hi _ => h.block i hi⟩
theorem Tks.kept {w w' : World} {B b : Nat} {v : Value} {L : List (List Int × Int)} {P : Nat → Option Addr} {C : Nat → Nat} (h : Tks w B v L P C) (hg : w.grownBy w' (some b)) (hb : b < B) : Tks w' B v L P C := by
  refine ⟨?_, fun j hj => (h.row j hj).keep fun k hk hlt => hg.block k hlt (fun e => by injection e with e; have := (h.row j hj).block k hk; omega)⟩
  have ho := h.out
  refine ⟨ho.1, ?_⟩
  rcases ho.2 with hn | ⟨g, cap, cur, hv, hbb, hgg, rest⟩
  · exact .inl hn
  · exact .inr ⟨g, cap, cur, hv, hbb, by rw [hg.block g (Array.getElem?_eq_some_iff.1 hgg).1 (fun e => by injection e with e; omega)]; exact hgg, rest⟩
theorem InnR.put {w6 w8 : World} {b b1 r n m' : Nat} {t : Int} {D0 : DataW Unit} {left left' : Lit → Bool} {cnt n1 : Nat} {c : Int} {L : List (List Int × Int)} {k : Nat} {D1 : DataW Unit}
    (h : InnR w6 b b1 r n m' t D0 left left' cnt n1 c L k D1) (hk : k < L.length) {q : List Int} {s c1 y1 y2 : Int} (hL : (q, s) = L.getD k tnil) (Gq : Good q) (hq : q.sum = m') (h12 : q.sum ≤ 12)
    (hat : D1.atKey (klit q) (.lit (.int .i64 0)) = .lit (.int .i64 c1)) (hy1 : y1 = wrap64 (c * s)) (hy2 : y2 = wrap64 (c1 + y1)) (ho : mOwn w8 b1 (n1 + 1) (D1.put (klit q) (.lit (.int .i64 y2)))) (hg : w6.grownBy w8 (some b1)) (hb : b ≠ b1) (hr : r ≠ b1) :
    InnR w8 b b1 r n m' t D0 left left' cnt (n1 + 1) c L (k + 1) (D1.put (klit q) (.lit (.int .i64 y2))) := by
  refine ⟨h.rng.kept hg (fun e => by injection e with e; exact hb e) (fun e => by injection e with e; exact hr e), ho, keys_put h.keys Gq hq _, by have := h.cnt; omega, fun G => ?_⟩
  rw [sumD_put h.own.tidy', hat, dec_k (Gq.sh h12), tkS_take L G k hk, ← hL, Int.mul_add, ← Int.add_assoc]
  refine (h.sum G).add ?_
  show eqw (G q * (y2 - c1)) (c * (s * G q))
  have e1 : eqw (y2 - c1) (c * s) := by
    obtain ⟨a1, ha1⟩ := eqw_wrap (c * s)
    obtain ⟨a2, ha2⟩ := eqw_wrap (c1 + y1)
    rw [← hy1] at ha1
    rw [← hy2] at ha2
    exact ⟨a1 + a2, by omega⟩
  have e2 := e1.mul (G q)
  rw [show c * (s * G q) = G q * (c * s) by rw [← Int.mul_assoc, Int.mul_comm]]
  exact e2

set_option maxRecDepth 100000 in
set_option maxHeartbeats 8000000 in
theorem without_any (b n m : Nat) (t : Int) (Φ : (List Int → Int) → Int) (D0 : DataW Unit) (w : World) (hm : m ≤ 12) (ht : 1 ≤ t ∧ t ≤ 12) (hn : n ≤ 1000000000000) (h0 : SW w b n m Φ D0) :
    Calls Try.prog 173 #[.map (some b), .int .i64 t] w fun e w' => ∃ b' D', e = .returned (.map (some b')) ∧ w.heap.size ≤ b' ∧ SW w' b' (12 * n) (m - t.toNat) (fun G => Φ (tkF t G)) D' ∧ Below w.heap.size w w' := by
  have hmm := @run_makeMap Try.prog
  have hlt := h0.own.lt
  have hownA : mOwn (w.alloc (.map #[] 0)) b n D0 := h0.own.alloc _
  have hnew : mOwn (w.alloc (.map #[] 0)) w.heap.size 0 (.map []) := World.ownsMap_made _ _ _ _
  have bA : Below w.heap.size w (w.alloc (.map #[] 0)) := (Below.refl _ _).alloc (Nat.le_refl _) _
  have HOA := hid hownA; have HNEW := hid hnew; have HBA := hid bA; have H0 := hid h0
  clear hownA hnew bA h0
  go_enter Try.func173, Try.ntmps173
  go_wp2_with (at_range; refine wpList_range_own _ rfl _ 110 rfl 107 3 Try.shKeyed Try.underlying110 _ b n D0 rfl HOA.out ?_)
  intro w0 hrg0 hg0 hs0
  try rw [World.size_alloc] at hs0
  go_wp2_with fail
  have HO0 := hid (show OutR w0 b w.heap.size (w.heap.size + 1) n (m - t.toNat) t D0 (has D0) (Maps.size D0) 0 (.map []) from
    ⟨hrg0, HNEW.out.kept hg0 (by simp), fun l hl => (by cases hl), by have := size_le HOA.out; omega, fun G => by rw [came_start HOA.out]; exact eqw.refl 0⟩)
  have HB0 := hid (HBA.out.trans ⟨hg0.os, hg0.tape, hg0.output, by have := hg0.size; omega, fun i hi => hg0.block i (by simp; omega) (by simp)⟩ : Below w.heap.size w w0)
  clear hrg0 hg0 hs0
  go_loopw [7] (fun _ wr => ∃ left cnt n1 D1, Hid (OutR wr b w.heap.size (w.heap.size + 1) n (m - t.toNat) t D0 left cnt n1 D1) ∧ Hid (Below w.heap.size w wr)) (fun _ wr => wr.rangeLeft b (w.heap.size + 1))
  case atStart => exact ⟨_, _, _, _, HO0, HB0⟩
  case round =>
    obtain ⟨left, cnt, n1, D1, HR, HB⟩ := hrel
    obtain ⟨wo, rfl⟩ : ∃ wo : World, wo = wr := ⟨_, rfl⟩
    go_wp2_with (at_next; refine wpList_next_ranges _ rfl _ rfl 107 Try.shKeyed (plainElem Try.prog 3) (fun v : Value => v) (Value.int .i64) (fun key kl _ => ⟨key, rfl⟩) (fun v y hv => by obtain ⟨c, rfl, _⟩ := plainElem_int_inv Try.underlying3 hv; exact ⟨c, rfl⟩) b (w.heap.size + 1) n D0 left cnt rfl HR.out.rng ?_ ?_)
    · intro hc0 hl0
      have HS1 := hid (show ∀ G : List Int → Int, eqw (sumD D1 fun l => G (dec l)) (Φ (tkF t G)) from fun G => (HR.out.sum G).trans (by rw [came_end hl0]; exact H0.out.sum (tkF t G)))
      have HOW := hid HR.out.own
      have HKS := hid HR.out.keys
      have hn1 : n1 ≤ 12 * n := by have := HR.out.cnt; omega
      have hwb := HOW.out.lt
      have HBW := hid HB.out
      clear hc0 hl0 HR HB
      go_wp2_with (at_range; refine wpList_range_own _ rfl _ 110 rfl 107 3 Try.shKeyed Try.underlying110 _ w.heap.size n1 D1 rfl HOW.out ?_)
      intro w2 hrg2 hg2 hs2
      have HG2 := hid hg2
      have HR2 := hid (show mRng w2 w.heap.size wo.heap.size n1 D1 (has D1) (Maps.size D1) from hrg2)
      clear hrg2 hg2 hs2
      go_wp2_with fail
      go_loopw [11] (fun _ wr => ∃ left2 cnt2 D2, Hid (mRng wr w.heap.size wo.heap.size n1 D2 left2 cnt2) ∧ Hid (KeysAt D2 (m - t.toNat)) ∧ Hid (∀ G : List Int → Int, eqw (sumD D2 fun l => G (dec l)) (Φ (tkF t G))) ∧ Hid (wo.grownBy wr (some w.heap.size))) (fun _ wr => wr.rangeLeft w.heap.size wo.heap.size)
      case atStart => exact ⟨_, _, _, HR2, HKS, HS1, hid (HG2.out.but _)⟩
      case round =>
        obtain ⟨left2, cnt2, D2, HRr, HKr, HSr, HGr⟩ := hrel
        obtain ⟨wi, rfl⟩ : ∃ wi : World, wi = wr := ⟨_, rfl⟩
        go_wp2_with (at_next; refine wpList_next_ranges _ rfl _ rfl 107 Try.shKeyed (plainElem Try.prog 3) (fun v : Value => v) (Value.int .i64) (fun key kl _ => ⟨key, rfl⟩) (fun v y hv => by obtain ⟨c, rfl, _⟩ := plainElem_int_inv Try.underlying3 hv; exact ⟨c, rfl⟩) w.heap.size wo.heap.size n1 D2 left2 cnt2 rfl HRr.out ?_ ?_)
        · intro _ _
          have HFIN := hid (show SW wi w.heap.size (12 * n) (m - t.toNat) (fun G => Φ (tkF t G)) D2 from ⟨HRr.out.owns.mono hn1, HKr.out, HSr.out⟩)
          have hbe : Below w.heap.size w wi := HBW.out.trans ⟨HGr.out.os, HGr.out.tape, HGr.out.output, HGr.out.size, fun i hi => HGr.out.block i (by omega) (fun e => by injection e with e; omega)⟩
          have HBE := hid hbe
          clear hbe
          go_wp2_with fail
          go_ret
          exact ⟨_, D2, rfl, Nat.le_refl _, HFIN.out, HBE.out⟩
        · intro key c l0 yd yp w3 cnt3 hkey hlx hv hat hrg3 hltc hg3 hs3 hen
          obtain ⟨p, Gp, hpm, rfl⟩ := HKr.out _ (has_true_of_atKey hat)
          have hSh := Gp.sh (by omega)
          obtain rfl : key = shV p := Try.shKeyed.inj hkey (key_of hSh)
          obtain ⟨c', ec, ey, hwc⟩ := plainElem_int_inv Try.underlying3 hv
          injection ec with _ ec
          subst ec
          injection ey with ey1 ey2
          subst ey1; subst ey2
          have HZ := hid (show (w3.alloc (.cells zShp 107)).heap[w3.heap.size]? = some (.cells zShp 107 (0, 0)) from heap_alloc_new _ _)
          obtain ⟨w4, hw4⟩ : ∃ w4, w4 = (w3.alloc (.cells zShp 107)).setRow w3.heap.size (ca 12 (shC p)) := ⟨_, rfl⟩
          have x4 : Blk w4 w3.heap.size 107 12 (shC p) := by
            rw [hw4]
            have h := Blk.new w3 107 12 (shC [])
            rw [← zShp_ca] at h
            exact setRow_blk h _
          have b4 : Below w3.heap.size w3 w4 := by rw [hw4]; exact setRow_below ((Below.refl _ _).alloc (Nat.le_refl _) _) (Nat.le_refl _) _
          have HW4 : Hid (w4 = (w3.alloc (.cells #[.int .i64 0, .int .i64 0, .int .i64 0, .int .i64 0, .int .i64 0, .int .i64 0, .int .i64 0, .int .i64 0, .int .i64 0, .int .i64 0, .int .i64 0, .int .i64 0] 107)).setRow w3.heap.size (ca 12 (shC p))) := hw4
          have HX4 := hid x4
          have HR4 := hid (show mRng w4 w.heap.size wo.heap.size n1 D2 (fun z => left2 z && !z.sameKey (klit p)) cnt3 from hrg3.kept (grown_of_below b4) (by simp) (by simp))
          have hGr3 : wo.grownBy w3 (some w.heap.size) := HGr.out.andThen hg3 (fun j e => by injection e with e; left; omega)
          have HG4 := hid (hGr3.andThen (grown_of_below b4) (fun j e => by cases e))
          have HAT := hid (hat (.lit (.int .i64 0)))
          have HL0 := hid HRr.out.left_eq
          have HLT := hid hltc
          have HKEY := hid hkey
          have HTI := hid (HRr.out.owns.tidy Try.shKeyed)
          have HS3 := hid hs3
          clear hkey hlx hv hat hrg3 hg3 hltc hw4 x4 b4 hGr3 hs3
          by_cases hc : c = 0
          · subst hc
            go_wp2_with (first | (refine wpList_store_row rfl 107 _ _ rfl w3.heap.size (ca 12 (shC p)) rfl rfl 107 zShp HZ.out (by rw [ca_size]; exact Try.shSize) (by rw [ca_size]; rfl) (shC_one p) ?_) | (refine wpList_load_row rfl 107 _ rfl w3.heap.size rfl 107 (ca 12 (shC p)) (0, 0) _ (HW4.out ▸ HX4.out) Try.underlying107 rfl (by rw [ca_size]; exact Try.shSize) ?_) | (at_delete; refine wpList_delete_ranges _ rfl _ _ 110 107 rfl 3 Try.shKeyed Try.underlying110 (plainElem Try.prog 3) w.heap.size wo.heap.size n1 D2 _ cnt3 rfl (HW4.out ▸ HR4.out) (shV p) (klit p) rfl HKEY.out ?_))
            intro w5 cnt5 hr5 hle5 ht5
            rw [← HW4.out] at ht5
            have HR5 := hid hr5
            have HK5 := hid (keys_del HKr.out (klit p))
            have HS5 := hid (show ∀ G : List Int → Int, eqw (sumD (D2.del (klit p)) fun l => G (dec l)) (Φ (tkF t G)) from fun G => by
              rw [sumD_del HTI.out, HAT.out]
              have e : dval (DataW.lit (Lit.int .i64 0) : DataW Unit) = 0 := rfl
              rw [e, Int.mul_zero, Int.sub_zero]
              exact HSr.out G)
            have HG5 := hid (HG4.out.andThen ht5.grown (fun j e => .inr e))
            have HL5 := hid hr5.left_eq
            have HLE5 := hid hle5
            clear hr5 hle5 ht5
            go_wp2_with fail
            exact ⟨⟨_, _, _, HR5, HK5, HS5, HG5⟩, by rw [HL5.out, HL0.out]; have := HLE5.out; have := HLT.out; omega⟩
          · have hc2 : (c == 0) = false := beq_eq_false_iff_ne.2 hc
            go_wp2_with (first | (refine wpList_store_row rfl 107 _ _ rfl w3.heap.size (ca 12 (shC p)) rfl rfl 107 zShp HZ.out (by rw [ca_size]; exact Try.shSize) (by rw [ca_size]; rfl) (shC_one p) ?_))
            rw [← HW4.out]
            have HL5 := hid HR4.out.left_eq
            go_wp2_with fail
            exact ⟨⟨_, _, _, HR4, HKr, HSr, HG4⟩, by rw [HL5.out, HL0.out]; exact HLT.out⟩
    · intro key c l0 yd yp w1 cnt1 hkey hlx hv hat hrg1 hltc hg1 hs1 hen
      obtain ⟨p, Gp, hpm, rfl⟩ := H0.out.keys _ (has_true_of_atKey hat)
      have hSh := Gp.sh (by omega)
      obtain rfl : key = shV p := Try.shKeyed.inj hkey (key_of hSh)
      obtain ⟨c', ec, ey, hwc⟩ := plainElem_int_inv Try.underlying3 hv
      injection ec with _ ec
      subst ec
      injection ey with ey1 ey2
      subst ey1; subst ey2
      have hstep := fun F => came_step (HOA.out : mOwn (w.alloc (.map #[] 0)) b n D0) hSh hlx (hat _) F
      have HB1 := hid ((HB.out).trans ⟨hg1.os, hg1.tape, hg1.output, hg1.size, fun i hi => hg1.block i (by have := HB.out.size; omega) (by intro e; injection e with e; omega)⟩ : Below w.heap.size w w1)
      have HI0 := hid (show InnR w1 b w.heap.size (w.heap.size + 1) n (m - t.toNat) t D0 left (fun z => left z && !z.sameKey (klit p)) cnt1 n1 c (tkL p t) 0 D1 from
        ⟨hrg1, HR.out.own.kept hg1 (by simp), HR.out.keys, by have := HR.out.cnt; omega, fun G => by
          have h := HR.out.sum G
          have e : c * tkS' ((tkL p t).take 0) G = 0 := by simp [tkS']
          rw [e, Int.add_zero]; exact h⟩)
      have HST := hid hstep
      have hr1 := HI0.out.rng.lt
      have HLE := hid (show mRng wo b (w.heap.size + 1) n D0 left cnt from HR.out.rng)
      have HS1 := hid hs1
      have HEN := hid hen
      have HLT := hid hltc
      have hwle := HB1.out.size
      clear hkey hlx hv hat hrg1 hg1 hstep hltc hs1
      have HZ := hid (show (w1.alloc (.cells zShp 107)).heap[w1.heap.size]? = some (.cells zShp 107 (0, 0)) from heap_alloc_new _ _)
      obtain ⟨w2, hw2⟩ : ∃ w2, w2 = (w1.alloc (.cells zShp 107)).setRow w1.heap.size (ca 12 (shC p)) := ⟨_, rfl⟩
      have x2 : Blk w2 w1.heap.size 107 12 (shC p) := by
        rw [hw2]
        have h := Blk.new w1 107 12 (shC [])
        rw [← zShp_ca] at h
        exact setRow_blk h _
      have b2 : Below w1.heap.size w1 w2 := by rw [hw2]; exact setRow_below ((Below.refl _ _).alloc (Nat.le_refl _) _) (Nat.le_refl _) _
      have HW2 := hid hw2; have HX2 := hid x2; have HB2 := hid b2
      have HW2' : Hid (w2 = (w1.alloc (.cells #[.int .i64 0, .int .i64 0, .int .i64 0, .int .i64 0, .int .i64 0, .int .i64 0, .int .i64 0, .int .i64 0, .int .i64 0, .int .i64 0, .int .i64 0, .int .i64 0] 107)).setRow w1.heap.size (ca 12 (shC p))) := hw2
      have HPA := hid fun W => parts_any p W hSh.len (fun j hj => (hSh.pos j hj).1)
      have HTK := hid fun A2 c2 W (h : Cells W A2 p) => takenRims_any A2 c2 p t W Gp (by omega) h
      have HTL := hid fun k (hk : k < (tkL p t).length) => tkL_at Gp (t := t) (by omega) k hk
      have hTl := tkK_len Gp (t := t) (by omega) p.length (Nat.le_refl _)
      change (tkL p t).length ≤ p.length at hTl
      have hpl := hSh.len
      clear hw2 x2 b2
      go_wp2_with (first | (refine wpList_store_row rfl 107 _ _ rfl w1.heap.size (ca 12 (shC p)) rfl rfl 107 zShp HZ.out (by rw [ca_size]; exact Try.shSize) (by rw [ca_size]; rfl) (shC_one p) ?_) | (refine wpList_load_row rfl 107 _ rfl w1.heap.size rfl 107 (ca 12 (shC p)) (0, 0) _ (HW2.out ▸ HX2.out) Try.underlying107 rfl (by rw [ca_size]; exact Try.shSize) ?_))
      rw [← HW2'.out]
      refine (HPA.out w2).mono ?_
      rintro e w3 ⟨A3, c3, rfl, hc3, b3⟩
      have HC3 := hid hc3
      have HB3 := hid (Below.next HB2.out b3)
      have hsw3 := HB3.out.size
      clear hc3 b3
      go_wp2_with fail
      refine (HTK.out _ _ _ HC3.out).mono ?_
      rintro e w4 ⟨v, P, C, rfl, ht4, b4⟩
      have HT4 := hid ht4
      have HB4 := hid (Below.next HB3.out b4)
      clear ht4 b4
      have HI4 := hid (HI0.out.keep HB4.out)
      have HST' := hid fun G => HST.out (tkF t G)
      have HKP := hid (klit_key hSh)
      have HF := hid (show ∀ G, tkF t G p = tkS' (tkL p t) G from fun G => rfl)
      obtain ⟨L, hL⟩ : ∃ L, L = tkL p t := ⟨_, rfl⟩
      rw [← hL] at HTL hTl HT4 HI4 HF
      clear hL HI0 HPA HTK HST HW2 HW2' HX2 HZ HEN
      -- the row of rims lies at a block, or is nil
      have hv4 := HT4.out.out
      obtain ⟨A4, c4, hveq⟩ : ∃ A4 c4, v = .slice A4 L.length c4 := by
        rcases hv4.2 with ⟨hvn, h0⟩ | ⟨g, cap, cur, hvn, _⟩
        · exact ⟨none, 0, by rw [h0]; exact hvn⟩
        · exact ⟨_, _, hvn⟩
      subst hveq
      clear hv4
      have hL12 : L.length ≤ 12 := by omega
      go_wp2_with fail
      go_loopw [25] (fun jv wr => ∃ k n2 D2, k ≤ L.length ∧ jv = .int .i64 (k : Nat) ∧ Hid (InnR wr b w.heap.size (w.heap.size + 1) n (m - t.toNat) t D0 left (fun z => left z && !z.sameKey (klit p)) cnt1 n2 c L k D2) ∧ Hid (Tks wr w3.heap.size (.slice A4 L.length c4) L P C) ∧ Hid (w1.grownBy wr (some w.heap.size))) (fun jv _ => L.length - (intOf jv).toNat)
      case atStart => exact ⟨0, _, _, Nat.zero_le _, rfl, HI4, HT4, hid ((grown_of_below HB4.out).but _)⟩
      case round =>
        obtain ⟨k, n2, D2, hk, rfl, HI, HT, HBr⟩ := hrel
        obtain ⟨wi, rfl⟩ : ∃ wi : World, wi = wr := ⟨_, rfl⟩
        by_cases hkl : k < L.length
        · obtain ⟨Gq, hqs, hql⟩ := HTL.out k hkl
          have hrow := HT.out.row k hkl
          have hc0 := TB_at (P := P) (C := C) (L := L) (j := k) (t := 0) hkl (by omega)
          have hc1 := TB_at (P := P) (C := C) (L := L) (j := k) (t := 1) hkl (by omega)
          have htk := fun G => tkS_take L G k hkl
          obtain ⟨g, rfl⟩ : ∃ g, A4 = some ⟨g, 0, none⟩ := by
            rcases HT.out.out.2 with ⟨_, hz⟩ | ⟨g, cap, cur, hvn, _⟩
            · omega
            · injection hvn with hvn; exact ⟨g, hvn⟩
          have f0 := World.ownsRow.cellAt HT.out.out (k * 2 + 0) (by omega)
          have f1 := World.ownsRow.cellAt HT.out.out (k * 2 + 1) (by omega)
          rw [hc0] at f0
          rw [hc1] at f1
          obtain ⟨qs, hqq⟩ : ∃ qs, qs = L.getD k tnil := ⟨_, rfl⟩
          rw [← hqq] at Gq hqs hql hrow f0 f1 htk
          obtain ⟨q, s⟩ := qs
          simp only at Gq hqs hql hrow f0 f1 htk
          change wi.cell? ⟨g, k * 2, none⟩ = some (.slice (P k) q.length (C k)) at f0
          change wi.cell? ⟨g, k * 2 + 1, none⟩ = some (.int .i64 s) at f1
          have HTKK := hid htk
          have HQQ := hid hqq
          have HROW := hid hrow
          clear hc0 hc1 htk hqq hrow
          go_upto_region 8 with fail
          obtain ⟨w5, hw5⟩ : ∃ w5, w5 = wi.alloc (.cells #[.slice (P k) q.length (C k), .int .i64 s] 143) := ⟨_, rfl⟩
          have X5 := hid (Box2.new wi 143 (.slice (P k) q.length (C k)) (.int .i64 s))
          have b5 : Below wi.heap.size wi w5 := by rw [hw5]; exact (Below.refl _ _).alloc (Nat.le_refl _) _
          have hs5 : w5.heap.size = wi.heap.size + 1 := by rw [hw5]; simp
          rw [← hw5] at X5 ⊢
          have HS5 := hid hs5
          have HI5 := hid (show InnR w5.drew b w.heap.size (w.heap.size + 1) n (m - t.toNat) t D0 left (fun z => left z && !z.sameKey (klit p)) cnt1 n2 c L k D2 from HI.out.keep (below_drewN b5 1))
          have HT5 := hid (show Tks w5.drew w3.heap.size (.slice (some ⟨g, 0, none⟩) L.length c4) L P C from HT.out.below (below_drewN b5 1))
          have HB5 := hid (show wi.grownBy w5.drew none from grown_of_below (below_drewN b5 1))
          have k0 : w5.drew.cell? ⟨wi.heap.size, 0, none⟩ = some (.slice (P k) q.length (C k)) := X5.out.cell0
          have k1 : w5.drew.cell? ⟨wi.heap.size, 1, none⟩ = some (.int .i64 s) := X5.out.cell1
          have HR5 := hid ((HROW.out.below (below_drewN b5 1)).cells : Cells w5.drew (P k) q)
          have hShq := Gq.sh (by omega)
          have HSH := hid fun W (h : Cells W (P k) q) => shapeOf_any (P k) (C k) q W hShq.len h
          have EG := hid (show ∀ args w, (callFunc 172 args).run Try.prog w = .ok (.enter 172 args) w from enters_of Try.func172 (by kernel_rfl) rfl)
          have hn2 : n2 < maxLen := by have := HI.out.cnt; unfold maxLen; omega
          have hrlt := HI.out.rng.lt
          have hq0 := Gq.sum0
          have hwne : wi.heap.size ≠ w.heap.size := by omega
          have hwi : wi.heap.size < w5.drew.heap.size := by show wi.heap.size < w5.heap.size; omega
          clear hw5 b5 hs5 f0 f1
          go_region_law (refine step_call _ rfl 172 #[.slice (P k) q.length (C k)] (exec_call1 _ _ (.tmp 31) 22 rfl _ (by first | rfl | (simp [Act.eval]; done) | (simp [Act.eval, Act.put]; done)) (EG.out _ _)) (fun v w' => v = shV q ∧ Below w5.drew.heap.size w5.drew w') ((HSH.out _ HR5.out).mono (by rintro e w' ⟨rfl, b6⟩; exact ⟨_, rfl, rfl, b6⟩)) ?_; rintro v w6 ⟨rfl, b6⟩; have I6 := hid (HI5.out.keep b6); have T6 := hid (HT5.out.below b6); have B6 := hid (HB5.out.andThen (grown_of_below b6) (fun j e => by cases e)); have j1 : w6.cell? ⟨wi.heap.size, 1, none⟩ = some (.int .i64 s) := (b6.cell hwi).trans k1; have s6 := b6.size; obtain ⟨c1, st, w7, hlk, hat1, hen1, hlk7, hg7, hst⟩ := own_entry Try.shLaw Try.underlying110 Try.underlying3 Try.zeroI I6.out.own hn2 (key_of hShq); have j2 : w7.cell? ⟨wi.heap.size, 1, none⟩ = some (.int .i64 s) := (World.cell?_of_block (w := w6) (hg7.block wi.heap.size (Nat.lt_of_lt_of_le hwi s6) (fun e => by injection e with e; exact absurd e hwne))).trans j1; obtain ⟨y1, hy1⟩ : ∃ y1, y1 = wrap64 (c * s) := ⟨_, rfl⟩; obtain ⟨y2, hy2⟩ : ∃ y2, y2 = wrap64 (c1 + y1) := ⟨_, rfl⟩; obtain ⟨w8, hst8, ho8, hg8⟩ := hst y2 (by rw [hy2]; exact wrap64_wf _); have HY1 := hid hy1; have HY2 := hid hy2; have e1 : IntKind.i64.wrap (c * s) = y1 := (iwrap _).trans hy1.symm; have e2 : IntKind.i64.wrap (c1 + y1) = y2 := (iwrap _).trans hy2.symm; have HAT1 := hid hat1; have HO8 := hid ho8; have HG8 := hid hg8; clear hy1 hy2 hat1 ho8 hg8 hst)
          all_goals go_wp2_with fail
          all_goals
            refine ⟨⟨k + 1, n2 + 1, _, by omega, by go_num, hid (I6.out.put hkl HQQ.out Gq (by omega) (by omega) HAT1.out HY1.out HY2.out HO8.out HG8.out (by omega) (by omega)), hid (T6.out.kept HG8.out (by omega)), hid (((HBr.out.andThen B6.out (fun j e => by cases e)).andThen HG8.out (fun j e => .inr e)))⟩, by simp [intOf]; omega⟩
        · have hkl2 : k = L.length := by omega
          subst hkl2
          have hIR := HI.out
          have HON := hid (show OutR wi b w.heap.size (w.heap.size + 1) n (m - t.toNat) t D0 (fun z => left z && !z.sameKey (klit p)) cnt1 n2 D2 from
            ⟨hIR.rng, hIR.own, hIR.keys, by have := hIR.cnt; omega, fun G => by
              have h := hIR.sum G
              rw [List.take_of_length_le (Nat.le_refl _)] at h
              rw [HST'.out G, HF.out G, Int.mul_comm]
              exact h⟩)
          have hle1 := hIR.rng.left_eq
          have hle0 := HLE.out.left_eq
          have HL1 := hid hle1; have HL0 := hid hle0
          have hbe : Below w.heap.size w wi := HB1.out.trans ⟨HBr.out.os, HBr.out.tape, HBr.out.output, HBr.out.size, fun i hi => HBr.out.block i (by omega) (fun e => by injection e with e; omega)⟩
          have HBE := hid hbe
          clear hIR hle1 hle0 hbe
          go_wp2_with fail
          exact ⟨⟨_, _, _, _, HON, HBE⟩, by rw [HL1.out, HL0.out]; exact HLT.out⟩
end Go.Proofs.Ytmbfobcbnnalbaa
