/-
  Sums of signs over shapes, held in a map: what a step does to them.
-/
import Derived.Test.YtmbfobcbnnalbaaMapL
import Derived.Test.YtmbfobcbnnalbaaTkn
namespace Go.Proofs.Ytmbfobcbnnalbaa
open Go.RowKit Go.Maps Go.ChangeMaps Go.MapKept Go.WideMaps Go.WideElems Go.WideShapes

/-- Alike but for multiples of 2^64. -/
def eqw (a b : Int) : Prop := ∃ q : Int, a - b = q * 18446744073709551616
theorem eqw.refl (a : Int) : eqw a a := ⟨0, by omega⟩
theorem eqw.of {a b : Int} (h : a = b) : eqw a b := ⟨0, by omega⟩
theorem eqw.symm {a b : Int} (h : eqw a b) : eqw b a := let ⟨q, e⟩ := h; ⟨-q, by omega⟩
theorem eqw.trans {a b c : Int} (h : eqw a b) (k : eqw b c) : eqw a c := let ⟨q, e⟩ := h; let ⟨r, f⟩ := k; ⟨q + r, by omega⟩
theorem eqw.add {a b c d : Int} (h : eqw a b) (k : eqw c d) : eqw (a + c) (b + d) := let ⟨q, e⟩ := h; let ⟨r, f⟩ := k; ⟨q + r, by omega⟩
theorem eqw.mul {a b : Int} (c : Int) (h : eqw a b) : eqw (c * a) (c * b) := by
  obtain ⟨q, e⟩ := h
  exact ⟨c * q, by rw [← Int.mul_sub, e, Int.mul_assoc]⟩
theorem eqw_wrap (n : Int) : eqw (wrap64 n) n := ⟨(wrap64 n - n) / 18446744073709551616, by unfold wrap64; omega⟩
theorem eqw_eq {a b : Int} (h : eqw a b) : wrap64 a = wrap64 b := by
  obtain ⟨q, e⟩ := h
  unfold wrap64; omega
theorem Good.sh {p : List Int} (G : Good p) (h : p.sum ≤ 12) : Sh p := ⟨by have := G.len_le; omega, fun j hj => ⟨G.pos j hj, G.le j hj⟩⟩

open Classical in
/-- The list that a key tells. -/
noncomputable def dec (l : Lit) : List Int := if h : ∃ p, Sh p ∧ klit p = l then Classical.choose h else []
theorem dec_k {p : List Int} (h : Sh p) : dec (klit p) = p := by
  have hx : ∃ q, Sh q ∧ klit q = klit p := ⟨p, h, rfl⟩
  unfold dec
  rw [dif_pos hx]
  have := Classical.choose_spec hx
  exact key_inj this.1 h this.2
theorem klit_key {p : List Int} (h : Sh p) : WideAt.IsKeyLit (klit p) := Try.shKeyed.key (key_of h)

/-- What a step makes of a number for each shape. -/
def tkF (t : Int) (G : List Int → Int) (p : List Int) : Int := ((tkL p t).map fun x => x.2 * G x.1).sum
def tkS' (L : List (List Int × Int)) (G : List Int → Int) : Int := (L.map fun x => x.2 * G x.1).sum
theorem tkS_take (L : List (List Int × Int)) (G : List Int → Int) (k : Nat) (h : k < L.length) : tkS' (L.take (k + 1)) G = tkS' (L.take k) G + (L.getD k tnil).2 * G (L.getD k tnil).1 := by
  unfold tkS'
  rw [List.take_succ_eq_append_getElem h, List.map_append, List.sum_append]
  have e : L.getD k tnil = L[k] := by rw [List.getD_eq_getElem?_getD, List.getElem?_eq_getElem h]; rfl
  rw [e]; simp
theorem tkK_mem {p : List Int} (G : Good p) {t : Int} (ht : 0 < t) : ∀ k, k ≤ p.length → ∀ x ∈ tkK p t k, Good x.1 ∧ x.1.sum = p.sum - t ∧ x.1.length ≤ p.length
  | 0, _, x, hx => by simp [tkK] at hx
  | k + 1, hk, x, hx => by
    cases h : tkB p t k
    · rw [tkK_no G (by omega) h] at hx
      exact tkK_mem G ht k (by omega) x hx
    · obtain ⟨q, e, _, h2, h3, h4, _⟩ := tkK_yes G ht (by omega) h
      rw [e, List.mem_append, List.mem_singleton] at hx
      rcases hx with hx | rfl
      · exact tkK_mem G ht k (by omega) x hx
      · exact ⟨h2, h4, h3⟩
theorem tkL_at {p : List Int} (G : Good p) {t : Int} (ht : 0 < t) (k : Nat) (h : k < (tkL p t).length) : Good ((tkL p t).getD k tnil).1 ∧ ((tkL p t).getD k tnil).1.sum = p.sum - t ∧ ((tkL p t).getD k tnil).1.length ≤ p.length := by
  refine tkK_mem G ht p.length (Nat.le_refl _) _ ?_
  rw [List.getD_eq_getElem?_getD, List.getElem?_eq_getElem h]
  exact List.getElem_mem h

abbrev mOwn (w : World) (b n : Nat) (D : DataW Unit) : Prop := w.ownsMap Try.prog 107 (plainElem Try.prog 3) b n D
abbrev mRng (w : World) (b r n : Nat) (D : DataW Unit) (left : Lit → Bool) (cnt : Nat) : Prop := w.ranges Try.prog 107 (plainElem Try.prog 3) b r n D left cnt
def KeysAt (D : DataW Unit) (m : Nat) : Prop := ∀ l, has D l = true → ∃ p, Good p ∧ p.sum = m ∧ l = klit p
structure SW (w : World) (b n m : Nat) (Φ : (List Int → Int) → Int) (D : DataW Unit) : Prop where
  own : mOwn w b n D
  keys : KeysAt D m
  sum : ∀ G : List Int → Int, eqw (sumD D fun l => G (dec l)) (Φ G)
theorem mOwn.tidy' {w : World} {b n : Nat} {D : DataW Unit} (h : mOwn w b n D) : Tidy D := h.tidy Try.shKeyed
theorem mOwn.kl {w : World} {b n : Nat} {D : DataW Unit} (h : mOwn w b n D) : ∀ es, D = .map es → ∀ p ∈ es, WideAt.IsKeyLit p.1 := by
  intro es e p hp
  obtain ⟨es', e', _, hk⟩ := h.entries Try.shKeyed
  rw [e] at e'
  injection e' with e'
  rw [e'] at hp
  exact hk p hp
theorem keys_put {D : DataW Unit} {m : Nat} (h : KeysAt D m) {q : List Int} (Gq : Good q) (hq : q.sum = m) (d : DataW Unit) : KeysAt (D.put (klit q) d) m := by
  intro l hl
  by_cases e : l = klit q
  · exact ⟨q, Gq, hq, e⟩
  · rw [has_put_other e] at hl; exact h l hl
theorem keys_del {D : DataW Unit} {m : Nat} (h : KeysAt D m) (k : Lit) : KeysAt (D.del k) m := by
  intro l hl
  by_cases e : l = k
  · subst e; rw [has_del_same] at hl; cases hl
  · rw [has_del_other e] at hl; exact h l hl

/-- What the entries that have come have made. -/
noncomputable def came (D : DataW Unit) (left : Lit → Bool) (F : List Int → Int) : Int := sumD D fun l => if left l then 0 else F (dec l)
theorem came_start {w : World} {b n : Nat} {D : DataW Unit} (h : mOwn w b n D) (F : List Int → Int) : came D (has D) F = 0 := by
  unfold came
  have hz : sumD D (fun l => if has D l then 0 else F (dec l)) = sumD D (fun _ => 0) := sumD_congr (fun k hk => by rw [if_pos hk]) (fun es e p hp => h.kl es e p hp)
  rw [hz]
  unfold sumD
  split
  · exact sumE_zero _ _ fun _ _ => rfl
  · rfl
theorem came_end {D : DataW Unit} {left : Lit → Bool} (h : ∀ l, left l = false) (F : List Int → Int) : came D left F = sumD D fun l => F (dec l) := by
  unfold came
  congr 1
  funext l
  rw [h l]; rfl
theorem came_step {w : World} {b n : Nat} {D : DataW Unit} (h : mOwn w b n D) {left : Lit → Bool} {p : List Int} (hp : Sh p) (hl : left (klit p) = true) {c : Int} (hat : D.atKey (klit p) (.lit (.int .i64 0)) = .lit (.int .i64 c)) (F : List Int → Int) :
    came D (fun z => left z && !z.sameKey (klit p)) F = came D left F + F p * c := by
  have hk := klit_key hp
  have e1 : came D (fun z => left z && !z.sameKey (klit p)) F = sumD D (fun l => (if left l then 0 else F (dec l)) + (if l.sameKey (klit p) then F (dec l) else 0)) := by
    unfold came
    congr 1
    funext l
    cases hs : l.sameKey (klit p)
    · cases hll : left l <;> simp [hs, hll]
    · have e := WideAt.sameKey_eq hs
      subst e
      simp [hs, hl]
  rw [e1, sumD_add]
  have e2 := sumD_one h.tidy' hk (fun l => F (dec l))
  rw [hat, dec_k hp] at e2
  rw [e2]; rfl
end Go.Proofs.Ytmbfobcbnnalbaa
