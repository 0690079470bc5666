/-
  Plain facts: words between marks, numbers as words. No program's run in this text.
-/
import Derived.Test.YtjhcbbafldflaaaDoorPtx
import Derived.Lib.SplitLaws
import Derived.Lib.AtoiAll
namespace Go.Proofs.YtjhcbbafldflaaaDoor
open Go.RowKit Go.Shelf

/-- The words between marks. -/
def spW (b : UInt8) : List UInt8 → List (List UInt8)
  | [] => [[]]
  | c :: r => if c = b then [] :: spW b r else match spW b r with
    | [] => [[c]]
    | w :: ws => (c :: w) :: ws
theorem spW_ne (b : UInt8) : ∀ l, spW b l ≠ []
  | [] => by simp [spW]
  | c :: r => by
    unfold spW
    split
    · simp
    · split <;> simp
theorem spW_free (b : UInt8) : ∀ (u : List UInt8), b ∉ u → spW b u = [u] ∧ ∀ v, spW b (u ++ b :: v) = u :: spW b v
  | [], _ => ⟨rfl, fun v => by show spW b (b :: v) = _; rw [spW, if_pos rfl]⟩
  | c :: r, h => by
    rw [List.mem_cons, not_or] at h
    obtain ⟨h1, h2⟩ := spW_free b r h.2
    refine ⟨?_, fun v => ?_⟩
    · rw [spW, if_neg (fun e => h.1 e.symm), h1]
    · show spW b (c :: (r ++ b :: v)) = _
      rw [spW, if_neg (fun e => h.1 e.symm), h2 v]
theorem spW_join (b : UInt8) : ∀ (ws : List (List UInt8)), ws ≠ [] → (∀ w ∈ ws, b ∉ w) → spW b (Lib.join ws [b]) = ws
  | [], h, _ => absurd rfl h
  | [w], _, h => by rw [Lib.join_one]; exact (spW_free b w (h w (by simp))).1
  | w :: w2 :: r, _, h => by
    have e : Lib.join (w :: w2 :: r) [b] = w ++ b :: Lib.join (w2 :: r) [b] := by
      rw [Lib.join_cons, Lib.join_cons]; simp [Lib.joinTail]
    rw [e, (spW_free b w (h w (by simp))).2, spW_join b (w2 :: r) (by simp) fun x hx => h x (List.mem_cons_of_mem _ hx)]
theorem occ_one (b : UInt8) (s : List UInt8) (i : Nat) : Lib.occAt s [b] i = true ↔ s[i]? = some b := by
  unfold Lib.occAt
  cases h : s.drop i with
  | nil =>
    have : s.length ≤ i := by
      have := congrArg List.length h
      rw [List.length_drop, List.length_nil] at this; omega
    rw [List.getElem?_eq_none this]; simp
  | cons c r =>
    have : s[i]? = some c := by
      have := congrArg (fun l => l[0]?) h
      simpa using this
    rw [this]
    simp only [List.isPrefixOf, Bool.and_true, beq_iff_eq, Option.some.injEq]
    exact eq_comm
theorem index_free (b : UInt8) {u : List UInt8} (h : b ∉ u) : Lib.index u [b] = -1 ∧ ∀ v, Lib.index (u ++ b :: v) [b] = u.length := by
  refine ⟨Lib.index_none fun j _ => ?_, fun v => Lib.index_first (by simp) ?_ fun j hj => ?_⟩
  · cases ho : Lib.occAt u [b] j
    · rfl
    · exact absurd (List.mem_of_getElem? ((occ_one b u j).1 ho)) h
  · rw [occ_one]; simp
  · cases ho : Lib.occAt (u ++ b :: v) [b] j
    · rfl
    · have := (occ_one b _ j).1 ho
      rw [List.getElem?_append_left hj] at this
      exact absurd (List.mem_of_getElem? this) h
theorem cut_at (b : UInt8) : ∀ l : List UInt8, b ∉ l ∨ ∃ u v, l = u ++ b :: v ∧ b ∉ u
  | [] => Or.inl (by simp)
  | c :: r => by
    by_cases e : c = b
    · exact Or.inr ⟨[], r, by rw [e]; rfl, by simp⟩
    · rcases cut_at b r with h | ⟨u, v, rfl, h⟩
      · exact Or.inl (by rw [List.mem_cons, not_or]; exact ⟨fun h2 => e h2.symm, h⟩)
      · exact Or.inr ⟨c :: u, v, rfl, by rw [List.mem_cons, not_or]; exact ⟨fun h2 => e h2.symm, h⟩⟩
theorem split_spW (b : UInt8) : ∀ (n : Nat) (l : List UInt8), l.length ≤ n → Lib.splitK [b] 0 (Lib.count l [b]) l = spW b l := by
  intro n
  induction n with
  | zero =>
    intro l hl
    obtain rfl : l = [] := List.eq_nil_of_length_eq_zero (by omega)
    rw [Lib.count_one]; rfl
  | succ n ih =>
    intro l hl
    rcases cut_at b l with h | ⟨u, v, rfl, h⟩
    · rw [Lib.count_miss (index_free b h).1, (spW_free b l h).1]; rfl
    · have hi := (index_free b h).2 v
      rw [Lib.count_hit (by simp) hi, Nat.add_comm 1, Lib.splitK, if_neg (by rw [hi]; simp), hi, (spW_free b u h).2 v]
      have e1 : ((u.length : Nat) : Int).toNat = u.length := by omega
      have e2 : (u ++ b :: v).drop (u.length + [b].length) = v := by
        rw [← List.drop_drop, List.drop_left]; rfl
      rw [e1, e2, Nat.add_zero, List.take_left, ih v (by rw [List.length_append, List.length_cons] at hl; omega)]

/-- A number's digits. -/
def dgL (n : Nat) : List UInt8 := (numT n).data.toList
theorem dg_chk : ∀ n, n < 100 → (43 : UInt8) ∉ dgL n ∧ (44 : UInt8) ∉ dgL n ∧ (58 : UInt8) ∉ dgL n ∧ (45 : UInt8) ∉ dgL n ∧ Lib.atoiAll (dgL n) = .ok (n : Int) := by decide +kernel
theorem jnB_dg (p : List Int) : (jnB p).map (·.data.toList) = p.map fun x => dgL x.toNat := by unfold jnB dgL; rw [List.map_map]; rfl
theorem spW_dg (b : UInt8) {p : List Int} (hp : p ≠ []) (hb : ∀ j, j < p.length → 0 ≤ p.getD j 0 ∧ p.getD j 0 < 100) (h : ∀ n, n < 100 → b ∉ dgL n) : spW b (jnT ⟨#[b]⟩ p).data.toList = p.map fun x => dgL x.toNat := by
  have e : (jnT ⟨#[b]⟩ p).data.toList = Lib.join (p.map fun x => dgL x.toNat) [b] := by
    unfold jnT; rw [jnB_dg]
  rw [e]
  refine spW_join b _ (by simp [hp]) fun w hw => ?_
  obtain ⟨x, hx, rfl⟩ := List.mem_map.1 hw
  obtain ⟨j, hj, rfl⟩ := List.getElem_of_mem hx
  have := hb j hj
  rw [List.getD_eq_getElem?_getD, List.getElem?_eq_getElem hj] at this
  exact h _ (by simp at this; omega)

/-! what strconv.Atoi and the model read -/
def okW (l : List UInt8) : Bool := match Lib.atoiAll l with
  | .ok _ => true
  | _ => false
def vW (l : List UInt8) : Int := match Lib.atoiAll l with
  | .ok v => v
  | _ => 0
def rdK (l : List UInt8) : Nat → Int
  | 0 => 0
  | k + 1 => 10 * rdK l k + ((l.getD k 0).toNat : Int) - 48
def dgB (c : UInt8) : Bool := decide (48 ≤ c.toNat) && decide (c.toNat ≤ 57)
def rdB (l : List UInt8) : Bool := decide (1 ≤ l.length ∧ l.length ≤ 6) && (!(decide (l.getD 0 0 = 48) && decide (1 < l.length)) && l.all dgB)
def rdW (l : List UInt8) : Int := if rdB l then rdK l l.length else -1
theorem rd_chk : ∀ n, n < 100 → okW (dgL n) = true ∧ vW (dgL n) = (n : Int) ∧ rdW (dgL n) = (n : Int) := by decide +kernel
end Go.Proofs.YtjhcbbafldflaaaDoor
