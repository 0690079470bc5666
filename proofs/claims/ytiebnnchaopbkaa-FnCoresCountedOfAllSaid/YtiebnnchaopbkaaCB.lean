/-
  Several texts in one.
-/
import Derived.Test.YtiebnnchaopbkaaProg
import Derived.WalkKit
import Derived.WalkSpells
import Derived.WalkLawsBesides
import Derived.BigQuiet
import Derived.Deep.QuietTactic
import Derived.Deep.OwnRows
import Derived.RangeFuncBox
import Derived.Laws.AppendOwnNone
import Derived.Test.YtiebnnchaopbkaaCA
import Derived.RangeFuncLeaves
import Derived.Shelf.Abstract
import Derived.OwnWalkIn
import Derived.TacticsInMore
import Derived.LoopNIn
import Derived.LoopIn
import Derived.Maps.AppendAt
import Derived.RangeFuncNested
import Derived.Laws.Rows
/-
  Small facts on slices of ints, read or owned, and the contracts of the laws' own helpers: toIntS, eqIntS, markIntS, heldIntS.
-/
namespace Go.Proofs.Ytiebnnchaopbkaa
open Go.RowKit

theorem hid {p : Prop} (h : p) : Hid p := h
theorem ret_bool {a b : Bool} (h : a = b) : Ending.returned (.bool a) = .returned (.bool b) := by rw [h]
theorem ret_int {k : IntKind} {a b : Int} (h : a = b) : Ending.returned (.int k a) = .returned (.int k b) := by rw [h]

/-- The slice of address A reads as the numbers xs. -/
def Cells (w : World) (A : Option Addr) (xs : List Int) : Prop :=
  0 < xs.length → ∃ b o, A = some ⟨b, o, none⟩ ∧ ∀ j, j < xs.length → w.cell? ⟨b, o + j, none⟩ = some (.int .i64 (xs.getD j 0))
def IL (xs : List Int) : List Value := xs.map (Value.int .i64)
/-- The slice of address A is a row of the call's own, from block B on, and holds xs. -/
def Own (w : World) (B : Nat) (A : Option Addr) (c : Nat) (xs : List Int) : Prop :=
  w.ownsRow B 3 1 (.slice A xs.length c) xs.length (IL xs)

theorem IL_get (xs : List Int) (j : Nat) (h : j < xs.length) : (IL xs)[j]? = some (.int .i64 (xs.getD j 0)) := by
  simp [IL, List.getD, h]
theorem Cells.nil (w : World) (A : Option Addr) : Cells w A [] := fun h => absurd h (by simp)
theorem Cells.keep {w w' : World} {A : Option Addr} {xs : List Int} (h : Cells w A xs) (hk : ∀ b, A.map Addr.block = some b → b < w.heap.size → w'.heap[b]? = w.heap[b]?) : Cells w' A xs := by
  intro hp
  obtain ⟨b, o, rfl, hc⟩ := h hp
  refine ⟨b, o, rfl, fun j hj => ?_⟩
  have hcj := hc j hj
  rw [← hcj]
  exact World.cell?_of_block (w := w) (hk b rfl (World.block_lt_of_cell? w _ hcj))
theorem Cells.below {w w' : World} {A : Option Addr} {xs : List Int} (h : Cells w A xs) (hb : Below w.heap.size w w') : Cells w' A xs :=
  h.keep fun b _ hlt => hb.block b hlt
theorem Cells.later {w0 w : World} {A : Option Addr} {xs : List Int} (h : Cells w0 A xs) (hb : Below w0.heap.size w0 w) : Cells w A xs := h.below hb
theorem Cells.grown {w w' : World} {A : Option Addr} {xs : List Int} {row : Option Nat} (h : Cells w A xs) (hg : w.grownBy w' row) (hne : ∀ b, A.map Addr.block = some b → b < w.heap.size → some b ≠ row) : Cells w' A xs :=
  h.keep fun b hb hlt => hg.block b hlt (hne b hb hlt)

theorem Own.cells {w : World} {B : Nat} {A : Option Addr} {c : Nat} {xs : List Int} (h : Own w B A c xs) : Cells w A xs := by
  intro hp
  rcases h.2 with ⟨_, h0⟩ | ⟨g, cap, cur, hv, _⟩
  · omega
  · have hA : A = some ⟨g, 0, none⟩ := by injection hv
    subst hA
    refine ⟨g, 0, rfl, fun j hj => ?_⟩
    rw [Nat.zero_add, World.ownsRow.cellAt h j (by omega), IL_get xs j hj]
theorem Own.at_ {w : World} {B : Nat} {A : Option Addr} {c : Nat} {xs : List Int} (h : Own w B A c xs) (hp : 0 < xs.length) : ∃ g, A = some ⟨g, 0, none⟩ ∧ B ≤ g ∧ g < w.heap.size := by
  rcases h.2 with ⟨_, h0⟩ | ⟨g, cap, cur, hv, hb, hg, _⟩
  · omega
  · have hA : A = some ⟨g, 0, none⟩ := by injection hv
    exact ⟨g, hA, hb, (Array.getElem?_eq_some_iff.1 hg).1⟩
theorem Own.block {w : World} {B : Nat} {A : Option Addr} {c : Nat} {xs : List Int} (h : Own w B A c xs) : ∀ b, A.map Addr.block = some b → B ≤ b ∧ b < w.heap.size := by
  intro b hb
  refine World.ownsRow.lt h b ?_
  cases A with
  | none => simp at hb
  | some a => simpa [Value.ownBlock] using hb
theorem Own.keep {w w' : World} {B : Nat} {A : Option Addr} {c : Nat} {xs : List Int} (h : Own w B A c xs) (hk : ∀ b, A.map Addr.block = some b → b < w.heap.size → w'.heap[b]? = w.heap[b]?) : Own w' B A c xs := by
  refine ⟨h.1, ?_⟩
  rcases h.2 with hn | ⟨g, cap, cur, hv, hb, hgg, rest⟩
  · exact .inl hn
  · refine .inr ⟨g, cap, cur, hv, hb, ?_, rest⟩
    have hA : A = some ⟨g, 0, none⟩ := by injection hv
    rw [hk g (by rw [hA]; rfl) (Array.getElem?_eq_some_iff.1 hgg).1]
    exact hgg
theorem Own.below {w w' : World} {B : Nat} {A : Option Addr} {c : Nat} {xs : List Int} (h : Own w B A c xs) (hb : Below w.heap.size w w') : Own w' B A c xs := h.keep fun b _ hlt => hb.block b hlt
theorem Own.grown {w w' : World} {B : Nat} {A : Option Addr} {c : Nat} {xs : List Int} {row : Option Nat} (h : Own w B A c xs) (hg : w.grownBy w' row) (hne : ∀ b, A.map Addr.block = some b → b < w.heap.size → some b ≠ row) : Own w' B A c xs :=
  h.keep fun b hb hlt => hg.block b hlt (hne b hb hlt)
theorem Own.drewN {w : World} {B : Nat} {A : Option Addr} {c : Nat} {xs : List Int} (h : Own w B A c xs) (n : Nat) : Own (w.drewN n) B A c xs := h
theorem Own.more {w : World} {B B' : Nat} {A : Option Addr} {c : Nat} {xs : List Int} (h : Own w B A c xs) (hB : B' ≤ B) : Own w B' A c xs := by
  refine ⟨h.1, ?_⟩
  rcases h.2 with hn | ⟨g, cap, cur, hv, hb, rest⟩
  · exact .inl hn
  · exact .inr ⟨g, cap, cur, hv, Nat.le_trans hB hb, rest⟩
theorem Below.next {a b c : World} (h : Below a.heap.size a b) (k : Below b.heap.size b c) : Below a.heap.size a c := h.trans (k.mono h.size)
theorem drew2 {w : World} (n m : Nat) : ∃ k, (w.drewN n).drewN m = w.drewN k := ⟨n + m, by rw [World.drewN_drewN]⟩
theorem below_drewN {B : Nat} {a w : World} (h : Below B a w) (n : Nat) : Below B a (w.drewN n) := ⟨h.os, h.tape, h.output, h.size, h.block⟩
theorem below_drew' (w : World) (n : Nat) : Below w.heap.size w (w.drewN n) := below_drewN (Below.refl _ _) n

theorem Try.infoInt : (Try.prog.info? 3).map (fun i => (i.zero, i.size, i.bytes)) = some (some (.int .i64 0), 1, 8) := by kernel_rfl

/-! toIntS -/
theorem toCopy (xs : List Int) (k : Nat) (hk : k < xs.length) (g : Nat) (w : World) (B : Nat)
    (hown : w.ownsRow B 3 1 (.slice (some ⟨g, 0, none⟩) xs.length xs.length) xs.length (IL (xs.take k) ++ List.replicate (xs.length - k) (.int .i64 0))) :
    (w.setCell ⟨g, k, none⟩ (.int .i64 (xs.getD k 0))).ownsRow B 3 1 (.slice (some ⟨g, 0, none⟩) xs.length xs.length) xs.length (IL (xs.take (k + 1)) ++ List.replicate (xs.length - (k + 1)) (.int .i64 0)) := by
  have h := (hown.stored k (.int .i64 (xs.getD k 0))).1
  have e : (IL (xs.take k) ++ List.replicate (xs.length - k) (Value.int .i64 0)).set k (.int .i64 (xs.getD k 0)) = IL (xs.take (k + 1)) ++ List.replicate (xs.length - (k + 1)) (.int .i64 0) := by
    have hl : (IL (xs.take k)).length = k := by simp [IL]; omega
    rw [List.set_append_right _ _ (by omega), hl, Nat.sub_self]
    obtain ⟨m, hm⟩ : ∃ m, xs.length - k = m + 1 := ⟨xs.length - k - 1, by omega⟩
    rw [hm, show xs.length - (k + 1) = m by omega, List.replicate_succ, List.set_cons_zero, List.take_succ_eq_append_getElem hk]
    simp only [IL, List.map_append, List.map_cons, List.map_nil, List.append_assoc, List.cons_append, List.nil_append]
    rw [List.getD_eq_getElem?_getD, List.getElem?_eq_getElem hk]; rfl
  rw [e] at h
  exact h

/-! eqIntS -/
theorem getD_ne_false (xs : List Int) (k : Nat) : (xs.getD k 0 != xs.getD k 0) = false := by simp

/-! heldIntS, markIntS -/
def marks (k : Int) (n : Nat) : List Int := (List.range n).map fun i : Nat => k + i
theorem marks_len (k : Int) (n : Nat) : (marks k n).length = n := by simp [marks]
theorem marks_get (k : Int) (n j : Nat) (h : j < n) : (marks k n).getD j 0 = k + j := by simp [marks, List.getD, h]

theorem IL_set (ys : List Int) (k : Nat) (x : Int) : (IL ys).set k (.int .i64 x) = IL (ys.set k x) := by simp [IL, List.map_set]
/-- What markIntS has written after k rounds. -/
def marked (q : Int) (xs : List Int) (k : Nat) : List Int := marks q k ++ xs.drop k
theorem marked_len (q : Int) (xs : List Int) (k : Nat) (h : k ≤ xs.length) : (marked q xs k).length = xs.length := by simp [marked, marks]; omega
theorem marked_zero (q : Int) (xs : List Int) : marked q xs 0 = xs := by simp [marked, marks]
theorem marked_full (q : Int) (xs : List Int) : marked q xs xs.length = marks q xs.length := by simp [marked]
theorem marked_set (q : Int) (xs : List Int) (k : Nat) (h : k < xs.length) : (marked q xs k).set k (q + k) = marked q xs (k + 1) := by
  unfold marked
  rw [List.set_append_right _ _ (by rw [marks_len]; exact Nat.le_refl _), marks_len, Nat.sub_self, List.drop_eq_getElem_cons h, List.set_cons_zero]
  simp [marks, List.range_succ]

def I64 (n : Int) : Prop := -9223372036854775808 ≤ n ∧ n ≤ 9223372036854775807
theorem ret_two {a b : Value} {x y : Value} (h1 : a = x) (h2 : b = y) : Ending.returned (.tuple #[a, b]) = .returned (.tuple #[x, y]) := by rw [h1, h2]
end Go.Proofs.Ytiebnnchaopbkaa
/-
  Small facts on rows of ints of the call's own.
-/
namespace Go.Proofs.Ytiebnnchaopbkaa
open Go.RowKit

theorem own_form {w : World} {B : Nat} {v : Value} {n : Nat} {xs : List Int} (h : w.ownsRow B 3 1 v n (IL xs)) (hn : n = xs.length) : ∃ A c, v = .slice A xs.length c ∧ Own w B A c xs := by
  subst hn
  rcases h.2 with ⟨hv, h0⟩ | ⟨g, cap, cur, hv, _⟩
  · refine ⟨none, 0, by rw [hv, h0], ?_⟩
    unfold Own; rw [h0]; rw [h0] at h; rw [← hv]; exact h
  · exact ⟨some ⟨g, 0, none⟩, cap, hv, by unfold Own; rw [← hv]; exact h⟩

theorem own_nil (w : World) (B : Nat) : Own w B none 0 [] := World.ownsRow_nil w B _ _

theorem IL_snoc (ys : List Int) (k : Nat) (h : k < ys.length) : IL (ys.take k) ++ [Value.int .i64 (ys.getD k 0)] = IL (ys.take (k + 1)) := by
  rw [List.take_succ_eq_append_getElem h]
  simp only [IL, List.map_append, List.map_cons, List.map_nil]
  rw [List.getD_eq_getElem?_getD, List.getElem?_eq_getElem h]; rfl

theorem one_at {w : World} {x : Value} {t : TypeId} (j : Nat) (u : Value) (h : [x][j]? = some u) : (w.alloc (.cells #[x] t)).cell? ((⟨w.heap.size, 0, none⟩ : Addr).add j) = some u := by
  match j, h with
  | 0, h => simp at h; subst h; simp [Addr.add]

theorem one_cell (x : Int) : ∀ u ∈ [Value.int .i64 x], u.oneCell' = true := by
  intro u hu; simp at hu; subst hu; rfl

theorem own_snoc {w : World} {B : Nat} {v : Value} {ys zs : List Int} {x : Int} (h : zs = ys ++ [x]) (ho : w.ownsRow B 3 1 v (ys.length + 1) (IL ys ++ [.int .i64 x])) : w.ownsRow B 3 1 v zs.length (IL zs) := by
  subst h
  have e : IL (ys ++ [x]) = IL ys ++ [.int .i64 x] := by simp [IL]
  rw [e, List.length_append]; exact ho
theorem IL_set' (xs : List Int) (k : Nat) (v : Int) : (IL xs).set k (.int .i64 v) = IL (xs.set k v) := by simp [IL, List.map_set]
theorem own_set {w : World} {B g c : Nat} {xs : List Int} (h : Own w B (some ⟨g, 0, none⟩) c xs) (k : Nat) (v : Int) : Own (w.setCell ⟨g, k, none⟩ (.int .i64 v)) B (some ⟨g, 0, none⟩) c (xs.set k v) := by
  have h2 := (World.ownsRow.stored h k (.int .i64 v)).1
  rw [IL_set'] at h2
  unfold Own
  rw [List.length_set]
  exact h2
theorem own_get {w : World} {B g c : Nat} {xs : List Int} (h : Own w B (some ⟨g, 0, none⟩) c xs) {k : Nat} (hk : k < xs.length) : w.cell? ⟨g, k, none⟩ = some (.int .i64 (xs.getD k 0)) := by
  rw [World.ownsRow.cellAt h k (by omega), IL_get xs k hk]
theorem own_froz {w : World} {B g c : Nat} {xs : List Int} (h : Own w B (some ⟨g, 0, none⟩) c xs) (k : Nat) : w.frozen? ⟨g, k, none⟩ = false := World.ownsRow.frozenAt h k
theorem own_len {w : World} {B c : Nat} {A : Option Addr} {xs ys : List Int} (h : Own w B A c xs) (e : xs = ys) : Own w B A c ys := e ▸ h
end Go.Proofs.Ytiebnnchaopbkaa
/-
  A block that holds a variable of two cells (a struct of two fields): what is read of it, and what a store leaves.
-/
namespace Go.Proofs.Ytiebnnchaopbkaa
open Go.RowKit

def Box2 (W : World) (g : Nat) (t : TypeId) (a b : Value) : Prop := W.heap[g]? = some (.cells #[a, b] t (0, 0))
theorem Box2.lt {W : World} {g : Nat} {t : TypeId} {a b : Value} (h : Box2 W g t a b) : g < W.heap.size := (Array.getElem?_eq_some_iff.1 h).1
theorem Box2.cell0 {W : World} {g : Nat} {t : TypeId} {a b : Value} (h : Box2 W g t a b) : W.cell? ⟨g, 0, none⟩ = some a := by simp [World.cell?, show W.heap[g]? = _ from h]
theorem Box2.cell1 {W : World} {g : Nat} {t : TypeId} {a b : Value} (h : Box2 W g t a b) : W.cell? ⟨g, 1, none⟩ = some b := by simp [World.cell?, show W.heap[g]? = _ from h]
theorem Box2.froz {W : World} {g : Nat} {t : TypeId} {a b : Value} (h : Box2 W g t a b) (k : Nat) : W.frozen? ⟨g, k, none⟩ = false := by simp [World.frozen?, show W.heap[g]? = _ from h]
theorem Box2.new (W : World) (t : TypeId) (a b : Value) : Box2 (W.alloc (.cells #[a, b] t)) W.heap.size t a b := World.alloc_heap_new W _
theorem Box2.keep {W W' : World} {g : Nat} {t : TypeId} {a b : Value} (h : Box2 W g t a b) (hk : W'.heap[g]? = W.heap[g]?) : Box2 W' g t a b := hk.trans h
theorem Box2.below {W W' : World} {n g : Nat} {t : TypeId} {a b : Value} (h : Box2 W g t a b) (hb : Below n W W') (hn : g < n) : Box2 W' g t a b := h.keep (hb.block g hn)
theorem Box2.next {W W' : World} {g : Nat} {t : TypeId} {a b : Value} (h : Box2 W g t a b) (hb : Below W.heap.size W W') : Box2 W' g t a b := h.below hb h.lt
theorem Box2.alloc {W : World} {g : Nat} {t : TypeId} {a b : Value} (h : Box2 W g t a b) (o : Obj) : Box2 (W.alloc o) g t a b := h.keep ((World.grownBy_alloc W o none).block g h.lt (by simp))
theorem Box2.set0 {W : World} {g : Nat} {t : TypeId} {a b : Value} (v : Value) (h : Box2 W g t a b) : Box2 (W.setCell ⟨g, 0, none⟩ v) g t v b := by
  obtain ⟨hlt, hk⟩ := Array.getElem?_eq_some_iff.1 h
  show (W.heap.modify g _)[g]? = _
  rw [Array.getElem?_eq_getElem (by rw [Array.size_modify]; exact hlt), Array.getElem_modify_self, hk]
  rfl
theorem Box2.set1 {W : World} {g : Nat} {t : TypeId} {a b : Value} (v : Value) (h : Box2 W g t a b) : Box2 (W.setCell ⟨g, 1, none⟩ v) g t a v := by
  obtain ⟨hlt, hk⟩ := Array.getElem?_eq_some_iff.1 h
  show (W.heap.modify g _)[g]? = _
  rw [Array.getElem?_eq_getElem (by rw [Array.size_modify]; exact hlt), Array.getElem_modify_self, hk]
  rfl
theorem Box2.other {W : World} {g g' k : Nat} {t : TypeId} {a b : Value} (h : Box2 W g t a b) (hne : g ≠ g') (v : Value) : Box2 (W.setCell ⟨g', k, none⟩ v) g t a b := h.keep (Below.heap_setCell _ _ _ g (fun e => hne (by rw [e])))
theorem Box2.only {W W' : World} {g B S : Nat} {t : TypeId} {a b : Value} (h : Box2 W g t a b) (ho : ∀ k, k < W.heap.size → (k < B ∨ S ≤ k) → W'.heap[k]? = W.heap[k]?) (hg : g < B ∨ S ≤ g) : Box2 W' g t a b := h.keep (ho g h.lt hg)
end Go.Proofs.Ytiebnnchaopbkaa
/-
  append(s, x...) where x may be nil.
-/
namespace Go.Proofs.Ytiebnnchaopbkaa
open Go.RowKit

/-- append(s, x...) where x may be nil. -/
theorem wpList_append_opt {P : Program} (w : World) {ops : Array Oper} {rest : List Oper} {o : Oper} {a : Act} {Q : Exit → Act → World → Prop} (hgd : o.guard = none) (s x : Operand) (t : TypeId)
    (ho : o.op = .call { callee := .builtin .append, args := #[s, x], argTypes := #[t, t] })
    (base : Nat) (e : TypeId) (i : TypeInfo) (z : Value) (size bytes : Nat) (ht : P.underlying t = some (.slice e)) (hi : P.info? e = some i) (hz : i.zero = some z)
    (hsize : i.size = size) (hby : i.bytes = bytes) (hzs : z.cells.size = size) (hsz : 0 < size)
    (v : Value) (n : Nat) (xs : List Value) (hs : a.eval s = v) (hown : w.ownsRow base e size v n xs)
    (A : Option Addr) (m c : Nat) (news : List Value) (hx : a.eval x = .slice A m c) (hl : news.length = m * size) (hnone : A = none → m = 0 ∧ c = 0) (hnews : ∀ ad, A = some ad → ∀ j u, news[j]? = some u → w.cell? (ad.add j) = some u) (h1 : ∀ u ∈ news, u.oneCell' = true)
    (h63 : n + m ≤ maxLen) (hbytes : (n + m) * bytes ≤ 140737488355328) (hbase : base ≤ w.heap.size)
    (h : ∀ v' w', w'.ownsRow base e size v' (n + m) (xs ++ news) → w.grownBy w' v.ownBlock → wpList P ops Q rest (a.put o.dst v') w') : wpList P ops Q (o :: rest) a w := by
  cases A with
  | some ad => exact wpList_append_own w hgd s x t ho base e i z size bytes ht hi hz hsize hby hzs hsz v n xs hs hown ad m c news hx hl (hnews ad rfl) h1 h63 hbytes hbase fun v' w' a b _ => h v' w' a b
  | none =>
    obtain ⟨rfl, rfl⟩ := hnone rfl
    have hn : news = [] := List.eq_nil_of_length_eq_zero (by omega)
    subst hn
    have hr := run_append_owned_none (P := P) w base t o.type e i size ht hi v n xs hown
    refine wpList_plain hgd fun K hK => ?_
    unfold Oper.wp execOp
    simp only [ho, resolve, invoke, builtin, Sem.run_bind, Sem.run_pure, Result.andThen_ok, List.map_toArray, List.map_cons, List.map_nil, hs, hx, hr]
    exact hK _ _ (h v w (by rw [List.append_nil]; exact hown) ⟨rfl, rfl, rfl, Nat.le_refl _, fun _ _ _ => rfl⟩)

theorem own_none {w : World} {B c : Nat} {xs : List Int} (h : Own w B none c xs) : xs.length = 0 ∧ c = 0 := by
  rcases h.2 with ⟨hv, h0⟩ | ⟨g, cap, cur, hv, _⟩
  · injection hv with _ _ h3; exact ⟨h0, h3⟩
  · injection hv with h1; cases h1
theorem own_news {w : World} {B c : Nat} {ad : Addr} {xs : List Int} (h : Own w B (some ad) c xs) (o : Obj) : ∀ k u, (IL xs)[k]? = some u → (w.alloc o).cell? (ad.add k) = some u := by
  rcases h.2 with ⟨hv, h0⟩ | ⟨g, cap, cur, hv, _⟩
  · injection hv with h1; cases h1
  · injection hv with h1
    cases h1
    intro k u hk
    exact World.ownsRow.cells (World.ownsRow.alloc h o) (g := g) rfl k u hk
end Go.Proofs.Ytiebnnchaopbkaa
/-
  Slices of slices of ints, read or owned, and the contracts of the laws' own helpers on them: eqIntSS, markIntSS, heldIntSS.
-/
namespace Go.Proofs.Ytiebnnchaopbkaa
open Go.RowKit

/-- From w to w' only blocks from B on and below S, and new ones, have turned. -/
structure Only (w w' : World) (B S : Nat) : Prop where
  os : w'.os = w.os
  tape : w'.tape = w.tape
  output : w'.output = w.output
  size : w.heap.size ≤ w'.heap.size
  block : ∀ k, k < w.heap.size → (k < B ∨ S ≤ k) → w'.heap[k]? = w.heap[k]?
theorem Only.refl (w : World) (B S : Nat) : Only w w B S := ⟨rfl, rfl, rfl, Nat.le_refl _, fun _ _ _ => rfl⟩
theorem Only.of_grown {w w' : World} {row : Option Nat} {B S : Nat} (h : w.grownBy w' row) (hb : ∀ b, row = some b → B ≤ b ∧ b < S) : Only w w' B S :=
  ⟨h.os, h.tape, h.output, h.size, fun k hk ho => h.block k hk (fun e => by have := hb k e.symm; omega)⟩
theorem Only.trans {a b c : World} {B S : Nat} (h : Only a b B S) (k : Only b c B S) : Only a c B S :=
  ⟨k.os.trans h.os, k.tape.trans h.tape, k.output.trans h.output, Nat.le_trans h.size k.size, fun i hi ho => (k.block i (Nat.lt_of_lt_of_le hi h.size) ho).trans (h.block i hi ho)⟩
theorem Below.only {n : Nat} {a b c : World} {B S : Nat} (h : Below n a b) (k : Only b c B S) (hn : n ≤ B) (hb : n ≤ b.heap.size) : Below n a c :=
  ⟨k.os.trans h.os, k.tape.trans h.tape, k.output.trans h.output, Nat.le_trans h.size k.size, fun i hi => (k.block i (by omega) (.inl (by omega))).trans (h.block i hi)⟩
theorem Own.only {w w' : World} {B0 : Nat} {A : Option Addr} {c : Nat} {xs : List Int} {B S B' S' : Nat} (h : Own w B0 A c xs) (k : ∀ b, A.map Addr.block = some b → B ≤ b ∧ b < S) (o : Only w w' B' S') (hd : S ≤ B' ∨ S' ≤ B) : Own w' B0 A c xs :=
  h.keep fun b hb hlt => o.block b hlt (by have := k b hb; omega)
theorem Cells.only {w w' : World} {A : Option Addr} {xs : List Int} {B S : Nat} (h : Cells w A xs) (o : Only w w' B S) (hd : ∀ b, A.map Addr.block = some b → b < w.heap.size → b < B ∨ S ≤ b) : Cells w' A xs :=
  h.keep fun b hb hlt => o.block b hlt (hd b hb hlt)

theorem Try.infoInts : (Try.prog.info? 28).map (fun i => (i.zero, i.size, i.bytes)) = some (some (.slice none 0 0), 1, 24) := by kernel_rfl

def RL (P : Nat → Option Addr) (C : Nat → Nat) (rows : List (List Int)) : List Value := (List.range rows.length).map fun j => .slice (P j) (rows.getD j []).length (C j)
theorem RL_len (P : Nat → Option Addr) (C : Nat → Nat) (rows : List (List Int)) : (RL P C rows).length = rows.length := by simp [RL]
theorem RL_get (P : Nat → Option Addr) (C : Nat → Nat) (rows : List (List Int)) (j : Nat) (h : j < rows.length) : (RL P C rows)[j]? = some (.slice (P j) (rows.getD j []).length (C j)) := by
  rw [RL, List.getElem?_map, List.getElem?_range h]; rfl

/-- The slice of slices at A reads as rows. -/
def Cells2 (w : World) (A : Option Addr) (rows : List (List Int)) : Prop :=
  ∃ (P : Nat → Option Addr) (C : Nat → Nat), (0 < rows.length → ∃ b o, A = some ⟨b, o, none⟩ ∧ ∀ j, j < rows.length → w.cell? ⟨b, o + j, none⟩ = some (.slice (P j) (rows.getD j []).length (C j))) ∧
    ∀ j, j < rows.length → Cells w (P j) (rows.getD j [])

structure Own2At (w : World) (B S : Nat) (A : Option Addr) (c : Nat) (rows : List (List Int)) (P : Nat → Option Addr) (C : Nat → Nat) : Prop where
  out : w.ownsRow B 28 1 (.slice A rows.length c) rows.length (RL P C rows)
  outS : ∀ b, A.map Addr.block = some b → b < S
  row : ∀ j, j < rows.length → Own w B (P j) (C j) (rows.getD j [])
  rowS : ∀ j, j < rows.length → ∀ b, (P j).map Addr.block = some b → b < S
  apart : ∀ i j, i < j → j < rows.length → ∀ b, (P i).map Addr.block = some b → (P j).map Addr.block ≠ some b
/-- The slice of slices at A is the call's own, from block B on and below S, its rows in blocks of their own. -/
def Own2 (w : World) (B S : Nat) (A : Option Addr) (c : Nat) (rows : List (List Int)) : Prop := ∃ P C, Own2At w B S A c rows P C

theorem ownsRow_block {w : World} {B e n : Nat} {A : Option Addr} {m c : Nat} {xs : List Value} (h : w.ownsRow B e 1 (.slice A m c) n xs) : ∀ b, A.map Addr.block = some b → B ≤ b ∧ b < w.heap.size := by
  intro b hb
  refine World.ownsRow.lt h b ?_
  cases A with
  | none => simp at hb
  | some a => simpa [Value.ownBlock] using hb
theorem ownsRow_keep {w w' : World} {B e n : Nat} {A : Option Addr} {m c : Nat} {xs : List Value} (h : w.ownsRow B e 1 (.slice A m c) n xs) (hk : ∀ b, A.map Addr.block = some b → b < w.heap.size → w'.heap[b]? = w.heap[b]?) : w'.ownsRow B e 1 (.slice A m c) n xs := by
  refine ⟨h.1, ?_⟩
  rcases h.2 with hn | ⟨g, cap, cur, hv, hb, hgg, rest⟩
  · exact .inl hn
  · refine .inr ⟨g, cap, cur, hv, hb, ?_, rest⟩
    have hA : A = some ⟨g, 0, none⟩ := by injection hv
    rw [hk g (by rw [hA]; rfl) (Array.getElem?_eq_some_iff.1 hgg).1]
    exact hgg

theorem row_ne {w : World} {B B' : Nat} {g : Nat} {n c c' : Nat} {m : Nat} {vs : List Value} {A : Option Addr} {r : List Int} (h : w.ownsRow B 28 1 (.slice (some ⟨g, 0, none⟩) m c) n vs) (hr : Own w B' A c' r) : A.map Addr.block ≠ some g := by
  intro e
  rcases h.2 with ⟨h', _⟩ | ⟨g1, _, cur1, hv1, _, hg1, _⟩
  · simp at h'
  rcases hr.2 with ⟨h2, _⟩ | ⟨g2, _, cur2, hv2, _, hg2, _⟩
  · have hA : A = none := by injection h2
    rw [hA] at e; simp at e
  · have hA : A = some ⟨g2, 0, none⟩ := by injection hv2
    rw [hA] at e
    have e2 : g2 = g := by simpa using e
    have e1 : g1 = g := by injection hv1 with h1; injection h1 with h1; injection h1 with h1; exact h1.symm
    subst e1 e2
    rw [hg1] at hg2
    injection hg2 with hg2
    injection hg2 with _ ht
    exact absurd ht (by decide)
theorem Own2.cells {w : World} {B S : Nat} {A : Option Addr} {c : Nat} {rows : List (List Int)} (h : Own2 w B S A c rows) : Cells2 w A rows := by
  obtain ⟨P, C, h⟩ := h
  refine ⟨P, C, fun hp => ?_, fun j hj => (h.row j hj).cells⟩
  rcases h.out.2 with ⟨_, h0⟩ | ⟨g, cap, cur, hv, _⟩
  · omega
  · have hA : A = some ⟨g, 0, none⟩ := by injection hv
    subst hA
    refine ⟨g, 0, rfl, fun j hj => ?_⟩
    rw [Nat.zero_add, World.ownsRow.cellAt h.out j (by omega), RL_get P C rows j hj]
theorem Own2.keep {w w' : World} {B S : Nat} {A : Option Addr} {c : Nat} {rows : List (List Int)} (h : Own2 w B S A c rows) (hk : ∀ b, b < w.heap.size → B ≤ b → b < S → w'.heap[b]? = w.heap[b]?) : Own2 w' B S A c rows := by
  obtain ⟨P, C, h⟩ := h
  exact ⟨P, C, ownsRow_keep h.out fun b hb hlt => hk b hlt (ownsRow_block h.out b hb).1 (h.outS b hb), h.outS,
    fun j hj => (h.row j hj).keep fun b hb hlt => hk b hlt ((h.row j hj).block b hb).1 (h.rowS j hj b hb), h.rowS, h.apart⟩
theorem Own2.below {w w' : World} {B S : Nat} {A : Option Addr} {c : Nat} {rows : List (List Int)} (h : Own2 w B S A c rows) (hb : Below w.heap.size w w') : Own2 w' B S A c rows := h.keep fun b hlt _ _ => hb.block b hlt
theorem Own2.only {w w' : World} {B S : Nat} {A : Option Addr} {c : Nat} {rows : List (List Int)} {B' S' : Nat} (h : Own2 w B S A c rows) (o : Only w w' B' S') (hd : S ≤ B' ∨ S' ≤ B) : Own2 w' B S A c rows := h.keep fun b hlt h1 h2 => o.block b hlt (by omega)
theorem own2_nil (w : World) (B S : Nat) : Own2 w B S none 0 [] := ⟨fun _ => none, fun _ => 0, World.ownsRow_nil w B _ _, fun b h => by simp at h, fun j h => absurd h (by simp), fun j h => absurd h (by simp), fun i j _ h => absurd h (by simp)⟩

def tot : List (List Int) → Nat
  | [] => 0
  | r :: t => r.length + tot t
def marks2 : Int → List (List Int) → List (List Int)
  | _, [] => []
  | k, r :: t => marks k r.length :: marks2 (k + r.length) t
theorem marks2_len : ∀ (rows : List (List Int)) (k : Int), (marks2 k rows).length = rows.length
  | [], _ => rfl
  | r :: t, k => by simp [marks2, marks2_len t]
theorem tot_take_succ : ∀ (rows : List (List Int)) (j : Nat), j < rows.length → tot (rows.take (j + 1)) = tot (rows.take j) + (rows.getD j []).length
  | [], j, h => absurd h (by simp)
  | r :: t, 0, _ => by simp [tot]
  | r :: t, j + 1, h => by
    have := tot_take_succ t j (by simpa using h)
    simp only [List.take_succ_cons, tot, List.getD_cons_succ, this]; omega
theorem tot_take_le : ∀ (rows : List (List Int)) (j : Nat), tot (rows.take j) ≤ tot rows
  | [], j => by simp
  | r :: t, 0 => by simp [tot]
  | r :: t, j + 1 => by simp only [List.take_succ_cons, tot]; have := tot_take_le t j; omega
theorem marks2_get : ∀ (rows : List (List Int)) (k : Int) (j : Nat), j < rows.length → (marks2 k rows).getD j [] = marks (k + tot (rows.take j)) (rows.getD j []).length
  | [], _, j, h => absurd h (by simp)
  | r :: t, k, 0, _ => by simp [marks2, tot]
  | r :: t, k, j + 1, h => by
    have := marks2_get t (k + r.length) j (by simpa using h)
    simp only [marks2, List.getD_cons_succ, this, List.take_succ_cons, tot]
    congr 1
    omega

/-- The rows as they stand when the first k of them are marked. -/
def mid (q : Int) (rows : List (List Int)) (k j : Nat) : List Int := if j < k then marks (q + tot (rows.take j)) (rows.getD j []).length else rows.getD j []
theorem mid_len (q : Int) (rows : List (List Int)) (k j : Nat) : (mid q rows k j).length = (rows.getD j []).length := by unfold mid; split <;> simp [marks_len]

end Go.Proofs.Ytiebnnchaopbkaa
/-
  Rows that are pushed, one after the other: a slice of slices that grows.
-/
namespace Go.Proofs.Ytiebnnchaopbkaa
open Go.RowKit

/-! rows that are pushed, one after the other -/
structure Push (w : World) (B : Nat) (v : Value) (rows : List (List Int)) (P : Nat → Option Addr) (C : Nat → Nat) : Prop where
  out : w.ownsRow B 28 1 v rows.length (RL P C rows)
  row : ∀ j, j < rows.length → Own w B (P j) (C j) (rows.getD j [])
  apart : ∀ i j, i < j → j < rows.length → ∀ b, (P i).map Addr.block = some b → (P j).map Addr.block ≠ some b
theorem push_nil (w : World) (B : Nat) : Push w B (.slice none 0 0) [] (fun _ => none) (fun _ => 0) :=
  ⟨World.ownsRow_nil w B _ _, fun j h => absurd h (by simp), fun i j _ h => absurd h (by simp)⟩
theorem row_ne' {w : World} {B B' : Nat} {n : Nat} {v : Value} {vs : List Value} {A : Option Addr} {c' : Nat} {r : List Int} (h : w.ownsRow B 28 1 v n vs) (hr : Own w B' A c' r) : ∀ b, A.map Addr.block = some b → v.ownBlock ≠ some b := by
  intro b hb e
  rcases h.2 with ⟨rfl, _⟩ | ⟨g1, cap, cur1, rfl, hb1, hg1, rest⟩
  · simp [Value.ownBlock] at e
  · have e1 : g1 = b := by simpa [Value.ownBlock] using e
    subst e1
    exact row_ne ⟨h.1, .inr ⟨g1, cap, cur1, rfl, hb1, hg1, rest⟩⟩ hr hb
theorem Push.below {w w' : World} {B : Nat} {v : Value} {rows : List (List Int)} {P : Nat → Option Addr} {C : Nat → Nat} (h : Push w B v rows P C) (hb : Below w.heap.size w w') : Push w' B v rows P C := by
  refine ⟨?_, fun j hj => (h.row j hj).below hb, h.apart⟩
  have ho := h.out
  refine ⟨ho.1, ?_⟩
  rcases ho.2 with hn | ⟨g, cap, cur, hv, hbb, hgg, rest⟩
  · exact .inl hn
  · exact .inr ⟨g, cap, cur, hv, hbb, by rw [hb.block g (Array.getElem?_eq_some_iff.1 hgg).1]; exact hgg, rest⟩
def setAt {α : Type} (P : Nat → α) (n : Nat) (a : α) : Nat → α := fun j => if j = n then a else P j
theorem setAt_eq {α : Type} (P : Nat → α) (n : Nat) (a : α) : setAt P n a n = a := by simp [setAt]
theorem setAt_ne {α : Type} (P : Nat → α) {n j : Nat} (a : α) (h : j ≠ n) : setAt P n a j = P j := by simp [setAt, h]
theorem getD_snoc_lt (rows : List (List Int)) (r : List Int) (j : Nat) (h : j < rows.length) : (rows ++ [r]).getD j [] = rows.getD j [] := by
  rw [List.getD_eq_getElem?_getD, List.getElem?_append_left h, ← List.getD_eq_getElem?_getD]
theorem getD_snoc_eq (rows : List (List Int)) (r : List Int) : (rows ++ [r]).getD rows.length [] = r := by simp [List.getD]
theorem RL_snoc (P : Nat → Option Addr) (C : Nat → Nat) (rows : List (List Int)) (r : List Int) (A : Option Addr) (c : Nat) :
    RL (setAt P rows.length A) (setAt C rows.length c) (rows ++ [r]) = RL P C rows ++ [.slice A r.length c] := by
  unfold RL
  rw [List.length_append, List.length_singleton, List.range_succ, List.map_append]
  congr 1
  · refine List.map_congr_left fun j hj => ?_
    have hj' : j < rows.length := List.mem_range.1 hj
    rw [setAt_ne P A (by omega), setAt_ne C c (by omega), getD_snoc_lt rows r j hj']
  · simp [setAt_eq]
/-- One row more: it was made behind the world w0 (its blocks are from w0's size on); the append wrote the outer row's own block alone. -/
theorem Push.push {w0 w1 w2 : World} {B : Nat} {v v' : Value} {rows : List (List Int)} {P : Nat → Option Addr} {C : Nat → Nat} {A : Option Addr} {c : Nat} {r : List Int} {o : Obj}
    (h : Push w0 B v rows P C) (hb : Below w0.heap.size w0 w1) (hr : Own w1 w0.heap.size A c r) (hB : B ≤ w0.heap.size)
    (ho : w2.ownsRow B 28 1 v' (rows.length + 1) (RL P C rows ++ [.slice A r.length c])) (hg : (w1.alloc o).grownBy w2 v.ownBlock) :
    Push w2 B v' (rows ++ [r]) (setAt P rows.length A) (setAt C rows.length c) := by
  have h1 := h.below hb
  have keep : ∀ {A' : Option Addr} {c' : Nat} {r' : List Int}, Own w1 B A' c' r' → Own w2 B A' c' r' := fun {A' c' r'} hx => by
    refine hx.keep fun b hbb hlt => ?_
    have e1 : (w1.alloc o).heap[b]? = w1.heap[b]? := Below.heap_alloc _ _ _ hlt
    rw [← e1]
    exact hg.block b (by simp; omega) (fun e => row_ne' h1.out hx b hbb e.symm)
  refine ⟨by rw [RL_snoc, List.length_append]; exact ho, fun j hj => ?_, fun i j hij hj b hbi => ?_⟩
  · rw [List.length_append, List.length_singleton] at hj
    by_cases e : j = rows.length
    · subst e
      rw [setAt_eq, setAt_eq, getD_snoc_eq]
      exact keep (hr.more hB)
    · rw [setAt_ne P A e, setAt_ne C c e, getD_snoc_lt rows r j (by omega)]
      exact keep (h1.row j (by omega))
  · rw [List.length_append, List.length_singleton] at hj
    rw [setAt_ne P A (show i ≠ rows.length by omega)] at hbi
    by_cases e : j = rows.length
    · subst e
      rw [setAt_eq]
      intro he
      have := (hr.block b he).1
      have := ((h.row i (by omega)).block b hbi).2
      omega
    · rw [setAt_ne P A e]
      exact h.apart i j hij (by omega) b hbi
theorem Push.own2 {w : World} {B : Nat} {v : Value} {rows : List (List Int)} {P : Nat → Option Addr} {C : Nat → Nat} (h : Push w B v rows P C) : ∃ A c, v = .slice A rows.length c ∧ Own2 w B w.heap.size A c rows := by
  have ho := h.out
  rcases ho.2 with ⟨hv, h0⟩ | ⟨g, cap, cur, hv, _⟩
  · have e : rows = [] := List.eq_nil_of_length_eq_zero h0
    subst e
    exact ⟨none, 0, hv, own2_nil _ _ _⟩
  · refine ⟨some ⟨g, 0, none⟩, cap, hv, P, C, by rw [← hv]; exact ho, fun b hb => ?_, h.row, fun j hj b hb => ((h.row j hj).block b hb).2, h.apart⟩
    exact (ho.lt b (by rw [hv]; simpa [Value.ownBlock] using hb)).2
theorem one_cellS (A : Option Addr) (n c : Nat) : ∀ u ∈ [Value.slice A n c], u.oneCell' = true := by
  intro u hu; simp at hu; subst hu; rfl
theorem Own2.more {w : World} {B B' S : Nat} {A : Option Addr} {c : Nat} {rows : List (List Int)} (h : Own2 w B S A c rows) (hB : B' ≤ B) : Own2 w B' S A c rows := by
  obtain ⟨P, C, h⟩ := h
  refine ⟨P, C, ⟨h.out.1, ?_⟩, h.outS, fun j hj => (h.row j hj).more hB, h.rowS, h.apart⟩
  rcases h.out.2 with hn | ⟨g, cap, cur, hv, hb, rest⟩
  · exact .inl hn
  · exact .inr ⟨g, cap, cur, hv, Nat.le_trans hB hb, rest⟩
end Go.Proofs.Ytiebnnchaopbkaa
/-
  The contracts of what tells whether a list is a partition: the program's IsPartition and the model's, with the sums that they make.
-/
namespace Go.Proofs.Ytiebnnchaopbkaa
open Go.RowKit

set_option maxHeartbeats 400000 in
theorem l1In_any (n lo hi : Int) (w : World) :
    Calls Try.prog 70 #[.int .i64 n, .int .i64 lo, .int .i64 hi] w fun e w' => e = .returned (.bool (inB lo hi n)) ∧ w = w' := by
  by_cases h1 : lo ≤ n
  · by_cases h2 : n ≤ hi
    · go_enter Try.func70, Try.ntmps70
      go_wp2
      go_ret
      exact ⟨by simp [inB, h1, h2], rfl⟩
    · go_enter Try.func70, Try.ntmps70
      go_wp2
      go_ret
      exact ⟨by simp [inB]; omega, rfl⟩
  · go_enter Try.func70, Try.ntmps70
    go_wp2
    go_ret
    exact ⟨by simp [inB]; omega, rfl⟩
theorem l1In_b (n lo hi : Int) (w : World) (b : Bool) (h : inB lo hi n = b) :
    Calls Try.prog 70 #[.int .i64 n, .int .i64 lo, .int .i64 hi] w fun e w' => e = .returned (.bool b) ∧ w = w' := by
  subst h; exact l1In_any n lo hi w

set_option maxHeartbeats 400000 in
theorem l1All_any (A : Option Addr) (xs : List Int) (c : Nat) (lo hi : Int) (w : World) (hl : xs.length ≤ 1048576) (hc : Cells w A xs) :
    Calls Try.prog 71 #[.slice A xs.length c, .int .i64 lo, .int .i64 hi] w fun e w' => e = .returned (.bool (xs.all (inB lo hi))) ∧ w = w' := by
  go_enter Try.func71, Try.ntmps71
  go_wp2
  go_loop [11] (fun i => ∃ k : Nat, k ≤ xs.length ∧ i = .int .i64 k ∧ (xs.take k).all (inB lo hi) = true) (fun i => xs.length - (intOf i).toNat)
  case atStart => exact ⟨0, Nat.zero_le _, rfl, by simp⟩
  case round =>
    obtain ⟨k, hk, rfl, hall⟩ := hrel
    have HA := hid hall; clear hall
    by_cases hlt : k < xs.length
    · obtain ⟨b, o, rfl, hcc⟩ := hc (by omega)
      have hck := hcc k hlt
      clear hcc hc
      obtain ⟨x, hx⟩ : ∃ x, x = xs.getD k 0 := ⟨_, rfl⟩
      rw [← hx] at hck
      have HS := hid (all_take_succ (inB lo hi) xs k hlt)
      have HX := hid hx; clear hx
      cases hin : inB lo hi x
      · have HI := hid hin; clear hin
        go_wp2_with (go_at_call 70; refine (l1In_b _ _ _ _ _ HI.out).mono ?_; rintro e w' ⟨rfl, rfl⟩)
        go_ret
        exact ⟨ret_bool (all_take_false (inB lo hi) xs k hlt (by rw [← HX.out]; exact HI.out)).symm, rfl⟩
      · have HI := hid hin; clear hin
        go_wp2_with (go_at_call 70; refine (l1In_b _ _ _ _ _ HI.out).mono ?_; rintro e w' ⟨rfl, rfl⟩)
        go_round
        case rel => exact ⟨k + 1, by omega, by go_num, by rw [HS.out, HA.out, ← HX.out, HI.out]; rfl⟩
        case measure => simp [intOf]; omega
    · go_wp2
      go_ret
      exact ⟨ret_bool (by rw [← HA.out, List.take_of_length_le (by omega)]), rfl⟩
theorem l1All_b (A : Option Addr) (xs : List Int) (c : Nat) (lo hi : Int) (w : World) (hl : xs.length ≤ 1048576) (hc : Cells w A xs) (b : Bool) (h : xs.all (inB lo hi) = b) :
    Calls Try.prog 71 #[.slice A xs.length c, .int .i64 lo, .int .i64 hi] w fun e w' => e = .returned (.bool b) ∧ w = w' := by
  subst h; exact l1All_any A xs c lo hi w hl hc

set_option maxHeartbeats 400000 in
theorem ptSum_any (A : Option Addr) (xs : List Int) (c : Nat) (w : World) (hl : xs.length ≤ 30) (hb : ∀ j, j < xs.length → 0 ≤ xs.getD j 0 ∧ xs.getD j 0 ≤ 1000) (hc : Cells w A xs) :
    Calls Try.prog 47 #[.slice A xs.length c] w fun e w' => e = .returned (.int .i64 xs.sum) ∧ w = w' := by
  have HB := hid hb; clear hb
  go_enter Try.func47, Try.ntmps47
  go_wp2
  go_loop [3, 8] (fun s i => ∃ k : Nat, k ≤ xs.length ∧ i = .int .i64 k ∧ s = .int .i64 (xs.take k).sum) (fun _ i => xs.length - (intOf i).toNat)
  case atStart => exact ⟨0, Nat.zero_le _, rfl, by simp⟩
  case round =>
    obtain ⟨k, hk, rfl, rfl⟩ := hrel
    have hsb := sum_take_bound xs 1000 HB.out (by omega) k
    obtain ⟨s, hs⟩ : ∃ s, s = (xs.take k).sum := ⟨_, rfl⟩
    rw [← hs] at hsb ⊢
    have HS := hid hs; clear hs
    by_cases hlt : k < xs.length
    · obtain ⟨b, o, rfl, hcc⟩ := hc (by omega)
      have hck := hcc k hlt
      have hxb := HB.out k hlt
      clear hcc hc
      obtain ⟨x, hx⟩ : ∃ x, x = xs.getD k 0 := ⟨_, rfl⟩
      rw [← hx] at hck hxb
      have HX := hid hx; clear hx
      go_wp2
      go_round
      case rel => exact ⟨k + 1, by omega, by go_num, by rw [sum_take_succ xs k hlt, ← HS.out, ← HX.out]⟩
      case measure => simp [intOf]; omega
    · go_wp2
      go_ret
      exact ⟨ret_int (by rw [HS.out, List.take_of_length_le (by omega)]), rfl⟩

end Go.Proofs.Ytiebnnchaopbkaa
/-
  The program's IsPartition and the sum of cells.
-/
namespace Go.Proofs.Ytiebnnchaopbkaa
open Go.RowKit

set_option maxHeartbeats 400000 in
theorem idPart_any (x : Int) (w : World) : Calls Try.prog 92 #[.int .i64 x] w fun e w' => e = .returned (.int .i64 x) ∧ w = w' := by
  go_enter Try.func92, Try.ntmps92
  go_wp2
  go_ret
  exact ⟨rfl, rfl⟩

set_option maxHeartbeats 400000 in
theorem sumCells_any (A : Option Addr) (xs : List Int) (c : Nat) (w : World) (hl : xs.length ≤ 30) (hb : ∀ j, j < xs.length → 0 ≤ xs.getD j 0 ∧ xs.getD j 0 ≤ 1000) (hc : Cells w A xs) :
    Calls Try.prog 35 #[.slice A xs.length c, .func (.func 92) #[] #[]] w fun e w' => e = .returned (.int .i64 xs.sum) ∧ w = w' := by
  have HB := hid hb; clear hb
  go_enter Try.func35, Try.ntmps35
  go_wp2_with fail
  go_loop [5, 10] (fun s i => ∃ k : Nat, k ≤ xs.length ∧ i = .int .i64 k ∧ s = .int .i64 (xs.take k).sum) (fun _ i => xs.length - (intOf i).toNat)
  case atStart => exact ⟨0, Nat.zero_le _, rfl, by simp⟩
  case round =>
    obtain ⟨k, hk, rfl, rfl⟩ := hrel
    have hsb := sum_take_bound xs 1000 HB.out (by omega) k
    obtain ⟨s, hs⟩ : ∃ s, s = (xs.take k).sum := ⟨_, rfl⟩
    rw [← hs] at hsb ⊢
    have HS := hid hs; clear hs
    by_cases hlt : k < xs.length
    · obtain ⟨b, o, rfl, hcc⟩ := hc (by omega)
      have hck := hcc k hlt
      have hxb := HB.out k hlt
      clear hcc hc
      obtain ⟨x, hx⟩ : ∃ x, x = xs.getD k 0 := ⟨_, rfl⟩
      rw [← hx] at hck hxb
      have HX := hid hx; clear hx
      go_wp2_with (go_at_call 92; refine (idPart_any _ _).mono ?_; rintro e w' ⟨rfl, rfl⟩)
      go_round
      case rel => exact ⟨k + 1, by omega, by go_num, by rw [sum_take_succ xs k hlt, ← HS.out, ← HX.out]⟩
      case measure => simp [intOf]; omega
    · go_wp2_with fail
      go_ret
      exact ⟨ret_int (by rw [HS.out, List.take_of_length_le (by omega)]), rfl⟩

set_option maxHeartbeats 400000 in
theorem cellCount_any (A : Option Addr) (xs : List Int) (c : Nat) (w : World) (hl : xs.length ≤ 30) (hb : ∀ j, j < xs.length → 0 ≤ xs.getD j 0 ∧ xs.getD j 0 ≤ 1000) (hc : Cells w A xs) :
    Calls Try.prog 90 #[.slice A xs.length c] w fun e w' => e = .returned (.int .i64 xs.sum) ∧ w = w' := by
  have HB := hid hb; clear hb
  go_enter Try.func90, Try.ntmps90
  go_wp2_with (go_at_call 35; refine (sumCells_any _ _ _ _ hl HB.out hc).mono ?_; rintro e w' ⟨rfl, rfl⟩)
  go_ret
  exact ⟨rfl, rfl⟩

theorem chk_lo {m x : Int} {t : List Int} (h : x < 1) : chk m (x :: t) = false := by simp only [chk]; rw [decide_eq_false (by omega)]; rfl
theorem chk_hi {m x : Int} {t : List Int} (h : m < x) : chk m (x :: t) = false := by simp only [chk]; rw [decide_eq_false (p := x ≤ m) (by omega)]; simp

set_option maxHeartbeats 400000 in
theorem IsPartition_any (A : Option Addr) (xs : List Int) (c : Nat) (w : World) (hl : xs.length ≤ 1048576) (hc : Cells w A xs) :
    Calls Try.prog 83 #[.slice A xs.length c] w fun e w' => e = .returned (.bool (good xs)) ∧ w = w' := by
  by_cases h30 : 30 < xs.length
  · rw [good_no_len h30]
    go_enter Try.func83, Try.ntmps83
    go_wp2_with fail
    go_ret
    exact ⟨rfl, rfl⟩
  go_enter Try.func83, Try.ntmps83
  go_wp2_with fail
  go_loop [3, 11] (fun m i => ∃ (k : Nat) (l : Int), k ≤ xs.length ∧ i = .int .i64 k ∧ m = .int .i64 l ∧ chk 30 xs = chk l (xs.drop k)) (fun _ i => xs.length - (intOf i).toNat)
  case atStart => exact ⟨0, 30, Nat.zero_le _, rfl, rfl, by simp⟩
  case round =>
    obtain ⟨k, l, hk, rfl, rfl, he⟩ := hrel
    have HE := hid he; clear he
    by_cases hlt : k < xs.length
    · obtain ⟨b, o, rfl, hcc⟩ := hc (by omega)
      have hck := hcc k hlt
      clear hcc hc
      have HD := hid (drop_cons xs k hlt)
      obtain ⟨x, hx⟩ : ∃ x, x = xs.getD k 0 := ⟨_, rfl⟩
      rw [← hx] at hck HD
      clear hx
      by_cases h1 : x < 1
      · go_wp2_with fail
        go_ret
        exact ⟨ret_bool (good_no_chk (by rw [HE.out, HD.out, chk_lo h1])).symm, rfl⟩
      by_cases h2 : l < x
      · go_wp2_with fail
        go_ret
        exact ⟨ret_bool (good_no_chk (by rw [HE.out, HD.out, chk_hi h2])).symm, rfl⟩
      go_wp2_with fail
      go_round
      case rel => exact ⟨k + 1, x, by omega, by go_num, rfl, by rw [HE.out, HD.out, chk, decide_eq_true (by omega), decide_eq_true (by omega)]; rfl⟩
      case measure => simp [intOf]; omega
    · have hck : chk 30 xs = true := by rw [HE.out, List.drop_eq_nil_of_le (by omega)]; rfl
      have HK := hid hck; clear hck
      go_wp2_with (go_at_call 90; refine (cellCount_any _ _ _ _ (by omega) (fun j hj => by have := (chk_parts HK.out).1 j hj; have := (chk_parts HK.out).2.1 j hj; omega) hc).mono ?_; rintro e w' ⟨rfl, rfl⟩)
      go_ret
      exact ⟨ret_bool (good_chk (by omega) HK.out).symm, rfl⟩
theorem IsPartition_b (A : Option Addr) (xs : List Int) (c : Nat) (w : World) (hl : xs.length ≤ 1048576) (hc : Cells w A xs) (b : Bool) (h : good xs = b) :
    Calls Try.prog 83 #[.slice A xs.length c] w fun e w' => e = .returned (.bool b) ∧ w = w' := by
  subst h; exact IsPartition_any A xs c w hl hc
end Go.Proofs.Ytiebnnchaopbkaa
/-
  Contracts: IsPartition, CellsOf, IsInside, of the program and of the model.
-/
namespace Go.Proofs.Ytiebnnchaopbkaa
open Go.RowKit

theorem impl_IsPartition (A : Option Addr) (c : Nat) (xs : List Int) (w : World) (hl : xs.length ≤ 1048576) (hc : Cells w A xs) :
    Calls Try.prog 83 #[.slice A xs.length c] w fun e w' => e = .returned (.bool (good xs)) ∧ Below w.heap.size w w' :=
  (IsPartition_any A xs c w hl hc).mono fun _ _ ⟨he, hw⟩ => ⟨he, by rw [hw]; exact Below.refl _ _⟩

theorem Good.b1000 {xs : List Int} (h : Good xs) : ∀ j, j < xs.length → 0 ≤ xs.getD j 0 ∧ xs.getD j 0 ≤ 1000 := fun j hj => by have := h.pos j hj; have := h.le j hj; omega

def cellsF (xs : List Int) : Int := if good xs then xs.sum else 0
theorem cellsF_t {xs : List Int} (h : good xs = true) : cellsF xs = xs.sum := by simp [cellsF, h]
theorem cellsF_f {xs : List Int} (h : good xs = false) : cellsF xs = 0 := by simp [cellsF, h]

end Go.Proofs.Ytiebnnchaopbkaa
/-
  The library's walk backwards over a list of ints: what it hands to the loop's body; and the list of parts that the program makes of beads by it.
-/
namespace Go.Proofs.Ytiebnnchaopbkaa
open Go.RowKit Go.Shelf
attribute [local go_sem] Oper.semAt_some

def upto {α : Type} (f : Nat → α) (k : Nat) : List α := (List.range k).map f
theorem upto_succ {α : Type} (f : Nat → α) (k : Nat) : upto f (k + 1) = upto f k ++ [f k] := by simp [upto, List.range_succ]
theorem upto_length {α : Type} (f : Nat → α) (k : Nat) : (upto f k).length = k := by simp [upto]
/-- What comes as number k of a walk backwards. -/
def bk (zs : List Int) (k : Nat) : Int × Int := (((zs.length - 1 - k : Nat) : Int), zs.getD (zs.length - 1 - k) 0)

/-- What lay below n₀ lies as it lay, and so does block Bs. -/
def KeepB (n₀ Bs : Nat) (W W' : World) : Prop := Below n₀ W W' ∧ W'.heap[Bs]? = W.heap[Bs]?
theorem KeepB.refl (n₀ Bs : Nat) (W : World) : KeepB n₀ Bs W W := ⟨Below.refl _ _, rfl⟩
theorem KeepB.trans {n₀ Bs : Nat} {A B C : World} (h : KeepB n₀ Bs A B) (k : KeepB n₀ Bs B C) : KeepB n₀ Bs A C := ⟨h.1.trans k.1, k.2.trans h.2⟩
theorem KeepB.cell {n₀ Bs : Nat} {W W' : World} (h : KeepB n₀ Bs W W') : W'.cell? ⟨Bs, 0, none⟩ = W.cell? ⟨Bs, 0, none⟩ := by simp [World.cell?, h.2]
theorem keepB_b {n₀ Bs B : Nat} (h : n₀ ≤ B) (h2 : Bs < B) (W : World) (l : Nat) (o o' : Obj) (hl : B ≤ l) (ho : W.heap[l]? = some o) (_ : o.isCells = false) (_ : o.isWalk = false) : KeepB n₀ Bs W (W.putObj l o') :=
  ⟨(Below.refl n₀ W).grown (grownBy_putObj' W l o') (by have := (Array.getElem?_eq_some_iff.1 ho).1; omega) (fun k e => by cases e; omega), (grownBy_putObj' W l o').block Bs (by have := (Array.getElem?_eq_some_iff.1 ho).1; omega) (by simp; omega)⟩

set_option maxRecDepth 100000 in
set_option maxHeartbeats 2000000 in
theorem back1_in (F : Fence) (n : Nat) (hF : F.fn 76) (hro : F.round = none) (hn : 1 ≤ n) (l Bs n₀ : Nat) (A : Option Addr) (cap : Nat) (zs : List Int) (hreach : zs.length ≤ 1048576) (J Jx : List (Int × Int) → World → Prop)
    (hY : ∀ pre x W, J pre W → pre.length < zs.length → YieldAt F (n - 1) Try.prog l #[.int .i64 x.1, .int .i64 x.2] W fun e W' =>
      (e = .returned (.bool true) ∧ J (pre ++ [x]) W' ∧ KeepB n₀ Bs W W') ∨ (e = .returned (.bool false) ∧ Jx (pre ++ [x]) W'))
    (W : World) (hBs : W.cell? ⟨Bs, 0, none⟩ = some (.slice A zs.length cap)) (hAb : 0 < zs.length → ∀ b, A.map Addr.block = some b → b < n₀) (hc : Cells W A zs) (h0 : J [] W) :
    CallsIn F n Try.prog 76 #[.func (.yield l) #[] #[], .pointer (some ⟨Bs, 0, none⟩)] W fun e W' => (∃ v, e = .returned v) ∧
      ((∃ ys, ys = upto (bk zs) zs.length ∧ J ys W') ∨ (∃ pre, (∃ k, k ≤ zs.length ∧ pre = upto (bk zs) k) ∧ Jx pre W')) := by
  refine callsIn_of_wp Try.func76 rfl hF ?_ hro
  simp only [Try.ntmps76, List.size_toArray, List.length_cons, List.length_nil, Nat.reduceAdd, Nat.reduceSub, Array.replicate_succ, Array.replicate_zero, List.push_toArray, List.append_toArray, List.nil_append, List.cons_append]
  have hw0 : IntKind.i64.wrap ((zs.length : Int) - 1) = (zs.length : Int) - 1 := by rw [IntWalk.i64_in _ (by omega)]
  gi_wp2
  gi_loopw [3] (fun i wr => ∃ k : Nat, k ≤ zs.length ∧ i = .int .i64 ((zs.length : Int) - 1 - k) ∧ J (upto (bk zs) k) wr ∧ KeepB n₀ Bs W wr)
    (fun i _ => (intOf i + 1).toNat)
  case atStart => exact ⟨0, Nat.zero_le _, by simp, h0, KeepB.refl _ _ _⟩
  case round =>
    obtain ⟨k, hk, rfl, hJs, hnx⟩ := hrel
    have hsl : wr.cell? ⟨Bs, 0, none⟩ = some (.slice A zs.length cap) := hnx.cell.trans hBs
    by_cases hlt : k < zs.length
    · obtain ⟨b, o, rfl, hcc⟩ := hc (by omega)
      obtain ⟨i, hi⟩ : ∃ i : Nat, i = zs.length - 1 - k := ⟨_, rfl⟩
      have hcx : wr.cell? ⟨b, o + i, none⟩ = some (.int .i64 (zs.getD i 0)) := (hnx.1.cell (p := ⟨b, o + i, none⟩) (hAb (by omega) b rfl)).trans (hcc i (by omega))
      have hii : (zs.length : Int) - 1 - k = (i : Int) := by omega
      have hil : i < zs.length := by omega
      have hbk : bk zs k = ((i : Int), zs.getD i 0) := by unfold bk; rw [← hi]
      have hup := upto_succ (bk zs) k
      rw [hbk] at hup
      obtain ⟨x, hx⟩ : ∃ x, x = zs.getD i 0 := ⟨_, rfl⟩
      rw [← hx] at hcx hup
      have HUP := hid hup
      have HI := hid hi
      have HBK := hid hbk
      rw [hii]
      obtain ⟨fn, tmps, assign, body, hy, hR⟩ := hY _ ((i : Int), x) wr hJs (by rw [upto_length]; exact hlt)
      dsimp only at hy
      have hwi : IntKind.i64.wrap ((i : Int) - 1) = (i : Int) - 1 := by rw [IntWalk.i64_in _ (by omega)]
      clear hcc hx hup hi hbk
      gi_wp2
      refine hR.mono ?_
      rintro e W3 (⟨rfl, hJ3, hk3⟩ | ⟨rfl, hJx3⟩)
      · gi_wp2
        go_roundw
        case rel => exact ⟨k + 1, by omega, by congr 1; omega, by rw [HUP.out]; exact hJ3, hnx.trans hk3⟩
        case measure => simp [intOf]
      · gi_wp2
        refine bodyPost_ret (results_none rfl _ _ _) rfl ?_
        exact ⟨⟨_, rfl⟩, .inr ⟨_, ⟨k + 1, by omega, HUP.out.symm⟩, hJx3⟩⟩
    · obtain rfl : k = zs.length := by omega
      have hm1 : (zs.length : Int) - 1 - (zs.length : Nat) = -1 := by omega
      rw [hm1]
      gi_wp2
      go_end0
      exact ⟨⟨_, rfl⟩, .inl ⟨_, rfl, hJs⟩⟩

set_option maxHeartbeats 1000000 in
theorem back_in (F : Fence) (n : Nat) (hF : F.fn 58) (hro : F.round = none) (a : Option Addr) (len cap : Nat) (w : World) :
    CallsIn F n Try.prog 58 #[.slice a len cap] w fun e w' => e = .returned (.func (.func 76) #[] #[.pointer (some ⟨w.heap.size, 0, none⟩)]) ∧ w' = w.alloc (.cells #[.slice a len cap] 28) := by
  refine callsIn_of_wp Try.func58 rfl hF ?_ hro
  simp only [Try.ntmps58, List.size_toArray, List.length_cons, List.length_nil, Nat.reduceAdd, Nat.reduceSub, Array.replicate_succ, Array.replicate_zero, List.push_toArray, List.append_toArray, List.nil_append, List.cons_append]
  gi_wp2
  go_ret
  exact ⟨rfl, rfl⟩

theorem cells_lt {w : World} {A : Option Addr} {xs : List Int} (h : Cells w A xs) (h0 : 0 < xs.length) : ∀ b, A.map Addr.block = some b → b < w.heap.size := by
  intro b hb
  obtain ⟨b', o, rfl, hcc⟩ := h h0
  have := World.block_lt_of_cell? w _ (hcc 0 h0)
  simp at hb
  subst hb
  exact this
theorem back_stops (F : Fence) (n : Nat) (hF : F.fn 76) (hro : F.round = none) (hn : 1 ≤ n) (Bs n₀ : Nat) (A : Option Addr) (cap : Nat) (zs : List Int) (hreach : zs.length ≤ 1048576) (w : World) (hBs : Bs < w.heap.size)
    (hb : w.cell? ⟨Bs, 0, none⟩ = some (.slice A zs.length cap)) (hAb : 0 < zs.length → ∀ b, A.map Addr.block = some b → b < n₀) (hI : Cells w A zs) :
    SeqStopsK F n Try.prog 76 #[.pointer (some ⟨Bs, 0, none⟩)] (fun x : Int × Int => #[Value.int .i64 x.1, Value.int .i64 x.2]) (KeepB n₀ Bs) (fun ys => ys = upto (bk zs) zs.length)
      (fun pre => ∃ k, k ≤ zs.length ∧ pre = upto (bk zs) k) zs.length w := fun l J Jx W hW _ _ hY h0 => by
  have hc' := (hW.cell (p := ⟨Bs, 0, none⟩) hBs).trans hb
  exact back1_in F n hF hro hn l Bs n₀ A cap zs hreach J Jx hY W hc' hAb (hI.keep fun b hbk hlt => hW.block b hlt) h0
end Go.Proofs.Ytiebnnchaopbkaa
/-
  The list of parts of beads, as the program makes it in a walk backwards.
-/
namespace Go.Proofs.Ytiebnnchaopbkaa
open Go.RowKit Go.Shelf
attribute [local go_sem] Oper.semAt_some

def posP (pre : List (Int × Int)) : List Int := pre.filterMap fun x => if x.1 < x.2 then some (wrap64 (x.2 - x.1)) else none
theorem posP_hit (pre : List (Int × Int)) {x : Int × Int} (h : x.1 < x.2) : posP (pre ++ [x]) = posP pre ++ [wrap64 (x.2 - x.1)] := by simp [posP, h]
theorem posP_miss (pre : List (Int × Int)) {x : Int × Int} (h : ¬ x.1 < x.2) : posP (pre ++ [x]) = posP pre := by simp [posP, h]
theorem posP_len (pre : List (Int × Int)) : (posP pre).length ≤ pre.length := List.length_filterMap_le _ _
theorem posP_pk {xs : List Int} (hb : ∀ j, j < xs.length → 0 ≤ xs.getD j 0 ∧ xs.getD j 0 ≤ 1000) (hl : xs.length ≤ 1000) : ∀ k, k ≤ xs.length → posP (upto (bk xs) k) = bpk xs k
  | 0, _ => rfl
  | k + 1, h => by
    have ih := posP_pk hb hl k (by omega)
    have := hb (xs.length - 1 - k) (by omega)
    rw [upto_succ]
    by_cases hh : ((xs.length - 1 - k : Nat) : Int) < xs.getD (xs.length - 1 - k) 0
    · rw [posP_hit _ hh, ih, bpk_yes rfl rfl hh]
      simp only [bk]
      have e : wrap64 (xs.getD (xs.length - 1 - k) 0 - ((xs.length - 1 - k : Nat) : Int)) = xs.getD (xs.length - 1 - k) 0 - ((xs.length - 1 - k : Nat) : Int) := IntWalk.wrap64_in _ (by omega)
      rw [e]
    · rw [posP_miss _ hh, ih, bpk_no rfl rfl hh]

set_option maxRecDepth 100000 in
set_option maxHeartbeats 4000000 in
theorem partsOf_in (F : Fence) (n : Nat) (h3 : F.fn 40) (h4 : F.fn 58) (h5 : F.fn 76) (hro : F.round = none) (hn : 3 ≤ n) (A : Option Addr) (cap : Nat) (xs : List Int) (hlen : xs.length ≤ 1048576) (w : World)
    (hc : Cells w A xs) :
    CallsIn F n Try.prog 40 #[.slice A xs.length cap] w fun e W' => ∃ v, e = .returned v ∧ W'.ownsRow w.heap.size 3 1 v (posP (upto (bk xs) xs.length)).length (IL (posP (upto (bk xs) xs.length))) ∧ Below w.heap.size w W' := by
  have h1 : 1 ≤ n := by omega
  obtain ⟨i0, hi, hz0, hz1, hz2⟩ := info_parts Try.infoInt
  refine callsIn_of_wp_marks Try.func40 rfl h3 ?_ hro
  simp only [Try.ntmps40, List.size_toArray, List.length_cons, List.length_nil, Nat.reduceAdd, Nat.reduceSub, Array.replicate_succ, Array.replicate_zero, List.push_toArray, List.append_toArray, List.nil_append, List.cons_append]
  gi_wp2_with (gi_at_call 58; refine (back_in F (n - 1) h4 hro _ _ _ _).mono ?_; rintro e w' ⟨rfl, rfl⟩)
  have bO := Boxed.new w 28 (.slice none 0 0)
  have bN := Boxed.new (w.alloc (.cells #[.slice none 0 0] 28)) 28 (.slice A xs.length cap)
  rw [World.size_alloc] at bN
  have hB0 : Below w.heap.size w ((w.alloc (.cells #[.slice none 0 0] 28)).alloc (.cells #[.slice A xs.length cap] 28)) := ((Below.refl _ w).alloc (Nat.le_refl _) _).alloc (by simp) _
  refine wpIn_rangeFunc_ownG hro h1 (gf := 76) (lb := #[.pointer (some ⟨w.heap.size + 1, 0, none⟩)]) rfl h5 (enters_of Try.func76 (by kernel_rfl) rfl)
    (back_stops F (n - 1) h5 hro (by omega) (w.heap.size + 1) w.heap.size A cap xs hlen _ (by simp) bN.cell (cells_lt hc) (hc.keep fun b hb hlt => hB0.block b hlt)) KeepB.trans (keepB_b (by simp; omega) (by simp)) (Below.refl _ _) (fun _ => rfl)
    (fun pre W => ((∃ v, Boxed W w.heap.size 28 v ∧ W.ownsRow w.heap.size 3 1 v (posP pre).length (IL (posP pre)) ∧ True) ∧ Boxed W (w.heap.size + 1) 28 (.slice A xs.length cap)) ∧ Below w.heap.size w W)
    (fun _ _ _ => False)
    (OwnFrom.and (OwnFrom.and (Own.from (holdsRow_own w.heap.size w.heap.size 28 3 1 (fun pre => (posP pre).length) (fun pre => IL (posP pre)) (fun _ _ => True)) _) (Own.from (boxed_own _ _ _) _)) (ownFrom_below (Nat.le_refl _) (by simp; omega)))
    (fun _ _ _ _ _ hs _ _ => hs)
    ⟨⟨⟨_, bO.alloc _, World.ownsRow_nil _ _ _ _, trivial⟩, bN⟩, hB0⟩
    (fun x => { tmps := #[.slice A xs.length cap, undef, .slice none 0 0, .pointer (some ⟨w.heap.size, 0, none⟩), .int .i64 x.1, .int .i64 x.2, .slice A xs.length cap, .func (.func 76) #[] #[.pointer (some ⟨w.heap.size + 1, 0, none⟩)], .int .i64 x.1, .int .i64 x.2, undef, undef, undef, undef, undef, undef, undef, undef, undef, undef], defers := [] }) ?assign ?body ?done ?stop
  case assign =>
    intro l x W K hK
    gi_wp2
    exact hK
  case body =>
    rintro l pre x W ⟨⟨⟨v, hv, hrow, -⟩, hs⟩, hB⟩ hlt
    have hc := hv.cell
    have hpl := posP_len pre
    gi_wp2_with (gi_at_builtin; refine wpListIn_append_own _ rfl _ _ 28 rfl w.heap.size 3 i0 (.int .i64 0) 1 8 Try.underlying28 hi hz0 hz1 hz2 rfl (by decide) _ _ _ rfl (hrow.alloc _) ⟨W.heap.size, 0, none⟩ 1 1 [.int .i64 (wrap64 (x.2 - x.1))] rfl rfl (cell_one_new _ _ _) (by simp [Value.oneCell']) (by unfold maxLen; omega) (by omega) (by have := hB.size; simp; omega) ?_; intro v' w1 hown' hgrow _; obtain ⟨g', cap', rfl⟩ := ownsRow_succ hown'; obtain ⟨hv1, hv2, hr2, hk2, hb2⟩ := hv.appended (by decide) hrow hB.size (Nat.le_refl _) hown' hgrow; have hc1 := hv1.cell; have hf1 := hv1.frozen; have hs1 : Boxed w1 (w.heap.size + 1) 28 (.slice A xs.length cap) := (hs.alloc _).kept hgrow (hs.not_row (by decide) hrow); have hs2 := hs1.other (B' := w.heap.size) (by omega) (.slice (some ⟨g', 0, none⟩) ((posP pre).length + 1) cap'))
    · have hx : x.1 < x.2 := by assumption
      exact ⟨hk2.from _, ⟨hb2, hs2.trans hs.symm⟩, ⟨⟨⟨_, hv2, by rw [posP_hit pre hx]; simpa [IL] using hr2, trivial⟩, hs2⟩, hB.trans hb2⟩⟩
    · have hx : x.2 ≤ x.1 := by assumption
      exact ⟨KeepsFrom.refl _ _, KeepB.refl _ _ _, ⟨⟨⟨v, hv, by rw [posP_miss pre (by omega)]; exact hrow, trivial⟩, hs⟩, hB⟩⟩
  case done =>
    rintro D ys W hD rfl ⟨⟨⟨v, hv, hrow, -⟩, hs⟩, hB⟩ hK
    have hc := hv.cell
    gi_wp2
    refine ⟨by simp, .inl ⟨_, _, rfl, run_takeDeferred hK, ?_⟩⟩
    exact ⟨_, results_tmp rfl _ _ _, v, rfl, ownsRow_putObj hrow _ hK rfl, hB.trans (belowK_b (w := w) (Nat.le_refl _) W D _ _ (by simp at hD; omega) hK rfl rfl)⟩
  case stop =>
    rintro D c pre W _ _ h _
    exact h.elim

theorem own_form' {w : World} {B : Nat} {v : Value} {xs : List Int} (h : w.ownsRow B 3 1 v xs.length (IL xs)) : ∃ A c, v = .slice A xs.length c ∧ Own w B A c xs := by
  rcases h.2 with ⟨rfl, h0⟩ | ⟨g, cap, cur, rfl, _⟩
  · refine ⟨none, 0, by rw [h0], ?_⟩
    unfold Own; rw [h0] at h ⊢; exact h
  · exact ⟨_, _, rfl, h⟩
theorem partsOf_any (A : Option Addr) (cap : Nat) (xs : List Int) (w : World) (hl : xs.length ≤ 1000) (hb : ∀ j, j < xs.length → 0 ≤ xs.getD j 0 ∧ xs.getD j 0 ≤ 1000) (hc : Cells w A xs) :
    Calls Try.prog 40 #[.slice A xs.length cap] w fun e w' => ∃ A' c', e = .returned (.slice A' (partsL xs).length c') ∧ Own w' w.heap.size A' c' (partsL xs) ∧ Below w.heap.size w w' := by
  refine (callsIn_wide (n := 3)).1 ((partsOf_in Fence.wide 3 trivial trivial trivial rfl (Nat.le_refl _) A cap xs (by omega) w hc).mono ?_)
  rintro e w' ⟨v, rfl, ho, hB⟩
  rw [posP_pk hb hl _ (Nat.le_refl _)] at ho
  obtain ⟨A', c', rfl, o⟩ := own_form' ho
  exact ⟨A', c', rfl, o, hB⟩
end Go.Proofs.Ytiebnnchaopbkaa
/-
  Rows of two numbers each.
-/
namespace Go.Proofs.Ytiebnnchaopbkaa
open Go.RowKit

theorem ownsRow_slice {w : World} {B e s n : Nat} {v : Value} {xs : List Value} (h : w.ownsRow B e s v n xs) : ∃ A c, v = .slice A n c := by
  rcases h.2 with ⟨rfl, rfl⟩ | ⟨g, cap, cur, rfl, _⟩
  · exact ⟨none, 0, rfl⟩
  · exact ⟨_, _, rfl⟩
def pairs (L : List (Nat × Nat)) : List (List Int) := L.map fun q => [(q.1 : Int), (q.2 : Int)]
theorem pairs_len (L : List (Nat × Nat)) : (pairs L).length = L.length := by simp [pairs]
theorem pairs_snoc (L : List (Nat × Nat)) (a b : Nat) : pairs (L ++ [(a, b)]) = pairs L ++ [[(a : Int), (b : Int)]] := by simp [pairs]
theorem tot_pairs (L : List (Nat × Nat)) : tot (pairs L) = 2 * L.length := by
  induction L with
  | nil => rfl
  | cons q t ih => simp only [pairs, List.map_cons, tot, List.length_cons, List.length_nil] at ih ⊢; omega
theorem own_two (w : World) (B : Nat) (hB : B ≤ w.heap.size) (a b : Int) : Own (w.alloc (.cells #[.int .i64 a, .int .i64 b] 3)) B (some ⟨w.heap.size, 0, none⟩) 2 [a, b] :=
  World.ownsRow_lit (base := B) (e := 3) (size := 1) w #[.int .i64 a, .int .i64 b] 2 hB (by unfold maxLen; omega) rfl
theorem one_at_n {w : World} {n : Nat} {x : Value} {t : TypeId} (hn : w.heap.size = n) (j : Nat) (u : Value) (h : [x][j]? = some u) : (w.alloc (.cells #[x] t)).cell? ((⟨n, 0, none⟩ : Addr).add j) = some u := by
  subst hn; exact one_at j u h
end Go.Proofs.Ytiebnnchaopbkaa
/-
  Contracts: what is a cell, of the program and of the model.
-/
namespace Go.Proofs.Ytiebnnchaopbkaa
open Go.RowKit

theorem at_no_good {xs : List Int} {r k : Int} (h : good xs = false) : atB xs r k = false := by simp [atB, h]
theorem at_good {xs : List Int} {r k : Int} (h : good xs = true) : atB xs r k = cellB xs r k := by simp [atB, h]
theorem cell_no {xs : List Int} {r k : Int} (h : ¬ (0 ≤ r ∧ r < xs.length ∧ 0 ≤ k ∧ k < xs.getD r.toNat 0)) : cellB xs r k = false := by
  cases hcb : cellB xs r k
  · rfl
  · exact absurd (cellB_iff.1 hcb) h

theorem Cells.get {w : World} {A : Option Addr} {xs : List Int} (h : Cells w A xs) {j : Nat} (hj : j < xs.length) : ∃ b o, A = some ⟨b, o, none⟩ ∧ w.cell? ⟨b, o + j, none⟩ = some (.int .i64 (xs.getD j 0)) := by
  obtain ⟨b, o, e, hc⟩ := h (by omega)
  exact ⟨b, o, e, hc j hj⟩

end Go.Proofs.Ytiebnnchaopbkaa
/-
  Contracts: counting up, the beads of parts (both sides).
-/
namespace Go.Proofs.Ytiebnnchaopbkaa
open Go.RowKit

theorem own_made (w : World) (n : Nat) (hn : n ≤ 1048576) : Own (w.alloc (.cells (madeCells #[.int .i64 0] n) 3)) w.heap.size (some ⟨w.heap.size, 0, none⟩) n (fnRow n (fun _ => 0)) := by
  have h := World.ownsRow_lit (base := w.heap.size) (e := 3) (size := 1) w (madeCells #[.int .i64 0] n) n (Nat.le_refl _) (by unfold maxLen; omega) (by rw [size_madeCells]; omega)
  rw [toList_madeCells_one] at h
  unfold Own
  rw [fnRow_len, rowF_zero]
  have e : IL (List.replicate n 0) = List.replicate n (.int .i64 0) := by simp [IL]
  rw [e]; exact h





def upK (n k : Nat) : List Int := fnRow n (fun j => if j < k then (j : Int) else 0)
theorem upK_zero (n : Nat) : upK n 0 = fnRow n (fun _ => 0) := rowF_ext _ _ _ fun j _ => by simp
theorem upK_all (n : Nat) : upK n n = upTo n := rowF_ext _ _ _ fun j h => by simp [h]
theorem upK_succ (n k : Nat) : (upK n k).set k (k : Int) = upK n (k + 1) := by
  unfold upK; rw [fnRow_set]
  refine rowF_ext _ _ _ fun j _ => ?_
  by_cases e : j = k
  · subst e; simp
  · rw [if_neg e]
    by_cases h : j < k
    · rw [if_pos h, if_pos (by omega)]
    · rw [if_neg h, if_neg (by omega)]

set_option maxHeartbeats 400000 in
theorem countUp_any (n : Nat) (w : World) (hn : n ≤ 1000) :
    Calls Try.prog 37 #[.int .i64 n] w fun e w' => ∃ A' c', e = .returned (.slice A' n c') ∧ Own w' w.heap.size A' c' (upTo n) ∧ Below w.heap.size w w' := by
  have hmk := run_make_row' (P := Try.prog) 28 3 (.int .i64 0) 8 Try.underlying28 Try.infoInt rfl .i64 .i64 n (by omega) (by omega)
  go_enter Try.func37, Try.ntmps37
  go_wp2
  go_loopw [4, 9] (fun _ i wr => ∃ k : Nat, k ≤ n ∧ i = .int .i64 k ∧ Own wr w.heap.size (some ⟨w.heap.size, 0, none⟩) n (upK n k) ∧ Below w.heap.size w wr) (fun _ i _ => n - (intOf i).toNat)
  case atStart =>
    exact ⟨0, Nat.zero_le _, rfl, own_len (own_made w n (by omega)) (upK_zero n).symm, (Below.refl _ _).alloc (Nat.le_refl _) _⟩
  case round =>
    obtain ⟨k, hk, rfl, hown, hbel⟩ := hrel
    by_cases hlt : k < n
    · have hcur := own_get hown (k := k) (by rw [upK, fnRow_len]; exact hlt)
      have hfz := own_froz hown k
      have HS := hid (own_len (own_set hown k (k : Int)) (upK_succ n k))
      obtain ⟨u, hu⟩ : ∃ u, u = (upK n k).getD k 0 := ⟨_, rfl⟩
      rw [← hu] at hcur
      clear hown hu
      go_wp2
      go_roundw
      case rel => exact ⟨k + 1, by omega, by go_num, HS.out, hbel.setCell (Nat.le_refl _) _⟩
      case measure => simp [intOf]; omega
    · have hkl : k = n := by omega
      subst hkl
      have HO := hid hown; clear hown
      go_wp2
      go_ret
      exact ⟨_, _, rfl, own_len HO.out (upK_all k), hbel⟩

set_option maxHeartbeats 400000 in
theorem beadsFor_any (A : Option Addr) (c : Nat) (xs : List Int) (n : Nat) (w : World) (hn : n ≤ 40) (hl : xs.length ≤ n) (hb : ∀ j, j < xs.length → 0 ≤ xs.getD j 0 ∧ xs.getD j 0 ≤ 1000) (hc : Cells w A xs) :
    Calls Try.prog 84 #[.slice A xs.length c, .int .i64 n] w fun e w' => ∃ A' c', e = .returned (.slice A' n c') ∧ Own w' w.heap.size A' c' (beadsL xs n) ∧ Below w.heap.size w w' := by
  have HB := hid hb; clear hb
  go_enter Try.func84, Try.ntmps84
  go_wp2_with (go_at_call 37; refine (countUp_any n _ (by omega)).mono ?_; rintro e w1 ⟨A1, c1, rfl, o1, b1⟩)
  go_loopw [6, 7, 12] (fun _ _ i wr => ∃ k : Nat, k ≤ xs.length ∧ i = .int .i64 k ∧ Own wr w.heap.size A1 c1 (beadsK xs n k) ∧ Below w.heap.size w wr) (fun _ _ i _ => xs.length - (intOf i).toNat)
  case atStart => exact ⟨0, Nat.zero_le _, rfl, own_len o1 (beadsK_zero xs n).symm, b1⟩
  case round =>
    obtain ⟨k, hk, rfl, hown, hbel⟩ := hrel
    by_cases hlt : k < xs.length
    · obtain ⟨b, o, rfl, hcc⟩ := hc (by omega)
      have hck := hcc k hlt
      have hck' : wr.cell? ⟨b, o + k, none⟩ = some (.int .i64 (xs.getD k 0)) := by
        rw [← hck]; exact hbel.cell (World.block_lt_of_cell? w _ hck)
      have hxb := HB.out k hlt
      have hbl : (beadsK xs n k).length = n := by unfold beadsK; rw [fnRow_len]
      obtain ⟨g, hg, hg1, _⟩ := hown.at_ (by rw [hbl]; omega)
      subst hg
      have hcur := own_get hown (k := n - 1 - k) (by rw [hbl]; omega)
      rw [beadsK_get xs n k (by omega)] at hcur
      have hfz := own_froz hown (n - 1 - k)
      have hst := own_len (own_set hown (n - 1 - k) (((n - 1 - k : Nat) : Int) + xs.getD k 0)) (beadsK_succ xs n k (by omega))
      obtain ⟨x, hx⟩ : ∃ x, x = xs.getD k 0 := ⟨_, rfl⟩
      rw [← hx] at hck' hst hxb
      have HS := hid hst
      have hnk : (n : Int) - 1 - k = ((n - 1 - k : Nat) : Int) := by omega
      have hnk2 : ((n : Int) - 1 - k).toNat = n - 1 - k := by omega
      have hmn : n - 1 - k < n := by omega
      clear hcc hck hown hx hst hbl o1
      go_wp2
      go_roundw
      case rel => exact ⟨k + 1, by omega, by go_num, HS.out, hbel.setCell hg1 _⟩
      case measure => simp [intOf]; omega
    · have hkl : k = xs.length := by omega
      subst hkl
      have HO := hid hown; clear hown
      go_wp2
      go_ret
      exact ⟨_, _, rfl, own_len HO.out (beadsK_all xs n), hbel⟩

end Go.Proofs.Ytiebnnchaopbkaa
/-
  Contracts: the parts of beads (the other side), and what tells whether a list is beads (both sides).
-/
namespace Go.Proofs.Ytiebnnchaopbkaa
open Go.RowKit

theorem rises_bd {xs : List Int} (h : rises 0 1000 xs = true) : ∀ j, j < xs.length → 0 ≤ xs.getD j 0 ∧ xs.getD j 0 ≤ 1000 := (rises_Rises.1 h).bd

set_option maxHeartbeats 800000 in
theorem AreBeads_any (A : Option Addr) (xs : List Int) (c : Nat) (w : World) (hl : xs.length ≤ 1048576) (hc : Cells w A xs) :
    Calls Try.prog 74 #[.slice A xs.length c] w fun e w' => e = .returned (.bool (goodB xs)) ∧ Below w.heap.size w w' := by
  by_cases h40 : 40 < xs.length
  · rw [goodB_no_len h40]
    go_enter Try.func74, Try.ntmps74
    go_wp2_with fail
    go_ret
    exact ⟨rfl, Below.refl _ _⟩
  have hpl := partsL_len xs
  go_enter Try.func74, Try.ntmps74
  go_wp2_with fail
  go_loop [3, 4, 10] (fun _ _ i => ∃ k : Nat, k ≤ xs.length ∧ i = .int .i64 k ∧ Hid (∀ j, j < k → okAt 0 1000 xs j = true)) (fun _ _ i => xs.length - (intOf i).toNat)
  case atStart => exact ⟨0, Nat.zero_le _, rfl, hid fun j hj => by omega⟩
  case round =>
    obtain ⟨k, hk, rfl, HD⟩ := hrel
    by_cases hlt : k < xs.length
    · obtain ⟨b, o, rfl, hcc⟩ := hc (by omega)
      have hck := hcc k hlt
      have hck1 := hcc (k - 1) (by omega)
      have hek : ((k : Int) - 1).toNat = k - 1 := by omega
      have HO := hid (okAt_iff (lo := 0) (hi := 1000) (xs := xs) (j := k))
      clear hcc
      obtain ⟨x, hx⟩ : ∃ x, x = xs.getD k 0 := ⟨_, rfl⟩
      obtain ⟨y, hy⟩ : ∃ y, y = xs.getD (k - 1) 0 := ⟨_, rfl⟩
      rw [← hx] at hck HO
      rw [← hy] at hck1 HO
      clear hx hy
      by_cases hok : (0 ≤ x ∧ x ≤ 1000) ∧ (k = 0 ∨ y < x)
      · have hyes := HO.out.2 hok
        have HYES := hid hyes; clear hyes
        have hrel2 : ∀ j, j < k + 1 → okAt 0 1000 xs j = true := fun j hj => by
          by_cases h : j < k
          · exact HD.out j h
          · have : j = k := by omega
            subst this; exact HYES.out
        have HR := hid hrel2; clear hrel2
        obtain ⟨⟨hx0, hx1⟩, hok2⟩ := hok
        by_cases h0 : k = 0
        · subst h0
          rw [Nat.add_zero] at hck
          go_wp2_with fail
          go_round
          case rel => exact ⟨1, by omega, by go_num, HR.out⟩
          case measure => simp [intOf]; omega
        · have h1 : 0 < k := by omega
          have hyx : y < x := by omega
          go_wp2_with fail
          go_round
          case rel => exact ⟨k + 1, by omega, by go_num, HR.out⟩
          case measure => simp [intOf]; omega
      · have hno : okAt 0 1000 xs k = false := by
          cases h : okAt 0 1000 xs k
          · rfl
          · exact absurd (HO.out.1 h) hok
        have HN := hid (goodB_no_rise (rises_no hlt hno)); clear hno
        by_cases hx0 : x < 0
        · go_wp2_with fail
          go_ret
          exact ⟨ret_bool HN.out.symm, Below.refl _ _⟩
        by_cases hx1 : 1000 < x
        · go_wp2_with fail
          go_ret
          exact ⟨ret_bool HN.out.symm, Below.refl _ _⟩
        have h1 : 0 < k := by omega
        have hyx : x ≤ y := by omega
        clear hok
        go_wp2_with fail
        go_ret
        exact ⟨ret_bool HN.out.symm, Below.refl _ _⟩
    · have hr : rises 0 1000 xs = true := rises_iff.2 fun j hj => HD.out j (by omega)
      have hb := rises_bd hr
      have HB := hid hb; clear hb
      have HG := hid (goodB_parts (by omega) hr); clear hr
      go_wp2_with (first | (go_at_call 40; refine (partsOf_any _ _ _ _ (by omega) HB.out hc).mono ?_; rintro e w1 ⟨A1, c1, rfl, o1, b1⟩) | (go_at_call 83; refine (IsPartition_b _ _ _ _ (by omega) o1.cells _ rfl).mono ?_; rintro e w2 ⟨rfl, rfl⟩))
      go_ret
      exact ⟨ret_bool HG.out.symm, b1⟩
theorem AreBeads_b (A : Option Addr) (xs : List Int) (c : Nat) (w : World) (hl : xs.length ≤ 1048576) (hc : Cells w A xs) (b : Bool) (h : goodB xs = b) :
    Calls Try.prog 74 #[.slice A xs.length c] w fun e w' => e = .returned (.bool b) ∧ Below w.heap.size w w' := by
  subst h; exact AreBeads_any A xs c w hl hc
end Go.Proofs.Ytiebnnchaopbkaa
/-
  Contracts: AreBeads, BeadsOf, FromBeads, LeastBeads, ShiftBeads of the program and of the model.
-/
namespace Go.Proofs.Ytiebnnchaopbkaa
open Go.RowKit

/-! AreBeads -/
theorem impl_AreBeads (A : Option Addr) (xs : List Int) (c : Nat) (w : World) (hl : xs.length ≤ 1048576) (hc : Cells w A xs) :
    Calls Try.prog 74 #[.slice A xs.length c] w fun e w' => e = .returned (.bool (goodB xs)) ∧ Below w.heap.size w w' := AreBeads_any A xs c w hl hc

/-! BeadsOf -/
theorem bound_BeadsOf (xs : List Int) (n : Int) : (beadsF xs n).length ≤ 1048576 := by
  unfold beadsF; split
  · rename_i h; rw [beadsL_len]; omega
  · simp
theorem parts_bd {xs : List Int} (G : Good xs) : ∀ j, j < xs.length → 0 ≤ xs.getD j 0 ∧ xs.getD j 0 ≤ 1000 := fun j hj => by have := G.pos j hj; have := G.le j hj; omega

set_option maxHeartbeats 800000 in
theorem impl_BeadsOf (A : Option Addr) (c : Nat) (xs : List Int) (n : Int) (w : World) (hl : xs.length ≤ 1048576) (hc : Cells w A xs) (_ : I64 n) :
    Calls Try.prog 73 #[.slice A xs.length c, .int .i64 n] w fun e w' => ∃ A' c', e = .returned (.tuple #[.slice A' (beadsF xs n).length c', .bool (beadsOk xs n)]) ∧ Own w' w.heap.size A' c' (beadsF xs n) ∧ Below w.heap.size w w' := by
  cases hg : good xs
  · have e1 : beadsF xs n = [] := by simp [beadsF, hg]
    have e2 : beadsOk xs n = false := by simp [beadsOk, hg]
    rw [e1, e2]; clear e1 e2
    have HG := hid hg; clear hg
    go_enter Try.func73, Try.ntmps73
    go_wp2_with (go_at_call 83; refine (IsPartition_b _ _ _ _ hl hc _ HG.out).mono ?_; rintro e w' ⟨rfl, rfl⟩)
    go_ret2
    exact ⟨none, 0, rfl, own_nil _ _, Below.refl _ _⟩
  · have G := (good_iff xs).1 hg
    cases hin : inB xs.length 40 n
    · have e1 : beadsF xs n = [] := by
        unfold beadsF; rw [if_neg]; rintro ⟨_, h⟩; rw [inB_iff.2 h] at hin; cases hin
      have e2 : beadsOk xs n = false := by simp [beadsOk, hin]
      rw [e1, e2]; clear e1 e2
      have HG := hid hg; clear hg
      have hno : ¬ ((xs.length : Int) ≤ n ∧ n ≤ 40) := fun h => by rw [inB_iff.2 h] at hin; cases hin
      clear hin
      by_cases h1 : n < 0
      · go_enter Try.func73, Try.ntmps73
        go_wp2_with (go_at_call 83; refine (IsPartition_b _ _ _ _ hl hc _ HG.out).mono ?_; rintro e w' ⟨rfl, rfl⟩)
        go_ret2
        exact ⟨none, 0, rfl, own_nil _ _, Below.refl _ _⟩
      by_cases h2 : 40 < n
      · go_enter Try.func73, Try.ntmps73
        go_wp2_with (go_at_call 83; refine (IsPartition_b _ _ _ _ hl hc _ HG.out).mono ?_; rintro e w' ⟨rfl, rfl⟩)
        go_ret2
        exact ⟨none, 0, rfl, own_nil _ _, Below.refl _ _⟩
      have h3 : n < (xs.length : Int) := by omega
      go_enter Try.func73, Try.ntmps73
      go_wp2_with (go_at_call 83; refine (IsPartition_b _ _ _ _ hl hc _ HG.out).mono ?_; rintro e w' ⟨rfl, rfl⟩)
      go_ret2
      exact ⟨none, 0, rfl, own_nil _ _, Below.refl _ _⟩
    · have hin2 := inB_iff.1 hin
      have e1 : beadsF xs n = beadsL xs n.toNat := by unfold beadsF; rw [if_pos ⟨hg, hin2⟩]
      have e2 : beadsOk xs n = true := by simp [beadsOk, hg, hin]
      rw [e1, e2, beadsL_len]; clear e1 e2
      obtain ⟨m, rfl⟩ : ∃ m : Nat, n = m := ⟨n.toNat, by omega⟩
      rw [Int.toNat_natCast]
      have HB := hid (parts_bd G)
      have HG := hid hg; clear hg
      have h1 : (xs.length : Int) ≤ m := hin2.1
      have h2 : (m : Int) ≤ 40 := hin2.2
      clear hin
      go_enter Try.func73, Try.ntmps73
      go_wp2_with (first | (go_at_call 83; refine (IsPartition_b _ _ _ _ hl hc _ HG.out).mono ?_; rintro e w' ⟨rfl, rfl⟩) | (go_at_call 84; refine (beadsFor_any _ _ _ m _ (by omega) (by omega) HB.out (by exact hc)).mono ?_; rintro e w2 ⟨A2, c2, rfl, o2, b2⟩))
      go_ret2
      exact ⟨A2, c2, rfl, o2, b2⟩

/-! FromBeads -/
theorem bound_FromBeads (xs : List Int) : (fromBeadsF xs).length ≤ 1048576 := by
  unfold fromBeadsF; split
  · rename_i h; have := (goodB_iff.1 h).len; have := partsL_len xs; omega
  · simp
/-! LeastBeads -/
theorem bound_LeastBeads (xs : List Int) : (leastF xs).length ≤ 1048576 := by
  unfold leastF; split
  · rename_i h; have := (goodB_iff.1 h).len; have := partsL_len xs; rw [beadsL_len]; omega
  · simp
end Go.Proofs.Ytiebnnchaopbkaa
/-
  Contracts: the laws' own helpers on an abacus, and what tells whether it is one (both sides).
-/
namespace Go.Proofs.Ytiebnnchaopbkaa
open Go.RowKit

def abaV (r : Int) (A : Option Addr) (n c : Nat) : Value := .agg #[.int .i64 r, .slice A n c]

set_option maxHeartbeats 400000 in
theorem hasRunners_any (r : Int) (w : World) : Calls Try.prog 26 #[.int .i64 r] w fun e w' => e = .returned (.bool (inB 2 6 r)) ∧ w = w' := by
  by_cases h1 : 2 ≤ r
  · by_cases h2 : r ≤ 6
    · go_enter Try.func26, Try.ntmps26
      go_wp2
      go_ret
      exact ⟨by simp [inB, h1, h2], rfl⟩
    · go_enter Try.func26, Try.ntmps26
      go_wp2
      go_ret
      exact ⟨by simp [inB]; omega, rfl⟩
  · go_enter Try.func26, Try.ntmps26
    go_wp2
    go_ret
    exact ⟨by simp [inB]; omega, rfl⟩
theorem hasRunners_b (r : Int) (w : World) (b : Bool) (h : inB 2 6 r = b) : Calls Try.prog 26 #[.int .i64 r] w fun e w' => e = .returned (.bool b) ∧ w = w' := by
  subst h; exact hasRunners_any r w
def isAba (r : Int) (xs : List Int) : Bool := inB 2 6 r && goodB xs

set_option maxHeartbeats 400000 in
theorem IsAbacus_any (r : Int) (A : Option Addr) (c : Nat) (xs : List Int) (w : World) (hl : xs.length ≤ 1048576) (hc : Cells w A xs) :
    Calls Try.prog 54 #[.agg #[.int .i64 r, .slice A xs.length c]] w fun e w' => e = .returned (.bool (isAba r xs)) ∧ Below w.heap.size w w' := by
  have hb : Below w.heap.size w (w.alloc (.cells #[.int .i64 r, .slice A xs.length c] 49)) := (Below.refl _ _).alloc (Nat.le_refl _) _
  cases hi : inB 2 6 r
  · have HI := hid hi
    go_enter Try.func54, Try.ntmps54
    go_wp2_with (go_at_call 26; refine (hasRunners_b _ _ _ HI.out).mono ?_; rintro e w' ⟨rfl, rfl⟩)
    go_ret
    exact ⟨ret_bool (by simp [isAba, hi]), hb⟩
  · have HI := hid hi
    go_enter Try.func54, Try.ntmps54
    go_wp2_with (first | (go_at_call 26; refine (hasRunners_b _ _ _ HI.out).mono ?_; rintro e w' ⟨rfl, rfl⟩) | (go_at_call 74; refine (AreBeads_any _ _ _ _ hl (hc.below hb)).mono ?_; rintro e w' ⟨rfl, b1⟩))
    go_ret
    exact ⟨ret_bool (by simp [isAba, hi]), Below.next hb b1⟩
theorem IsAbacus_b (r : Int) (A : Option Addr) (c : Nat) (xs : List Int) (w : World) (hl : xs.length ≤ 1048576) (hc : Cells w A xs) (b : Bool) (h : isAba r xs = b) :
    Calls Try.prog 54 #[.agg #[.int .i64 r, .slice A xs.length c]] w fun e w' => e = .returned (.bool b) ∧ Below w.heap.size w w' := by
  subst h; exact IsAbacus_any r A c xs w hl hc

end Go.Proofs.Ytiebnnchaopbkaa
/-
  Contracts: the laws' helpers that copy, compare, mark and ask an abacus.
-/
namespace Go.Proofs.Ytiebnnchaopbkaa
open Go.RowKit

end Go.Proofs.Ytiebnnchaopbkaa
/-
  Contracts: AbacusOf of the program and of the model.
-/
namespace Go.Proofs.Ytiebnnchaopbkaa
open Go.RowKit

theorem results_cell2 {fn : Func} {p u : Tmp} {ty : TypeId} (h : fn.results = #[.cell p ty, .tmp u]) (tmps : Array Value) (P : Program) (w : World) (g : Nat) (t : TypeId) (cs : Array Value) (fr : Nat × Nat) (d : TypeDesc)
    (hp : tmps.getD p undef = .pointer (some ⟨g, 0, none⟩)) (hg : w.heap[g]? = some (.cells cs t fr))
    (hu : P.underlying ty = some d) (hd : (match d with | .struct _ | .array _ _ => true | _ => false) = true) (hi : (P.info? ty).map (·.size) = some cs.size) :
    (results fn tmps).run P w = .ok (.tuple #[.agg cs, tmps.getD u undef]) w := by
  have hp' : tmps[p]?.getD undef = .pointer (some ⟨g, 0, none⟩) := by simpa using hp
  simp [results, h, hp', asAddr, run_loadVar_row w g t ty cs fr d hg hu (by cases d <;> simp_all) hi]
theorem results_cell3 {fn : Func} {p u v : Tmp} {ty : TypeId} (h : fn.results = #[.cell p ty, .tmp u, .tmp v]) (tmps : Array Value) (P : Program) (w : World) (g : Nat) (t : TypeId) (cs : Array Value) (fr : Nat × Nat) (d : TypeDesc)
    (hp : tmps.getD p undef = .pointer (some ⟨g, 0, none⟩)) (hg : w.heap[g]? = some (.cells cs t fr))
    (hu : P.underlying ty = some d) (hd : (match d with | .struct _ | .array _ _ => true | _ => false) = true) (hi : (P.info? ty).map (·.size) = some cs.size) :
    (results fn tmps).run P w = .ok (.tuple #[.agg cs, tmps.getD u undef, tmps.getD v undef]) w := by
  have hp' : tmps[p]?.getD undef = .pointer (some ⟨g, 0, none⟩) := by simpa using hp
  simp [results, h, hp', asAddr, run_loadVar_row w g t ty cs fr d hg hu (by cases d <;> simp_all) hi]

def abaOk (p : List Int) (t n : Int) : Bool := beadsOk p n && inB 2 6 t
def abaR (p : List Int) (t n : Int) : Int := if abaOk p t n then t else 0
def abaF (p : List Int) (t n : Int) : List Int := if abaOk p t n then beadsF p n else []
theorem bound_AbacusOf (xs : List Int) (t n : Int) : (abaF xs t n).length ≤ 1048576 := by
  unfold abaF; split
  · exact bound_BeadsOf xs n
  · simp

set_option maxHeartbeats 1000000 in
theorem impl_AbacusOf (A : Option Addr) (c : Nat) (xs : List Int) (t n : Int) (w : World) (hl : xs.length ≤ 1048576) (hc : Cells w A xs) (_ : I64 t) (hn : I64 n) :
    Calls Try.prog 53 #[.slice A xs.length c, .int .i64 t, .int .i64 n] w fun e w' => ∃ A' c', e = .returned (.tuple #[.agg #[.int .i64 (abaR xs t n), .slice A' (abaF xs t n).length c'], .bool (abaOk xs t n)]) ∧ Own w' w.heap.size A' c' (abaF xs t n) ∧ Below w.heap.size w w' := by
  have y0 := Box2.new w 49 (.int .i64 0) (.slice none 0 0)
  have b0 : Below w.heap.size w (w.alloc (.cells #[.int .i64 0, .slice none 0 0] 49)) := (Below.refl _ _).alloc (Nat.le_refl _) _
  have z0 := b0.size
  cases hok : beadsOk xs n
  · have e1 : abaOk xs t n = false := by simp [abaOk, hok]
    have e2 : abaR xs t n = 0 := by simp [abaR, e1]
    have e3 : abaF xs t n = [] := by simp [abaF, e1]
    rw [e1, e2, e3]; clear e1 e2 e3
    have HOK := hid hok; clear hok
    go_enter Try.func53, Try.ntmps53
    go_wp2_with fail
    refine (impl_BeadsOf _ _ _ _ _ hl (hc.below b0) hn).mono ?_
    rw [HOK.out]
    rintro e w1 ⟨A1, c1, rfl, o1, b1⟩
    have y1 := y0.next b1
    have f1 := y1.cell0
    have f2 := y1.froz 0
    have y2 := y1.set0 (.int .i64 0)
    have f3 := y2.cell1
    have f4 := y2.froz 1
    have y3 := y2.set1 (.slice none 0 0)
    clear y0 y1 y2
    go_wp2_with fail
    refine bodyPost_ret (results_cell2 rfl _ _ _ w.heap.size 49 #[.int .i64 0, .slice none 0 0] (0, 0) _ rfl y3 Try.underlying49 rfl (by kernel_rfl)) rfl ⟨none, 0, rfl, own_nil _ _, ((Below.next b0 b1).setCell (Nat.le_refl _) _).setCell (Nat.le_refl _) _⟩
  have HOK := hid hok
  cases ht : inB 2 6 t
  · have e1 : abaOk xs t n = false := by simp [abaOk, ht]
    have e2 : abaR xs t n = 0 := by simp [abaR, e1]
    have e3 : abaF xs t n = [] := by simp [abaF, e1]
    rw [e1, e2, e3]; clear e1 e2 e3
    have HT := hid ht; clear ht hok
    go_enter Try.func53, Try.ntmps53
    go_wp2_with fail
    refine (impl_BeadsOf _ _ _ _ _ hl (hc.below b0) hn).mono ?_
    rw [HOK.out]
    rintro e w1 ⟨A1, c1, rfl, o1, b1⟩
    have y1 := y0.next b1
    have f1 := y1.cell0
    have f2 := y1.froz 0
    have y2 := y1.set0 (.int .i64 0)
    have f3 := y2.cell1
    have f4 := y2.froz 1
    have y3 := y2.set1 (.slice none 0 0)
    clear y0 y1 y2
    go_wp2_with (go_at_call 26; refine (hasRunners_b _ _ _ HT.out).mono ?_; rintro e w' ⟨rfl, rfl⟩)
    refine bodyPost_ret (results_cell2 rfl _ _ _ w.heap.size 49 #[.int .i64 0, .slice none 0 0] (0, 0) _ rfl y3 Try.underlying49 rfl (by kernel_rfl)) rfl ⟨none, 0, rfl, own_nil _ _, ((Below.next b0 b1).setCell (Nat.le_refl _) _).setCell (Nat.le_refl _) _⟩
  · have e1 : abaOk xs t n = true := by simp [abaOk, ht, hok]
    have e2 : abaR xs t n = t := by simp [abaR, e1]
    have e3 : abaF xs t n = beadsF xs n := by simp [abaF, e1]
    rw [e1, e2, e3]; clear e1 e2 e3
    have HT := hid ht; clear ht hok
    go_enter Try.func53, Try.ntmps53
    go_wp2_with fail
    refine (impl_BeadsOf _ _ _ _ _ hl (hc.below b0) hn).mono ?_
    rw [HOK.out]
    rintro e w1 ⟨A1, c1, rfl, o1, b1⟩
    have y1 := y0.next b1
    have f1 := y1.cell0
    have f2 := y1.froz 0
    have y2 := y1.set0 (.int .i64 t)
    have f3 := y2.cell1
    have f4 := y2.froz 1
    have y3 := y2.set1 (.slice A1 (beadsF xs n).length c1)
    have hok := o1.block
    clear y0 y1 y2
    go_wp2_with (go_at_call 26; refine (hasRunners_b _ _ _ HT.out).mono ?_; rintro e w' ⟨rfl, rfl⟩)
    refine bodyPost_ret (results_cell2 rfl _ _ _ w.heap.size 49 #[.int .i64 t, .slice A1 (beadsF xs n).length c1] (0, 0) _ rfl y3 Try.underlying49 rfl (by kernel_rfl)) rfl ⟨A1, c1, rfl, (o1.keep fun b hbk _ => ?_).more (by simp), ((Below.next b0 b1).setCell (Nat.le_refl _) _).setCell (Nat.le_refl _) _⟩
    have := (hok b hbk).1
    simp at this
    exact (Below.heap_setCell _ _ _ b (by simp; omega)).trans (Below.heap_setCell _ _ _ b (by simp; omega))

end Go.Proofs.Ytiebnnchaopbkaa
