/-
  A row of cores (rows of three cells each) that grows while its old header is read: the append that tells of the old block, the row's own facts.
-/
import Derived.Test.YtnjhjdidohdkmaaWith
import Derived.ArgAppend
namespace Go.Proofs.Ytnjhjdidohdkmaa
open Go.RowKit

/-- An append onto a row of the call's own; besides: either the row stays where it is, or nothing old is written. -/
theorem run_append_keep {P : Program} (w : World) (base : Nat) (t ty e : TypeId) (i : TypeInfo) (z : Value) (size bytes : Nat) (ht : P.underlying t = some (.slice e)) (hi : P.info? e = some i) (hz : i.zero = some z)
    (hsize : i.size = size) (hby : i.bytes = bytes) (hzs : z.cells.size = size) (hsz : 0 < size)
    (v : Value) (n : Nat) (xs : List Value) (hown : w.ownsRow base e size v n xs)
    (a : Addr) (m c : Nat) (news : List Value) (hl : news.length = m * size) (hnews : ∀ j u, news[j]? = some u → w.cell? (a.add j) = some u) (h1 : ∀ u ∈ news, u.oneCell' = true)
    (h63 : n + m ≤ maxLen) (hbytes : (n + m) * bytes ≤ 140737488355328) (hbase : base ≤ w.heap.size) :
    ∃ v' w', (Builtin.append_ #[t, t] ty #[v, .slice (some a) m c]).run P w = .ok v' w' ∧ w'.ownsRow base e size v' (n + m) (xs ++ news) ∧ w.grownBy w' v.ownBlock ∧ (v'.ownBlock = v.ownBlock ∨ (w.grownBy w' none ∧ ∀ k, v'.ownBlock = some k → w.heap.size ≤ k)) := by
  obtain ⟨v', w', hr, h2, h3, -⟩ := run_append_own (P := P) w base t ty e i z size bytes ht hi hz hsize hby hzs hsz v n xs hown a m c news hl hnews h1 h63 hbytes hbase
  refine ⟨v', w', hr, h2, h3, ?_⟩
  rcases hown.2 with ⟨rfl, h0⟩ | ⟨g, cap, cur, rfl, hbg, hgg, hnc, hcm, hcs, htk⟩
  · obtain ⟨v2, w2, hr2, h4, -, -⟩ := run_append_own (P := P) w w.heap.size t ty e i z size bytes ht hi hz hsize hby hzs hsz (.slice none 0 0) n xs (by subst h0; rw [show xs = [] from List.eq_nil_of_length_eq_zero (by rw [hown.1]; simp)]; exact World.ownsRow_nil w _ _ _) a m c news hl hnews h1 h63 hbytes (Nat.le_refl _)
    rw [hr] at hr2
    injection hr2 with e1 e2
    subst e1
    exact .inr ⟨h3, fun k hk => (h4.lt k hk).1⟩
  · by_cases hroom : n + m ≤ cap
    · left
      have hcell : ∀ j, j < news.length → w.heap[g]? = some (.cells cur e (0, 0)) ∧ n * size + j < cur.size := fun j hj => ⟨hgg, by
        rw [hcs, ← Nat.sub_add_cancel hroom]
        have : (n + m) * size ≤ cap * size := Nat.mul_le_mul_right _ hroom
        rw [Nat.add_mul] at this
        rw [Nat.sub_add_cancel hroom]
        omega⟩
      subst hsize
      have hrr := run_append_room_cells (P := P) w t ty e i ht hi g 0 n cap a m c news hl hnews h1 hroom
        (fun j hj => by obtain ⟨q1, q2⟩ := hcell j hj; simp [World.cell?, q1, Nat.add_comm]; omega)
        (fun j hj => by obtain ⟨q1, q2⟩ := hcell j hj; simp [World.frozen?, q1])
      rw [hr] at hrr
      injection hrr with e1 e2
      rw [e1]
      rfl
    · right
      have hlen : xs.length = n * size := hown.1
      obtain ⟨v2, w2, hr2, h4, hg2⟩ := run_append_arg_grows (P := P) w t ty e i z size bytes ht hi hz hsize hby hzs hsz ⟨g, 0, none⟩ n cap xs hlen (hown.cells rfl) a m c news hl hnews (by omega) h63 hbytes
      rw [hr] at hr2
      injection hr2 with e1 e2
      rw [e2, e1]
      exact ⟨hg2, fun k hk => (h4.lt k hk).1⟩

theorem wpList_append_keep {P : Program} (w : World) {ops : Array Oper} {rest : List Oper} {o : Oper} {a : Act} {Q : Exit → Act → World → Prop}
    (hg : o.guard = none) (s x : Operand) (t : TypeId) (hop : o.op = Op.call { callee := Callee.builtin Builtin.append, args := #[s, x], argTypes := #[t, t] })
    (base : Nat) (e : TypeId) (i : TypeInfo) (z : Value) (size bytes : Nat) (ht : P.underlying t = some (.slice e)) (hi : P.info? e = some i) (hz : i.zero = some z) (hsize : i.size = size) (hby : i.bytes = bytes) (hzs : z.cells.size = size) (hsz : 0 < size)
    (v : Value) (n : Nat) (xs : List Value) (hs : a.eval s = v) (hown : w.ownsRow base e size v n xs)
    (ad : Addr) (m c : Nat) (news : List Value) (hx : a.eval x = .slice (some ad) m c) (hl : news.length = m * size) (hc : ∀ j u, news[j]? = some u → w.cell? (ad.add j) = some u) (h1c : ∀ u ∈ news, u.oneCell' = true)
    (b1 : n + m ≤ maxLen) (b2 : (n + m) * bytes ≤ 140737488355328) (hbase : base ≤ w.heap.size)
    (hK : ∀ v' w', w'.ownsRow base e size v' (n + m) (xs ++ news) → w.grownBy w' v.ownBlock → (v'.ownBlock = v.ownBlock ∨ (w.grownBy w' none ∧ ∀ k, v'.ownBlock = some k → w.heap.size ≤ k)) → wpList P ops Q rest (a.put o.dst v') w') :
    wpList P ops Q (o :: rest) a w := by
  refine wpList_plain hg fun K hK' => ?_
  obtain ⟨v', w', hrun, r1, r2, r3⟩ := run_append_keep (P := P) w base t o.type e i z size bytes ht hi hz hsize hby hzs hsz v n xs hown ad m c news hl hc h1c b1 b2 hbase
  unfold Oper.wp
  simp [execOp, hop, resolve, invoke, builtin, hs, hx, hrun, Result.andThen]
  exact hK' _ _ (hK v' w' r1 r2 r3)

/-- What an old header still reads. -/
def Snap (w : World) (g : Nat) (cs : List Value) : Prop := g < w.heap.size ∧ ∀ j u, cs[j]? = some u → w.cell? ⟨g, j, none⟩ = some u
theorem add_at (g j : Nat) : (⟨g, 0, none⟩ : Addr).add j = ⟨g, j, none⟩ := by
  unfold Addr.add
  split
  · rename_i h; subst h; rfl
  · simp
theorem Snap.of {w : World} {base e size : Nat} {g n c : Nat} {xs : List Value} (h : w.ownsRow base e size (.slice (some ⟨g, 0, none⟩) n c) n xs) : Snap w g xs :=
  ⟨(h.lt g rfl).2, fun j u hj => by have := h.cells rfl j u hj; rwa [add_at] at this⟩
theorem Snap.below {w w' : World} {g : Nat} {cs : List Value} (h : Snap w g cs) (hb : Below w.heap.size w w') : Snap w' g cs :=
  ⟨by have := hb.size; have := h.1; omega, fun j u hj => by rw [World.cell?_of_block (w := w) (hb.block g h.1)]; exact h.2 j u hj⟩
/-- The snapshot after an append onto the row: v before, v' after; the snapshot's cells are the first of the row's where it is the same block. -/
theorem Snap.grown {w w' : World} {g base e size n' : Nat} {cs xs ys : List Value} {v v' : Value} (h : Snap w g cs) (ho' : w'.ownsRow base e size v' n' (xs ++ ys)) (hg : w.grownBy w' v.ownBlock) (hd : v'.ownBlock = v.ownBlock ∨ (w.grownBy w' none ∧ ∀ k, v'.ownBlock = some k → w.heap.size ≤ k))
    (hp : v.ownBlock = some g → ∃ ds, xs = cs ++ ds) : Snap w' g cs := by
  refine ⟨by have := hg.size; have := h.1; omega, fun j u hj => ?_⟩
  by_cases hv : v.ownBlock = some g
  · rcases hd with hd | hd
    · obtain ⟨ds, rfl⟩ := hp hv
      have := ho'.cells (hd.trans hv) j u (by rw [List.append_assoc, List.getElem?_append_left (List.getElem?_eq_some_iff.1 hj).1]; exact hj)
      rwa [add_at] at this
    · rw [World.cell?_of_block (w := w) (hd.1.block g h.1 (by simp))]; exact h.2 j u hj
  · rw [World.cell?_of_block (w := w) (hg.block g h.1 (fun e => hv e.symm))]; exact h.2 j u hj

/-- The cells of a row of cores. -/
def CB (a b : Int) (P : Nat → Option Addr) (C : Nat → Nat) (rows : List (List Int)) : List Value := (List.range rows.length).flatMap fun j => [.slice (P j) (rows.getD j []).length (C j), .int .i64 a, .int .i64 b]
theorem flat3_len (f : Nat → List Value) (hf : ∀ j, (f j).length = 3) : ∀ n, ((List.range n).flatMap f).length = n * 3
  | 0 => rfl
  | n + 1 => by rw [List.range_succ, List.flatMap_append, List.length_append, flat3_len f hf n]; simp [hf]; omega
theorem flat3_at (f : Nat → List Value) (hf : ∀ j, (f j).length = 3) : ∀ n j t, j < n → t < 3 → ((List.range n).flatMap f)[j * 3 + t]? = (f j)[t]?
  | 0, j, _, h, _ => absurd h (by omega)
  | n + 1, j, t, hj, ht => by
    rw [List.range_succ, List.flatMap_append]
    by_cases h : j < n
    · rw [List.getElem?_append_left (by rw [flat3_len f hf]; omega)]
      exact flat3_at f hf n j t h ht
    · have e : j = n := by omega
      subst e
      rw [List.getElem?_append_right (by rw [flat3_len f hf]; omega), flat3_len f hf, Nat.add_sub_cancel_left]
      simp
theorem CB_len (a b : Int) (P : Nat → Option Addr) (C : Nat → Nat) (rows : List (List Int)) : (CB a b P C rows).length = rows.length * 3 := flat3_len _ (fun _ => rfl) _
theorem CB_at {a b : Int} {P : Nat → Option Addr} {C : Nat → Nat} {rows : List (List Int)} {j t : Nat} (hj : j < rows.length) (ht : t < 3) : (CB a b P C rows)[j * 3 + t]? = [Value.slice (P j) (rows.getD j []).length (C j), .int .i64 a, .int .i64 b][t]? := flat3_at _ (fun _ => rfl) _ _ _ hj ht
theorem flatMap_ext' {l : List Nat} {f g : Nat → List Value} (h : ∀ x ∈ l, f x = g x) : l.flatMap f = l.flatMap g := by rw [List.flatMap_def, List.flatMap_def, List.map_congr_left h]
theorem CB_snoc (a b : Int) (P : Nat → Option Addr) (C : Nat → Nat) (rows : List (List Int)) (r : List Int) (A : Option Addr) (c : Nat) :
    CB a b (setAt P rows.length A) (setAt C rows.length c) (rows ++ [r]) = CB a b P C rows ++ [.slice A r.length c, .int .i64 a, .int .i64 b] := by
  unfold CB
  rw [List.length_append, List.length_singleton, List.range_succ, List.flatMap_append]
  congr 1
  · refine flatMap_ext' fun j hj => ?_
    have hj' : j < rows.length := List.mem_range.1 hj
    rw [setAt_ne P A (by omega), setAt_ne C c (by omega), getD_snoc_lt rows r j hj']
  · simp [setAt_eq]

structure Cos (w : World) (B : Nat) (v : Value) (a b : Int) (rows : List (List Int)) (P : Nat → Option Addr) (C : Nat → Nat) : Prop where
  out : w.ownsRow B 44 3 v rows.length (CB a b P C rows)
  row : ∀ j, j < rows.length → Own w B (P j) (C j) (rows.getD j [])
theorem Cos.below {w w' : World} {B : Nat} {v : Value} {a b : Int} {rows : List (List Int)} {P : Nat → Option Addr} {C : Nat → Nat} (h : Cos w B v a b rows P C) (hb : Below w.heap.size w w') : Cos w' B v a b rows P C := by
  refine ⟨?_, fun j hj => (h.row j hj).below hb⟩
  have ho := h.out
  refine ⟨ho.1, ?_⟩
  rcases ho.2 with hn | ⟨g, cap, cur, hv, hbb, hgg, rest⟩
  · exact .inl hn
  · exact .inr ⟨g, cap, cur, hv, hbb, by rw [hb.block g (Array.getElem?_eq_some_iff.1 hgg).1]; exact hgg, rest⟩
theorem core_ne {w : World} {B B' : Nat} {n : Nat} {v : Value} {vs : List Value} {A : Option Addr} {c' : Nat} {r : List Int} (h : w.ownsRow B 44 3 v n vs) (hr : Own w B' A c' r) : ∀ b, A.map Addr.block = some b → v.ownBlock ≠ some b := by
  intro b hb e
  rcases h.2 with ⟨rfl, _⟩ | ⟨g1, cap, cur1, rfl, hb1, hg1, rest⟩
  · simp [Value.ownBlock] at e
  · have e1 : g1 = b := by simpa [Value.ownBlock] using e
    subst e1
    rcases hr.2 with ⟨h2, _⟩ | ⟨g2, _, cur2, hv2, _, hg2, _⟩
    · have hA : A = none := by injection h2
      rw [hA] at hb; simp at hb
    · have hA : A = some ⟨g2, 0, none⟩ := by injection hv2
      rw [hA] at hb
      have e2 : g2 = g1 := by simpa using hb
      subst e2
      rw [hg1] at hg2
      injection hg2 with hg2
      injection hg2 with _ ht
      exact absurd ht (by decide)
theorem Cos.push {w0 w1 w2 : World} {B : Nat} {v v' : Value} {a b : Int} {rows : List (List Int)} {P : Nat → Option Addr} {C : Nat → Nat} {A : Option Addr} {c : Nat} {r : List Int} {o : Obj}
    (h : Cos w0 B v a b rows P C) (hb : Below w0.heap.size w0 w1) (hr : Own w1 w0.heap.size A c r) (hB : B ≤ w0.heap.size)
    (ho : w2.ownsRow B 44 3 v' (rows.length + 1) (CB a b P C rows ++ [.slice A r.length c, .int .i64 a, .int .i64 b])) (hg : (w1.alloc o).grownBy w2 v.ownBlock) :
    Cos w2 B v' a b (rows ++ [r]) (setAt P rows.length A) (setAt C rows.length c) := by
  have h1 := h.below hb
  have keep : ∀ {A' : Option Addr} {c' : Nat} {r' : List Int}, Own w1 B A' c' r' → Own w2 B A' c' r' := fun {A' c' r'} hx => by
    refine hx.keep fun b hbb hlt => ?_
    have e1 : (w1.alloc o).heap[b]? = w1.heap[b]? := Below.heap_alloc _ _ _ hlt
    rw [← e1]
    exact hg.block b (by simp; omega) (fun e => core_ne h1.out hx b hbb e.symm)
  refine ⟨by rw [CB_snoc, List.length_append]; exact ho, fun j hj => ?_⟩
  rw [List.length_append, List.length_singleton] at hj
  by_cases e : j = rows.length
  · subst e
    rw [setAt_eq, setAt_eq, getD_snoc_eq]
    exact keep (hr.more hB)
  · rw [setAt_ne P A e, setAt_ne C c e, getD_snoc_lt rows r j (by omega)]
    exact keep (h1.row j (by omega))

/-- What the inner loop keeps: the row that grows, and what its old header reads. -/
structure Inn (w1 w : World) (B : Nat) (v : Value) (a b : Int) (S : List (List Int)) (P0 : Nat → Option Addr) (C0 : Nat → Nat) (g0 : Nat) (Ag : Option Addr) (cg : Nat) (G : List Int) (rows : List (List Int)) (P : Nat → Option Addr) (C : Nat → Nat) : Prop where
  cos : Cos w B v a b rows P C
  snap : Snap w g0 (CB a b P0 C0 S)
  pre : v.ownBlock = some g0 → ∃ ds, CB a b P C rows = CB a b P0 C0 S ++ ds
  old : ∀ j, j < S.length → Own w B (P0 j) (C0 j) (S.getD j [])
  gap : Own w B Ag cg G
  bel : Below w1.heap.size w1 w
  size : w1.heap.size ≤ B
theorem Inn.below {w1 w w' : World} {B : Nat} {v : Value} {a b : Int} {S : List (List Int)} {P0 : Nat → Option Addr} {C0 : Nat → Nat} {g0 : Nat} {Ag : Option Addr} {cg : Nat} {G : List Int} {rows : List (List Int)} {P : Nat → Option Addr} {C : Nat → Nat}
    (h : Inn w1 w B v a b S P0 C0 g0 Ag cg G rows P C) (hb : Below w.heap.size w w') : Inn w1 w' B v a b S P0 C0 g0 Ag cg G rows P C :=
  ⟨h.cos.below hb, h.snap.below hb, h.pre, fun j hj => (h.old j hj).below hb, h.gap.below hb, Below.next h.bel hb, h.size⟩
theorem Own.core_keep {w w' : World} {o : Obj} {B B' n : Nat} {v : Value} {vs : List Value} {A : Option Addr} {c : Nat} {r : List Int} (ho : w.ownsRow B' 44 3 v n vs) (hx : Own w B A c r) (hg : (w.alloc o).grownBy w' v.ownBlock) : Own w' B A c r := by
  refine hx.keep fun b hbb hlt => ?_
  have e1 : (w.alloc o).heap[b]? = w.heap[b]? := Below.heap_alloc _ _ _ hlt
  rw [← e1]
  exact hg.block b (by simp; omega) (fun e => core_ne ho hx b hbb e.symm)
theorem Inn.push {w1 w wx w2 : World} {B : Nat} {v v' : Value} {a b : Int} {S : List (List Int)} {P0 : Nat → Option Addr} {C0 : Nat → Nat} {g0 : Nat} {Ag : Option Addr} {cg : Nat} {G : List Int} {rows : List (List Int)} {P : Nat → Option Addr} {C : Nat → Nat} {A : Option Addr} {c : Nat} {r : List Int} {o : Obj}
    (h : Inn w1 w B v a b S P0 C0 g0 Ag cg G rows P C) (hb : Below w.heap.size w wx) (hr : Own wx w.heap.size A c r) (hB : B ≤ w.heap.size)
    (ho : w2.ownsRow B 44 3 v' (rows.length + 1) (CB a b P C rows ++ [.slice A r.length c, .int .i64 a, .int .i64 b])) (hg : (wx.alloc o).grownBy w2 v.ownBlock)
    (hd : v'.ownBlock = v.ownBlock ∨ ((wx.alloc o).grownBy w2 none ∧ ∀ k, v'.ownBlock = some k → (wx.alloc o).heap.size ≤ k)) :
    Inn w1 w2 B v' a b S P0 C0 g0 Ag cg G (rows ++ [r]) (setAt P rows.length A) (setAt C rows.length c) := by
  have hx := h.below hb
  have bo : Below wx.heap.size wx (wx.alloc o) := (Below.refl _ _).alloc (Nat.le_refl _) _
  refine ⟨h.cos.push hb hr hB ho hg, (hx.snap.below bo).grown ho hg hd hx.pre, fun e => ?_, fun j hj => (hx.old j hj).core_keep hx.cos.out hg, hx.gap.core_keep hx.cos.out hg, ?_, h.size⟩
  · rw [CB_snoc]
    rcases hd with hd | ⟨-, hd⟩
    · obtain ⟨ds, hds⟩ := h.pre (by rw [← hd]; exact e)
      exact ⟨ds ++ _, by rw [hds, List.append_assoc]⟩
    · have h1 := hd g0 e
      have h2 := (hx.snap.below bo).1
      omega
  · exact (Below.next hx.bel bo).grown hg (by have := hx.bel.size; simp; omega) fun q hq => Nat.le_trans h.size (hx.cos.out.lt q hq).1
end Go.Proofs.Ytnjhjdidohdkmaa
