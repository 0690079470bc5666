/-
  Several texts in one.
-/
import Derived.Test.YtmjncedijddmmaaR13
import Derived.Test.YtmjncedijddmmaaR14
import Derived.Test.YtmjncedijddmmaaCA
import Derived.Test.YtmjncedijddmmaaCC
import Derived.Test.YtmjncedijddmmaaCB
import Derived.RangeFuncNested
import Derived.OrdersIn
import Derived.Maps.OwnIn
/-
  Contracts: AddedRims: what the lifted beads make.
-/
namespace Go.Proofs.Ytmjncedijddmmaa
open Go.RowKit

def lfP (t : Int) (xs : List Int) (b : Int) : List Int := partsL (insF (mvL b (b + t) xs))
def arK (t : Int) (xs : List Int) (k : Nat) : List Int := (xs.take k).filter fun b => decide (¬ b + t ∈ xs)
def arL (t : Int) (xs : List Int) (k : Nat) : List (List Int) := (arK t xs k).reverse.map (lfP t xs)
theorem arK_yes {t : Int} {xs : List Int} {k : Nat} (hk : k < xs.length) (h : ¬ xs.getD k 0 + t ∈ xs) : arK t xs (k + 1) = arK t xs k ++ [xs.getD k 0] := by
  unfold arK
  rw [List.take_succ_eq_append_getElem hk, List.filter_append]
  have e : xs[k] = xs.getD k 0 := by simp [List.getD, hk]
  rw [e, List.filter_cons_of_pos (by simpa using h)]; rfl
theorem arL_yes {t : Int} {xs : List Int} {k : Nat} (hk : k < xs.length) (h : ¬ xs.getD k 0 + t ∈ xs) : arL t xs (k + 1) = lfP t xs (xs.getD k 0) :: arL t xs k := by
  unfold arL
  rw [arK_yes hk h, List.reverse_append]; rfl
theorem arL_no {t : Int} {xs : List Int} {k : Nat} (hk : k < xs.length) (h : xs.getD k 0 + t ∈ xs) : arL t xs (k + 1) = arL t xs k := by
  unfold arL arK
  rw [List.take_succ_eq_append_getElem hk, List.filter_append]
  have e : xs[k] = xs.getD k 0 := by simp [List.getD, hk]
  rw [e, List.filter_cons_of_neg (by simpa using h)]; simp
theorem arL_len (t : Int) (xs : List Int) (k : Nat) : (arL t xs k).length ≤ k := by
  unfold arL arK
  rw [List.length_map, List.length_reverse]
  have h1 := List.length_filter_le (fun b => decide (¬ b + t ∈ xs)) (xs.take k)
  rw [List.length_take] at h1
  omega
theorem arL_mem {t : Int} {xs : List Int} {k : Nat} {r : List Int} (h : r ∈ arL t xs k) : ∃ b, b ∈ xs.take k ∧ ¬ b + t ∈ xs ∧ r = lfP t xs b := by
  unfold arL arK at h
  obtain ⟨b, hb, rfl⟩ := List.mem_map.1 h
  rw [List.mem_reverse, List.mem_filter, decide_eq_true_eq] at hb
  exact ⟨b, hb.1, hb.2, rfl⟩
theorem arL_front {t : Int} {xs : List Int} (hs : xs.Pairwise (· < ·)) (hn : ∀ x ∈ xs, 0 ≤ x) (ht : 0 < t) {k : Nat} (hk : k < xs.length) (h : ¬ xs.getD k 0 + t ∈ xs) (h0 : 0 < (arL t xs k).length) :
    befB ((arL t xs k).getD 0 []) (lfP t xs (xs.getD k 0)) = false ∧ (arL t xs k).getD 0 [] ≠ lfP t xs (xs.getD k 0) := by
  have hm : (arL t xs k).getD 0 [] ∈ arL t xs k := by rw [List.getD_eq_getElem?_getD, List.getElem?_eq_getElem h0]; exact List.getElem_mem h0
  obtain ⟨b, hb, hnb, e⟩ := arL_mem hm
  rw [e]
  obtain ⟨i, hi, e2⟩ := List.getElem_of_mem hb
  rw [List.getElem_take] at e2
  have hik : i < k := by rw [List.length_take] at hi; omega
  have hlt := List.pairwise_iff_getElem.1 hs i k (by omega) hk hik
  have e3 : xs[k] = xs.getD k 0 := by simp [List.getD, hk]
  exact lift_order hs hn (by rw [← e3, ← e2]; exact hlt) ht (List.mem_of_mem_take hb) (by rw [← e3]; exact List.getElem_mem hk) hnb h
theorem bead66 {p : List Int} (G : Good p) {n : Nat} (hn : n ≤ 36) : ∀ x ∈ beadsL p n, 0 ≤ x ∧ x ≤ 66 := by
  intro x hx
  obtain ⟨r, hr, e⟩ := mem_beadsL.1 hx
  have h4 : num p r = p.getD r 0 - r - 1 := rfl
  have := G.le
  have hp : 0 ≤ p.getD r 0 ∧ p.getD r 0 ≤ 30 := by
    by_cases h : r < p.length
    · have := G.pos r h; have := G.le r h; omega
    · rw [List.getD_eq_getElem?_getD, List.getElem?_eq_none (by omega)]; simp
  omega
theorem bead_pw {p : List Int} (G : Good p) {n : Nat} (h : p.length ≤ n) (hn : n ≤ 40) : (beadsL p n).Pairwise (· < ·) := by
  have hg := beadsL_goodB G h hn
  unfold goodB at hg
  rw [Bool.and_eq_true, Bool.and_eq_true] at hg
  exact rise_pw (rises_Rises.1 hg.2.1).up
def arOk (p : List Int) (t : Int) : Bool := crB p t && decide (p.sum + t ≤ 30)
def arF (p : List Int) (t : Int) : List (List Int) := if arOk p t then arL t (beadsL p (p.length + t.toNat)) (p.length + t.toNat) else []
theorem lfP_len {t : Int} {xs : List Int} {b : Int} (hs : xs.Pairwise (· < ·)) (h : ¬ b + t ∈ xs) : (lfP t xs b).length ≤ xs.length := by
  have h1 := partsL_len (insF (mvL b (b + t) xs))
  rw [(insF_all (mvL_nodup (pw_nodup hs) h)).2.2, mvL_len] at h1
  exact h1
end Go.Proofs.Ytmjncedijddmmaa
/-
  A row that lies apart from those that are pushed already is pushed.
-/
namespace Go.Proofs.Ytmjncedijddmmaa
open Go.RowKit

theorem Push.pushAp {w1 w2 : World} {B : Nat} {v v' : Value} {rows : List (List Int)} {P : Nat → Option Addr} {C : Nat → Nat} {A : Option Addr} {c : Nat} {r : List Int} {o : Obj}
    (h1 : Push w1 B v rows P C) (hr : Own w1 B A c r) (hap : ∀ i, i < rows.length → ∀ b, (P i).map Addr.block = some b → A.map Addr.block ≠ some b)
    (ho : w2.ownsRow B 22 1 v' (rows.length + 1) (RL P C rows ++ [.slice A r.length c])) (hg : (w1.alloc o).grownBy w2 v.ownBlock) :
    Push w2 B v' (rows ++ [r]) (setAt P rows.length A) (setAt C rows.length c) := by
  have keep : ∀ {A' : Option Addr} {c' : Nat} {r' : List Int}, Own w1 B A' c' r' → Own w2 B A' c' r' := fun {A' c' r'} hx => by
    refine hx.keep fun b hbb hlt => ?_
    have e1 : (w1.alloc o).heap[b]? = w1.heap[b]? := Below.heap_alloc _ _ _ hlt
    rw [← e1]
    exact hg.block b (by simp; omega) (fun e => row_ne' h1.out hx b hbb e.symm)
  refine ⟨by rw [RL_snoc, List.length_append]; exact ho, fun j hj => ?_, fun i j hij hj b hbi => ?_⟩
  · rw [List.length_append, List.length_singleton] at hj
    by_cases e : j = rows.length
    · subst e
      rw [setAt_eq, setAt_eq, getD_snoc_eq]
      exact keep hr
    · rw [setAt_ne P A e, setAt_ne C c e, getD_snoc_lt rows r j (by omega)]
      exact keep (h1.row j (by omega))
  · rw [List.length_append, List.length_singleton] at hj
    rw [setAt_ne P A (show i ≠ rows.length by omega)] at hbi
    by_cases e : j = rows.length
    · subst e
      rw [setAt_eq]
      exact hap i (by omega) b hbi
    · rw [setAt_ne P A e]
      exact h1.apart i j hij (by omega) b hbi
theorem push_lit1 {w : World} {B : Nat} {A : Option Addr} {c : Nat} {r : List Int} (h : Own w B A c r) (hB : B ≤ w.heap.size) :
    Push (w.alloc (.cells #[.slice A r.length c] 22)) B (.slice (some ⟨w.heap.size, 0, none⟩) 1 1) [r] (fun _ => A) (fun _ => c) := by
  refine ⟨?_, fun j hj => ?_, fun i j hij hj => by simp at hj; omega⟩
  · have h2 := World.ownsRow_lit (base := B) (e := 22) (size := 1) w #[.slice A r.length c] 1 hB (by unfold maxLen; omega) rfl
    exact h2
  · have hj0 : j = 0 := by simp at hj; omega
    subst hj0
    exact h.below ((Below.refl _ _).alloc (Nat.le_refl _) _)
end Go.Proofs.Ytmjncedijddmmaa
/-
  Contract: AddedRims of the program.
-/
namespace Go.Proofs.Ytmjncedijddmmaa
open Go.RowKit Go.Shelf
attribute [local go_sem] Oper.semAt_some

/-- What the lifts of the beads that have come make. -/
def adP (t : Int) (xs : List Int) (pre : List (Int × Int)) : List (List Int) := (pre.filter fun x => lfB t xs x.2).map fun x => lfP t xs x.2
theorem adP_yes {t : Int} {xs : List Int} {pre : List (Int × Int)} {x : Int × Int} (h : lfB t xs x.2 = true) : adP t xs (pre ++ [x]) = adP t xs pre ++ [lfP t xs x.2] := by
  unfold adP; rw [List.filter_append, List.filter_cons_of_pos (by simpa using h), List.map_append]; rfl
theorem adP_no {t : Int} {xs : List Int} {pre : List (Int × Int)} {x : Int × Int} (h : lfB t xs x.2 = false) : adP t xs (pre ++ [x]) = adP t xs pre := by
  unfold adP; rw [List.filter_append, List.filter_cons_of_neg (by simp [h]), List.map_append]; simp
theorem adP_len (t : Int) (xs : List Int) (pre : List (Int × Int)) : (adP t xs pre).length ≤ pre.length := by
  unfold adP; rw [List.length_map]; exact List.length_filter_le _ _
theorem bk_snd (xs : List Int) : (upto (bk xs) xs.length).map Prod.snd = xs.reverse := by
  unfold upto
  rw [List.map_map]
  apply List.ext_getElem
  · simp
  · intro j h1 h2
    simp only [List.length_map, List.length_range] at h1
    simp only [List.getElem_map, List.getElem_range, Function.comp, bk, List.getElem_reverse]
    rw [List.getD_eq_getElem?_getD, List.getElem?_eq_getElem (by omega)]
    rfl
theorem adP_all (t : Int) (xs : List Int) (hl : ∀ b, b ∈ xs → lfB t xs b = decide (¬ b + t ∈ xs)) : adP t xs (upto (bk xs) xs.length) = arL t xs xs.length := by
  have h : ∀ pre : List (Int × Int), adP t xs pre = ((pre.map Prod.snd).filter fun b => lfB t xs b).map (lfP t xs) := fun pre => by
    unfold adP; rw [List.filter_map, List.map_map]; rfl
  rw [h, bk_snd, arL, arK, List.take_length, List.filter_reverse, List.filter_congr hl]
theorem upto_mem {xs : List Int} {k : Nat} (hk : k < xs.length) : (bk xs k).2 ∈ xs := by
  unfold bk
  rw [List.getD_eq_getElem?_getD, List.getElem?_eq_getElem (by omega)]
  exact List.getElem_mem _
/-- A bead that can be lifted makes an abacus. -/
theorem lift_is {p : List Int} (G : Good p) {t n : Nat} (ht : 2 ≤ t ∧ t ≤ 6) (hn : p.length ≤ n) (h36 : n ≤ 36) (hs : p.sum + t ≤ 30) {b : Int} (hb : b ∈ beadsL p n) :
    lfB t (beadsL p n) b = decide (¬ b + (t : Int) ∈ beadsL p n) := by
  have hg := beadsL_goodB G hn (by omega)
  have R := (goodB_iff.1 hg).rise
  have hpw := bead_pw G hn (by omega)
  have hbb := bead66 G h36
  have hti : inB 2 6 (t : Int) = true := inB_iff.2 (by omega)
  have hsum := beads_sum R
  rw [partsL_beads G hn, beadsL_len] at hsum
  have hln := beadsL_len p n
  obtain ⟨xs, hx⟩ : ∃ xs, xs = beadsL p n := ⟨_, rfl⟩
  rw [← hx] at hg R hpw hbb hsum hb hln ⊢
  have hb2 := hbb b hb
  unfold lfB
  rw [show isAba (t : Int) xs = true by simp [isAba, hti, hg], Bool.true_and]
  by_cases hm : b + (t : Int) ∈ xs
  · simp [canGo, hm]
  · have hnd := pw_nodup hpw
    obtain ⟨h1, h2, h3⟩ := insF_all (mvL_nodup hnd hm)
    have hR : Rises 0 1000 (insF (mvL b (b + (t : Int)) xs)) := pw_rises h1 fun x hx => by
      rcases (mem_mvL hb).1 ((h2 x).1 hx) with e | ⟨_, e⟩
      · omega
      · have := hbb x e; omega
    have hl : (insF (mvL b (b + (t : Int)) xs)).length = n := by rw [h3, mvL_len, hln]
    have hgd : goodB (insF (mvL b (b + (t : Int)) xs)) = true := by
      refine goodB_of (by omega) hR ?_
      rw [insF_sum, mvL_sum hnd hb, hl]
      omega
    have hcan : canGo xs b (b + (t : Int)) = true := by simp [canGo, hb, hm]; omega
    rw [hcan, isAba, hti, hgd]
    simp [hm]

theorem stepIn_append_rows {F : Fence} {nF : Nat} {P : Program} {ops : Array Oper} {o : Oper} {a : Act} {w : World} {K : Act → World → Prop} {Q : Exit → Act → World → Prop} {E : Prop}
    (hg : o.guard = none) (s x : Operand) (t : TypeId) (hop : o.op = Op.call { callee := Callee.builtin Builtin.append, args := #[s, x], argTypes := #[t, t] })
    (base : Nat) (e : TypeId) (i : TypeInfo) (z : Value) (size bytes : Nat) (h1 : P.underlying t = some (.slice e)) (h2 : P.info? e = some i) (h3 : i.zero = some z) (h4 : i.size = size) (h5 : i.bytes = bytes) (h6 : z.cells.size = size) (h7 : 0 < size)
    (v : Value) (n : Nat) (xs : List Value) (hs : a.eval s = v) (hown : w.ownsRow base e size v n xs)
    (ad : Addr) (m c : Nat) (news : List Value) (hx : a.eval x = .slice (some ad) m c) (hn : news.length = m * size) (hc : ∀ j u, news[j]? = some u → w.cell? (ad.add j) = some u) (h1c : ∀ u ∈ news, u.oneCell' = true)
    (b1 : n + m ≤ maxLen) (b2 : (n + m) * bytes ≤ 140737488355328) (hb : base ≤ w.heap.size)
    (hK : ∀ v' w', w'.ownsRow base e size v' (n + m) (xs ++ news) → w.grownBy w' v.ownBlock → (v'.ownBlock = v.ownBlock ∨ v'.ownBlock = some w.heap.size) → K (a.put o.dst v') w') :
    if Region.wanted o (yielded ops a.tmps) = true then Oper.wpIn F nF P o a w K Q else E := by
  have hw : Region.wanted o (yielded ops a.tmps) = true := by simp [Region.wanted, hg]
  rw [if_pos hw]
  obtain ⟨v', w', hrun, r1, r2, _, r3⟩ := run_append_own_at (P := P) w base t o.type e i z size bytes h1 h2 h3 h4 h5 h6 h7 v n xs hown ad m c news hn hc h1c b1 b2 hb
  unfold Oper.wpIn
  refine ⟨by simp [Oper.about, hop, resolve, Target.leads, Sem.run_pure], ?_⟩
  rw [Oper.semAt_plain F _ _ (by rw [hop]; intro c hc'; cases hc')]
  simp [execOp, hop, resolve, invoke, builtin, hs, hx, hrun, Result.andThen]
  exact hK v' w' r1 r2 r3
theorem stepIn_call1 {l nF : Nat} {P : Program} {ops : Array Oper} {o : Oper} {a : Act} {w : World} {K : Act → World → Prop} {Q : Exit → Act → World → Prop} {E : Prop} (hgd : o.guard = none)
    (f : Nat) (x : Operand) (t : TypeId) (ho : o.op = .call { callee := .value (.func f), args := #[x], argTypes := #[t] }) (v : Value) (hx : a.eval x = v)
    (eg : (callFunc f #[v]).run P w = .ok (.enter f #[v]) w) (post : Value → World → Prop) (hc : Calls P f #[v] w fun e w' => ∃ v, e = .returned v ∧ post v w')
    (h : ∀ v w', post v w' → K (a.put o.dst v) w') : if Region.wanted o (yielded ops a.tmps) = true then Oper.wpIn (Fence.wide.inRound l) nF P o a w K Q else E := by
  have hw : Region.wanted o (yielded ops a.tmps) = true := by simp [Region.wanted, hgd]
  rw [if_pos hw]
  unfold Oper.wpIn
  refine ⟨fun _ _ => trivial, ?_⟩
  rw [Oper.semAt_plain _ _ _ (by rw [ho]; intro c hc'; cases hc')]
  have he : (execOp a.eval o).run P w = .ok (.enter f #[v]) w := by
    subst hx
    simp [execOp, ho, resolve, invoke, Result.andThen, Deferred.ofValue]
    exact eg
  rw [he]
  refine ⟨(fun h => by cases h), (CallsIn.inRound l (callsIn_wide.2 hc)).mono ?_⟩
  rintro e w' ⟨v, rfl, hp⟩
  exact h v w' hp

-- genarm
theorem below_of_drew {w W : World} (h : Below w.drew.heap.size w.drew W) : Below w.heap.size w W := ⟨h.os, h.tape, h.output, h.size, h.block⟩
theorem below_to_drew {w W : World} (h : Below w.heap.size w W) : Below w.drew.heap.size w.drew W := ⟨h.os, h.tape, h.output, h.size, h.block⟩
theorem boxed_keep {W W' : World} {B : Nat} {t : TypeId} {v : Value} (h : Boxed W B t v) (hb : Below W.heap.size W W') : Boxed W' B t v := (hb.block B h.lt).trans h
theorem cellsB_own {X Y : World} {B : Nat} {row : Option Nat} (hg : X.grownBy Y row) (hrow : ∀ r, row = some r → B ≤ r ∧ ∃ o : Obj, X.heap[r]? = some o ∧ o.isCells = false) {b : Nat} {o : Obj} (h : X.heap[b]? = some o) (ho : o.isCells = true) : Y.heap[b]? = X.heap[b]? := by
  refine hg.block b (Array.getElem?_eq_some_iff.1 h).1 (fun e => ?_)
  obtain ⟨o', h', hc'⟩ := (hrow b e.symm).2
  rw [h] at h'; cases h'; rw [ho] at hc'; cases hc'
theorem rowB_own {X Y : World} {B : Nat} {row : Option Nat} (hg : X.grownBy Y row) (hrow : ∀ r, row = some r → B ≤ r ∧ ∃ o : Obj, X.heap[r]? = some o ∧ o.isCells = false) {base e size n : Nat} {v : Value} {xs : List Value} (h : X.ownsRow base e size v n xs) : Y.ownsRow base e size v n xs := by
  refine h.kept hg ?_
  rcases h.2 with ⟨rfl, _⟩ | ⟨g, cap, cur, rfl, _, hgb, _⟩
  · exact .inl rfl
  · refine .inr fun e' => ?_
    obtain ⟨o, ho, hc⟩ := (hrow g (by simpa [Value.ownBlock] using e'.symm)).2
    rw [hgb] at ho; cases ho; cases hc
theorem push_own (B base Bx : Nat) (t : TypeId) (f : List (Int × Int) → List (List Int)) : OwnFrom B (fun pre W => ∃ v P C, Boxed W Bx t v ∧ Push W base v (f pre) P C) := by
  rintro s X Y row ⟨v, P, C, hv, hp⟩ hg hrow
  exact ⟨v, P, C, (cellsB_own hg hrow hv rfl).trans hv, ⟨rowB_own hg hrow hp.out, fun j hj => rowB_own hg hrow (hp.row j hj), hp.apart⟩⟩
theorem box2_own (B g : Nat) (t : TypeId) (a b : Value) : OwnFrom B (fun (_ : List (Int × Int)) W => Box2 W g t a b) := by
  rintro s X Y row h hg hrow
  exact (cellsB_own hg hrow h rfl).trans h
theorem keepsB_below {W W' : World} (B : Nat) (h : Below W.heap.size W W') : KeepsFrom B W W' :=
  ⟨h.size, fun k _ _ hk _ => (h.block k (Array.getElem?_eq_some_iff.1 hk).1).trans hk⟩
theorem keepsB_row {W W' : World} (B : Nat) {row : Option Nat} (hg : W.grownBy W' row) (hr : ∀ g, row = some g → ∃ o : Obj, W.heap[g]? = some o ∧ o.isCells = true) : KeepsFrom B W W' :=
  ⟨hg.size, fun k o _ hk ho => (hg.block k (Array.getElem?_eq_some_iff.1 hk).1 (fun e => by
    obtain ⟨o', h1, h2⟩ := hr k e.symm
    rw [hk] at h1; cases h1; rw [ho] at h2; cases h2)).trans hk⟩
theorem keepsB_set (B : Nat) (W : World) (b k : Nat) (v : Value) (hb : b < B) : KeepsFrom B W (W.setCell ⟨b, k, none⟩ v) :=
  ⟨by simp, fun j o hj hk _ => (Below.heap_setCell _ _ _ j (by show j ≠ b; omega)).trans hk⟩
theorem own_isCells {W : World} {base e size n : Nat} {v : Value} {xs : List Value} (h : W.ownsRow base e size v n xs) : ∀ g, v.ownBlock = some g → ∃ o : Obj, W.heap[g]? = some o ∧ o.isCells = true := by
  intro g hg
  rcases h.2 with ⟨rfl, _⟩ | ⟨g2, cap, cur, rfl, _, hgb, _⟩
  · cases hg
  · have e : g2 = g := by simpa [Value.ownBlock] using hg
    subst e
    exact ⟨_, hgb, rfl⟩
theorem Push.setOther {w : World} {B : Nat} {v : Value} {rows : List (List Int)} {P : Nat → Option Addr} {C : Nat → Nat} (h : Push w B v rows P C) {b k : Nat} {u : Value} (hb : b < B) : Push (w.setCell ⟨b, k, none⟩ u) B v rows P C := by
  have e : ∀ j, B ≤ j → (w.setCell ⟨b, k, none⟩ u).heap[j]? = w.heap[j]? := fun j hj => Below.heap_setCell _ _ _ j (by show j ≠ b; omega)
  refine ⟨⟨h.out.1, ?_⟩, fun j hj => (h.row j hj).keep fun q hq _ => e q ((h.row j hj).block q hq).1, h.apart⟩
  rcases h.out.2 with hn | ⟨g, cap, cur, hv, hbb, hgg, rest⟩
  · exact .inl hn
  · exact .inr ⟨g, cap, cur, hv, hbb, (e g hbb).trans hgg, rest⟩
theorem lf_facts {t : Int} {xs : List Int} {b : Int} (h : lfB t xs b = true) : b ∈ xs ∧ (lfF t xs b).length ≤ 1000 ∧ ∀ j, j < (lfF t xs b).length → 0 ≤ (lfF t xs b).getD j 0 ∧ (lfF t xs b).getD j 0 ≤ 1000 := by
  have hf := (lf_yes h).2
  unfold lfB at h
  simp only [Bool.and_eq_true] at h
  obtain ⟨_, h2, h3⟩ := h
  simp only [canGo, Bool.and_eq_true, decide_eq_true_eq] at h2
  simp only [isAba, Bool.and_eq_true] at h3
  have GB := goodB_iff.1 h3.2
  rw [hf]
  exact ⟨h2.1, by have := GB.len; omega, GB.rise.bd⟩
theorem lf_parts {t : Int} {xs : List Int} {b : Int} (h : lfB t xs b = true) : partsL (lfF t xs b) = lfP t xs b := by rw [(lf_yes h).2]; rfl

set_option maxRecDepth 100000 in
set_option maxHeartbeats 8000000 in
theorem AddedRims_in (t n : Nat) (A : Option Addr) (cap : Nat) (p : List Int) (w : World) (G : Good p) (ht : 2 ≤ t ∧ t ≤ 6) (hn : n = p.length + t) (hsum : p.sum + t ≤ 30) (hc : Cells w A p) :
    CallsIn Fence.wide 5 Try.prog 20 #[.slice A p.length cap, .int .i64 t] w fun e W' => ∃ A' c', e = .returned (.tuple #[.slice A' (arL t (beadsL p n) n).length c', .bool true]) ∧ Own2 W' w.heap.size W'.heap.size A' c' (arL t (beadsL p n) n) ∧ Below w.heap.size w W' := by
  obtain ⟨i0, hi, hz0, hz1, hz2⟩ := info_parts Try.infoInts
  have eg : ∀ args w, (callFunc 50 args).run Try.prog w = .ok (.enter 50 args) w := enters_of Try.func50 (by kernel_rfl) rfl
  have EG := hid eg
  clear eg
  have hlen := G.len
  have hs30 := G.sum
  have hs0 := G.sum0
  have hti : inB 2 6 (t : Int) = true := inB_iff.2 (by omega)
  have hok : abaOk p t n = true := by
    unfold abaOk beadsOk
    rw [(good_iff p).2 G, hti, inB_iff.2 (by omega)]; rfl
  have hbf : beadsF p (n : Int) = beadsL p n := by
    unfold beadsF; rw [if_pos ⟨(good_iff p).2 G, by omega, by omega⟩, Int.toNat_natCast]
  have HAB := impl_AbacusOf A cap p t n w (by omega) hc ⟨by omega, by omega⟩ ⟨by omega, by omega⟩
  rw [show abaR p t n = (t : Int) by simp [abaR, hok], show abaF p t n = beadsL p n by simp [abaF, hok, hbf], hok] at HAB
  have hLF := fun b (hb : b ∈ beadsL p n) => lift_is G (n := n) ht (by omega) (by omega) hsum hb
  have hxl := beadsL_len p n
  have hcnt := fun W (h : Cells W A p) => cellCount_any A p cap W hlen (fun j hj => by have := G.pos j hj; have := G.le j hj; omega) h
  have HCN := hid hcnt
  have HLN := hid fun (pre : List (Int × Int)) => adP_len (t : Int) (beadsL p n) pre
  obtain ⟨xs, hxs⟩ : ∃ xs, xs = beadsL p n := ⟨_, rfl⟩
  rw [← hxs] at HAB hLF hxl HLN ⊢
  have HALL := hid (adP_all (t : Int) xs hLF)
  rw [hxl] at HALL
  obtain ⟨s, hs⟩ : ∃ s : Nat, p.sum = s := ⟨p.sum.toNat, by omega⟩
  rw [hs] at HCN
  have hss : (s : Int) + t ≤ 30 := by omega
  have HAB := hid HAB
  have HXL := hid hxl
  have hni : IntKind.i64.wrap ((p.length : Int) + (t : Int)) = (n : Int) := by rw [IntWalk.i64_in _ (by omega)]; omega
  have hgt : ¬ (30 : Int) < (s : Int) + t := by omega
  have hn36 : n ≤ 36 := by omega
  clear hs hxs hok hbf hti hs0 hs30 hsum G hn hcnt hxl hLF
  refine callsIn_of_wp_marks Try.func20 rfl trivial ?_ rfl
  simp only [Try.ntmps20, List.size_toArray, List.length_cons, List.length_nil, Nat.reduceAdd, Nat.reduceSub, Array.replicate_succ, Array.replicate_zero, List.push_toArray, List.append_toArray, List.nil_append, List.cons_append]
  gi_wp2
  refine ⟨trivial, (callsIn_wide.2 HAB.out).mono ?_⟩
  rintro e w1 ⟨Aa, ca, rfl, oa, b1⟩
  rw [HXL.out]
  obtain ⟨w2, hw2⟩ : ∃ w2, w2 = w1.alloc (.cells #[.int .i64 t, .slice Aa n ca] 56) := ⟨_, rfl⟩
  have z2 : Box2 w2 w1.heap.size 56 (.int .i64 t) (.slice Aa n ca) := by rw [hw2]; exact Box2.new _ _ _ _
  have b2 : Below w1.heap.size w1 w2 := by rw [hw2]; exact (Below.refl _ _).alloc (Nat.le_refl _) _
  have hs2 : w2.heap.size = w1.heap.size + 1 := by rw [hw2]; simp
  have HW2 := hid hw2
  have HS2 := hid hs2
  have k1 : (w2.alloc (.cells #[.slice none 0 0] 34)).cell? ⟨w1.heap.size, 1, none⟩ = some (.slice Aa n ca) := (z2.alloc _).cell1
  clear hw2 hs2
  gi_wp2
  rw [← HW2.out]
  refine ⟨trivial, (callsIn_wide.2 (HCN.out _ ((hc.below b1).below b2))).mono ?_⟩
  rintro e w' ⟨rfl, rfl⟩
  gi_wp2_with (refine ⟨trivial, ?_⟩; gi_at_call 48; refine (back_in Fence.wide 4 trivial rfl _ _ _ _).mono ?_; rintro e w' ⟨rfl, rfl⟩)
  have hs2 := HS2.out
  have m0 := Boxed.new w2 34 (.slice none 0 0)
  have s0 := Boxed.new (w2.alloc (.cells #[.slice none 0 0] 34)) 22 (.slice Aa n ca)
  rw [World.size_alloc] at s0
  obtain ⟨w3, hw3⟩ : ∃ w3, w3 = (w2.alloc (.cells #[.slice none 0 0] 34)).alloc (.cells #[.slice Aa n ca] 22) := ⟨_, rfl⟩
  have m3 : Boxed w3 w2.heap.size 34 (.slice none 0 0) := by rw [hw3]; exact m0.alloc _
  have s3 : Boxed w3 (w2.heap.size + 1) 22 (.slice Aa n ca) := by rw [hw3]; exact s0
  have b3 : Below w2.heap.size w2 w3 := by rw [hw3]; exact ((Below.refl _ _).alloc (Nat.le_refl _) _).alloc (by simp) _
  have hs3 : w3.heap.size = w2.heap.size + 1 + 1 := by rw [hw3]; simp
  have z3 : Box2 w3 w1.heap.size 56 (.int .i64 t) (.slice Aa n ca) := z2.next b3
  have hAb : ∀ b, Aa.map Addr.block = some b → b < w1.heap.size := fun b hb => (oa.block b hb).2
  have ca3 : Cells w3 Aa xs := ((oa.below b2).below b3).cells
  have c3 : w3.cell? ⟨w2.heap.size + 1, 0, none⟩ = some (.slice Aa xs.length ca) := by rw [HXL.out]; exact s3.cell
  have b13 : Below w1.heap.size w1 w3 := Below.next b2 b3
  rw [← hw3]
  clear m0 s0 hw3 k1
  have hst := back_stops Fence.wide 4 trivial rfl (by omega) (w2.heap.size + 1) w1.heap.size Aa ca xs (by rw [HXL.out]; omega) w3 (by omega) c3 (fun _ => hAb) ca3
  refine wpIn_rangeFunc_ownG rfl (by omega) (gf := 72) (lb := #[.pointer (some ⟨w2.heap.size + 1, 0, none⟩)]) rfl trivial (enters_of Try.func72 (by kernel_rfl) rfl)
    hst KeepB.trans (keepB_b (by omega) (by omega)) (Below.refl _ _) (fun _ => rfl)
    (fun pre W => ((∃ v P C, Boxed W w2.heap.size 34 v ∧ Push W w3.heap.size v (adP t xs pre) P C) ∧ (Boxed W (w2.heap.size + 1) 22 (.slice Aa n ca) ∧ Box2 W w1.heap.size 56 (.int .i64 t) (.slice Aa n ca))) ∧ Below w1.heap.size w1 W)
    (fun _ _ _ => False)
    (OwnFrom.and (OwnFrom.and (push_own _ _ _ _ _) (OwnFrom.and (Own.from (boxed_own _ _ _) _) (box2_own _ _ _ _ _))) (ownFrom_below (Nat.le_refl _) (by omega)))
    (fun _ _ _ _ _ hs _ _ => hs)
    ⟨⟨⟨_, _, _, m3, push_nil _ _⟩, s3, z3⟩, b13⟩
    (fun x => { tmps := #[.slice A p.length cap, .int .i64 t, undef, undef, .slice none 0 0, .bool false, .pointer (some ⟨w1.heap.size, 0, none⟩), .bool true, .pointer (some ⟨w2.heap.size, 0, none⟩), undef, .int .i64 x.2, undef, undef, .tuple #[.agg #[.int .i64 t, .slice Aa n ca], .bool true], .slice A p.length cap, .int .i64 t, .slice A p.length cap, .int .i64 p.length, .int .i64 t, .int .i64 n, .tuple #[.agg #[.int .i64 t, .slice Aa n ca], .bool true], .agg #[.int .i64 t, .slice Aa n ca], .bool true, .bool true, .bool false, .bool false, .slice A p.length cap, .int .i64 s, .int .i64 t, .int .i64 (s + t), .bool (decide ((30 : Int) < s + t)), .bool (decide ((30 : Int) < s + t)), .pointer (some ⟨w1.heap.size, 1, none⟩), .slice Aa n ca, .func (.func 72) #[] #[.pointer (some ⟨w2.heap.size + 1, 0, none⟩)], .int .i64 x.1, .int .i64 x.2, undef, undef, undef, undef, undef, undef, undef, undef, undef, undef, undef, undef, undef, undef], defers := [] }) ?assign ?body ?done ?stop
  case assign =>
    intro l x W K hK
    clear hst hs2 hs3
    gi_wp2
    exact hK
  case stop =>
    rintro D c pre W _ _ h _
    exact h.elim
  case body =>
    rintro l pre x W ⟨⟨⟨v, P, C, hv, hp⟩, hs, hz⟩, hB⟩ hlt
    have hsz := hB.size
    have hvl := hv.lt
    have hsl := hs.lt
    have hlift := LiftBead_any t Aa ca xs x.2 W (by rw [HXL.out]; omega) (((oa.cells).below hB))
    rw [HXL.out] at hlift
    have k0 := hz.cell0
    have k1 := hz.cell1
    have hal : (adP (t : Int) xs pre).length ≤ 36 := by have h1 := HLN.out pre; have h2 := HXL.out; omega
    have HC3 := hid (And.intro hs3 hs2)
    cases hlb : lfB t xs x.2
    · rw [hlb] at hlift
      have HN := hid (adP_no (pre := pre) hlb)
      obtain ⟨e1, e2⟩ := lf_no hlb
      rw [e1, e2] at hlift
      have HLI := hid hlift
      clear hlift hlb hs3 hs2 e1 e2
      gi_wp2
      refine ⟨trivial, (CallsIn.inRound l (callsIn_wide.2 HLI.out)).mono ?_⟩
      rintro e W1 ⟨A1, c1, rfl, o1, B1⟩
      have B2 : Below W.heap.size W (W1.alloc (.cells #[.int .i64 0, .slice A1 ([] : List Int).length c1] 56)) := B1.alloc B1.size _
      have hv2 := boxed_keep hv B2
      have hs2' := boxed_keep hs B2
      have hz2' := hz.next B2
      have hp2 := hp.below B2
      have HB2 := hid B2
      clear B2
      gi_wp2
      have hs3 := HC3.out.1
      exact ⟨keepsB_below _ HB2.out, ⟨HB2.out.mono (by omega), hs2'.trans hs.symm⟩, ⟨⟨_, _, _, hv2, by rw [HN.out]; exact hp2⟩, hs2', hz2'⟩, hB.trans (HB2.out.mono (by omega))⟩
    · rw [hlb] at hlift
      have HN := hid (adP_yes (pre := pre) hlb)
      obtain ⟨e0, e3, e4⟩ := lf_facts hlb
      have e5 := lf_parts hlb
      obtain ⟨L1, hL1⟩ : ∃ L, L = lfF t xs x.2 := ⟨_, rfl⟩
      obtain ⟨R1, hR1⟩ : ∃ R, R = lfR t xs x.2 := ⟨_, rfl⟩
      obtain ⟨L2, hL2⟩ : ∃ L, L = lfP t xs x.2 := ⟨_, rfl⟩
      rw [← hL1] at e3 e4 e5
      rw [← hL1, ← hR1] at hlift
      rw [← hL2] at HN e5
      obtain ⟨rows, hrows⟩ : ∃ r, r = adP t xs pre := ⟨_, rfl⟩
      rw [← hrows] at HN hp hal
      have HPO := hid fun W (A : Option Addr) (c : Nat) (h : Cells W A L1) => partsOf_any A c L1 W e3 e4 h
      rw [e5] at HPO
      have HLI := hid hlift
      have HP := hid hp
      clear hlift hlb hs3 hs2 e0 e3 e4 e5 hL1 hR1 hL2 hrows hp
      gi_wp2
      refine ⟨trivial, (CallsIn.inRound l (callsIn_wide.2 HLI.out)).mono ?_⟩
      rintro e W1 ⟨A1, c1, rfl, o1, B1⟩
      obtain ⟨W2, hW2⟩ : ∃ W2, W2 = W1.alloc (.cells #[.int .i64 R1, .slice A1 L1.length c1] 56) := ⟨_, rfl⟩
      have hx2 : Box2 W2 W1.heap.size 56 (.int .i64 R1) (.slice A1 L1.length c1) := by rw [hW2]; exact Box2.new _ _ _ _
      have B2 : Below W.heap.size W W2 := by rw [hW2]; exact B1.alloc B1.size _
      have o2 : Cells W2 A1 L1 := by rw [hW2]; exact (o1.below ((Below.refl _ _).alloc (Nat.le_refl _) _)).cells
      have HW2 := hid hW2
      have hz3 := B2.size
      clear hW2 o1 B1 k0 k1
      gi_wp2
      rw [← HW2.out]
      have HO2 := hid o2
      have HB2 := hid B2
      have hv2 := boxed_keep hv B2
      have HV2 := hid hv2
      have HP2 := hid (HP.out.below B2)
      have kv := hv2.cell
      have kx := hx2.cell1
      have HZ2 := hid (hz.next B2)
      have HS2' := hid (boxed_keep hs B2)
      have hW2d : Below W.heap.size W W2.drew := below_drewN B2 1
      have HWD := hid hW2d
      clear o2 B2 hx2 hv2 hz hW2d
      have HPD := hid (show Push W2.drew w3.heap.size v rows P C from ⟨HP2.out.out, HP2.out.row, HP2.out.apart⟩)
      refine wpIn_region_any (by kernel_rfl) ?_
      change wpAnyIn _ _ _ _ _ _ _ _ _ (World.drew _)
      refine wpAnyIn_ready (rs := [0, 1]) (by kernel_rfl) (by simp) ?_
      refine AllReadyIn.cons rfl (fun K hK => ?_) ?_
      · go_simp
        refine hK _ _ ?_
        clear hK K
        refine wpAnyIn_ready (rs := [1]) (by kernel_rfl) (by simp) ?_
        refine AllReadyIn.cons rfl (fun K hK => ?_) ?_
        · go_simp
          refine hK _ _ ?_
          clear hK K
          refine wpAnyIn_ready (rs := [2]) (by kernel_rfl) (by simp) ?_
          refine AllReadyIn.cons rfl (fun K hK => ?_) ?_
          · go_simp
            refine hK _ _ ?_
            clear hK K
            refine wpAnyIn_ready (rs := [3]) (by kernel_rfl) (by simp) ?_
            refine AllReadyIn.cons rfl (fun K hK => ?_) ?_
            · refine stepIn_call1 rfl 50 (.tmp 46) 22 rfl (.slice A1 L1.length c1) (by first | rfl | simp [Act.eval, Act.put]) (EG.out _ _) (fun u w' => ∃ A3 c3, u = .slice A3 L2.length c3 ∧ Own w' W2.drew.heap.size A3 c3 L2 ∧ Below W2.drew.heap.size W2.drew w') ((HPO.out W2.drew A1 c1 HO2.out).mono (by rintro e w' ⟨A3, c3, rfl, h1, h2⟩; exact ⟨_, rfl, A3, c3, rfl, h1, h2⟩)) ?_
              rintro _ W3 ⟨A3, c3, rfl, o3, B3⟩
              have HV3 := hid (boxed_keep HV2.out (below_of_drew B3))
              have HO3 := hid o3
              have HB3 := hid (below_of_drew B3)
              have kv3 := HV3.out.cell
              have kv4 := (HV3.out.alloc (.cells #[.slice A3 L2.length c3] 22)).cell
              clear o3 B3
              refine hK _ _ ?_
              clear hK K
              refine wpAnyIn_ready (rs := [4]) (by kernel_rfl) (by simp) ?_
              refine AllReadyIn.cons rfl (fun K hK => ?_) ?_
              · go_simp
                refine hK _ _ ?_
                clear hK K
                refine wpAnyIn_ready (rs := [5]) (by kernel_rfl) (by simp) ?_
                refine AllReadyIn.cons rfl (fun K hK => ?_) ?_
                · have hq := HP2.out.below (HB3.out)
                  refine stepIn_append_rows rfl (.tmp 44) (.tmp 48) 34 rfl w3.heap.size 22 i0 (.slice none 0 0) 1 24 Try.underlying34 hi hz0 hz1 hz2 rfl (by decide) v rows.length (RL P C rows) (by first | rfl | simp [Act.eval, Act.put]) (hq.out.alloc _) ⟨W3.heap.size, 0, none⟩ 1 1 [.slice A3 L2.length c3] (by first | rfl | simp [Act.eval, Act.put]) rfl (cell_one_new _ _ _) (one_cellS _ _ _) (by unfold maxLen; omega) (by omega) (by have h1 := HB3.out.size; have h2 := HWD.out.size; have h3 := HC3.out.1; have h4 : W2.drew.heap.size = W2.heap.size := rfl; simp; omega) ?_
                  rintro v5 W5 ho5 hg5 -
                  have hp5 := HPD.out.push (below_to_drew HB3.out) (HO3.out) (by have h1 := HB3.out.size; have h2 := HWD.out.size; have h3 := HC3.out.1; have h4 : W2.drew.heap.size = W2.heap.size := rfl; omega) ho5 hg5
                  obtain ⟨A5, c5, rfl⟩ : ∃ A5 c5, v5 = .slice A5 (rows.length + 1) c5 := by obtain ⟨A5, c5, h5, _⟩ := hp5.own2; rw [List.length_append] at h5; exact ⟨A5, c5, h5⟩
                  have hne : ∀ q, v.ownBlock = some q → w3.heap.size ≤ q := fun q hq2 => (hq.out.lt q hq2).1
                  have hv5 : Boxed W5 w2.heap.size 34 v := (HV3.out.alloc _).kept hg5 (fun e => by have := hne _ e.symm; have := HC3.out.1; omega)
                  have fv5 := hv5.frozen
                  have cv5 := hv5.cell
                  have HV5 := hid hv5
                  have HP5 := hid hp5
                  have HG5 := hid hg5
                  have HNE := hid hne
                  have HQ := hid hq
                  clear ho5 hq hp5 hv5 hg5 hne
                  refine hK _ _ ?_
                  clear hK K
                  refine wpAnyIn_ready (rs := [6]) (by kernel_rfl) (by simp) ?_
                  refine AllReadyIn.cons rfl (fun K hK => ?_) ?_
                  · go_simp
                    refine hK _ _ ?_
                    clear hK K
                    refine wpAnyIn_done (by kernel_rfl) ?_ _
                    gi_wp2
                    have hs3 := HC3.out.1
                    have hs2 := HC3.out.2
                    have B23 : Below W.heap.size W W3 := Below.next HB2.out HB3.out
                    have B5 : Below w3.heap.size W W5 := ((B23.mono (by omega)).alloc (by have := B23.size; omega) _).grown HG5.out (by have := B23.size; simp; omega) (fun q hq2 => HNE.out q hq2)
                    have hs5 := (((boxed_keep hs B23).alloc (.cells #[.slice A3 L2.length c3] 22)).kept HG5.out (fun e => by have := HNE.out _ e.symm; omega)).other (B' := w2.heap.size) (by omega) (.slice A5 (rows.length + 1) c5)
                    have hz5 := ((((HZ2.out.next HB3.out).alloc (.cells #[.slice A3 L2.length c3] 22)).keep (HG5.out.block _ (by have := HZ2.out.lt; have := HB3.out.size; simp; omega) (fun e => by have := HNE.out _ e.symm; omega))).other (g' := w2.heap.size) (k := 0) (by omega) (.slice A5 (rows.length + 1) c5))
                    have hpn := HP5.out.setOther (b := w2.heap.size) (k := 0) (u := .slice A5 (rows.length + 1) c5) (by omega)
                    have hkf : KeepsFrom w3.heap.size W W5 := (keepsB_below _ (B23.alloc B23.size (.cells #[.slice A3 L2.length c3] 22))).trans (keepsB_row _ HG5.out (own_isCells (HQ.out.out.alloc _)))
                    have B6 : Below w1.heap.size W (W5.setCell ⟨w2.heap.size, 0, none⟩ (.slice A5 (rows.length + 1) c5)) := (B5.mono (by omega)).setCell (by show w1.heap.size ≤ w2.heap.size; omega) _
                    exact ⟨hkf.trans (keepsB_set _ _ _ _ _ (by omega)), ⟨B6, hs5.trans hs.symm⟩, ⟨⟨_, _, _, HV5.out.set _, by rw [HN.out]; exact hpn⟩, hs5, hz5⟩, hB.trans B6⟩
                  exact AllReadyIn.nil
                exact AllReadyIn.nil
              exact AllReadyIn.nil
            exact AllReadyIn.nil
          exact AllReadyIn.nil
        exact AllReadyIn.nil
      refine AllReadyIn.cons rfl (fun K hK => ?_) ?_
      · go_simp
        refine hK _ _ ?_
        clear hK K
        refine wpAnyIn_ready (rs := [0, 2]) (by kernel_rfl) (by simp) ?_
        refine AllReadyIn.cons rfl (fun K hK => ?_) ?_
        · go_simp
          refine hK _ _ ?_
          clear hK K
          refine wpAnyIn_ready (rs := [2]) (by kernel_rfl) (by simp) ?_
          refine AllReadyIn.cons rfl (fun K hK => ?_) ?_
          · go_simp
            refine hK _ _ ?_
            clear hK K
            refine wpAnyIn_ready (rs := [3]) (by kernel_rfl) (by simp) ?_
            refine AllReadyIn.cons rfl (fun K hK => ?_) ?_
            · refine stepIn_call1 rfl 50 (.tmp 46) 22 rfl (.slice A1 L1.length c1) (by first | rfl | simp [Act.eval, Act.put]) (EG.out _ _) (fun u w' => ∃ A3 c3, u = .slice A3 L2.length c3 ∧ Own w' W2.drew.heap.size A3 c3 L2 ∧ Below W2.drew.heap.size W2.drew w') ((HPO.out W2.drew A1 c1 HO2.out).mono (by rintro e w' ⟨A3, c3, rfl, h1, h2⟩; exact ⟨_, rfl, A3, c3, rfl, h1, h2⟩)) ?_
              rintro _ W3 ⟨A3, c3, rfl, o3, B3⟩
              have HV3 := hid (boxed_keep HV2.out (below_of_drew B3))
              have HO3 := hid o3
              have HB3 := hid (below_of_drew B3)
              have kv3 := HV3.out.cell
              have kv4 := (HV3.out.alloc (.cells #[.slice A3 L2.length c3] 22)).cell
              clear o3 B3
              refine hK _ _ ?_
              clear hK K
              refine wpAnyIn_ready (rs := [4]) (by kernel_rfl) (by simp) ?_
              refine AllReadyIn.cons rfl (fun K hK => ?_) ?_
              · go_simp
                refine hK _ _ ?_
                clear hK K
                refine wpAnyIn_ready (rs := [5]) (by kernel_rfl) (by simp) ?_
                refine AllReadyIn.cons rfl (fun K hK => ?_) ?_
                · have hq := HP2.out.below (HB3.out)
                  refine stepIn_append_rows rfl (.tmp 44) (.tmp 48) 34 rfl w3.heap.size 22 i0 (.slice none 0 0) 1 24 Try.underlying34 hi hz0 hz1 hz2 rfl (by decide) v rows.length (RL P C rows) (by first | rfl | simp [Act.eval, Act.put]) (hq.out.alloc _) ⟨W3.heap.size, 0, none⟩ 1 1 [.slice A3 L2.length c3] (by first | rfl | simp [Act.eval, Act.put]) rfl (cell_one_new _ _ _) (one_cellS _ _ _) (by unfold maxLen; omega) (by omega) (by have h1 := HB3.out.size; have h2 := HWD.out.size; have h3 := HC3.out.1; have h4 : W2.drew.heap.size = W2.heap.size := rfl; simp; omega) ?_
                  rintro v5 W5 ho5 hg5 -
                  have hp5 := HPD.out.push (below_to_drew HB3.out) (HO3.out) (by have h1 := HB3.out.size; have h2 := HWD.out.size; have h3 := HC3.out.1; have h4 : W2.drew.heap.size = W2.heap.size := rfl; omega) ho5 hg5
                  obtain ⟨A5, c5, rfl⟩ : ∃ A5 c5, v5 = .slice A5 (rows.length + 1) c5 := by obtain ⟨A5, c5, h5, _⟩ := hp5.own2; rw [List.length_append] at h5; exact ⟨A5, c5, h5⟩
                  have hne : ∀ q, v.ownBlock = some q → w3.heap.size ≤ q := fun q hq2 => (hq.out.lt q hq2).1
                  have hv5 : Boxed W5 w2.heap.size 34 v := (HV3.out.alloc _).kept hg5 (fun e => by have := hne _ e.symm; have := HC3.out.1; omega)
                  have fv5 := hv5.frozen
                  have cv5 := hv5.cell
                  have HV5 := hid hv5
                  have HP5 := hid hp5
                  have HG5 := hid hg5
                  have HNE := hid hne
                  have HQ := hid hq
                  clear ho5 hq hp5 hv5 hg5 hne
                  refine hK _ _ ?_
                  clear hK K
                  refine wpAnyIn_ready (rs := [6]) (by kernel_rfl) (by simp) ?_
                  refine AllReadyIn.cons rfl (fun K hK => ?_) ?_
                  · go_simp
                    refine hK _ _ ?_
                    clear hK K
                    refine wpAnyIn_done (by kernel_rfl) ?_ _
                    gi_wp2
                    have hs3 := HC3.out.1
                    have hs2 := HC3.out.2
                    have B23 : Below W.heap.size W W3 := Below.next HB2.out HB3.out
                    have B5 : Below w3.heap.size W W5 := ((B23.mono (by omega)).alloc (by have := B23.size; omega) _).grown HG5.out (by have := B23.size; simp; omega) (fun q hq2 => HNE.out q hq2)
                    have hs5 := (((boxed_keep hs B23).alloc (.cells #[.slice A3 L2.length c3] 22)).kept HG5.out (fun e => by have := HNE.out _ e.symm; omega)).other (B' := w2.heap.size) (by omega) (.slice A5 (rows.length + 1) c5)
                    have hz5 := ((((HZ2.out.next HB3.out).alloc (.cells #[.slice A3 L2.length c3] 22)).keep (HG5.out.block _ (by have := HZ2.out.lt; have := HB3.out.size; simp; omega) (fun e => by have := HNE.out _ e.symm; omega))).other (g' := w2.heap.size) (k := 0) (by omega) (.slice A5 (rows.length + 1) c5))
                    have hpn := HP5.out.setOther (b := w2.heap.size) (k := 0) (u := .slice A5 (rows.length + 1) c5) (by omega)
                    have hkf : KeepsFrom w3.heap.size W W5 := (keepsB_below _ (B23.alloc B23.size (.cells #[.slice A3 L2.length c3] 22))).trans (keepsB_row _ HG5.out (own_isCells (HQ.out.out.alloc _)))
                    have B6 : Below w1.heap.size W (W5.setCell ⟨w2.heap.size, 0, none⟩ (.slice A5 (rows.length + 1) c5)) := (B5.mono (by omega)).setCell (by show w1.heap.size ≤ w2.heap.size; omega) _
                    exact ⟨hkf.trans (keepsB_set _ _ _ _ _ (by omega)), ⟨B6, hs5.trans hs.symm⟩, ⟨⟨_, _, _, HV5.out.set _, by rw [HN.out]; exact hpn⟩, hs5, hz5⟩, hB.trans B6⟩
                  exact AllReadyIn.nil
                exact AllReadyIn.nil
              exact AllReadyIn.nil
            exact AllReadyIn.nil
          exact AllReadyIn.nil
        refine AllReadyIn.cons rfl (fun K hK => ?_) ?_
        · go_simp
          refine hK _ _ ?_
          clear hK K
          refine wpAnyIn_ready (rs := [0, 3]) (by kernel_rfl) (by simp) ?_
          refine AllReadyIn.cons rfl (fun K hK => ?_) ?_
          · go_simp
            refine hK _ _ ?_
            clear hK K
            refine wpAnyIn_ready (rs := [3]) (by kernel_rfl) (by simp) ?_
            refine AllReadyIn.cons rfl (fun K hK => ?_) ?_
            · refine stepIn_call1 rfl 50 (.tmp 46) 22 rfl (.slice A1 L1.length c1) (by first | rfl | simp [Act.eval, Act.put]) (EG.out _ _) (fun u w' => ∃ A3 c3, u = .slice A3 L2.length c3 ∧ Own w' W2.drew.heap.size A3 c3 L2 ∧ Below W2.drew.heap.size W2.drew w') ((HPO.out W2.drew A1 c1 HO2.out).mono (by rintro e w' ⟨A3, c3, rfl, h1, h2⟩; exact ⟨_, rfl, A3, c3, rfl, h1, h2⟩)) ?_
              rintro _ W3 ⟨A3, c3, rfl, o3, B3⟩
              have HV3 := hid (boxed_keep HV2.out (below_of_drew B3))
              have HO3 := hid o3
              have HB3 := hid (below_of_drew B3)
              have kv3 := HV3.out.cell
              have kv4 := (HV3.out.alloc (.cells #[.slice A3 L2.length c3] 22)).cell
              clear o3 B3
              refine hK _ _ ?_
              clear hK K
              refine wpAnyIn_ready (rs := [4]) (by kernel_rfl) (by simp) ?_
              refine AllReadyIn.cons rfl (fun K hK => ?_) ?_
              · go_simp
                refine hK _ _ ?_
                clear hK K
                refine wpAnyIn_ready (rs := [5]) (by kernel_rfl) (by simp) ?_
                refine AllReadyIn.cons rfl (fun K hK => ?_) ?_
                · have hq := HP2.out.below (HB3.out)
                  refine stepIn_append_rows rfl (.tmp 44) (.tmp 48) 34 rfl w3.heap.size 22 i0 (.slice none 0 0) 1 24 Try.underlying34 hi hz0 hz1 hz2 rfl (by decide) v rows.length (RL P C rows) (by first | rfl | simp [Act.eval, Act.put]) (hq.out.alloc _) ⟨W3.heap.size, 0, none⟩ 1 1 [.slice A3 L2.length c3] (by first | rfl | simp [Act.eval, Act.put]) rfl (cell_one_new _ _ _) (one_cellS _ _ _) (by unfold maxLen; omega) (by omega) (by have h1 := HB3.out.size; have h2 := HWD.out.size; have h3 := HC3.out.1; have h4 : W2.drew.heap.size = W2.heap.size := rfl; simp; omega) ?_
                  rintro v5 W5 ho5 hg5 -
                  have hp5 := HPD.out.push (below_to_drew HB3.out) (HO3.out) (by have h1 := HB3.out.size; have h2 := HWD.out.size; have h3 := HC3.out.1; have h4 : W2.drew.heap.size = W2.heap.size := rfl; omega) ho5 hg5
                  obtain ⟨A5, c5, rfl⟩ : ∃ A5 c5, v5 = .slice A5 (rows.length + 1) c5 := by obtain ⟨A5, c5, h5, _⟩ := hp5.own2; rw [List.length_append] at h5; exact ⟨A5, c5, h5⟩
                  have hne : ∀ q, v.ownBlock = some q → w3.heap.size ≤ q := fun q hq2 => (hq.out.lt q hq2).1
                  have hv5 : Boxed W5 w2.heap.size 34 v := (HV3.out.alloc _).kept hg5 (fun e => by have := hne _ e.symm; have := HC3.out.1; omega)
                  have fv5 := hv5.frozen
                  have cv5 := hv5.cell
                  have HV5 := hid hv5
                  have HP5 := hid hp5
                  have HG5 := hid hg5
                  have HNE := hid hne
                  have HQ := hid hq
                  clear ho5 hq hp5 hv5 hg5 hne
                  refine hK _ _ ?_
                  clear hK K
                  refine wpAnyIn_ready (rs := [6]) (by kernel_rfl) (by simp) ?_
                  refine AllReadyIn.cons rfl (fun K hK => ?_) ?_
                  · go_simp
                    refine hK _ _ ?_
                    clear hK K
                    refine wpAnyIn_done (by kernel_rfl) ?_ _
                    gi_wp2
                    have hs3 := HC3.out.1
                    have hs2 := HC3.out.2
                    have B23 : Below W.heap.size W W3 := Below.next HB2.out HB3.out
                    have B5 : Below w3.heap.size W W5 := ((B23.mono (by omega)).alloc (by have := B23.size; omega) _).grown HG5.out (by have := B23.size; simp; omega) (fun q hq2 => HNE.out q hq2)
                    have hs5 := (((boxed_keep hs B23).alloc (.cells #[.slice A3 L2.length c3] 22)).kept HG5.out (fun e => by have := HNE.out _ e.symm; omega)).other (B' := w2.heap.size) (by omega) (.slice A5 (rows.length + 1) c5)
                    have hz5 := ((((HZ2.out.next HB3.out).alloc (.cells #[.slice A3 L2.length c3] 22)).keep (HG5.out.block _ (by have := HZ2.out.lt; have := HB3.out.size; simp; omega) (fun e => by have := HNE.out _ e.symm; omega))).other (g' := w2.heap.size) (k := 0) (by omega) (.slice A5 (rows.length + 1) c5))
                    have hpn := HP5.out.setOther (b := w2.heap.size) (k := 0) (u := .slice A5 (rows.length + 1) c5) (by omega)
                    have hkf : KeepsFrom w3.heap.size W W5 := (keepsB_below _ (B23.alloc B23.size (.cells #[.slice A3 L2.length c3] 22))).trans (keepsB_row _ HG5.out (own_isCells (HQ.out.out.alloc _)))
                    have B6 : Below w1.heap.size W (W5.setCell ⟨w2.heap.size, 0, none⟩ (.slice A5 (rows.length + 1) c5)) := (B5.mono (by omega)).setCell (by show w1.heap.size ≤ w2.heap.size; omega) _
                    exact ⟨hkf.trans (keepsB_set _ _ _ _ _ (by omega)), ⟨B6, hs5.trans hs.symm⟩, ⟨⟨_, _, _, HV5.out.set _, by rw [HN.out]; exact hpn⟩, hs5, hz5⟩, hB.trans B6⟩
                  exact AllReadyIn.nil
                exact AllReadyIn.nil
              exact AllReadyIn.nil
            exact AllReadyIn.nil
          refine AllReadyIn.cons rfl (fun K hK => ?_) ?_
          · refine stepIn_call1 rfl 50 (.tmp 46) 22 rfl (.slice A1 L1.length c1) (by first | rfl | simp [Act.eval, Act.put]) (EG.out _ _) (fun u w' => ∃ A3 c3, u = .slice A3 L2.length c3 ∧ Own w' W2.drew.heap.size A3 c3 L2 ∧ Below W2.drew.heap.size W2.drew w') ((HPO.out W2.drew A1 c1 HO2.out).mono (by rintro e w' ⟨A3, c3, rfl, h1, h2⟩; exact ⟨_, rfl, A3, c3, rfl, h1, h2⟩)) ?_
            rintro _ W3 ⟨A3, c3, rfl, o3, B3⟩
            have HV3 := hid (boxed_keep HV2.out (below_of_drew B3))
            have HO3 := hid o3
            have HB3 := hid (below_of_drew B3)
            have kv3 := HV3.out.cell
            have kv4 := (HV3.out.alloc (.cells #[.slice A3 L2.length c3] 22)).cell
            clear o3 B3
            refine hK _ _ ?_
            clear hK K
            refine wpAnyIn_ready (rs := [0, 4]) (by kernel_rfl) (by simp) ?_
            refine AllReadyIn.cons rfl (fun K hK => ?_) ?_
            · go_simp
              refine hK _ _ ?_
              clear hK K
              refine wpAnyIn_ready (rs := [4]) (by kernel_rfl) (by simp) ?_
              refine AllReadyIn.cons rfl (fun K hK => ?_) ?_
              · go_simp
                refine hK _ _ ?_
                clear hK K
                refine wpAnyIn_ready (rs := [5]) (by kernel_rfl) (by simp) ?_
                refine AllReadyIn.cons rfl (fun K hK => ?_) ?_
                · have hq := HP2.out.below (HB3.out)
                  refine stepIn_append_rows rfl (.tmp 44) (.tmp 48) 34 rfl w3.heap.size 22 i0 (.slice none 0 0) 1 24 Try.underlying34 hi hz0 hz1 hz2 rfl (by decide) v rows.length (RL P C rows) (by first | rfl | simp [Act.eval, Act.put]) (hq.out.alloc _) ⟨W3.heap.size, 0, none⟩ 1 1 [.slice A3 L2.length c3] (by first | rfl | simp [Act.eval, Act.put]) rfl (cell_one_new _ _ _) (one_cellS _ _ _) (by unfold maxLen; omega) (by omega) (by have h1 := HB3.out.size; have h2 := HWD.out.size; have h3 := HC3.out.1; have h4 : W2.drew.heap.size = W2.heap.size := rfl; simp; omega) ?_
                  rintro v5 W5 ho5 hg5 -
                  have hp5 := HPD.out.push (below_to_drew HB3.out) (HO3.out) (by have h1 := HB3.out.size; have h2 := HWD.out.size; have h3 := HC3.out.1; have h4 : W2.drew.heap.size = W2.heap.size := rfl; omega) ho5 hg5
                  obtain ⟨A5, c5, rfl⟩ : ∃ A5 c5, v5 = .slice A5 (rows.length + 1) c5 := by obtain ⟨A5, c5, h5, _⟩ := hp5.own2; rw [List.length_append] at h5; exact ⟨A5, c5, h5⟩
                  have hne : ∀ q, v.ownBlock = some q → w3.heap.size ≤ q := fun q hq2 => (hq.out.lt q hq2).1
                  have hv5 : Boxed W5 w2.heap.size 34 v := (HV3.out.alloc _).kept hg5 (fun e => by have := hne _ e.symm; have := HC3.out.1; omega)
                  have fv5 := hv5.frozen
                  have cv5 := hv5.cell
                  have HV5 := hid hv5
                  have HP5 := hid hp5
                  have HG5 := hid hg5
                  have HNE := hid hne
                  have HQ := hid hq
                  clear ho5 hq hp5 hv5 hg5 hne
                  refine hK _ _ ?_
                  clear hK K
                  refine wpAnyIn_ready (rs := [6]) (by kernel_rfl) (by simp) ?_
                  refine AllReadyIn.cons rfl (fun K hK => ?_) ?_
                  · go_simp
                    refine hK _ _ ?_
                    clear hK K
                    refine wpAnyIn_done (by kernel_rfl) ?_ _
                    gi_wp2
                    have hs3 := HC3.out.1
                    have hs2 := HC3.out.2
                    have B23 : Below W.heap.size W W3 := Below.next HB2.out HB3.out
                    have B5 : Below w3.heap.size W W5 := ((B23.mono (by omega)).alloc (by have := B23.size; omega) _).grown HG5.out (by have := B23.size; simp; omega) (fun q hq2 => HNE.out q hq2)
                    have hs5 := (((boxed_keep hs B23).alloc (.cells #[.slice A3 L2.length c3] 22)).kept HG5.out (fun e => by have := HNE.out _ e.symm; omega)).other (B' := w2.heap.size) (by omega) (.slice A5 (rows.length + 1) c5)
                    have hz5 := ((((HZ2.out.next HB3.out).alloc (.cells #[.slice A3 L2.length c3] 22)).keep (HG5.out.block _ (by have := HZ2.out.lt; have := HB3.out.size; simp; omega) (fun e => by have := HNE.out _ e.symm; omega))).other (g' := w2.heap.size) (k := 0) (by omega) (.slice A5 (rows.length + 1) c5))
                    have hpn := HP5.out.setOther (b := w2.heap.size) (k := 0) (u := .slice A5 (rows.length + 1) c5) (by omega)
                    have hkf : KeepsFrom w3.heap.size W W5 := (keepsB_below _ (B23.alloc B23.size (.cells #[.slice A3 L2.length c3] 22))).trans (keepsB_row _ HG5.out (own_isCells (HQ.out.out.alloc _)))
                    have B6 : Below w1.heap.size W (W5.setCell ⟨w2.heap.size, 0, none⟩ (.slice A5 (rows.length + 1) c5)) := (B5.mono (by omega)).setCell (by show w1.heap.size ≤ w2.heap.size; omega) _
                    exact ⟨hkf.trans (keepsB_set _ _ _ _ _ (by omega)), ⟨B6, hs5.trans hs.symm⟩, ⟨⟨_, _, _, HV5.out.set _, by rw [HN.out]; exact hpn⟩, hs5, hz5⟩, hB.trans B6⟩
                  exact AllReadyIn.nil
                exact AllReadyIn.nil
              exact AllReadyIn.nil
            refine AllReadyIn.cons rfl (fun K hK => ?_) ?_
            · go_simp
              refine hK _ _ ?_
              clear hK K
              refine wpAnyIn_ready (rs := [0]) (by kernel_rfl) (by simp) ?_
              refine AllReadyIn.cons rfl (fun K hK => ?_) ?_
              · go_simp
                refine hK _ _ ?_
                clear hK K
                refine wpAnyIn_ready (rs := [5]) (by kernel_rfl) (by simp) ?_
                refine AllReadyIn.cons rfl (fun K hK => ?_) ?_
                · have hq := HP2.out.below (HB3.out)
                  refine stepIn_append_rows rfl (.tmp 44) (.tmp 48) 34 rfl w3.heap.size 22 i0 (.slice none 0 0) 1 24 Try.underlying34 hi hz0 hz1 hz2 rfl (by decide) v rows.length (RL P C rows) (by first | rfl | simp [Act.eval, Act.put]) (hq.out.alloc _) ⟨W3.heap.size, 0, none⟩ 1 1 [.slice A3 L2.length c3] (by first | rfl | simp [Act.eval, Act.put]) rfl (cell_one_new _ _ _) (one_cellS _ _ _) (by unfold maxLen; omega) (by omega) (by have h1 := HB3.out.size; have h2 := HWD.out.size; have h3 := HC3.out.1; have h4 : W2.drew.heap.size = W2.heap.size := rfl; simp; omega) ?_
                  rintro v5 W5 ho5 hg5 -
                  have hp5 := HPD.out.push (below_to_drew HB3.out) (HO3.out) (by have h1 := HB3.out.size; have h2 := HWD.out.size; have h3 := HC3.out.1; have h4 : W2.drew.heap.size = W2.heap.size := rfl; omega) ho5 hg5
                  obtain ⟨A5, c5, rfl⟩ : ∃ A5 c5, v5 = .slice A5 (rows.length + 1) c5 := by obtain ⟨A5, c5, h5, _⟩ := hp5.own2; rw [List.length_append] at h5; exact ⟨A5, c5, h5⟩
                  have hne : ∀ q, v.ownBlock = some q → w3.heap.size ≤ q := fun q hq2 => (hq.out.lt q hq2).1
                  have hv5 : Boxed W5 w2.heap.size 34 v := (HV3.out.alloc _).kept hg5 (fun e => by have := hne _ e.symm; have := HC3.out.1; omega)
                  have fv5 := hv5.frozen
                  have cv5 := hv5.cell
                  have HV5 := hid hv5
                  have HP5 := hid hp5
                  have HG5 := hid hg5
                  have HNE := hid hne
                  have HQ := hid hq
                  clear ho5 hq hp5 hv5 hg5 hne
                  refine hK _ _ ?_
                  clear hK K
                  refine wpAnyIn_ready (rs := [6]) (by kernel_rfl) (by simp) ?_
                  refine AllReadyIn.cons rfl (fun K hK => ?_) ?_
                  · go_simp
                    refine hK _ _ ?_
                    clear hK K
                    refine wpAnyIn_done (by kernel_rfl) ?_ _
                    gi_wp2
                    have hs3 := HC3.out.1
                    have hs2 := HC3.out.2
                    have B23 : Below W.heap.size W W3 := Below.next HB2.out HB3.out
                    have B5 : Below w3.heap.size W W5 := ((B23.mono (by omega)).alloc (by have := B23.size; omega) _).grown HG5.out (by have := B23.size; simp; omega) (fun q hq2 => HNE.out q hq2)
                    have hs5 := (((boxed_keep hs B23).alloc (.cells #[.slice A3 L2.length c3] 22)).kept HG5.out (fun e => by have := HNE.out _ e.symm; omega)).other (B' := w2.heap.size) (by omega) (.slice A5 (rows.length + 1) c5)
                    have hz5 := ((((HZ2.out.next HB3.out).alloc (.cells #[.slice A3 L2.length c3] 22)).keep (HG5.out.block _ (by have := HZ2.out.lt; have := HB3.out.size; simp; omega) (fun e => by have := HNE.out _ e.symm; omega))).other (g' := w2.heap.size) (k := 0) (by omega) (.slice A5 (rows.length + 1) c5))
                    have hpn := HP5.out.setOther (b := w2.heap.size) (k := 0) (u := .slice A5 (rows.length + 1) c5) (by omega)
                    have hkf : KeepsFrom w3.heap.size W W5 := (keepsB_below _ (B23.alloc B23.size (.cells #[.slice A3 L2.length c3] 22))).trans (keepsB_row _ HG5.out (own_isCells (HQ.out.out.alloc _)))
                    have B6 : Below w1.heap.size W (W5.setCell ⟨w2.heap.size, 0, none⟩ (.slice A5 (rows.length + 1) c5)) := (B5.mono (by omega)).setCell (by show w1.heap.size ≤ w2.heap.size; omega) _
                    exact ⟨hkf.trans (keepsB_set _ _ _ _ _ (by omega)), ⟨B6, hs5.trans hs.symm⟩, ⟨⟨_, _, _, HV5.out.set _, by rw [HN.out]; exact hpn⟩, hs5, hz5⟩, hB.trans B6⟩
                  exact AllReadyIn.nil
                exact AllReadyIn.nil
              exact AllReadyIn.nil
            exact AllReadyIn.nil
          exact AllReadyIn.nil
        exact AllReadyIn.nil
      exact AllReadyIn.nil
  case done =>
    rintro D ys W hD rfl ⟨⟨⟨v, P, C, hv, hp⟩, hs, hz⟩, hB⟩ hKD
    rw [HXL.out, HALL.out] at hp
    have hp6 : Push (W.putObj D (.deferred none)) w3.heap.size v (arL t xs n) P C := ⟨ownsRow_putObj hp.out _ hKD rfl, fun j hj => ownsRow_putObj (hp.row j hj) _ hKD rfl, hp.apart⟩
    obtain ⟨A5, c5, rfl, o5⟩ := hp6.own2
    have hcv := hv.cell
    have hsz := b1.size
    have HC3 := hid (And.intro hs3 hs2)
    have HO5 := hid o5
    have HB5 := hid hB
    clear o5 hB hp hp6 hs2 hs3
    gi_wp2
    have hs3 := HC3.out.1
    have hs2 := HC3.out.2
    refine ⟨by simp, .inl ⟨_, _, rfl, run_takeDeferred hKD, ?_⟩⟩
    exact ⟨_, results_tmp2 rfl _ _ _, A5, c5, rfl, HO5.out.more (by omega), (Below.next b1 HB5.out).trans (belowK_b (w := w) (Nat.le_refl _) W D _ _ (by omega) hKD rfl rfl)⟩

theorem i64_wrap (x : Int) : I64 (wrap64 x) := by unfold I64 wrap64; omega
set_option maxRecDepth 100000 in
set_option maxHeartbeats 4000000 in
theorem AddedRims_no (A : Option Addr) (cap : Nat) (p : List Int) (t : Int) (w : World) (hl : p.length ≤ 1048576) (hc : Cells w A p) (ht : I64 t) (h : arOk p t = false) :
    Calls Try.prog 20 #[.slice A p.length cap, .int .i64 t] w fun e w' => ∃ A' c', e = .returned (.tuple #[.slice A' ([] : List (List Int)).length c', .bool false]) ∧ Own2 w' w.heap.size w'.heap.size A' c' [] ∧ Below w.heap.size w w' := by
  refine (callsIn_wide (n := 5)).1 ?_
  refine callsIn_of_wp_marks Try.func20 rfl trivial ?_ rfl
  simp only [Try.ntmps20, List.size_toArray, List.length_cons, List.length_nil, Nat.reduceAdd, Nat.reduceSub, Array.replicate_succ, Array.replicate_zero, List.push_toArray, List.append_toArray, List.nil_append, List.cons_append]
  have HAB := hid (impl_AbacusOf A cap p t (wrap64 ((p.length : Int) + t)) w hl hc ht (i64_wrap _))
  cases hcr : crB p t
  · have hno : abaOk p t (wrap64 ((p.length : Int) + t)) = false := by
      unfold crB at hcr
      unfold abaOk beadsOk
      cases hg : good p
      · simp
      · rw [hg, Bool.true_and] at hcr; rw [hcr]; simp
    have HAB := hid (by have h := HAB.out; rw [show abaR p t (wrap64 ((p.length : Int) + t)) = 0 by simp [abaR, hno], show abaF p t (wrap64 ((p.length : Int) + t)) = [] by simp [abaF, hno], hno] at h; exact h)
    obtain ⟨n, hn⟩ : ∃ n, n = wrap64 ((p.length : Int) + t) := ⟨_, rfl⟩
    rw [← hn] at HAB
    have HN := hid hn
    clear hno hcr h hn
    gi_wp2
    rw [← HN.out]
    refine ⟨trivial, (callsIn_wide.2 HAB.out).mono ?_⟩
    rintro e w1 ⟨Aa, ca, rfl, oa, b1⟩
    have b2 : Below w.heap.size w (w1.alloc (.cells #[.int .i64 0, .slice Aa ([] : List Int).length ca] 56)) := b1.alloc b1.size _
    have HB2 := hid b2
    clear b2
    gi_wp2
    refine ⟨trivial, ?_⟩
    rename_i K0 hK0
    refine hK0 _ _ ?_
    clear hK0 K0
    gi_wp2
    exact ⟨_, results_tmp2 rfl _ _ _, none, 0, rfl, own2_nil _ _ _, HB2.out⟩
  · obtain ⟨hg, hti⟩ := crB_good hcr
    have G := (good_iff p).1 hg
    have hlen := G.len
    have hs30 := G.sum
    have hs0 := G.sum0
    have ht6 := inB_iff.1 hti
    have hbig : ¬ p.sum + t ≤ 30 := by
      unfold arOk at h; rw [hcr, Bool.true_and, decide_eq_false_iff_not] at h; exact h
    obtain ⟨t, rfl⟩ : ∃ k : Nat, t = k := ⟨t.toNat, by omega⟩
    have hnw : wrap64 ((p.length : Int) + (t : Int)) = ((p.length + t : Nat) : Int) := by unfold wrap64; omega
    have hni : IntKind.i64.wrap ((p.length : Int) + (t : Int)) = ((p.length + t : Nat) : Int) := by rw [IntWalk.i64_in _ (by omega)]; omega
    have hok : abaOk p t ((p.length + t : Nat) : Int) = true := by
      unfold abaOk beadsOk
      rw [hg, hti, inB_iff.2 (by omega)]; rfl
    have hab := HAB.out
    rw [hnw] at hab
    clear hnw
    rw [show abaR p t ((p.length + t : Nat) : Int) = (t : Int) by unfold abaR; rw [if_pos hok], hok] at hab
    obtain ⟨n, hn⟩ : ∃ n, n = p.length + t := ⟨_, rfl⟩
    rw [← hn] at hab hni
    obtain ⟨xs, hxs⟩ : ∃ xs, xs = abaF p t (n : Int) := ⟨_, rfl⟩
    rw [← hxs] at hab
    have HA2 := hid hab
    have HCN := hid fun W (h : Cells W A p) => cellCount_any A p cap W hlen (fun j hj => by have := G.pos j hj; have := G.le j hj; omega) h
    obtain ⟨s, hs⟩ : ∃ s : Nat, p.sum = s := ⟨p.sum.toNat, by omega⟩
    rw [hs] at HCN
    have hgt : (30 : Int) < (s : Int) + t := by omega
    have hss : (s : Int) + t ≤ 36 := by omega
    clear hg hti G hs30 hs0 hbig hok hab hxs hcr h HAB hs hn
    gi_wp2
    refine ⟨trivial, (callsIn_wide.2 HA2.out).mono ?_⟩
    rintro e w1 ⟨Aa, ca, rfl, oa, b1⟩
    obtain ⟨w2, hw2⟩ : ∃ w2, w2 = w1.alloc (.cells #[.int .i64 t, .slice Aa xs.length ca] 56) := ⟨_, rfl⟩
    have b2 : Below w1.heap.size w1 w2 := by rw [hw2]; exact (Below.refl _ _).alloc (Nat.le_refl _) _
    have HW2 := hid hw2
    have HB2 := hid (Below.next b1 b2)
    have hc2 := hc.below HB2.out
    have HC2 := hid hc2
    clear hw2 b2 hc2
    gi_wp2
    rw [← HW2.out]
    refine ⟨trivial, (callsIn_wide.2 (HCN.out _ HC2.out)).mono ?_⟩
    rintro e w' ⟨rfl, rfl⟩
    gi_wp2
    exact ⟨_, results_tmp2 rfl _ _ _, none, 0, rfl, own2_nil _ _ _, HB2.out⟩
theorem impl_AddedRims (A : Option Addr) (c : Nat) (p : List Int) (t : Int) (w : World) (hl : p.length ≤ 1048576) (hc : Cells w A p) (ht : I64 t) :
    Calls Try.prog 20 #[.slice A p.length c, .int .i64 t] w fun e w' => ∃ A' c', e = .returned (.tuple #[.slice A' (arF p t).length c', .bool (arOk p t)]) ∧ Own2 w' w.heap.size w'.heap.size A' c' (arF p t) ∧ Below w.heap.size w w' := by
  cases h : arOk p t
  · rw [show arF p t = [] by simp [arF, h]]
    exact AddedRims_no A c p t w hl hc ht h
  · have h2 := h
    unfold arOk at h2
    rw [Bool.and_eq_true, decide_eq_true_eq] at h2
    obtain ⟨hg, hti⟩ := crB_good h2.1
    have ht6 := inB_iff.1 hti
    obtain ⟨t, rfl⟩ : ∃ k : Nat, t = k := ⟨t.toNat, by omega⟩
    rw [show arF p t = arL t (beadsL p (p.length + t)) (p.length + t) by simp [arF, h]]
    exact (callsIn_wide (n := 5)).1 (AddedRims_in t (p.length + t) A c p w ((good_iff p).1 hg) (by omega) rfl h2.2 hc)
theorem tot_mul {n : Nat} : ∀ {rows : List (List Int)}, (∀ r ∈ rows, r.length ≤ n) → tot rows ≤ rows.length * n
  | [], _ => by simp [tot]
  | r :: rows, h => by
    have h1 := h r (List.mem_cons_self ..)
    have h2 := tot_mul (rows := rows) fun x hx => h x (List.mem_cons_of_mem _ hx)
    simp only [tot, List.length_cons, Nat.succ_mul]
    omega
theorem bound_AddedRims (p : List Int) (t : Int) : (arF p t).length ≤ 1048576 ∧ tot (arF p t) ≤ 1048576 := by
  unfold arF
  split
  · rename_i h
    unfold arOk at h
    rw [Bool.and_eq_true, decide_eq_true_eq] at h
    obtain ⟨hg, hti⟩ := crB_good h.1
    have ht6 := inB_iff.1 hti
    have G := (good_iff p).1 hg
    have hl := G.len
    have hn : p.length + t.toNat ≤ 36 := by omega
    have h1 := arL_len t (beadsL p (p.length + t.toNat)) (p.length + t.toNat)
    have h2 := tot_mul (n := 36) (rows := arL t (beadsL p (p.length + t.toNat)) (p.length + t.toNat)) fun r hr => by
      obtain ⟨b, _, hb, rfl⟩ := arL_mem hr
      have h3 := lfP_len (bead_pw G (n := p.length + t.toNat) (by omega) (by omega)) hb
      rw [beadsL_len] at h3
      omega
    have h4 := Nat.mul_le_mul_right 36 h1
    constructor <;> omega
  · simp [tot]
end Go.Proofs.Ytmjncedijddmmaa
