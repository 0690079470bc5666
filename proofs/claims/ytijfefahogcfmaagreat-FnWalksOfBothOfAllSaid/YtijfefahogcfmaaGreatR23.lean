/-
  Several texts in one.
-/
import Derived.Test.YtijfefahogcfmaaGreatR06
import Derived.Test.YtijfefahogcfmaaGreatR20
import Derived.Test.YtijfefahogcfmaaGreatR22
import Derived.Test.YtijfefahogcfmaaGreatCB
import Derived.Deep.RegionHeld3
import Derived.Deep.CutRange
import Derived.ArgAppend
/-
  Contracts: first hooks copied; a core with one hook more.
-/
namespace Go.Proofs.YtijfefahogcfmaaGreat
open Go.RowKit

set_option maxRecDepth 100000 in
set_option maxHeartbeats 1000000 in
theorem cloneH_any {B : Nat} (A : Option Addr) (c : Nat) (xs : List Int) (w : World) (hl : xs.length ≤ 1048576) (ho : Own w B A c xs) :
    Calls Tryz.prog 82 #[.slice A xs.length c] w fun e w' => ∃ A' c', e = .returned (.slice A' xs.length c') ∧ Own w' w.heap.size A' c' xs ∧ Below w.heap.size w w' := by
  obtain ⟨i0, hi, hz0, hz1, hz2⟩ := info_parts Tryz.infoInt
  cases A with
  | none =>
    obtain ⟨h0, rfl⟩ := own_none ho
    have e : xs = [] := List.eq_nil_of_length_eq_zero h0
    subst e
    have hnil := fun w => Lib.run_eql_slice_nil (P := Tryz.prog) w 31 3 none 0 0 0 0 Tryz.underlying31
    go_enter Tryz.func82, Tryz.ntmps82
    go_wp2_with fail
    go_ret
    exact ⟨none, 0, rfl, own_nil _ _, Below.refl _ _⟩
  | some ad =>
    have hm0 := World.ownsRow_made (base := w.heap.size) (e := 3) (size := 1) w #[] 0 (Nat.le_refl _) (by unfold maxLen; omega) rfl
    have hb0 : Below w.heap.size w (w.alloc (.cells #[] 3)) := (Below.refl _ _).alloc (Nat.le_refl _) _
    have hat := own_news ho (.cells #[] 3)
    have hnil := fun w => Lib.run_eql_slice_nil (P := Tryz.prog) w 31 3 (some ad) xs.length c 0 0 Tryz.underlying31
    go_enter Tryz.func82, Tryz.ntmps82
    go_wp2_with (at_builtin; refine wpList_append_own _ rfl _ _ 31 rfl w.heap.size 3 i0 (.int .i64 0) 1 8 Tryz.underlying31 hi hz0 hz1 hz2 rfl (by decide) _ 0 [] rfl hm0 ad xs.length c (IL xs) rfl (by simp [IL]) hat (IL_oneC xs) (by unfold maxLen; omega) (by omega) (by simp) ?_)
    intro v' w1 hown' hgrow _
    have hb1 : Below w.heap.size w w1 := hb0.grown hgrow (by simp) (fun q hq => (hm0.lt q hq).1)
    obtain ⟨A', c', rfl, ho'⟩ := own_form hown' rfl
    clear hown' hgrow
    go_wp2_with fail
    go_ret
    exact ⟨A', c', rfl, ho', hb1⟩

theorem one_there {w : World} {g : Nat} {x : Value} (h : w.cell? ⟨g, 0, none⟩ = some x) : ∀ ad, some (⟨g, 0, none⟩ : Addr) = some ad → ∀ j u, [x][j]? = some u → w.cell? (ad.add j) = some u := by
  intro ad e j u hu
  cases e
  match j, hu with
  | 0, hu => simp at hu; subst hu; exact h
set_option maxRecDepth 100000 in
set_option maxHeartbeats 4000000 in
theorem with_any {B : Nat} (A : Option Addr) (c : Nat) (a b x : Int) (xs : List Int) (w : World) (hl : xs.length ≤ 1000) (ho : Own w B A c xs) :
    Calls Tryz.prog 66 #[.agg #[.slice A xs.length c, .int .i64 a, .int .i64 b], .int .i64 x] w fun e w' => ∃ A' c', e = .returned (.agg #[.slice A' (xs.length + 1) c', .int .i64 a, .int .i64 b]) ∧ Own w' w.heap.size A' c' (xs ++ [x]) ∧ Below w.heap.size w w' := by
  obtain ⟨i0, hi, hz0, hz1, hz2⟩ := info_parts Tryz.infoInt
  have X := hid (Box3.new w 35 (.slice A xs.length c) (.int .i64 a) (.int .i64 b))
  have b1 : Below w.heap.size w (w.alloc (.cells #[.slice A xs.length c, .int .i64 a, .int .i64 b] 35)) := (Below.refl _ _).alloc (Nat.le_refl _) _
  obtain ⟨w1, hw1⟩ : ∃ w1, w1 = w.alloc (.cells #[.slice A xs.length c, .int .i64 a, .int .i64 b] 35) := ⟨_, rfl⟩
  have H1E := hid (show w1.heap.size = w.heap.size + 1 by rw [hw1]; simp)
  have hs1 : w.heap.size < w1.heap.size := by rw [hw1]; simp
  have HW := hid hw1
  rw [← hw1] at b1 X
  clear hw1
  have Y := hid (Box3.new w1 35 (.slice none 0 0) (.int .i64 0) (.int .i64 0))
  have X2 := hid (X.out.alloc (.cells #[.slice none 0 0, .int .i64 0, .int .i64 0] 35))
  have b2 := b1.alloc b1.size (.cells #[.slice none 0 0, .int .i64 0, .int .i64 0] 35)
  have O2 := hid (ho.below b2)
  have x0 := X2.out.cell0
  have x1 := X2.out.cell1
  have x2 := X2.out.cell2
  obtain ⟨q, hq⟩ : ∃ q, q = xs ++ [x] := ⟨_, rfl⟩
  have HQL := hid (show q.length = xs.length + 1 by rw [hq]; simp)
  have HIQ := hid (show q = xs ++ [x] from hq)
  rw [← hq]
  clear hq
  go_enter Tryz.func66, Tryz.ntmps66
  go_upto_region 1 with fail
  rw [← HW.out]
  clear x0 x1 x2
  obtain ⟨w2, hw2⟩ : ∃ w2, w2 = w1.alloc (.cells #[.slice none 0 0, .int .i64 0, .int .i64 0] 35) := ⟨_, rfl⟩
  have h12 : w1.heap.size < w2.heap.size := by rw [hw2]; simp
  rw [← hw2] at X2 Y b2 O2 ⊢
  rw [H1E.out] at Y
  have h22 : w.heap.size + 1 < w2.heap.size := by have := H1E.out; omega
  clear hw2 h12
  have XD : Hid (Box3 w2.drew w.heap.size 35 (.slice A xs.length c) (.int .i64 a) (.int .i64 b)) := X2
  have YD : Hid (Box3 w2.drew (w.heap.size + 1) 35 (.slice none 0 0) (.int .i64 0) (.int .i64 0)) := Y
  have OD : Hid (Own w2.drew B A c xs) := O2
  have bd : Below w.heap.size w w2.drew := below_drewN b2 1
  have hsd : w2.drew.heap.size = w2.heap.size := rfl
  have HSD := hid hsd
  have XS := hid (X2.out.alloc (.cells #[.int .i64 x] 3))
  have ODS := hid (OD.out.below ((Below.refl w2.drew.heap.size w2.drew).alloc (Nat.le_refl _) (.cells #[.int .i64 x] 3)))
  have k0 := XD.out.cell0
  have k1 := XD.out.cell1
  have k2 := XD.out.cell2
  have s0 := XS.out.cell0
  have s1 := XS.out.cell1
  have s2 := XS.out.cell2
  have HCL := hid fun W (h : Own W B A c xs) => cloneH_any A c xs W (by omega) h
  have eg : ∀ args w, (callFunc 82 args).run Tryz.prog w = .ok (.enter 82 args) w := enters_of Tryz.func82 (by kernel_rfl) rfl
  have EG := hid eg
  clear eg hsd
  go_region_law (first | (refine step_call _ rfl 82 #[.slice A xs.length c] (exec_call1 _ _ (.tmp 6) 31 rfl _ (by simp [Act.eval]) (EG.out _ _)) (fun v w' => ∃ A3 c3, v = .slice A3 xs.length c3 ∧ Own w' w2.drew.heap.size A3 c3 xs ∧ Below w2.drew.heap.size w2.drew w') ((HCL.out _ OD.out).mono (by rintro e w' ⟨A3, c3, rfl, o3, b3⟩; exact ⟨_, rfl, A3, c3, rfl, o3, b3⟩)) ?_; rintro _ w3 ⟨A3, c3, rfl, o3, b3⟩; have O3 := hid o3; have B3 := hid b3; have hs3 := B3.out.size; have hs3e : w2.heap.size ≤ w3.heap.size := hs3; have X3 := XD.out.next B3.out; have z1 := X3.cell1; have z2 := X3.cell2; have X3s := X3.alloc (.cells #[.int .i64 x] 3); have zs1 := X3s.cell1; have zs2 := X3s.cell2; clear o3 b3) | (refine step_call _ rfl 82 #[.slice A xs.length c] (exec_call1 _ _ (.tmp 6) 31 rfl _ (by simp [Act.eval]) (EG.out _ _)) (fun v w' => ∃ A3 c3, v = .slice A3 xs.length c3 ∧ Own w' w2.drew.heap.size A3 c3 xs ∧ Below (w2.drew.alloc (.cells #[.int .i64 x] 3)).heap.size (w2.drew.alloc (.cells #[.int .i64 x] 3)) w') ((HCL.out _ ODS.out).mono (by rintro e w' ⟨A3, c3, rfl, o3, b3⟩; exact ⟨_, rfl, A3, c3, rfl, o3.more (by simp), b3⟩)) ?_; rintro _ w3 ⟨A3, c3, rfl, o3, b3⟩; have O3 := hid o3; have B3 := hid (Below.next ((Below.refl w2.drew.heap.size w2.drew).alloc (Nat.le_refl _) (.cells #[.int .i64 x] 3)) b3); have hs3 := B3.out.size; have hs3e : w2.heap.size ≤ w3.heap.size := hs3; have X3 := XD.out.next B3.out; have z1 := X3.cell1; have z2 := X3.cell2; have SC := hid ((b3.cell (p := ⟨w2.drew.heap.size, 0, none⟩) (by simp)).trans (one_at (w := w2.drew) (t := 3) 0 (.int .i64 x) rfl)); clear o3 b3) | (refine step_append_opt _ rfl (.tmp 7) (.tmp 9) 31 rfl w2.drew.heap.size 3 i0 (.int .i64 0) 1 8 Tryz.underlying31 hi hz0 hz1 hz2 rfl (by decide) (.slice A3 xs.length c3) xs.length (IL xs) (by simp [Act.eval]) (O3.out.alloc _) (some ⟨w3.heap.size, 0, none⟩) 1 1 [.int .i64 x] (by simp [Act.eval]) rfl (fun e => by cases e) (fun ad e => by cases e; exact one_at) (one_cell _) (by unfold maxLen; omega) (by omega) (by simp; omega) ?_; intro v5 w5 ho5 hg5; have b5 : Below w2.drew.heap.size w2.drew w5 := (B3.out.alloc B3.out.size _).grown hg5 (by simp; omega) (fun q hq => (O3.out.lt q hq).1); have hown5 := own_snoc HIQ.out ho5; obtain ⟨A5, c5, hv5, o5⟩ := own_form hown5 rfl; subst hv5; have O5 := hid o5; have B5 := hid b5; have X5 := XD.out.next b5; have t1 := X5.cell1; have t2 := X5.cell2; have y5 := YD.out.next b5; have f0 := y5.froz 0; have g0 := y5.cell0; have y6 := y5.set0 (.slice A5 q.length c5); have f1 := y6.froz 1; have g1 := y6.cell1; have y7 := y6.set1 (.int .i64 a); have f2 := y7.froz 2; have g2 := y7.cell2; have y8 := y7.set2 (.int .i64 b); clear ho5 hg5 hown5 o5 b5) | (refine step_append_opt _ rfl (.tmp 7) (.tmp 9) 31 rfl w2.drew.heap.size 3 i0 (.int .i64 0) 1 8 Tryz.underlying31 hi hz0 hz1 hz2 rfl (by decide) (.slice A3 xs.length c3) xs.length (IL xs) (by simp [Act.eval]) O3.out (some ⟨w2.drew.heap.size, 0, none⟩) 1 1 [.int .i64 x] (by simp [Act.eval]) rfl (fun e => by cases e) (one_there SC.out) (one_cell _) (by unfold maxLen; omega) (by omega) (by simp; omega) ?_; intro v5 w5 ho5 hg5; have b5 : Below w2.drew.heap.size w2.drew w5 := B3.out.grown hg5 (by omega) (fun q hq => (O3.out.lt q hq).1); have hown5 := own_snoc HIQ.out ho5; obtain ⟨A5, c5, hv5, o5⟩ := own_form hown5 rfl; subst hv5; have O5 := hid o5; have B5 := hid b5; have X5 := XD.out.next b5; have t1 := X5.cell1; have t2 := X5.cell2; have y5 := YD.out.next b5; have f0 := y5.froz 0; have g0 := y5.cell0; have y6 := y5.set0 (.slice A5 q.length c5); have f1 := y6.froz 1; have g1 := y6.cell1; have y7 := y6.set1 (.int .i64 a); have f2 := y7.froz 2; have g2 := y7.cell2; have y8 := y7.set2 (.int .i64 b); clear ho5 hg5 hown5 o5 b5))
  all_goals go_wp2_with fail
  all_goals
    have hq1 := O5.out.block
    refine bodyPost_ret (v := .agg #[.slice A5 q.length c5, .int .i64 a, .int .i64 b]) ?_ rfl ⟨A5, c5, by rw [HQL.out], (O5.out.keep fun k hk _ => ?_).more (by have := HSD.out; omega), (((Below.next bd B5.out).setCell (by simp) _).setCell (by simp) _).setCell (by simp) _⟩
    · exact results_cell_row rfl _ _ (w.heap.size + 1) 35 #[.slice A5 q.length c5, .int .i64 a, .int .i64 b] (0, 0) _ rfl y8 Tryz.underlying35 rfl (by kernel_rfl)
    · have hq2 := (hq1 k hk).1
      have := HSD.out
      exact ((Below.heap_setCell _ _ _ k (by simp; omega)).trans (Below.heap_setCell _ _ _ k (by simp; omega))).trans (Below.heap_setCell _ _ _ k (by simp; omega))
end Go.Proofs.YtijfefahogcfmaaGreat
/-
  A row of cores (rows of three cells each) that grows while its old header is read: the append that tells of the old block, the row's own facts.
-/
namespace Go.Proofs.YtijfefahogcfmaaGreat
open Go.RowKit

/-- An append onto a row of the call's own; besides: either the row stays where it is, or nothing old is written. -/
theorem run_append_keep {P : Program} (w : World) (base : Nat) (t ty e : TypeId) (i : TypeInfo) (z : Value) (size bytes : Nat) (ht : P.underlying t = some (.slice e)) (hi : P.info? e = some i) (hz : i.zero = some z)
    (hsize : i.size = size) (hby : i.bytes = bytes) (hzs : z.cells.size = size) (hsz : 0 < size)
    (v : Value) (n : Nat) (xs : List Value) (hown : w.ownsRow base e size v n xs)
    (a : Addr) (m c : Nat) (news : List Value) (hl : news.length = m * size) (hnews : ∀ j u, news[j]? = some u → w.cell? (a.add j) = some u) (h1 : ∀ u ∈ news, u.oneCell' = true)
    (h63 : n + m ≤ maxLen) (hbytes : (n + m) * bytes ≤ 140737488355328) (hbase : base ≤ w.heap.size) :
    ∃ v' w', (Builtin.append_ #[t, t] ty #[v, .slice (some a) m c]).run P w = .ok v' w' ∧ w'.ownsRow base e size v' (n + m) (xs ++ news) ∧ w.grownBy w' v.ownBlock ∧ (v'.ownBlock = v.ownBlock ∨ (w.grownBy w' none ∧ ∀ k, v'.ownBlock = some k → w.heap.size ≤ k)) := by
  obtain ⟨v', w', hr, h2, h3, -⟩ := run_append_own (P := P) w base t ty e i z size bytes ht hi hz hsize hby hzs hsz v n xs hown a m c news hl hnews h1 h63 hbytes hbase
  refine ⟨v', w', hr, h2, h3, ?_⟩
  rcases hown.2 with ⟨rfl, h0⟩ | ⟨g, cap, cur, rfl, hbg, hgg, hnc, hcm, hcs, htk⟩
  · obtain ⟨v2, w2, hr2, h4, -, -⟩ := run_append_own (P := P) w w.heap.size t ty e i z size bytes ht hi hz hsize hby hzs hsz (.slice none 0 0) n xs (by subst h0; rw [show xs = [] from List.eq_nil_of_length_eq_zero (by rw [hown.1]; simp)]; exact World.ownsRow_nil w _ _ _) a m c news hl hnews h1 h63 hbytes (Nat.le_refl _)
    rw [hr] at hr2
    injection hr2 with e1 e2
    subst e1
    exact .inr ⟨h3, fun k hk => (h4.lt k hk).1⟩
  · by_cases hroom : n + m ≤ cap
    · left
      have hcell : ∀ j, j < news.length → w.heap[g]? = some (.cells cur e (0, 0)) ∧ n * size + j < cur.size := fun j hj => ⟨hgg, by
        rw [hcs, ← Nat.sub_add_cancel hroom]
        have : (n + m) * size ≤ cap * size := Nat.mul_le_mul_right _ hroom
        rw [Nat.add_mul] at this
        rw [Nat.sub_add_cancel hroom]
        omega⟩
      subst hsize
      have hrr := run_append_room_cells (P := P) w t ty e i ht hi g 0 n cap a m c news hl hnews h1 hroom
        (fun j hj => by obtain ⟨q1, q2⟩ := hcell j hj; simp [World.cell?, q1, Nat.add_comm]; omega)
        (fun j hj => by obtain ⟨q1, q2⟩ := hcell j hj; simp [World.frozen?, q1])
      rw [hr] at hrr
      injection hrr with e1 e2
      rw [e1]
      rfl
    · right
      have hlen : xs.length = n * size := hown.1
      obtain ⟨v2, w2, hr2, h4, hg2⟩ := run_append_arg_grows (P := P) w t ty e i z size bytes ht hi hz hsize hby hzs hsz ⟨g, 0, none⟩ n cap xs hlen (hown.cells rfl) a m c news hl hnews (by omega) h63 hbytes
      rw [hr] at hr2
      injection hr2 with e1 e2
      rw [e2, e1]
      exact ⟨hg2, fun k hk => (h4.lt k hk).1⟩

theorem wpList_append_keep {P : Program} (w : World) {ops : Array Oper} {rest : List Oper} {o : Oper} {a : Act} {Q : Exit → Act → World → Prop}
    (hg : o.guard = none) (s x : Operand) (t : TypeId) (hop : o.op = Op.call { callee := Callee.builtin Builtin.append, args := #[s, x], argTypes := #[t, t] })
    (base : Nat) (e : TypeId) (i : TypeInfo) (z : Value) (size bytes : Nat) (ht : P.underlying t = some (.slice e)) (hi : P.info? e = some i) (hz : i.zero = some z) (hsize : i.size = size) (hby : i.bytes = bytes) (hzs : z.cells.size = size) (hsz : 0 < size)
    (v : Value) (n : Nat) (xs : List Value) (hs : a.eval s = v) (hown : w.ownsRow base e size v n xs)
    (ad : Addr) (m c : Nat) (news : List Value) (hx : a.eval x = .slice (some ad) m c) (hl : news.length = m * size) (hc : ∀ j u, news[j]? = some u → w.cell? (ad.add j) = some u) (h1c : ∀ u ∈ news, u.oneCell' = true)
    (b1 : n + m ≤ maxLen) (b2 : (n + m) * bytes ≤ 140737488355328) (hbase : base ≤ w.heap.size)
    (hK : ∀ v' w', w'.ownsRow base e size v' (n + m) (xs ++ news) → w.grownBy w' v.ownBlock → (v'.ownBlock = v.ownBlock ∨ (w.grownBy w' none ∧ ∀ k, v'.ownBlock = some k → w.heap.size ≤ k)) → wpList P ops Q rest (a.put o.dst v') w') :
    wpList P ops Q (o :: rest) a w := by
  refine wpList_plain hg fun K hK' => ?_
  obtain ⟨v', w', hrun, r1, r2, r3⟩ := run_append_keep (P := P) w base t o.type e i z size bytes ht hi hz hsize hby hzs hsz v n xs hown ad m c news hl hc h1c b1 b2 hbase
  unfold Oper.wp
  simp [execOp, hop, resolve, invoke, builtin, hs, hx, hrun, Result.andThen]
  exact hK' _ _ (hK v' w' r1 r2 r3)

/-- What an old header still reads. -/
def Snap (w : World) (g : Nat) (cs : List Value) : Prop := g < w.heap.size ∧ ∀ j u, cs[j]? = some u → w.cell? ⟨g, j, none⟩ = some u
theorem add_at (g j : Nat) : (⟨g, 0, none⟩ : Addr).add j = ⟨g, j, none⟩ := by
  unfold Addr.add
  split
  · rename_i h; subst h; rfl
  · simp
theorem Snap.of {w : World} {base e size : Nat} {g n c : Nat} {xs : List Value} (h : w.ownsRow base e size (.slice (some ⟨g, 0, none⟩) n c) n xs) : Snap w g xs :=
  ⟨(h.lt g rfl).2, fun j u hj => by have := h.cells rfl j u hj; rwa [add_at] at this⟩
theorem Snap.below {w w' : World} {g : Nat} {cs : List Value} (h : Snap w g cs) (hb : Below w.heap.size w w') : Snap w' g cs :=
  ⟨by have := hb.size; have := h.1; omega, fun j u hj => by rw [World.cell?_of_block (w := w) (hb.block g h.1)]; exact h.2 j u hj⟩
/-- The snapshot after an append onto the row: v before, v' after; the snapshot's cells are the first of the row's where it is the same block. -/
theorem Snap.grown {w w' : World} {g base e size n' : Nat} {cs xs ys : List Value} {v v' : Value} (h : Snap w g cs) (ho' : w'.ownsRow base e size v' n' (xs ++ ys)) (hg : w.grownBy w' v.ownBlock) (hd : v'.ownBlock = v.ownBlock ∨ (w.grownBy w' none ∧ ∀ k, v'.ownBlock = some k → w.heap.size ≤ k))
    (hp : v.ownBlock = some g → ∃ ds, xs = cs ++ ds) : Snap w' g cs := by
  refine ⟨by have := hg.size; have := h.1; omega, fun j u hj => ?_⟩
  by_cases hv : v.ownBlock = some g
  · rcases hd with hd | hd
    · obtain ⟨ds, rfl⟩ := hp hv
      have := ho'.cells (hd.trans hv) j u (by rw [List.append_assoc, List.getElem?_append_left (List.getElem?_eq_some_iff.1 hj).1]; exact hj)
      rwa [add_at] at this
    · rw [World.cell?_of_block (w := w) (hd.1.block g h.1 (by simp))]; exact h.2 j u hj
  · rw [World.cell?_of_block (w := w) (hg.block g h.1 (fun e => hv e.symm))]; exact h.2 j u hj

/-- The cells of a row of cores. -/
def CB (a b : Int) (P : Nat → Option Addr) (C : Nat → Nat) (rows : List (List Int)) : List Value := (List.range rows.length).flatMap fun j => [.slice (P j) (rows.getD j []).length (C j), .int .i64 a, .int .i64 b]
theorem flat3_len (f : Nat → List Value) (hf : ∀ j, (f j).length = 3) : ∀ n, ((List.range n).flatMap f).length = n * 3
  | 0 => rfl
  | n + 1 => by rw [List.range_succ, List.flatMap_append, List.length_append, flat3_len f hf n]; simp [hf]; omega
theorem flat3_at (f : Nat → List Value) (hf : ∀ j, (f j).length = 3) : ∀ n j t, j < n → t < 3 → ((List.range n).flatMap f)[j * 3 + t]? = (f j)[t]?
  | 0, j, _, h, _ => absurd h (by omega)
  | n + 1, j, t, hj, ht => by
    rw [List.range_succ, List.flatMap_append]
    by_cases h : j < n
    · rw [List.getElem?_append_left (by rw [flat3_len f hf]; omega)]
      exact flat3_at f hf n j t h ht
    · have e : j = n := by omega
      subst e
      rw [List.getElem?_append_right (by rw [flat3_len f hf]; omega), flat3_len f hf, Nat.add_sub_cancel_left]
      simp
theorem CB_len (a b : Int) (P : Nat → Option Addr) (C : Nat → Nat) (rows : List (List Int)) : (CB a b P C rows).length = rows.length * 3 := flat3_len _ (fun _ => rfl) _
theorem CB_at {a b : Int} {P : Nat → Option Addr} {C : Nat → Nat} {rows : List (List Int)} {j t : Nat} (hj : j < rows.length) (ht : t < 3) : (CB a b P C rows)[j * 3 + t]? = [Value.slice (P j) (rows.getD j []).length (C j), .int .i64 a, .int .i64 b][t]? := flat3_at _ (fun _ => rfl) _ _ _ hj ht
theorem flatMap_ext' {l : List Nat} {f g : Nat → List Value} (h : ∀ x ∈ l, f x = g x) : l.flatMap f = l.flatMap g := by rw [List.flatMap_def, List.flatMap_def, List.map_congr_left h]
theorem CB_snoc (a b : Int) (P : Nat → Option Addr) (C : Nat → Nat) (rows : List (List Int)) (r : List Int) (A : Option Addr) (c : Nat) :
    CB a b (setAt P rows.length A) (setAt C rows.length c) (rows ++ [r]) = CB a b P C rows ++ [.slice A r.length c, .int .i64 a, .int .i64 b] := by
  unfold CB
  rw [List.length_append, List.length_singleton, List.range_succ, List.flatMap_append]
  congr 1
  · refine flatMap_ext' fun j hj => ?_
    have hj' : j < rows.length := List.mem_range.1 hj
    rw [setAt_ne P A (by omega), setAt_ne C c (by omega), getD_snoc_lt rows r j hj']
  · simp [setAt_eq]

structure Cos (w : World) (B : Nat) (v : Value) (a b : Int) (rows : List (List Int)) (P : Nat → Option Addr) (C : Nat → Nat) : Prop where
  out : w.ownsRow B 35 3 v rows.length (CB a b P C rows)
  row : ∀ j, j < rows.length → Own w B (P j) (C j) (rows.getD j [])
theorem Cos.below {w w' : World} {B : Nat} {v : Value} {a b : Int} {rows : List (List Int)} {P : Nat → Option Addr} {C : Nat → Nat} (h : Cos w B v a b rows P C) (hb : Below w.heap.size w w') : Cos w' B v a b rows P C := by
  refine ⟨?_, fun j hj => (h.row j hj).below hb⟩
  have ho := h.out
  refine ⟨ho.1, ?_⟩
  rcases ho.2 with hn | ⟨g, cap, cur, hv, hbb, hgg, rest⟩
  · exact .inl hn
  · exact .inr ⟨g, cap, cur, hv, hbb, by rw [hb.block g (Array.getElem?_eq_some_iff.1 hgg).1]; exact hgg, rest⟩
theorem core_ne {w : World} {B B' : Nat} {n : Nat} {v : Value} {vs : List Value} {A : Option Addr} {c' : Nat} {r : List Int} (h : w.ownsRow B 35 3 v n vs) (hr : Own w B' A c' r) : ∀ b, A.map Addr.block = some b → v.ownBlock ≠ some b := by
  intro b hb e
  rcases h.2 with ⟨rfl, _⟩ | ⟨g1, cap, cur1, rfl, hb1, hg1, rest⟩
  · simp [Value.ownBlock] at e
  · have e1 : g1 = b := by simpa [Value.ownBlock] using e
    subst e1
    rcases hr.2 with ⟨h2, _⟩ | ⟨g2, _, cur2, hv2, _, hg2, _⟩
    · have hA : A = none := by injection h2
      rw [hA] at hb; simp at hb
    · have hA : A = some ⟨g2, 0, none⟩ := by injection hv2
      rw [hA] at hb
      have e2 : g2 = g1 := by simpa using hb
      subst e2
      rw [hg1] at hg2
      injection hg2 with hg2
      injection hg2 with _ ht
      exact absurd ht (by decide)
theorem Cos.push {w0 w1 w2 : World} {B : Nat} {v v' : Value} {a b : Int} {rows : List (List Int)} {P : Nat → Option Addr} {C : Nat → Nat} {A : Option Addr} {c : Nat} {r : List Int} {o : Obj}
    (h : Cos w0 B v a b rows P C) (hb : Below w0.heap.size w0 w1) (hr : Own w1 w0.heap.size A c r) (hB : B ≤ w0.heap.size)
    (ho : w2.ownsRow B 35 3 v' (rows.length + 1) (CB a b P C rows ++ [.slice A r.length c, .int .i64 a, .int .i64 b])) (hg : (w1.alloc o).grownBy w2 v.ownBlock) :
    Cos w2 B v' a b (rows ++ [r]) (setAt P rows.length A) (setAt C rows.length c) := by
  have h1 := h.below hb
  have keep : ∀ {A' : Option Addr} {c' : Nat} {r' : List Int}, Own w1 B A' c' r' → Own w2 B A' c' r' := fun {A' c' r'} hx => by
    refine hx.keep fun b hbb hlt => ?_
    have e1 : (w1.alloc o).heap[b]? = w1.heap[b]? := Below.heap_alloc _ _ _ hlt
    rw [← e1]
    exact hg.block b (by simp; omega) (fun e => core_ne h1.out hx b hbb e.symm)
  refine ⟨by rw [CB_snoc, List.length_append]; exact ho, fun j hj => ?_⟩
  rw [List.length_append, List.length_singleton] at hj
  by_cases e : j = rows.length
  · subst e
    rw [setAt_eq, setAt_eq, getD_snoc_eq]
    exact keep (hr.more hB)
  · rw [setAt_ne P A e, setAt_ne C c e, getD_snoc_lt rows r j (by omega)]
    exact keep (h1.row j (by omega))

/-- What the inner loop keeps: the row that grows, and what its old header reads. -/
structure Inn (w1 w : World) (B : Nat) (v : Value) (a b : Int) (S : List (List Int)) (P0 : Nat → Option Addr) (C0 : Nat → Nat) (g0 : Nat) (Ag : Option Addr) (cg : Nat) (G : List Int) (rows : List (List Int)) (P : Nat → Option Addr) (C : Nat → Nat) : Prop where
  cos : Cos w B v a b rows P C
  snap : Snap w g0 (CB a b P0 C0 S)
  pre : v.ownBlock = some g0 → ∃ ds, CB a b P C rows = CB a b P0 C0 S ++ ds
  old : ∀ j, j < S.length → Own w B (P0 j) (C0 j) (S.getD j [])
  gap : Own w B Ag cg G
  bel : Below w1.heap.size w1 w
  size : w1.heap.size ≤ B
theorem Inn.below {w1 w w' : World} {B : Nat} {v : Value} {a b : Int} {S : List (List Int)} {P0 : Nat → Option Addr} {C0 : Nat → Nat} {g0 : Nat} {Ag : Option Addr} {cg : Nat} {G : List Int} {rows : List (List Int)} {P : Nat → Option Addr} {C : Nat → Nat}
    (h : Inn w1 w B v a b S P0 C0 g0 Ag cg G rows P C) (hb : Below w.heap.size w w') : Inn w1 w' B v a b S P0 C0 g0 Ag cg G rows P C :=
  ⟨h.cos.below hb, h.snap.below hb, h.pre, fun j hj => (h.old j hj).below hb, h.gap.below hb, Below.next h.bel hb, h.size⟩
theorem Own.core_keep {w w' : World} {o : Obj} {B B' n : Nat} {v : Value} {vs : List Value} {A : Option Addr} {c : Nat} {r : List Int} (ho : w.ownsRow B' 35 3 v n vs) (hx : Own w B A c r) (hg : (w.alloc o).grownBy w' v.ownBlock) : Own w' B A c r := by
  refine hx.keep fun b hbb hlt => ?_
  have e1 : (w.alloc o).heap[b]? = w.heap[b]? := Below.heap_alloc _ _ _ hlt
  rw [← e1]
  exact hg.block b (by simp; omega) (fun e => core_ne ho hx b hbb e.symm)
theorem Inn.push {w1 w wx w2 : World} {B : Nat} {v v' : Value} {a b : Int} {S : List (List Int)} {P0 : Nat → Option Addr} {C0 : Nat → Nat} {g0 : Nat} {Ag : Option Addr} {cg : Nat} {G : List Int} {rows : List (List Int)} {P : Nat → Option Addr} {C : Nat → Nat} {A : Option Addr} {c : Nat} {r : List Int} {o : Obj}
    (h : Inn w1 w B v a b S P0 C0 g0 Ag cg G rows P C) (hb : Below w.heap.size w wx) (hr : Own wx w.heap.size A c r) (hB : B ≤ w.heap.size)
    (ho : w2.ownsRow B 35 3 v' (rows.length + 1) (CB a b P C rows ++ [.slice A r.length c, .int .i64 a, .int .i64 b])) (hg : (wx.alloc o).grownBy w2 v.ownBlock)
    (hd : v'.ownBlock = v.ownBlock ∨ ((wx.alloc o).grownBy w2 none ∧ ∀ k, v'.ownBlock = some k → (wx.alloc o).heap.size ≤ k)) :
    Inn w1 w2 B v' a b S P0 C0 g0 Ag cg G (rows ++ [r]) (setAt P rows.length A) (setAt C rows.length c) := by
  have hx := h.below hb
  have bo : Below wx.heap.size wx (wx.alloc o) := (Below.refl _ _).alloc (Nat.le_refl _) _
  refine ⟨h.cos.push hb hr hB ho hg, (hx.snap.below bo).grown ho hg hd hx.pre, fun e => ?_, fun j hj => (hx.old j hj).core_keep hx.cos.out hg, hx.gap.core_keep hx.cos.out hg, ?_, h.size⟩
  · rw [CB_snoc]
    rcases hd with hd | ⟨-, hd⟩
    · obtain ⟨ds, hds⟩ := h.pre (by rw [← hd]; exact e)
      exact ⟨ds ++ _, by rw [hds, List.append_assoc]⟩
    · have h1 := hd g0 e
      have h2 := (hx.snap.below bo).1
      omega
  · exact (Below.next hx.bel bo).grown hg (by have := hx.bel.size; simp; omega) fun q hq => Nat.le_trans h.size (hx.cos.out.lt q hq).1
end Go.Proofs.YtijfefahogcfmaaGreat
