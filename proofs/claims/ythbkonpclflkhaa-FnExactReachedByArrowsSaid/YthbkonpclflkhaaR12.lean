/-
  Several texts in one.
-/
import Derived.Test.YthbkonpclflkhaaR11
import Derived.Deep.RegionLaw
/-
  An append as one step of a region that draws its order.
-/
namespace Go.Proofs.Ythbkonpclflkhaa
open Go.RowKit

theorem step_append_opt {P : Program} (w : World) {ops : Array Oper} {o : Oper} {a : Act} {K : Act → World → Prop} {Q : Exit → Act → World → Prop} {E : Prop} (hgd : o.guard = none) (s x : Operand) (t : TypeId)
    (ho : o.op = .call { callee := .builtin .append, args := #[s, x], argTypes := #[t, t] })
    (base : Nat) (e : TypeId) (i : TypeInfo) (z : Value) (size bytes : Nat) (ht : P.underlying t = some (.slice e)) (hi : P.info? e = some i) (hz : i.zero = some z)
    (hsize : i.size = size) (hby : i.bytes = bytes) (hzs : z.cells.size = size) (hsz : 0 < size)
    (v : Value) (n : Nat) (xs : List Value) (hs : a.eval s = v) (hown : w.ownsRow base e size v n xs)
    (A : Option Addr) (m c : Nat) (news : List Value) (hx : a.eval x = .slice A m c) (hl : news.length = m * size) (hnone : A = none → m = 0 ∧ c = 0) (hnews : ∀ ad, A = some ad → ∀ j u, news[j]? = some u → w.cell? (ad.add j) = some u) (h1 : ∀ u ∈ news, u.oneCell' = true)
    (h63 : n + m ≤ maxLen) (hbytes : (n + m) * bytes ≤ 140737488355328) (hbase : base ≤ w.heap.size)
    (h : ∀ v' w', w'.ownsRow base e size v' (n + m) (xs ++ news) → w.grownBy w' v.ownBlock → K (a.put o.dst v') w') : if Region.wanted o (yielded ops a.tmps) = true then Oper.wp P o a w K Q else E := by
  have hw : Region.wanted o (yielded ops a.tmps) = true := by simp [Region.wanted, hgd]
  rw [if_pos hw]
  cases A with
  | some ad => exact wp_append_own w s x t ho base e i z size bytes ht hi hz hsize hby hzs hsz v n xs hs hown ad m c news hx hl (hnews ad rfl) h1 h63 hbytes hbase fun v' w' a b _ => h v' w' a b
  | none =>
    obtain ⟨rfl, rfl⟩ := hnone rfl
    have hn : news = [] := List.eq_nil_of_length_eq_zero (by omega)
    subst hn
    have hr := run_append_owned_none (P := P) w base t o.type e i size ht hi v n xs hown
    unfold Oper.wp execOp
    simp only [ho, resolve, invoke, builtin, Sem.run_bind, Sem.run_pure, Result.andThen_ok, List.map_toArray, List.map_cons, List.map_nil, hs, hx, hr]
    exact h v w (by rw [List.append_nil]; exact hown) ⟨rfl, rfl, rfl, Nat.le_refl _, fun _ _ _ => rfl⟩
theorem ownsRow_moreA {w : World} {B B' e s n : Nat} {v : Value} {xs : List Value} (h : w.ownsRow B e s v n xs) (hB : B' ≤ B) : w.ownsRow B' e s v n xs := by
  refine ⟨h.1, ?_⟩
  rcases h.2 with hn | ⟨g, cap, cur, hv, hb, rest⟩
  · exact .inl hn
  · exact .inr ⟨g, cap, cur, hv, Nat.le_trans hB hb, rest⟩
end Go.Proofs.Ythbkonpclflkhaa
/-
  Contract: the model's insertion of a core into rows (chPut).
-/
namespace Go.Proofs.Ythbkonpclflkhaa
open Go.RowKit

def kC : List (List Int) → List Int → Nat
  | [], _ => 0
  | r :: rs, p => if befB r p = true then kC rs p + 1 else 0
theorem kC_eq : ∀ (rows : List (List Int)) (p : List Int) (k : Nat), k ≤ rows.length → (∀ j, j < k → befB (rows.getD j []) p = true) → (k = rows.length ∨ befB (rows.getD k []) p = false) → kC rows p = k
  | [], p, k, h, _, _ => by simp at h; rw [h]; rfl
  | r :: rs, p, 0, _, _, h2 => by
    rcases h2 with h2 | h2
    · simp at h2
    · have h3 : befB r p = false := h2
      rw [kC, if_neg (by rw [h3]; simp)]
  | r :: rs, p, k + 1, h, h1, h2 => by
    have h3 : befB r p = true := h1 0 (by omega)
    rw [kC, if_pos h3, kC_eq rs p k (by simpa using h) (fun j hj => h1 (j + 1) (by omega)) (h2.imp (fun e => by simpa using e) id)]

set_option maxRecDepth 100000 in
set_option maxHeartbeats 4000000 in
theorem chPut_any {w0 : World} {B : Nat} (A Ap : Option Addr) (c cp : Nat) (rows : List (List Int)) (p : List Int) (P : Nat → Option Addr) (C : Nat → Nat) (w : World) (hl : rows.length ≤ 100000) (hr : ∀ j, j < rows.length → (rows.getD j []).length ≤ 1048576) (hpl : p.length ≤ 1048576)
    (hpush : Push w0 B (.slice A rows.length c) rows P C) (hb : Below w0.heap.size w0 w) (ho : Own w w0.heap.size Ap cp p) (hB : B ≤ w0.heap.size) :
    Calls Try.prog 92 #[.slice A rows.length c, .slice Ap p.length cp] w fun e w' => ∃ v' P' C', e = .returned v' ∧ Push w' B v' (insR rows (kC rows p) p) P' C' ∧ Below w.heap.size w w' := by
  obtain ⟨i1, hj, hy0, hy1, hy2⟩ := info_parts Try.infoInts
  obtain ⟨-, hc1, hc2, hc3⟩ := push_cells hpush
  have HC2 := hid hc2
  have HC3 := hid hc3
  have HP := hid hpush
  have HP1 := hid (hpush.below hb)
  have B1 := hid hb
  have OP := hid ho
  have HBB := hid hB
  have HR := hid hr
  have HEQ := hid fun k h1 h2 h3 => kC_eq rows p k h1 h2 h3
  clear hc2 hc3 hpush hb ho hB hr
  go_enter Try.func92, Try.ntmps92
  go_wp2_with fail
  go_loopw [5] (fun u wr => ∃ k : Nat, k ≤ rows.length ∧ u = .int .i64 k ∧ Hid (∀ j, j < k → befB (rows.getD j []) p = true) ∧ ∃ n, wr = w.drewN n) (fun u _ => rows.length - (intOf u).toNat)
  case atStart => exact ⟨0, Nat.zero_le _, rfl, hid fun j hj => absurd hj (by omega), 0, rfl⟩
  case round =>
    obtain ⟨k, hk, rfl, HD, n, rfl⟩ := hrel
    by_cases hlt : k < rows.length
    · have hAg : ∃ g, A = some ⟨g, 0, none⟩ := by
        rcases HP.out.out.2 with ⟨_, h0⟩ | ⟨g, cap, cur, hv, _⟩
        · omega
        · exact ⟨g, by injection hv⟩
      obtain ⟨g, rfl⟩ := hAg
      have hcr := HC3.out _ rfl k _ (RL_get P C rows k hlt)
      rw [addr_add0] at hcr
      have hcr2 : (w.drewN n).cell? ⟨g, k, none⟩ = some (.slice (P k) (rows.getD k []).length (C k)) := (B1.out.cell (World.block_lt_of_cell? _ _ hcr)).trans hcr
      have HRC := hid (show Cells (w.drewN n) (P k) (rows.getD k []) from (HP1.out.row k hlt).cells)
      have HPC := hid (show Cells (w.drewN n) Ap p from OP.out.cells)
      have HBE := hid (chBefore_any (P k) Ap (C k) cp (rows.getD k []) p (w.drewN n) (HR.out k hlt) hpl HRC.out HPC.out)
      have HYES := hid fun (h : befB (rows.getD k []) p = true) => show ∀ j, j < k + 1 → befB (rows.getD j []) p = true by
        intro j hj
        by_cases e : j = k
        · rw [e]; exact h
        · exact HD.out j (by omega)
      have HNO := hid fun (h : befB (rows.getD k []) p = false) => HEQ.out k hk HD.out (.inr h)
      obtain ⟨row, hrow⟩ : ∃ row, row = rows.getD k [] := ⟨_, rfl⟩
      obtain ⟨Ak, hAk⟩ : ∃ Ak, Ak = P k := ⟨_, rfl⟩
      obtain ⟨Ck, hCk⟩ : ∃ Ck, Ck = C k := ⟨_, rfl⟩
      rw [← hrow] at hcr2 HBE HYES HNO
      rw [← hAk, ← hCk] at hcr2 HBE
      clear hcr hrow hAk hCk HRC HPC
      cases hbb : befB row p
      · rw [hbb] at HBE
        have HKE := hid (HNO.out hbb)
        clear hbb
        go_wp2_with fail
        refine HBE.out.mono ?_
        rintro e w' ⟨rfl, n2, rfl⟩
        rw [World.drewN_drewN]
        obtain ⟨n3, hn3⟩ : ∃ q, q = n + n2 := ⟨_, rfl⟩
        rw [← hn3]
        clear hn3
        have HKI := hid (show kC rows p = k from HKE.out)
        have B1n : Below w0.heap.size w0 (w.drewN n3) := below_drewN B1.out n3
        have hs1n := B1n.size
        have hm0 := World.ownsRow_made (base := (w.drewN n3).heap.size) (e := 22) (size := 1) (w.drewN n3) #[] 0 (Nat.le_refl _) (by unfold maxLen; omega) rfl
        have hb0 : Below (w.drewN n3).heap.size (w.drewN n3) ((w.drewN n3).alloc (.cells #[] 22)) := (Below.refl _ _).alloc (Nat.le_refl _) _
        have hcut1 := fun W => run_cut_hi (some ⟨g, 0, none⟩) rows.length c k (by omega) W
        have hcut2 := fun W => run_cut_lo (some ⟨g, 0, none⟩) rows.length c k hk W
        have HT1 := hid (cut_take HC3.out (Below.next B1n hb0) k)
        have HRL := hid (RL_len P C rows)
        have hlk : ((RL P C rows).take k).length = k * 1 := by rw [List.length_take, HRL.out]; omega
        go_wp2_with (at_builtin; refine wpList_append_opt _ rfl _ _ 38 rfl (w.drewN n3).heap.size 22 i1 (.slice none 0 0) 1 24 Try.underlying38 hj hy0 hy1 hy2 rfl (by decide) _ 0 [] rfl hm0 (some ⟨g, 0, none⟩) k c ((RL P C rows).take k) rfl hlk (fun e => by have := HC2.out e; omega) HT1.out (fun u hu => RL_one P C rows u (List.mem_of_mem_take hu)) (by unfold maxLen; omega) (by omega) (by simp) ?_)
        intro v2 w2 ho2 hg2
        have hb2 : Below (w.drewN n3).heap.size (w.drewN n3) w2 := hb0.grown hg2 (by simp) (fun q hq => (hm0.lt q hq).1)
        have HO2 := hid ho2
        have HB2 := hid hb2
        have hs2 := hb2.size
        clear ho2 hg2 hb0 hm0 hlk HT1
        go_upto_region 5 with fail
        have own2d : (w2.drew).ownsRow w.heap.size 22 1 v2 (0 + k) ([] ++ (RL P C rows).take k) := by rw [Nat.zero_add, List.nil_append]; exact HO2.out
        have HOD := hid own2d
        have B2d : Below w.heap.size w w2.drew := below_drewN (show Below w.heap.size w w2 from ⟨HB2.out.os, HB2.out.tape, HB2.out.output, HB2.out.size, HB2.out.block⟩) 1
        have hs2d := B2d.size
        have hs2e : w.heap.size ≤ w2.heap.size := hs2d
        have HT2 := hid fun W (h : Below w.heap.size w W) => cut_drop HC3.out (Below.next B1.out h) k (by rw [HRL.out]; exact hc1)
        have hld : ((RL P C rows).drop k).length = (rows.length - k) * 1 := by rw [List.length_drop, HRL.out]; omega
        have HLD := hid hld
        clear own2d hld
        go_region_law (first | (refine step_append_opt _ rfl (.tmp 26) (.tmp 28) 38 rfl w.heap.size 22 i1 (.slice none 0 0) 1 24 Try.underlying38 hj hy0 hy1 hy2 rfl (by decide) v2 (0 + k) ([] ++ (RL P C rows).take k) (by simp [Act.eval]) (HOD.out.alloc _) (some ⟨w2.drew.heap.size, 0, none⟩) 1 1 [.slice Ap p.length cp] (by simp [Act.eval]) rfl (fun e => by cases e) (fun ad e => by cases e; exact one_at) (one_cellS _ _ _) (by unfold maxLen; omega) (by omega) (by simp; omega) ?_; intro v3 w3 ho3 hg3; have hb3 : Below w.heap.size w w3 := (B2d.alloc B2d.size _).grown hg3 (by simp; omega) (fun q hq => (HOD.out.lt q hq).1); have HB3 := hid hb3; have hs3 := hb3.size; have HO3 := hid ho3; clear ho3 hg3 hb3) | (refine step_append_opt _ rfl (.tmp 29) (.tmp 32) 38 rfl w.heap.size 22 i1 (.slice none 0 0) 1 24 Try.underlying38 hj hy0 hy1 hy2 rfl (by decide) v3 (0 + k + 1) (([] ++ (RL P C rows).take k) ++ [.slice Ap p.length cp]) (by simp [Act.eval]) HO3.out (cutA (some ⟨g, 0, none⟩) c k) (rows.length - k) (c - k) ((RL P C rows).drop k) (by simp [Act.eval]) HLD.out (fun e => by have := HC2.out (cutA_nn e); omega) (HT2.out _ HB3.out) (fun u hu => RL_one P C rows u (List.mem_of_mem_drop hu)) (by unfold maxLen; omega) (by omega) (by omega) ?_; intro v4 w4 ho4 hg4; have hb4 : Below w.heap.size w w4 := HB3.out.grown hg4 (by omega) (fun q hq => (HO3.out.lt q hq).1); have HB4 := hid hb4; have HO4 := hid ho4; clear ho4 hg4 hb4))
        have hp4 : Push w4 B v4 (insR rows (kC rows p) p) (insAt P k Ap) (insAt C k cp) := by
          rw [HKI.out]
          refine HP.out.ins B1.out OP.out HBB.out hk HB4.out ?_
          have ho5 := HO4.out
          have el : 0 + k + 1 + (rows.length - k) = rows.length + 1 := by omega
          rw [List.nil_append, el] at ho5
          exact ownsRow_moreA ho5 (by have := HBB.out; have := B1.out.size; omega)
        have HP4 := hid hp4
        clear hp4
        go_wp2_with fail
        go_ret
        exact ⟨_, _, _, rfl, HP4.out, HB4.out⟩
      · rw [hbb] at HBE
        have HKE := hid (HYES.out hbb)
        clear hbb
        go_wp2_with (go_at_call 147; refine HBE.out.mono ?_; rintro e w' ⟨rfl, n2, rfl⟩; rw [World.drewN_drewN]; obtain ⟨n3, hn3⟩ : ∃ q, q = n + n2 := ⟨_, rfl⟩; rw [← hn3]; clear hn3)
        go_roundw
        case rel => exact ⟨k + 1, by omega, by go_num, HKE, n3, rfl⟩
        case measure => simp [intOf]; omega
    · have HKE := hid (HEQ.out k hk HD.out (.inl (by omega)))
      have HKI := hid (show kC rows p = k from HKE.out)
      have B1n : Below w0.heap.size w0 (w.drewN n) := below_drewN B1.out n
      have hs1n := B1n.size
      have hm0 := World.ownsRow_made (base := (w.drewN n).heap.size) (e := 22) (size := 1) (w.drewN n) #[] 0 (Nat.le_refl _) (by unfold maxLen; omega) rfl
      have hb0 : Below (w.drewN n).heap.size (w.drewN n) ((w.drewN n).alloc (.cells #[] 22)) := (Below.refl _ _).alloc (Nat.le_refl _) _
      have hcut1 := fun W => run_cut_hi A rows.length c k (by omega) W
      have hcut2 := fun W => run_cut_lo A rows.length c k hk W
      have HT1 := hid (cut_take HC3.out (Below.next B1n hb0) k)
      have HRL := hid (RL_len P C rows)
      have hlk : ((RL P C rows).take k).length = k * 1 := by rw [List.length_take, HRL.out]; omega
      go_wp2_with (at_builtin; refine wpList_append_opt _ rfl _ _ 38 rfl (w.drewN n).heap.size 22 i1 (.slice none 0 0) 1 24 Try.underlying38 hj hy0 hy1 hy2 rfl (by decide) _ 0 [] rfl hm0 A k c ((RL P C rows).take k) rfl hlk (fun e => by have := HC2.out e; omega) HT1.out (fun u hu => RL_one P C rows u (List.mem_of_mem_take hu)) (by unfold maxLen; omega) (by omega) (by simp) ?_)
      intro v2 w2 ho2 hg2
      have hb2 : Below (w.drewN n).heap.size (w.drewN n) w2 := hb0.grown hg2 (by simp) (fun q hq => (hm0.lt q hq).1)
      have HO2 := hid ho2
      have HB2 := hid hb2
      have hs2 := hb2.size
      clear ho2 hg2 hb0 hm0 hlk HT1
      go_upto_region 5 with fail
      have own2d : (w2.drew).ownsRow w.heap.size 22 1 v2 (0 + k) ([] ++ (RL P C rows).take k) := by rw [Nat.zero_add, List.nil_append]; exact HO2.out
      have HOD := hid own2d
      have B2d : Below w.heap.size w w2.drew := below_drewN (show Below w.heap.size w w2 from ⟨HB2.out.os, HB2.out.tape, HB2.out.output, HB2.out.size, HB2.out.block⟩) 1
      have hs2d := B2d.size
      have hs2e : w.heap.size ≤ w2.heap.size := hs2d
      have HT2 := hid fun W (h : Below w.heap.size w W) => cut_drop HC3.out (Below.next B1.out h) k (by rw [HRL.out]; exact hc1)
      have hld : ((RL P C rows).drop k).length = (rows.length - k) * 1 := by rw [List.length_drop, HRL.out]; omega
      have HLD := hid hld
      clear own2d hld
      go_region_law (first | (refine step_append_opt _ rfl (.tmp 26) (.tmp 28) 38 rfl w.heap.size 22 i1 (.slice none 0 0) 1 24 Try.underlying38 hj hy0 hy1 hy2 rfl (by decide) v2 (0 + k) ([] ++ (RL P C rows).take k) (by simp [Act.eval]) (HOD.out.alloc _) (some ⟨w2.drew.heap.size, 0, none⟩) 1 1 [.slice Ap p.length cp] (by simp [Act.eval]) rfl (fun e => by cases e) (fun ad e => by cases e; exact one_at) (one_cellS _ _ _) (by unfold maxLen; omega) (by omega) (by simp; omega) ?_; intro v3 w3 ho3 hg3; have hb3 : Below w.heap.size w w3 := (B2d.alloc B2d.size _).grown hg3 (by simp; omega) (fun q hq => (HOD.out.lt q hq).1); have HB3 := hid hb3; have hs3 := hb3.size; have HO3 := hid ho3; clear ho3 hg3 hb3) | (refine step_append_opt _ rfl (.tmp 29) (.tmp 32) 38 rfl w.heap.size 22 i1 (.slice none 0 0) 1 24 Try.underlying38 hj hy0 hy1 hy2 rfl (by decide) v3 (0 + k + 1) (([] ++ (RL P C rows).take k) ++ [.slice Ap p.length cp]) (by simp [Act.eval]) HO3.out (cutA A c k) (rows.length - k) (c - k) ((RL P C rows).drop k) (by simp [Act.eval]) HLD.out (fun e => by have := HC2.out (cutA_nn e); omega) (HT2.out _ HB3.out) (fun u hu => RL_one P C rows u (List.mem_of_mem_drop hu)) (by unfold maxLen; omega) (by omega) (by omega) ?_; intro v4 w4 ho4 hg4; have hb4 : Below w.heap.size w w4 := HB3.out.grown hg4 (by omega) (fun q hq => (HO3.out.lt q hq).1); have HB4 := hid hb4; have HO4 := hid ho4; clear ho4 hg4 hb4))
      have hp4 : Push w4 B v4 (insR rows (kC rows p) p) (insAt P k Ap) (insAt C k cp) := by
        rw [HKI.out]
        refine HP.out.ins B1.out OP.out HBB.out hk HB4.out ?_
        have ho5 := HO4.out
        have el : 0 + k + 1 + (rows.length - k) = rows.length + 1 := by omega
        rw [List.nil_append, el] at ho5
        exact ownsRow_moreA ho5 (by have := HBB.out; have := B1.out.size; omega)
      have HP4 := hid hp4
      clear hp4
      go_wp2_with fail
      go_ret
      exact ⟨_, _, _, rfl, HP4.out, HB4.out⟩
end Go.Proofs.Ythbkonpclflkhaa
