/-
  Several texts in one.
-/
import Derived.Test.YtiebnnchaopbkaaR24
import Derived.Test.YtiebnnchaopbkaaR11
import Derived.Test.YtiebnnchaopbkaaR23
import Derived.Deep.RegionLaw
/-
  The model's order of partitions; a place in an ordered list.
-/
namespace Go.Proofs.Ytiebnnchaopbkaa
open Go.RowKit

def befB : List Int → List Int → Bool
  | x :: p, y :: q => if x = y then befB p q else decide (y < x)
  | _, _ => false
theorem befB_end {p q : List Int} {k : Nat} (h : p.length ≤ k ∨ q.length ≤ k) : befB (p.drop k) (q.drop k) = false := by
  rcases h with h | h
  · rw [List.drop_eq_nil_of_le h]; rfl
  · rw [List.drop_eq_nil_of_le h]; cases p.drop k <;> rfl
theorem drop_getD (xs : List Int) (k : Nat) (h : k < xs.length) : xs.drop k = xs.getD k 0 :: xs.drop (k + 1) := by
  rw [List.drop_eq_getElem_cons h, List.getD_eq_getElem?_getD, List.getElem?_eq_getElem h]; rfl
theorem befB_eq {p q : List Int} {k : Nat} (h1 : k < p.length) (h2 : k < q.length) (h : p.getD k 0 = q.getD k 0) : befB (p.drop k) (q.drop k) = befB (p.drop (k + 1)) (q.drop (k + 1)) := by
  rw [drop_getD p k h1, drop_getD q k h2, befB, if_pos h]
theorem befB_ne {p q : List Int} {k : Nat} (h1 : k < p.length) (h2 : k < q.length) (h : p.getD k 0 ≠ q.getD k 0) : befB (p.drop k) (q.drop k) = decide (q.getD k 0 < p.getD k 0) := by
  rw [drop_getD p k h1, drop_getD q k h2, befB, if_neg h]

set_option maxRecDepth 100000 in
set_option maxHeartbeats 2000000 in
theorem chBefore_any (A B : Option Addr) (c d : Nat) (xs ys : List Int) (w : World) (hl : xs.length ≤ 1048576) (hl2 : ys.length ≤ 1048576) (hA : Cells w A xs) (hB : Cells w B ys) :
    Calls Try.prog 50 #[.slice A xs.length c, .slice B ys.length d] w fun e w' => e = .returned (.bool (befB xs ys)) ∧ ∃ n, w' = w.drewN n := by
  have HR := hid (show befB xs ys = befB (xs.drop 0) (ys.drop 0) from rfl)
  obtain ⟨R, hR⟩ : ∃ R, R = befB xs ys := ⟨_, rfl⟩
  rw [← hR] at HR ⊢
  clear hR
  go_enter Try.func50, Try.ntmps50
  go_wp2_with fail
  go_loopw [5] (fun i wr => ∃ k : Nat, k ≤ xs.length ∧ k ≤ ys.length ∧ i = .int .i64 k ∧ Hid (R = befB (xs.drop k) (ys.drop k)) ∧ ∃ n, wr = w.drewN n) (fun i _ => xs.length - (intOf i).toNat)
  case atStart => exact ⟨0, Nat.zero_le _, Nat.zero_le _, rfl, HR, 0, rfl⟩
  case round =>
    obtain ⟨k, hk, hk2, rfl, HE, n, rfl⟩ := hrel
    by_cases hlt : k < xs.length
    · by_cases hlt2 : k < ys.length
      · obtain ⟨b, o, rfl, hcc⟩ := hA (by omega)
        obtain ⟨b2, o2, rfl, hcc2⟩ := hB (by omega)
        have hck := hcc k hlt
        have hck2 := hcc2 k hlt2
        have H1 := hid (befB_eq hlt hlt2)
        have H2 := hid (befB_ne hlt hlt2)
        clear hcc hcc2
        obtain ⟨x, hx⟩ : ∃ x, x = xs.getD k 0 := ⟨_, rfl⟩
        obtain ⟨y, hy⟩ : ∃ y, y = ys.getD k 0 := ⟨_, rfl⟩
        rw [← hx] at hck H1 H2
        rw [← hy] at hck2 H1 H2
        clear hx hy
        by_cases he : x = y
        · have HS := hid (HE.out.trans (H1.out he))
          subst he
          go_wp2_with fail
          go_quiet (fail)
          go_wp2_with fail
          go_roundw
          case rel => exact ⟨k + 1, by omega, by omega, by go_num, HS, _, rfl⟩
          case measure => simp [intOf]; omega
        · have heb : (x != y) = true := by simpa using he
          have heb2 : (x == y) = false := by simpa using he
          have HS := hid (HE.out.trans (H2.out he))
          clear he
          go_wp2_with fail
          go_quiet (fail)
          go_wp2_with fail
          go_quiet (fail)
          go_wp2_with fail
          go_ret
          exact ⟨ret_bool HS.out.symm, _, by simp only [World.drewN_drewN]; rfl⟩
      · have HS := hid (HE.out.trans (befB_end (.inr (by omega))))
        go_wp2_with fail
        go_ret
        exact ⟨ret_bool HS.out.symm, n, rfl⟩
    · have HS := hid (HE.out.trans (befB_end (.inl (by omega))))
      go_wp2_with fail
      go_ret
      exact ⟨ret_bool HS.out.symm, n, rfl⟩

/-! The place of a partition. -/
def aftB (row p : List Int) : Bool := decide (p.sum < row.sum) || (decide (row.sum = p.sum) && befB p row)
def kIns (rows : List (List Int)) (p : List Int) : Nat → Nat
  | 0 => 0
  | k + 1 => if aftB (rows.getD k []) p = true then kIns rows p k else k + 1
theorem kIns_le (rows : List (List Int)) (p : List Int) : ∀ k, kIns rows p k ≤ k
  | 0 => Nat.le_refl _
  | k + 1 => by
    have := kIns_le rows p k
    rw [kIns]; split <;> omega
def insP (rows : List (List Int)) (p : List Int) : List (List Int) := insR rows (kIns rows p rows.length) p
theorem insP_len (rows : List (List Int)) (p : List Int) : (insP rows p).length = rows.length + 1 := insR_len (kIns_le _ _ _) p
def boK (S : List (List Int)) (m : Nat) : List (List Int) := ((S.take m).map ffF).foldl insP []
theorem boK_succ (S : List (List Int)) (m : Nat) (h : m < S.length) : boK S (m + 1) = insP (boK S m) (ffF (S.getD m [])) := by
  unfold boK
  rw [List.take_succ_eq_append_getElem h, List.map_append, List.foldl_append, List.getD_eq_getElem?_getD, List.getElem?_eq_getElem h]; rfl
theorem boK_len (S : List (List Int)) : ∀ m, m ≤ S.length → (boK S m).length = m
  | 0, _ => rfl
  | m + 1, h => by rw [boK_succ S m h, insP_len, boK_len S m (by omega)]
theorem ffF_good (H : List Int) : good (ffF H) = true := by
  unfold ffF
  split
  · rename_i h
    simp only [ffOk, Bool.and_eq_true] at h
    exact h.2.2
  · rfl
theorem insR_all {Q : List Int → Prop} {rows : List (List Int)} {p : List Int} (k : Nat) (h : ∀ r ∈ rows, Q r) (hp : Q p) : ∀ r ∈ insR rows k p, Q r := by
  intro r hr
  unfold insR at hr
  rw [List.mem_append, List.mem_cons] at hr
  rcases hr with hr | rfl | hr
  · exact h r (List.mem_of_mem_take hr)
  · exact hp
  · exact h r (List.mem_of_mem_drop hr)
theorem boK_good (S : List (List Int)) : ∀ m, m ≤ S.length → ∀ r ∈ boK S m, good r = true
  | 0, _ => fun r hr => by cases hr
  | m + 1, h => by
    rw [boK_succ S m h]
    exact insR_all _ (boK_good S m (by omega)) (ffF_good _)
def boS (a b : Int) : List (List Int) := bsL a b (gapsL a b) []
def boL (a b : Int) : List (List Int) := boK (boS a b) (boS a b).length

theorem addr_add0 (g k : Nat) : (⟨g, 0, none⟩ : Addr).add k = ⟨g, k, none⟩ := by
  unfold Addr.add
  split
  · rename_i h; subst h; rfl
  · simp
theorem addr_add_add (a : Addr) (k j : Nat) : (a.add k).add j = a.add (k + j) := by
  unfold Addr.add
  by_cases h1 : k = 0
  · subst h1; simp
  · by_cases h2 : j = 0
    · subst h2; simp [h1]
    · rw [if_neg h1, if_neg h2, if_neg (by omega)]; simp [Nat.add_assoc]
theorem cut_take {w W : World} {A : Option Addr} {L : List Value} (h : ∀ ad, A = some ad → ∀ j u, L[j]? = some u → w.cell? (ad.add j) = some u) (hW : Below w.heap.size w W) (k : Nat) :
    ∀ ad, A = some ad → ∀ j u, (L.take k)[j]? = some u → W.cell? (ad.add j) = some u := by
  intro ad e j u hu
  rw [List.getElem?_take] at hu
  split at hu
  · have h1 := h ad e j u hu
    rw [hW.cell (World.block_lt_of_cell? w _ h1), h1]
  · cases hu
theorem cut_drop {w W : World} {A : Option Addr} {L : List Value} {c : Nat} (h : ∀ ad, A = some ad → ∀ j u, L[j]? = some u → w.cell? (ad.add j) = some u) (hW : Below w.heap.size w W) (k : Nat) (hc : L.length ≤ c) :
    ∀ ad, cutA A c k = some ad → ∀ j u, (L.drop k)[j]? = some u → W.cell? (ad.add j) = some u := by
  intro ad e j u hu
  rw [List.getElem?_drop] at hu
  have hj := (List.getElem?_eq_some_iff.1 hu).1
  cases A with
  | none => rw [cutA_none] at e; cases e
  | some a0 =>
    rw [cutA_some (by omega)] at e
    cases e
    have h1 := h a0 rfl (k + j) u hu
    rw [addr_add_add, hW.cell (World.block_lt_of_cell? w _ h1), h1]
end Go.Proofs.Ytiebnnchaopbkaa
/-
  An append as one step of a region that draws its order.
-/
namespace Go.Proofs.Ytiebnnchaopbkaa
open Go.RowKit

theorem step_append_opt {P : Program} (w : World) {ops : Array Oper} {o : Oper} {a : Act} {K : Act → World → Prop} {Q : Exit → Act → World → Prop} {E : Prop} (hgd : o.guard = none) (s x : Operand) (t : TypeId)
    (ho : o.op = .call { callee := .builtin .append, args := #[s, x], argTypes := #[t, t] })
    (base : Nat) (e : TypeId) (i : TypeInfo) (z : Value) (size bytes : Nat) (ht : P.underlying t = some (.slice e)) (hi : P.info? e = some i) (hz : i.zero = some z)
    (hsize : i.size = size) (hby : i.bytes = bytes) (hzs : z.cells.size = size) (hsz : 0 < size)
    (v : Value) (n : Nat) (xs : List Value) (hs : a.eval s = v) (hown : w.ownsRow base e size v n xs)
    (A : Option Addr) (m c : Nat) (news : List Value) (hx : a.eval x = .slice A m c) (hl : news.length = m * size) (hnone : A = none → m = 0 ∧ c = 0) (hnews : ∀ ad, A = some ad → ∀ j u, news[j]? = some u → w.cell? (ad.add j) = some u) (h1 : ∀ u ∈ news, u.oneCell' = true)
    (h63 : n + m ≤ maxLen) (hbytes : (n + m) * bytes ≤ 140737488355328) (hbase : base ≤ w.heap.size)
    (h : ∀ v' w', w'.ownsRow base e size v' (n + m) (xs ++ news) → w.grownBy w' v.ownBlock → K (a.put o.dst v') w') : if Region.wanted o (yielded ops a.tmps) = true then Oper.wp P o a w K Q else E := by
  have hw : Region.wanted o (yielded ops a.tmps) = true := by simp [Region.wanted, hgd]
  rw [if_pos hw]
  cases A with
  | some ad => exact wp_append_own w s x t ho base e i z size bytes ht hi hz hsize hby hzs hsz v n xs hs hown ad m c news hx hl (hnews ad rfl) h1 h63 hbytes hbase fun v' w' a b _ => h v' w' a b
  | none =>
    obtain ⟨rfl, rfl⟩ := hnone rfl
    have hn : news = [] := List.eq_nil_of_length_eq_zero (by omega)
    subst hn
    have hr := run_append_owned_none (P := P) w base t o.type e i size ht hi v n xs hown
    unfold Oper.wp execOp
    simp only [ho, resolve, invoke, builtin, Sem.run_bind, Sem.run_pure, Result.andThen_ok, List.map_toArray, List.map_cons, List.map_nil, hs, hx, hr]
    exact h v w (by rw [List.append_nil]; exact hown) ⟨rfl, rfl, rfl, Nat.le_refl _, fun _ _ _ => rfl⟩
theorem ownsRow_moreA {w : World} {B B' e s n : Nat} {v : Value} {xs : List Value} (h : w.ownsRow B e s v n xs) (hB : B' ≤ B) : w.ownsRow B' e s v n xs := by
  refine ⟨h.1, ?_⟩
  rcases h.2 with hn | ⟨g, cap, cur, hv, hb, rest⟩
  · exact .inl hn
  · exact .inr ⟨g, cap, cur, hv, Nat.le_trans hB hb, rest⟩
end Go.Proofs.Ytiebnnchaopbkaa
/-
  Contract: the model's insertion of a core into rows (chPut).
-/
namespace Go.Proofs.Ytiebnnchaopbkaa
open Go.RowKit

def kC : List (List Int) → List Int → Nat
  | [], _ => 0
  | r :: rs, p => if befB r p = true then kC rs p + 1 else 0
theorem kC_eq : ∀ (rows : List (List Int)) (p : List Int) (k : Nat), k ≤ rows.length → (∀ j, j < k → befB (rows.getD j []) p = true) → (k = rows.length ∨ befB (rows.getD k []) p = false) → kC rows p = k
  | [], p, k, h, _, _ => by simp at h; rw [h]; rfl
  | r :: rs, p, 0, _, _, h2 => by
    rcases h2 with h2 | h2
    · simp at h2
    · have h3 : befB r p = false := h2
      rw [kC, if_neg (by rw [h3]; simp)]
  | r :: rs, p, k + 1, h, h1, h2 => by
    have h3 : befB r p = true := h1 0 (by omega)
    rw [kC, if_pos h3, kC_eq rs p k (by simpa using h) (fun j hj => h1 (j + 1) (by omega)) (h2.imp (fun e => by simpa using e) id)]

set_option maxRecDepth 100000 in
set_option maxHeartbeats 4000000 in
theorem chPut_any {w0 : World} {B : Nat} (A Ap : Option Addr) (c cp : Nat) (rows : List (List Int)) (p : List Int) (P : Nat → Option Addr) (C : Nat → Nat) (w : World) (hl : rows.length ≤ 100000) (hr : ∀ j, j < rows.length → (rows.getD j []).length ≤ 1048576) (hpl : p.length ≤ 1048576)
    (hpush : Push w0 B (.slice A rows.length c) rows P C) (hb : Below w0.heap.size w0 w) (ho : Own w w0.heap.size Ap cp p) (hB : B ≤ w0.heap.size) :
    Calls Try.prog 24 #[.slice A rows.length c, .slice Ap p.length cp] w fun e w' => ∃ v' P' C', e = .returned v' ∧ Push w' B v' (insR rows (kC rows p) p) P' C' ∧ Below w.heap.size w w' := by
  obtain ⟨i1, hj, hy0, hy1, hy2⟩ := info_parts Try.infoInts
  obtain ⟨-, hc1, hc2, hc3⟩ := push_cells hpush
  have HC2 := hid hc2
  have HC3 := hid hc3
  have HP := hid hpush
  have HP1 := hid (hpush.below hb)
  have B1 := hid hb
  have OP := hid ho
  have HBB := hid hB
  have HR := hid hr
  have HEQ := hid fun k h1 h2 h3 => kC_eq rows p k h1 h2 h3
  clear hc2 hc3 hpush hb ho hB hr
  go_enter Try.func24, Try.ntmps24
  go_wp2_with fail
  go_loopw [5] (fun u wr => ∃ k : Nat, k ≤ rows.length ∧ u = .int .i64 k ∧ Hid (∀ j, j < k → befB (rows.getD j []) p = true) ∧ ∃ n, wr = w.drewN n) (fun u _ => rows.length - (intOf u).toNat)
  case atStart => exact ⟨0, Nat.zero_le _, rfl, hid fun j hj => absurd hj (by omega), 0, rfl⟩
  case round =>
    obtain ⟨k, hk, rfl, HD, n, rfl⟩ := hrel
    by_cases hlt : k < rows.length
    · have hAg : ∃ g, A = some ⟨g, 0, none⟩ := by
        rcases HP.out.out.2 with ⟨_, h0⟩ | ⟨g, cap, cur, hv, _⟩
        · omega
        · exact ⟨g, by injection hv⟩
      obtain ⟨g, rfl⟩ := hAg
      have hcr := HC3.out _ rfl k _ (RL_get P C rows k hlt)
      rw [addr_add0] at hcr
      have hcr2 : (w.drewN n).cell? ⟨g, k, none⟩ = some (.slice (P k) (rows.getD k []).length (C k)) := (B1.out.cell (World.block_lt_of_cell? _ _ hcr)).trans hcr
      have HRC := hid (show Cells (w.drewN n) (P k) (rows.getD k []) from (HP1.out.row k hlt).cells)
      have HPC := hid (show Cells (w.drewN n) Ap p from OP.out.cells)
      have HBE := hid (chBefore_any (P k) Ap (C k) cp (rows.getD k []) p (w.drewN n) (HR.out k hlt) hpl HRC.out HPC.out)
      have HYES := hid fun (h : befB (rows.getD k []) p = true) => show ∀ j, j < k + 1 → befB (rows.getD j []) p = true by
        intro j hj
        by_cases e : j = k
        · rw [e]; exact h
        · exact HD.out j (by omega)
      have HNO := hid fun (h : befB (rows.getD k []) p = false) => HEQ.out k hk HD.out (.inr h)
      obtain ⟨row, hrow⟩ : ∃ row, row = rows.getD k [] := ⟨_, rfl⟩
      obtain ⟨Ak, hAk⟩ : ∃ Ak, Ak = P k := ⟨_, rfl⟩
      obtain ⟨Ck, hCk⟩ : ∃ Ck, Ck = C k := ⟨_, rfl⟩
      rw [← hrow] at hcr2 HBE HYES HNO
      rw [← hAk, ← hCk] at hcr2 HBE
      clear hcr hrow hAk hCk HRC HPC
      cases hbb : befB row p
      · rw [hbb] at HBE
        have HKE := hid (HNO.out hbb)
        clear hbb
        go_wp2_with fail
        refine HBE.out.mono ?_
        rintro e w' ⟨rfl, n2, rfl⟩
        rw [World.drewN_drewN]
        obtain ⟨n3, hn3⟩ : ∃ q, q = n + n2 := ⟨_, rfl⟩
        rw [← hn3]
        clear hn3
        have HKI := hid (show kC rows p = k from HKE.out)
        have B1n : Below w0.heap.size w0 (w.drewN n3) := below_drewN B1.out n3
        have hs1n := B1n.size
        have hm0 := World.ownsRow_made (base := (w.drewN n3).heap.size) (e := 28) (size := 1) (w.drewN n3) #[] 0 (Nat.le_refl _) (by unfold maxLen; omega) rfl
        have hb0 : Below (w.drewN n3).heap.size (w.drewN n3) ((w.drewN n3).alloc (.cells #[] 28)) := (Below.refl _ _).alloc (Nat.le_refl _) _
        have hcut1 := fun W => run_cut_hi (some ⟨g, 0, none⟩) rows.length c k (by omega) W
        have hcut2 := fun W => run_cut_lo (some ⟨g, 0, none⟩) rows.length c k hk W
        have HT1 := hid (cut_take HC3.out (Below.next B1n hb0) k)
        have HRL := hid (RL_len P C rows)
        have hlk : ((RL P C rows).take k).length = k * 1 := by rw [List.length_take, HRL.out]; omega
        go_wp2_with (at_builtin; refine wpList_append_opt _ rfl _ _ 22 rfl (w.drewN n3).heap.size 28 i1 (.slice none 0 0) 1 24 Try.underlying22 hj hy0 hy1 hy2 rfl (by decide) _ 0 [] rfl hm0 (some ⟨g, 0, none⟩) k c ((RL P C rows).take k) rfl hlk (fun e => by have := HC2.out e; omega) HT1.out (fun u hu => RL_one P C rows u (List.mem_of_mem_take hu)) (by unfold maxLen; omega) (by omega) (by simp) ?_)
        intro v2 w2 ho2 hg2
        have hb2 : Below (w.drewN n3).heap.size (w.drewN n3) w2 := hb0.grown hg2 (by simp) (fun q hq => (hm0.lt q hq).1)
        have HO2 := hid ho2
        have HB2 := hid hb2
        have hs2 := hb2.size
        clear ho2 hg2 hb0 hm0 hlk HT1
        go_upto_region 5 with fail
        have own2d : (w2.drew).ownsRow w.heap.size 28 1 v2 (0 + k) ([] ++ (RL P C rows).take k) := by rw [Nat.zero_add, List.nil_append]; exact HO2.out
        have HOD := hid own2d
        have B2d : Below w.heap.size w w2.drew := below_drewN (show Below w.heap.size w w2 from ⟨HB2.out.os, HB2.out.tape, HB2.out.output, HB2.out.size, HB2.out.block⟩) 1
        have hs2d := B2d.size
        have hs2e : w.heap.size ≤ w2.heap.size := hs2d
        have HT2 := hid fun W (h : Below w.heap.size w W) => cut_drop HC3.out (Below.next B1.out h) k (by rw [HRL.out]; exact hc1)
        have hld : ((RL P C rows).drop k).length = (rows.length - k) * 1 := by rw [List.length_drop, HRL.out]; omega
        have HLD := hid hld
        clear own2d hld
        go_region_law (first | (refine step_append_opt _ rfl (.tmp 26) (.tmp 28) 22 rfl w.heap.size 28 i1 (.slice none 0 0) 1 24 Try.underlying22 hj hy0 hy1 hy2 rfl (by decide) v2 (0 + k) ([] ++ (RL P C rows).take k) (by simp [Act.eval]) (HOD.out.alloc _) (some ⟨w2.drew.heap.size, 0, none⟩) 1 1 [.slice Ap p.length cp] (by simp [Act.eval]) rfl (fun e => by cases e) (fun ad e => by cases e; exact one_at) (one_cellS _ _ _) (by unfold maxLen; omega) (by omega) (by simp; omega) ?_; intro v3 w3 ho3 hg3; have hb3 : Below w.heap.size w w3 := (B2d.alloc B2d.size _).grown hg3 (by simp; omega) (fun q hq => (HOD.out.lt q hq).1); have HB3 := hid hb3; have hs3 := hb3.size; have HO3 := hid ho3; clear ho3 hg3 hb3) | (refine step_append_opt _ rfl (.tmp 29) (.tmp 32) 22 rfl w.heap.size 28 i1 (.slice none 0 0) 1 24 Try.underlying22 hj hy0 hy1 hy2 rfl (by decide) v3 (0 + k + 1) (([] ++ (RL P C rows).take k) ++ [.slice Ap p.length cp]) (by simp [Act.eval]) HO3.out (cutA (some ⟨g, 0, none⟩) c k) (rows.length - k) (c - k) ((RL P C rows).drop k) (by simp [Act.eval]) HLD.out (fun e => by have := HC2.out (cutA_nn e); omega) (HT2.out _ HB3.out) (fun u hu => RL_one P C rows u (List.mem_of_mem_drop hu)) (by unfold maxLen; omega) (by omega) (by omega) ?_; intro v4 w4 ho4 hg4; have hb4 : Below w.heap.size w w4 := HB3.out.grown hg4 (by omega) (fun q hq => (HO3.out.lt q hq).1); have HB4 := hid hb4; have HO4 := hid ho4; clear ho4 hg4 hb4))
        have hp4 : Push w4 B v4 (insR rows (kC rows p) p) (insAt P k Ap) (insAt C k cp) := by
          rw [HKI.out]
          refine HP.out.ins B1.out OP.out HBB.out hk HB4.out ?_
          have ho5 := HO4.out
          have el : 0 + k + 1 + (rows.length - k) = rows.length + 1 := by omega
          rw [List.nil_append, el] at ho5
          exact ownsRow_moreA ho5 (by have := HBB.out; have := B1.out.size; omega)
        have HP4 := hid hp4
        clear hp4
        go_wp2_with fail
        go_ret
        exact ⟨_, _, _, rfl, HP4.out, HB4.out⟩
      · rw [hbb] at HBE
        have HKE := hid (HYES.out hbb)
        clear hbb
        go_wp2_with (go_at_call 50; refine HBE.out.mono ?_; rintro e w' ⟨rfl, n2, rfl⟩; rw [World.drewN_drewN]; obtain ⟨n3, hn3⟩ : ∃ q, q = n + n2 := ⟨_, rfl⟩; rw [← hn3]; clear hn3)
        go_roundw
        case rel => exact ⟨k + 1, by omega, by go_num, HKE, n3, rfl⟩
        case measure => simp [intOf]; omega
    · have HKE := hid (HEQ.out k hk HD.out (.inl (by omega)))
      have HKI := hid (show kC rows p = k from HKE.out)
      have B1n : Below w0.heap.size w0 (w.drewN n) := below_drewN B1.out n
      have hs1n := B1n.size
      have hm0 := World.ownsRow_made (base := (w.drewN n).heap.size) (e := 28) (size := 1) (w.drewN n) #[] 0 (Nat.le_refl _) (by unfold maxLen; omega) rfl
      have hb0 : Below (w.drewN n).heap.size (w.drewN n) ((w.drewN n).alloc (.cells #[] 28)) := (Below.refl _ _).alloc (Nat.le_refl _) _
      have hcut1 := fun W => run_cut_hi A rows.length c k (by omega) W
      have hcut2 := fun W => run_cut_lo A rows.length c k hk W
      have HT1 := hid (cut_take HC3.out (Below.next B1n hb0) k)
      have HRL := hid (RL_len P C rows)
      have hlk : ((RL P C rows).take k).length = k * 1 := by rw [List.length_take, HRL.out]; omega
      go_wp2_with (at_builtin; refine wpList_append_opt _ rfl _ _ 22 rfl (w.drewN n).heap.size 28 i1 (.slice none 0 0) 1 24 Try.underlying22 hj hy0 hy1 hy2 rfl (by decide) _ 0 [] rfl hm0 A k c ((RL P C rows).take k) rfl hlk (fun e => by have := HC2.out e; omega) HT1.out (fun u hu => RL_one P C rows u (List.mem_of_mem_take hu)) (by unfold maxLen; omega) (by omega) (by simp) ?_)
      intro v2 w2 ho2 hg2
      have hb2 : Below (w.drewN n).heap.size (w.drewN n) w2 := hb0.grown hg2 (by simp) (fun q hq => (hm0.lt q hq).1)
      have HO2 := hid ho2
      have HB2 := hid hb2
      have hs2 := hb2.size
      clear ho2 hg2 hb0 hm0 hlk HT1
      go_upto_region 5 with fail
      have own2d : (w2.drew).ownsRow w.heap.size 28 1 v2 (0 + k) ([] ++ (RL P C rows).take k) := by rw [Nat.zero_add, List.nil_append]; exact HO2.out
      have HOD := hid own2d
      have B2d : Below w.heap.size w w2.drew := below_drewN (show Below w.heap.size w w2 from ⟨HB2.out.os, HB2.out.tape, HB2.out.output, HB2.out.size, HB2.out.block⟩) 1
      have hs2d := B2d.size
      have hs2e : w.heap.size ≤ w2.heap.size := hs2d
      have HT2 := hid fun W (h : Below w.heap.size w W) => cut_drop HC3.out (Below.next B1.out h) k (by rw [HRL.out]; exact hc1)
      have hld : ((RL P C rows).drop k).length = (rows.length - k) * 1 := by rw [List.length_drop, HRL.out]; omega
      have HLD := hid hld
      clear own2d hld
      go_region_law (first | (refine step_append_opt _ rfl (.tmp 26) (.tmp 28) 22 rfl w.heap.size 28 i1 (.slice none 0 0) 1 24 Try.underlying22 hj hy0 hy1 hy2 rfl (by decide) v2 (0 + k) ([] ++ (RL P C rows).take k) (by simp [Act.eval]) (HOD.out.alloc _) (some ⟨w2.drew.heap.size, 0, none⟩) 1 1 [.slice Ap p.length cp] (by simp [Act.eval]) rfl (fun e => by cases e) (fun ad e => by cases e; exact one_at) (one_cellS _ _ _) (by unfold maxLen; omega) (by omega) (by simp; omega) ?_; intro v3 w3 ho3 hg3; have hb3 : Below w.heap.size w w3 := (B2d.alloc B2d.size _).grown hg3 (by simp; omega) (fun q hq => (HOD.out.lt q hq).1); have HB3 := hid hb3; have hs3 := hb3.size; have HO3 := hid ho3; clear ho3 hg3 hb3) | (refine step_append_opt _ rfl (.tmp 29) (.tmp 32) 22 rfl w.heap.size 28 i1 (.slice none 0 0) 1 24 Try.underlying22 hj hy0 hy1 hy2 rfl (by decide) v3 (0 + k + 1) (([] ++ (RL P C rows).take k) ++ [.slice Ap p.length cp]) (by simp [Act.eval]) HO3.out (cutA A c k) (rows.length - k) (c - k) ((RL P C rows).drop k) (by simp [Act.eval]) HLD.out (fun e => by have := HC2.out (cutA_nn e); omega) (HT2.out _ HB3.out) (fun u hu => RL_one P C rows u (List.mem_of_mem_drop hu)) (by unfold maxLen; omega) (by omega) (by omega) ?_; intro v4 w4 ho4 hg4; have hb4 : Below w.heap.size w w4 := HB3.out.grown hg4 (by omega) (fun q hq => (HO3.out.lt q hq).1); have HB4 := hid hb4; have HO4 := hid ho4; clear ho4 hg4 hb4))
      have hp4 : Push w4 B v4 (insR rows (kC rows p) p) (insAt P k Ap) (insAt C k cp) := by
        rw [HKI.out]
        refine HP.out.ins B1.out OP.out HBB.out hk HB4.out ?_
        have ho5 := HO4.out
        have el : 0 + k + 1 + (rows.length - k) = rows.length + 1 := by omega
        rw [List.nil_append, el] at ho5
        exact ownsRow_moreA ho5 (by have := HBB.out; have := B1.out.size; omega)
      have HP4 := hid hp4
      clear hp4
      go_wp2_with fail
      go_ret
      exact ⟨_, _, _, rfl, HP4.out, HB4.out⟩
end Go.Proofs.Ytiebnnchaopbkaa
