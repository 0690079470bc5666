/-
  Several texts in one.
-/
import Derived.Test.YtmjncedijddmmaaR12
import Derived.Deep.RegionLaw
import Derived.Test.YtmjncedijddmmaaCB
/-
  An append as one step of a region that draws its order.
-/
namespace Go.Proofs.Ytmjncedijddmmaa
open Go.RowKit

theorem step_append_opt {P : Program} (w : World) {ops : Array Oper} {o : Oper} {a : Act} {K : Act → World → Prop} {Q : Exit → Act → World → Prop} {E : Prop} (hgd : o.guard = none) (s x : Operand) (t : TypeId)
    (ho : o.op = .call { callee := .builtin .append, args := #[s, x], argTypes := #[t, t] })
    (base : Nat) (e : TypeId) (i : TypeInfo) (z : Value) (size bytes : Nat) (ht : P.underlying t = some (.slice e)) (hi : P.info? e = some i) (hz : i.zero = some z)
    (hsize : i.size = size) (hby : i.bytes = bytes) (hzs : z.cells.size = size) (hsz : 0 < size)
    (v : Value) (n : Nat) (xs : List Value) (hs : a.eval s = v) (hown : w.ownsRow base e size v n xs)
    (A : Option Addr) (m c : Nat) (news : List Value) (hx : a.eval x = .slice A m c) (hl : news.length = m * size) (hnone : A = none → m = 0 ∧ c = 0) (hnews : ∀ ad, A = some ad → ∀ j u, news[j]? = some u → w.cell? (ad.add j) = some u) (h1 : ∀ u ∈ news, u.oneCell' = true)
    (h63 : n + m ≤ maxLen) (hbytes : (n + m) * bytes ≤ 140737488355328) (hbase : base ≤ w.heap.size)
    (h : ∀ v' w', w'.ownsRow base e size v' (n + m) (xs ++ news) → w.grownBy w' v.ownBlock → K (a.put o.dst v') w') : if Region.wanted o (yielded ops a.tmps) = true then Oper.wp P o a w K Q else E := by
  have hw : Region.wanted o (yielded ops a.tmps) = true := by simp [Region.wanted, hgd]
  rw [if_pos hw]
  cases A with
  | some ad => exact wp_append_own w s x t ho base e i z size bytes ht hi hz hsize hby hzs hsz v n xs hs hown ad m c news hx hl (hnews ad rfl) h1 h63 hbytes hbase fun v' w' a b _ => h v' w' a b
  | none =>
    obtain ⟨rfl, rfl⟩ := hnone rfl
    have hn : news = [] := List.eq_nil_of_length_eq_zero (by omega)
    subst hn
    have hr := run_append_owned_none (P := P) w base t o.type e i size ht hi v n xs hown
    unfold Oper.wp execOp
    simp only [ho, resolve, invoke, builtin, Sem.run_bind, Sem.run_pure, Result.andThen_ok, List.map_toArray, List.map_cons, List.map_nil, hs, hx, hr]
    exact h v w (by rw [List.append_nil]; exact hown) ⟨rfl, rfl, rfl, Nat.le_refl _, fun _ _ _ => rfl⟩
theorem ownsRow_moreA {w : World} {B B' e s n : Nat} {v : Value} {xs : List Value} (h : w.ownsRow B e s v n xs) (hB : B' ≤ B) : w.ownsRow B' e s v n xs := by
  refine ⟨h.1, ?_⟩
  rcases h.2 with hn | ⟨g, cap, cur, hv, hb, rest⟩
  · exact .inl hn
  · exact .inr ⟨g, cap, cur, hv, Nat.le_trans hB hb, rest⟩
end Go.Proofs.Ytmjncedijddmmaa
/-
  Contract: the model's insertion of a core into rows (chPut).
-/
namespace Go.Proofs.Ytmjncedijddmmaa
open Go.RowKit

def kC : List (List Int) → List Int → Nat
  | [], _ => 0
  | r :: rs, p => if befB r p = true then kC rs p + 1 else 0
theorem kC_eq : ∀ (rows : List (List Int)) (p : List Int) (k : Nat), k ≤ rows.length → (∀ j, j < k → befB (rows.getD j []) p = true) → (k = rows.length ∨ befB (rows.getD k []) p = false) → kC rows p = k
  | [], p, k, h, _, _ => by simp at h; rw [h]; rfl
  | r :: rs, p, 0, _, _, h2 => by
    rcases h2 with h2 | h2
    · simp at h2
    · have h3 : befB r p = false := h2
      rw [kC, if_neg (by rw [h3]; simp)]
  | r :: rs, p, k + 1, h, h1, h2 => by
    have h3 : befB r p = true := h1 0 (by omega)
    rw [kC, if_pos h3, kC_eq rs p k (by simpa using h) (fun j hj => h1 (j + 1) (by omega)) (h2.imp (fun e => by simpa using e) id)]

end Go.Proofs.Ytmjncedijddmmaa
/-
  Contracts: two rows of ints compared, by the program (Equal) and by the model (made by gensame.py).
-/
namespace Go.Proofs.Ytmjncedijddmmaa
open Go.RowKit

theorem rows_ext {xs ys : List Int} (hl : xs.length = ys.length) (h : ∀ j, j < xs.length → xs.getD j 0 = ys.getD j 0) : xs = ys := by
  apply List.ext_getElem hl
  intro j h1 h2
  have := h j h1
  rw [List.getD_eq_getElem?_getD, List.getD_eq_getElem?_getD, List.getElem?_eq_getElem h1, List.getElem?_eq_getElem h2] at this
  exact this

set_option maxHeartbeats 1000000 in
theorem equal_any (A B : Option Addr) (c d : Nat) (xs ys : List Int) (w : World) (hl : xs.length ≤ 1048576) (_ : ys.length ≤ 1048576) (hA : Cells w A xs) (hB : Cells w B ys) :
    Calls Try.prog 94 #[.slice A xs.length c, .slice B ys.length d] w fun e w' => e = .returned (.bool (decide (xs = ys))) ∧ ∃ n, w' = w.drewN n := by
  by_cases hlen : xs.length = ys.length
  · have HL := hid hlen
    rw [← hlen]
    clear hlen
    go_enter Try.func94, Try.ntmps94
    go_wp2_with fail
    go_loopw [13] (fun i wr => ∃ k : Nat, k ≤ xs.length ∧ i = .int .i64 k ∧ Hid (∀ j, j < k → xs.getD j 0 = ys.getD j 0) ∧ ∃ n, wr = w.drewN n) (fun i _ => xs.length - (intOf i).toNat)
    case atStart => exact ⟨0, Nat.zero_le _, rfl, hid fun j hj => absurd hj (Nat.not_lt_zero _), 0, rfl⟩
    case round =>
      obtain ⟨k, hk, rfl, HE, n, rfl⟩ := hrel
      by_cases hlt : k < xs.length
      · obtain ⟨b, o, rfl, hcc⟩ := hA (by omega)
        obtain ⟨b2, o2, rfl, hcc2⟩ := hB (by rw [← HL.out]; omega)
        have hck := hcc k hlt
        have hck2 := hcc2 k (by rw [← HL.out]; exact hlt)
        clear hcc hcc2
        obtain ⟨x, hx⟩ : ∃ x, x = xs.getD k 0 := ⟨_, rfl⟩
        obtain ⟨y, hy⟩ : ∃ y, y = ys.getD k 0 := ⟨_, rfl⟩
        rw [← hx] at hck
        rw [← hy] at hck2
        have HX := hid hx; have HY := hid hy
        clear hx hy
        by_cases he : x = y
        · subst he
          go_wp2_with fail
          go_quiet (fail)
          go_wp2_with fail
          go_roundw
          case rel => exact ⟨k + 1, by omega, by go_num, hid fun j hj => by
            rcases Nat.lt_or_ge j k with h | h
            · exact HE.out j h
            · rw [show j = k by omega, ← HX.out, ← HY.out], _, rfl⟩
          case measure => simp [intOf]; omega
        · have heb : (x != y) = true := by simpa using he
          have heb2 : (x == y) = false := by simpa using he
          have HN := hid he
          clear he
          go_wp2_with fail
          go_quiet (fail)
          go_wp2_with fail
          go_ret
          exact ⟨ret_bool (decide_eq_false fun e => HN.out (by rw [HX.out, HY.out, e])).symm, _, World.drewN_drewN ..⟩
      · go_wp2_with fail
        go_ret
        refine ⟨ret_bool (decide_eq_true ?_).symm, n, rfl⟩
        exact rows_ext HL.out fun j hj => HE.out j (by omega)
  · have h1 : ¬ (xs.length : Int) = (ys.length : Int) := by omega
    have heb : ((xs.length : Int) != (ys.length : Int)) = true := by simpa using h1
    have heb2 : ((xs.length : Int) == (ys.length : Int)) = false := by simpa using h1
    have HN := hid hlen
    clear hlen h1
    go_enter Try.func94, Try.ntmps94
    go_wp2_with fail
    go_ret
    exact ⟨ret_bool (decide_eq_false fun e => HN.out (by rw [e])).symm, 0, rfl⟩
theorem equal_b (A B : Option Addr) (c d : Nat) (xs ys : List Int) (w : World) (hl : xs.length ≤ 1048576) (hl2 : ys.length ≤ 1048576) (hA : Cells w A xs) (hB : Cells w B ys) (b : Bool) (h : decide (xs = ys) = b) :
    Calls Try.prog 94 #[.slice A xs.length c, .slice B ys.length d] w fun e w' => e = .returned (.bool b) ∧ ∃ n, w' = w.drewN n := by
  subst h; exact equal_any A B c d xs ys w hl hl2 hA hB

set_option maxHeartbeats 1000000 in
theorem l1Same_any (A B : Option Addr) (c d : Nat) (xs ys : List Int) (w : World) (hl : xs.length ≤ 1048576) (_ : ys.length ≤ 1048576) (hA : Cells w A xs) (hB : Cells w B ys) :
    Calls Try.prog 68 #[.slice A xs.length c, .slice B ys.length d] w fun e w' => e = .returned (.bool (decide (xs = ys))) ∧ ∃ n, w' = w.drewN n := by
  by_cases hlen : xs.length = ys.length
  · have HL := hid hlen
    rw [← hlen]
    clear hlen
    go_enter Try.func68, Try.ntmps68
    go_wp2_with fail
    go_loopw [13] (fun i wr => ∃ k : Nat, k ≤ xs.length ∧ i = .int .i64 k ∧ Hid (∀ j, j < k → xs.getD j 0 = ys.getD j 0) ∧ ∃ n, wr = w.drewN n) (fun i _ => xs.length - (intOf i).toNat)
    case atStart => exact ⟨0, Nat.zero_le _, rfl, hid fun j hj => absurd hj (Nat.not_lt_zero _), 0, rfl⟩
    case round =>
      obtain ⟨k, hk, rfl, HE, n, rfl⟩ := hrel
      by_cases hlt : k < xs.length
      · obtain ⟨b, o, rfl, hcc⟩ := hA (by omega)
        obtain ⟨b2, o2, rfl, hcc2⟩ := hB (by rw [← HL.out]; omega)
        have hck := hcc k hlt
        have hck2 := hcc2 k (by rw [← HL.out]; exact hlt)
        clear hcc hcc2
        obtain ⟨x, hx⟩ : ∃ x, x = xs.getD k 0 := ⟨_, rfl⟩
        obtain ⟨y, hy⟩ : ∃ y, y = ys.getD k 0 := ⟨_, rfl⟩
        rw [← hx] at hck
        rw [← hy] at hck2
        have HX := hid hx; have HY := hid hy
        clear hx hy
        by_cases he : x = y
        · subst he
          go_wp2_with fail
          go_quiet (fail)
          go_wp2_with fail
          go_roundw
          case rel => exact ⟨k + 1, by omega, by go_num, hid fun j hj => by
            rcases Nat.lt_or_ge j k with h | h
            · exact HE.out j h
            · rw [show j = k by omega, ← HX.out, ← HY.out], _, rfl⟩
          case measure => simp [intOf]; omega
        · have heb : (x != y) = true := by simpa using he
          have heb2 : (x == y) = false := by simpa using he
          have HN := hid he
          clear he
          go_wp2_with fail
          go_quiet (fail)
          go_wp2_with fail
          go_ret
          exact ⟨ret_bool (decide_eq_false fun e => HN.out (by rw [HX.out, HY.out, e])).symm, _, World.drewN_drewN ..⟩
      · go_wp2_with fail
        go_ret
        refine ⟨ret_bool (decide_eq_true ?_).symm, n, rfl⟩
        exact rows_ext HL.out fun j hj => HE.out j (by omega)
  · have h1 : ¬ (xs.length : Int) = (ys.length : Int) := by omega
    have heb : ((xs.length : Int) != (ys.length : Int)) = true := by simpa using h1
    have heb2 : ((xs.length : Int) == (ys.length : Int)) = false := by simpa using h1
    have HN := hid hlen
    clear hlen h1
    go_enter Try.func68, Try.ntmps68
    go_wp2_with fail
    go_ret
    exact ⟨ret_bool (decide_eq_false fun e => HN.out (by rw [e])).symm, 0, rfl⟩
theorem l1Same_b (A B : Option Addr) (c d : Nat) (xs ys : List Int) (w : World) (hl : xs.length ≤ 1048576) (hl2 : ys.length ≤ 1048576) (hA : Cells w A xs) (hB : Cells w B ys) (b : Bool) (h : decide (xs = ys) = b) :
    Calls Try.prog 68 #[.slice A xs.length c, .slice B ys.length d] w fun e w' => e = .returned (.bool b) ∧ ∃ n, w' = w.drewN n := by
  subst h; exact l1Same_any A B c d xs ys w hl hl2 hA hB

end Go.Proofs.Ytmjncedijddmmaa
