/-
  Several texts in one.
-/
import Derived.Test.YtiebnnchaopbkaaR01
import Derived.Test.YtiebnnchaopbkaaCC
import Derived.Test.YtiebnnchaopbkaaCB
import Derived.Test.YtiebnnchaopbkaaCA
import Derived.Deep.RegionWith
import Derived.Deep.CutRange
/-
  The squares of the hooks less the squares of the contents make the square of the number of cells; hooks of the conjugate. No walk in this text.
-/
namespace Go.Proofs.Ytiebnnchaopbkaa
open Go.RowKit

def smr (n : Nat) (g : Nat → Int) : Int := ((List.range n).map g).sum
theorem smr_zero (g : Nat → Int) : smr 0 g = 0 := rfl
theorem smr_succ (n : Nat) (g : Nat → Int) : smr (n + 1) g = smr n g + g n := by simp [smr, List.range_succ]
theorem smr_first (n : Nat) (g : Nat → Int) : smr (n + 1) g = g 0 + smr n (fun k => g (k + 1)) := by
  simp only [smr, List.range_succ_eq_map, List.map_cons, List.sum_cons, List.map_map]; rfl
theorem smr_congr {f g : Nat → Int} : ∀ n : Nat, (∀ k, k < n → f k = g k) → smr n f = smr n g
  | 0, _ => rfl
  | n + 1, h => by rw [smr_succ, smr_succ, smr_congr n fun k hk => h k (by omega), h n (by omega)]
theorem smr_add (f g : Nat → Int) : ∀ n : Nat, smr n (fun k => f k + g k) = smr n f + smr n g
  | 0 => rfl
  | n + 1 => by rw [smr_succ, smr_succ, smr_succ, smr_add f g n]; omega
theorem smr_mul (a : Int) (f : Nat → Int) : ∀ n : Nat, smr n (fun k => a * f k) = a * smr n f
  | 0 => by rw [smr_zero, smr_zero, Int.mul_zero]
  | n + 1 => by rw [smr_succ, smr_succ, smr_mul a f n, Int.mul_add]
theorem smr_ite (g : Nat → Int) (x : Int) (hx : 0 ≤ x) : ∀ M : Nat, smr M (fun c => if (c : Int) < x then g c else 0) = smr (min M x.toNat) g
  | 0 => by rw [Nat.zero_min]; rfl
  | M + 1 => by
    rw [smr_succ, smr_ite g x hx M]
    split
    · rw [show min M x.toNat = M by omega, show min (M + 1) x.toNat = M + 1 by omega, smr_succ]
    · rw [show min M x.toNat = x.toNat by omega, show min (M + 1) x.toNat = x.toNat by omega, Int.add_zero]
theorem smr_gauss (m : Int) : ∀ n : Nat, smr n (fun c => m * m - 2 * m * (c : Int)) = m * m * n - m * ((n : Int) * n - n)
  | 0 => by rw [smr_zero]; simp
  | n + 1 => by rw [smr_succ, smr_gauss m n]; grind
/-- The sum over the cells of the rows. -/
def dbl (xs : List Int) (f : Nat → Nat → Int) : Int := smr xs.length fun r => smr (xs.getD r 0).toNat (f r)
theorem dbl_cons (x : Int) (t : List Int) (f : Nat → Nat → Int) : dbl (x :: t) f = smr x.toNat (f 0) + dbl t fun r => f (r + 1) := by
  unfold dbl
  rw [List.length_cons, smr_first]
  rfl
theorem dbl_add (xs : List Int) (f g : Nat → Nat → Int) : dbl xs (fun r c => f r c + g r c) = dbl xs f + dbl xs g := by
  unfold dbl
  rw [← smr_add]
  exact smr_congr _ fun k _ => smr_add _ _ _
theorem dbl_mul (a : Int) (xs : List Int) (f : Nat → Nat → Int) : dbl xs (fun r c => a * f r c) = a * dbl xs f := by
  unfold dbl
  rw [← smr_mul]
  exact smr_congr _ fun k _ => smr_mul _ _ _
theorem dbl_congr {xs : List Int} {f g : Nat → Nat → Int} (h : ∀ r c : Nat, r < xs.length → (c : Int) < xs.getD r 0 → f r c = g r c) : dbl xs f = dbl xs g :=
  smr_congr _ fun r hr => smr_congr _ fun c hc => h r c hr (by omega)
theorem colH_cons (x : Int) (t : List Int) (c : Int) : colH (x :: t) c = (if c < x then 1 else 0) + colH t c := by simp [colH]
theorem dbl_col (g : Nat → Int) (M : Nat) : ∀ xs : List Int, (∀ x ∈ xs, 0 ≤ x ∧ x ≤ M) → dbl xs (fun _ c => g c) = smr M fun c => g c * colH xs (c : Int)
  | [], _ => by
    show (0 : Int) = _
    rw [smr_congr M (g := fun _ => 0 * 0) (fun k _ => by simp [colH]), smr_mul, Int.zero_mul]
  | x :: t, h => by
    have hx := h x (List.mem_cons_self ..)
    rw [dbl_cons, dbl_col g M t fun y hy => h y (List.mem_cons_of_mem _ hy)]
    have e := smr_ite g x hx.1 M
    rw [show min M x.toNat = x.toNat by omega] at e
    rw [← e, ← smr_add]
    refine smr_congr _ fun k _ => ?_
    rw [colH_cons]
    split <;> grind
theorem colH_zero {t : List Int} {x c : Int} (h : ∀ y ∈ t, y ≤ x) (hc : x ≤ c) : colH t c = 0 := by
  induction t with
  | nil => rfl
  | cons a t ih =>
    rw [colH_cons, ih fun y hy => h y (List.mem_cons_of_mem _ hy), if_neg (by have := h a (List.mem_cons_self ..); omega)]
    rfl
theorem dbl_one (M : Nat) (xs : List Int) (h : ∀ x ∈ xs, 0 ≤ x ∧ x ≤ M) : dbl xs (fun _ _ => 1) = smr M fun c => colH xs (c : Int) := by
  rw [dbl_col (fun _ => 1) M xs h]
  exact smr_congr _ fun k _ => by rw [Int.one_mul]
theorem dbl_odd (M : Nat) : ∀ xs : List Int, (∀ x ∈ xs, 0 ≤ x ∧ x ≤ M) → xs.Pairwise (fun a b => b ≤ a) → dbl xs (fun r _ => 2 * (r : Int) + 1) = smr M fun c => colH xs (c : Int) * colH xs (c : Int)
  | [], _, _ => by
    show (0 : Int) = _
    rw [smr_congr M (g := fun _ => 0 * 0) (fun k _ => by simp [colH]), smr_mul, Int.zero_mul]
  | x :: t, h, hp => by
    have hx := h x (List.mem_cons_self ..)
    have ht : ∀ y ∈ t, 0 ≤ y ∧ y ≤ M := fun y hy => h y (List.mem_cons_of_mem _ hy)
    have hp' := List.pairwise_cons.1 hp
    rw [dbl_cons, show (dbl t fun r _ => 2 * ((r + 1 : Nat) : Int) + 1) = dbl t fun r c => (2 * (r : Int) + 1) + 2 * (fun _ _ => 1 : Nat → Nat → Int) r c from dbl_congr fun r c _ _ => by show 2 * ((r + 1 : Nat) : Int) + 1 = (2 * (r : Int) + 1) + 2 * 1; omega,
      dbl_add, dbl_mul, dbl_one M t ht, dbl_odd M t ht hp'.2]
    have e := smr_ite (fun _ => 1) x hx.1 M
    rw [show min M x.toNat = x.toNat by omega] at e
    rw [show smr x.toNat (fun _ => 2 * ((0 : Nat) : Int) + 1) = smr x.toNat fun _ => 1 from smr_congr _ fun _ _ => rfl, ← e, ← smr_mul, ← smr_add, ← smr_add]
    refine smr_congr _ fun k _ => ?_
    rw [colH_cons]
    split
    · grind
    · rw [colH_zero hp'.1 (by omega)]; rfl
def hk2 (xs : List Int) (r c : Nat) : Int := xs.getD r 0 - c + colH xs (c : Int) - r - 1
def sqH (xs : List Int) : Int := dbl xs fun r c => hk2 xs r c * hk2 xs r c
def sqC (xs : List Int) : Int := dbl xs fun r c => contN r c * contN r c
theorem hooks_square : ∀ xs : List Int, (∀ x ∈ xs, 0 ≤ x) → xs.Pairwise (fun a b => b ≤ a) → sqH xs = sqC xs + xs.sum * xs.sum
  | [], _, _ => rfl
  | x :: t, h, hp => by
    obtain ⟨m, rfl⟩ : ∃ m : Nat, x = m := ⟨x.toNat, by have := h x (List.mem_cons_self ..); omega⟩
    have hp' := List.pairwise_cons.1 hp
    have ht : ∀ y ∈ t, 0 ≤ y ∧ y ≤ (m : Int) := fun y hy => ⟨h y (List.mem_cons_of_mem _ hy), hp'.1 y hy⟩
    have ih := hooks_square t (fun y hy => (ht y hy).1) hp'.2
    have e1 : sqH ((m : Int) :: t) = smr m (fun c => ((m : Int) - c + colH t (c : Int)) * ((m : Int) - c + colH t (c : Int))) + sqH t := by
      unfold sqH
      rw [dbl_cons]
      congr 1
      · rw [Int.toNat_natCast]
        refine smr_congr _ fun c hc => ?_
        have : hk2 ((m : Int) :: t) 0 c = (m : Int) - c + colH t (c : Int) := by
          unfold hk2; rw [colH_cons, if_pos (by omega)]
          show (m : Int) - c + (1 + colH t c) - ((0 : Nat) : Int) - 1 = _
          omega
        rw [this]
      · refine dbl_congr fun r c hr hc => ?_
        have hm : t.getD r 0 ≤ m := by
          rw [List.getD_eq_getElem?_getD, List.getElem?_eq_getElem hr]
          exact hp'.1 _ (List.getElem_mem hr)
        have : hk2 ((m : Int) :: t) (r + 1) c = hk2 t r c := by
          unfold hk2; rw [colH_cons, if_pos (by omega)]
          show t.getD r 0 - c + (1 + colH t c) - ((r + 1 : Nat) : Int) - 1 = _
          omega
        rw [this]
    have e2 : sqC ((m : Int) :: t) = smr m (fun c => (c : Int) * c) + (sqC t + (-2) * dbl t (fun _ c => (c : Int)) + dbl t (fun r _ => 2 * (r : Int) + 1)) := by
      unfold sqC
      rw [dbl_cons, ← dbl_mul, ← dbl_add, ← dbl_add]
      have a1 : smr (m : Int).toNat (fun c => contN 0 c * contN 0 c) = smr m fun c => (c : Int) * c := by
        rw [Int.toNat_natCast]
        exact smr_congr _ fun c _ => by unfold contN; grind
      rw [a1]
      congr 1
      · exact dbl_congr fun r c _ _ => by unfold contN; grind
    have e3 : smr m (fun c => ((m : Int) - c + colH t (c : Int)) * ((m : Int) - c + colH t (c : Int)))
        = smr m (fun c => (c : Int) * c) + (smr m (fun c => (m : Int) * m - 2 * m * (c : Int)) + (2 * (m : Int) * smr m (fun c => colH t (c : Int)) + ((-2) * smr m (fun c => (c : Int) * colH t (c : Int)) + smr m (fun c => colH t (c : Int) * colH t (c : Int))))) := by
      rw [← smr_mul, ← smr_mul, ← smr_add, ← smr_add, ← smr_add, ← smr_add]
      exact smr_congr _ fun c _ => by grind
    have e4 : smr m (fun c => colH t (c : Int)) = t.sum := cols_sumM m t ht
    rw [e1, e2, e3, smr_gauss, e4, ← dbl_col (fun c => (c : Int)) m t ht, ← dbl_odd m t ht hp'.2, ih, List.sum_cons]
    grind
end Go.Proofs.Ytiebnnchaopbkaa
/-
  Contract: the program's walk along the rim of a cell.
-/
namespace Go.Proofs.Ytiebnnchaopbkaa
open Go.RowKit

def PL (L : List (Nat × Nat)) : List Value := L.flatMap fun q => [.int .i64 (q.1 : Int), .int .i64 (q.2 : Int)]
theorem PL_snoc (L : List (Nat × Nat)) (a b : Nat) : PL L ++ [.int .i64 (a : Int), .int .i64 (b : Int)] = PL (L ++ [(a, b)]) := by simp [PL]
theorem PL_len (L : List (Nat × Nat)) : (PL L).length = L.length * 2 := by
  induction L with
  | nil => rfl
  | cons q t ih => simp only [PL, List.flatMap_cons, List.length_append, List.length_cons, List.length_nil] at ih ⊢; omega
theorem PL_get : ∀ (L : List (Nat × Nat)) (j : Nat), j < L.length → (PL L)[2 * j]? = some (.int .i64 ((L.getD j (0, 0)).1 : Int)) ∧ (PL L)[2 * j + 1]? = some (.int .i64 ((L.getD j (0, 0)).2 : Int))
  | [], j, h => absurd h (by simp)
  | q :: t, 0, _ => by simp [PL]
  | q :: t, j + 1, h => by
    have := PL_get t j (by simpa using h)
    have e : PL (q :: t) = [.int .i64 (q.1 : Int), .int .i64 (q.2 : Int)] ++ PL t := by simp [PL]
    rw [e, List.getElem?_append_right (by simp; omega), List.getElem?_append_right (by simp; omega)]
    simp only [List.length_cons, List.length_nil, List.getD_cons_succ]
    rw [show 2 * (j + 1) - (0 + 1 + 1) = 2 * j by omega, show 2 * (j + 1) + 1 - (0 + 1 + 1) = 2 * j + 1 by omega]
    exact this
theorem Try.infoPlace : (Try.prog.info? 102).map (fun i => (i.zero, i.size, i.bytes)) = some (some (.agg #[.int .i64 0, .int .i64 0]), 2, 16) := by kernel_rfl
theorem two_at {w : World} {x y : Value} {t : TypeId} (j : Nat) (u : Value) (h : [x, y][j]? = some u) : (w.alloc (.cells #[x, y] t)).cell? ((⟨w.heap.size, 0, none⟩ : Addr).add j) = some u := by
  match j, h with
  | 0, h => simp at h; subst h; simp [Addr.add]
  | 1, h => simp at h; subst h; simp [Addr.add]
theorem two_cell (x y : Int) : ∀ u ∈ [Value.int .i64 x, .int .i64 y], u.oneCell' = true := by
  intro u hu; simp at hu; rcases hu with rfl | rfl <;> rfl
def slen : Value → Nat
  | .slice _ n _ => n
  | _ => 0
theorem slen_row {w : World} {B e s n : Nat} {v : Value} {xs : List Value} (h : w.ownsRow B e s v n xs) : slen v = n := by
  rcases h.2 with ⟨rfl, rfl⟩ | ⟨g, cap, cur, rfl, _⟩ <;> rfl

theorem ownsRow_next {w w' : World} {B e s n : Nat} {v : Value} {xs : List Value} (h : w.ownsRow B e s v n xs) (hb : Below w.heap.size w w') : w'.ownsRow B e s v n xs := by
  refine ⟨h.1, ?_⟩
  rcases h.2 with hn | ⟨g, cap, cur, hv, hbg, hgg, rest⟩
  · exact .inl hn
  · exact .inr ⟨g, cap, cur, hv, hbg, by rw [hb.block g (Array.getElem?_eq_some_iff.1 hgg).1]; exact hgg, rest⟩
theorem ownsRow_set2 {w : World} {B e s n g : Nat} {v : Value} {xs : List Value} (h : w.ownsRow B e s v n xs) (hg : g < B) (a b : Value) : ((w.setCell ⟨g, 0, none⟩ a).setCell ⟨g, 1, none⟩ b).ownsRow B e s v n xs := by
  refine ⟨h.1, ?_⟩
  rcases h.2 with hn | ⟨g', cap, cur, hv, hbg, hgg, rest⟩
  · exact .inl hn
  · exact .inr ⟨g', cap, cur, hv, hbg, by rw [Below.heap_setCell _ _ _ g' (by simp; omega), Below.heap_setCell _ _ _ g' (by simp; omega)]; exact hgg, rest⟩
theorem ownsRow_more {w : World} {B B' e s n : Nat} {v : Value} {xs : List Value} (h : w.ownsRow B e s v n xs) (hB : B' ≤ B) : w.ownsRow B' e s v n xs := by
  refine ⟨h.1, ?_⟩
  rcases h.2 with hn | ⟨g, cap, cur, hv, hb, rest⟩
  · exact .inl hn
  · exact .inr ⟨g, cap, cur, hv, Nat.le_trans hB hb, rest⟩

end Go.Proofs.Ytiebnnchaopbkaa
/-
  Contracts: RimHook of the program and of the model.
-/
namespace Go.Proofs.Ytiebnnchaopbkaa
open Go.RowKit

def rimF (xs : List Int) (r k : Int) : List (List Int) := if atB xs r k then pairs (rimL xs r.toNat k.toNat) else []
theorem rimL_bd {xs : List Int} (G : Good xs) (r k : Nat) : (rimL xs r k).length ≤ 1000 := by
  unfold rimL
  have h := rimUp_len xs k ((colH xs k).toNat - 1) G.le ((colH xs k).toNat - r)
  have := colH_bound xs k
  have := G.len
  omega
theorem bound_RimHook (xs : List Int) (r k : Int) : (rimF xs r k).length ≤ 1048576 ∧ tot (rimF xs r k) ≤ 1048576 := by
  unfold rimF
  split
  · rename_i h
    simp only [atB, Bool.and_eq_true] at h
    have := rimL_bd ((good_iff xs).1 h.1) r.toNat k.toNat
    rw [pairs_len, tot_pairs]; omega
  · simp [tot]

theorem pl_cells {w : World} {B n cap g : Nat} {L : List (Nat × Nat)} (h : w.ownsRow B 102 2 (.slice (some ⟨g, 0, none⟩) n cap) n (PL L)) (hn : n = L.length) (j : Nat) (hj : j < L.length) :
    w.cell? ⟨g, 2 * j, none⟩ = some (.int .i64 ((L.getD j (0, 0)).1 : Int)) ∧ w.cell? ⟨g, 2 * j + 1, none⟩ = some (.int .i64 ((L.getD j (0, 0)).2 : Int)) := by
  have hg := PL_get L j hj
  rw [World.ownsRow.cellAt h (2 * j) (by omega), World.ownsRow.cellAt h (2 * j + 1) (by omega)]
  exact hg
theorem getD_take_succ (L : List (Nat × Nat)) (j : Nat) (h : j < L.length) : L.take (j + 1) = L.take j ++ [((L.getD j (0, 0)).1, (L.getD j (0, 0)).2)] := by
  rw [List.take_succ_eq_append_getElem h, List.getD_eq_getElem?_getD, List.getElem?_eq_getElem h]; rfl

theorem Cells.at_row {w : World} {b o : Nat} {xs : List Int} (h : Cells w (some ⟨b, o, none⟩) xs) {j : Nat} (hj : j < xs.length) : w.cell? ⟨b, o + j, none⟩ = some (.int .i64 (xs.getD j 0)) := by
  obtain ⟨b', o', e, hc⟩ := h (by omega)
  injection e with e; injection e with e1 e2
  subst e1 e2
  exact hc j hj

end Go.Proofs.Ytiebnnchaopbkaa
