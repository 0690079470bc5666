/-
  Several texts in one.
-/
import Derived.Test.YtiebnnchaopbkaaR11
import Derived.Test.YtiebnnchaopbkaaCB
import Derived.Shelf.SlSortCmp.Whole1
import Derived.Lib.OwnBridge
/-
  Contracts: cmp.Compare, slices.Compare, cmp.Or at ints; the two orders of partitions.
-/
namespace Go.Proofs.Ytiebnnchaopbkaa
open Go.RowKit

def cmpI (x y : Int) : Int := if x < y then -1 else if y < x then 1 else 0
def cmpL : List Int → List Int → Int
  | [], [] => 0
  | [], _ :: _ => -1
  | _ :: _, [] => 1
  | x :: p, y :: q => if x < y then -1 else if y < x then 1 else cmpL p q
theorem cmpL_drop (p q : List Int) (k : Nat) (h1 : k < p.length) (h2 : k < q.length) : cmpL (p.drop k) (q.drop k) = if p.getD k 0 < q.getD k 0 then -1 else if q.getD k 0 < p.getD k 0 then 1 else cmpL (p.drop (k + 1)) (q.drop (k + 1)) := by
  have e1 : p.drop k = p.getD k 0 :: p.drop (k + 1) := by rw [List.drop_eq_getElem_cons h1, List.getD_eq_getElem?_getD, List.getElem?_eq_getElem h1]; rfl
  have e2 : q.drop k = q.getD k 0 :: q.drop (k + 1) := by rw [List.drop_eq_getElem_cons h2, List.getD_eq_getElem?_getD, List.getElem?_eq_getElem h2]; rfl
  rw [e1, e2, cmpL]
theorem cmpL_long (p q : List Int) (k : Nat) (h1 : k < p.length) (h2 : q.length ≤ k) : cmpL (p.drop k) (q.drop k) = 1 := by
  rw [List.drop_eq_getElem_cons h1, List.drop_eq_nil_of_le h2]; rfl
theorem cmpL_end (p q : List Int) (k : Nat) (h1 : p.length ≤ k) : cmpL (p.drop k) (q.drop k) = if k < q.length then -1 else 0 := by
  rw [List.drop_eq_nil_of_le h1]
  split
  · rename_i h; rw [List.drop_eq_getElem_cons h]; rfl
  · rw [List.drop_eq_nil_of_le (by omega)]; rfl

set_option maxHeartbeats 400000 in
theorem isNaN_any (x : Int) (w : World) : Calls Try.prog 82 #[.int .i64 x] w fun e w' => e = .returned (.bool false) ∧ w = w' := by
  go_enter Try.func82, Try.ntmps82
  go_wp2_with fail
  go_ret
  exact ⟨ret_bool (by simp), rfl⟩
set_option maxHeartbeats 400000 in
theorem cmp_any (x y : Int) (w : World) : Calls Try.prog 69 #[.int .i64 x, .int .i64 y] w fun e w' => e = .returned (.int .i64 (cmpI x y)) ∧ w = w' := by
  unfold cmpI
  by_cases h1 : x < y
  · rw [if_pos h1]
    go_enter Try.func69, Try.ntmps69
    go_wp2_with (go_at_call 82; refine (isNaN_any _ _).mono ?_; rintro e w' ⟨rfl, rfl⟩)
    go_ret
    exact ⟨rfl, rfl⟩
  rw [if_neg h1]
  by_cases h2 : y < x
  · rw [if_pos h2]
    go_enter Try.func69, Try.ntmps69
    go_wp2_with (go_at_call 82; refine (isNaN_any _ _).mono ?_; rintro e w' ⟨rfl, rfl⟩)
    go_ret
    exact ⟨rfl, rfl⟩
  · rw [if_neg h2]
    go_enter Try.func69, Try.ntmps69
    go_wp2_with (go_at_call 82; refine (isNaN_any _ _).mono ?_; rintro e w' ⟨rfl, rfl⟩)
    go_ret
    exact ⟨rfl, rfl⟩
theorem cmp_v (x y : Int) (v : Int) (h : cmpI x y = v) (w : World) : Calls Try.prog 69 #[.int .i64 x, .int .i64 y] w fun e w' => e = .returned (.int .i64 v) ∧ w = w' := by
  subst h; exact cmp_any x y w

set_option maxRecDepth 100000 in
set_option maxHeartbeats 2000000 in
theorem slCompare_any (A B : Option Addr) (c d : Nat) (xs ys : List Int) (w : World) (hl : xs.length ≤ 1048576) (hl2 : ys.length ≤ 1048576) (hA : Cells w A xs) (hB : Cells w B ys) :
    Calls Try.prog 43 #[.slice A xs.length c, .slice B ys.length d] w fun e w' => e = .returned (.int .i64 (cmpL xs ys)) ∧ w = w' := by
  have HR := hid (show cmpL xs ys = cmpL (xs.drop 0) (ys.drop 0) from rfl)
  obtain ⟨R, hR⟩ : ∃ R, R = cmpL xs ys := ⟨_, rfl⟩
  rw [← hR] at HR ⊢
  clear hR
  go_enter Try.func43, Try.ntmps43
  go_wp2_with fail
  go_loop [11] (fun i => ∃ k : Nat, k ≤ xs.length ∧ i = .int .i64 k ∧ Hid (k ≤ ys.length ∧ R = cmpL (xs.drop k) (ys.drop k))) (fun i => xs.length - (intOf i).toNat)
  case atStart => exact ⟨0, Nat.zero_le _, rfl, hid ⟨Nat.zero_le _, HR.out⟩⟩
  case round =>
    obtain ⟨k, hk, rfl, HE⟩ := hrel
    by_cases hlt : k < xs.length
    · obtain ⟨b, o, rfl, hcc⟩ := hA (by omega)
      have hck := hcc k hlt
      by_cases hlt2 : k < ys.length
      · obtain ⟨b2, o2, rfl, hcc2⟩ := hB (by omega)
        have hck2 := hcc2 k hlt2
        have HD := hid (HE.out.2.trans (cmpL_drop xs ys k hlt hlt2))
        clear hcc hcc2
        obtain ⟨x, hx⟩ : ∃ x, x = xs.getD k 0 := ⟨_, rfl⟩
        obtain ⟨y, hy⟩ : ∃ y, y = ys.getD k 0 := ⟨_, rfl⟩
        rw [← hx] at hck HD
        rw [← hy] at hck2 HD
        clear hx hy
        by_cases h1 : x < y
        · have HC := hid (show cmpI x y = -1 by unfold cmpI; rw [if_pos h1])
          have HF := hid (show R = -1 by rw [HD.out, if_pos h1])
          go_wp2_with (go_at_call 69; refine (cmp_v _ _ _ HC.out _).mono ?_; rintro e w' ⟨rfl, rfl⟩)
          go_ret
          exact ⟨ret_int HF.out.symm, rfl⟩
        by_cases h2 : y < x
        · have HC := hid (show cmpI x y = 1 by unfold cmpI; rw [if_neg h1, if_pos h2])
          have HF := hid (show R = 1 by rw [HD.out, if_neg h1, if_pos h2])
          go_wp2_with (go_at_call 69; refine (cmp_v _ _ _ HC.out _).mono ?_; rintro e w' ⟨rfl, rfl⟩)
          go_ret
          exact ⟨ret_int HF.out.symm, rfl⟩
        · have HC := hid (show cmpI x y = 0 by unfold cmpI; rw [if_neg h1, if_neg h2])
          have HF := hid (show R = cmpL (xs.drop (k + 1)) (ys.drop (k + 1)) by rw [HD.out, if_neg h1, if_neg h2])
          go_wp2_with (go_at_call 69; refine (cmp_v _ _ _ HC.out _).mono ?_; rintro e w' ⟨rfl, rfl⟩)
          go_round
          case rel => exact ⟨k + 1, by omega, by go_num, hid ⟨by omega, HF.out⟩⟩
          case measure => simp [intOf]; omega
      · have HF := hid (show R = 1 by rw [HE.out.2, cmpL_long xs ys k hlt (by omega)])
        clear hcc
        go_wp2_with fail
        go_ret
        exact ⟨ret_int HF.out.symm, rfl⟩
    · have HF := hid (show R = if k < ys.length then -1 else 0 by rw [HE.out.2, cmpL_end xs ys k (by omega)])
      have HK := hid (show k = xs.length by omega)
      by_cases h3 : xs.length < ys.length
      · have HF2 := hid (show R = -1 by rw [HF.out, if_pos (by rw [HK.out]; exact h3)])
        go_wp2_with fail
        go_ret
        exact ⟨ret_int HF2.out.symm, rfl⟩
      · have HF2 := hid (show R = 0 by rw [HF.out, if_neg (by rw [HK.out]; exact h3)])
        go_wp2_with fail
        go_ret
        exact ⟨ret_int HF2.out.symm, rfl⟩
set_option maxHeartbeats 800000 in
theorem greatest_any (A B : Option Addr) (c d : Nat) (xs ys : List Int) (w : World) (hl : xs.length ≤ 1048576) (hl2 : ys.length ≤ 1048576) (hA : Cells w A xs) (hB : Cells w B ys) :
    Calls Try.prog 21 #[.slice A xs.length c, .slice B ys.length d] w fun e w' => e = .returned (.int .i64 (cmpL ys xs)) ∧ w = w' := by
  have HC := hid (slCompare_any B A d c ys xs w hl2 hl hB hA)
  obtain ⟨v, hv⟩ : ∃ v, v = cmpL ys xs := ⟨_, rfl⟩
  rw [← hv] at HC ⊢
  clear hv
  go_enter Try.func21, Try.ntmps21
  go_wp2_with (go_at_call 43; refine HC.out.mono ?_; rintro e w' ⟨rfl, rfl⟩)
  go_ret
  exact ⟨rfl, rfl⟩
def orI (x y : Int) : Int := if x = 0 then y else x
def fcf (p q : List Int) : Int := orI (cmpI p.sum q.sum) (cmpL q p)
end Go.Proofs.Ytiebnnchaopbkaa
/-
  The order of lists of numbers: plain facts.
-/
namespace Go.Proofs.Ytiebnnchaopbkaa
open Go.RowKit

theorem cmpL_refl : ∀ p : List Int, cmpL p p = 0
  | [] => rfl
  | x :: p => by unfold cmpL; rw [if_neg (by omega), if_neg (by omega)]; exact cmpL_refl p
theorem cmpL_anti : ∀ p q : List Int, cmpL q p = - cmpL p q
  | [], [] => rfl
  | [], _ :: _ => rfl
  | _ :: _, [] => rfl
  | x :: p, y :: q => by
    unfold cmpL
    have ih := cmpL_anti p q
    by_cases h1 : x < y
    · rw [if_neg (by omega), if_pos h1, if_pos h1]; rfl
    · by_cases h2 : y < x
      · rw [if_pos h2, if_neg h1, if_pos h2]
      · rw [if_neg h2, if_neg h1, if_neg h1, if_neg h2]; exact ih
theorem cmpL_zero : ∀ p q : List Int, cmpL p q = 0 → p = q
  | [], [], _ => rfl
  | [], _ :: _, h => by simp [cmpL] at h
  | _ :: _, [], h => by simp [cmpL] at h
  | x :: p, y :: q, h => by
    unfold cmpL at h
    by_cases h1 : x < y
    · rw [if_pos h1] at h; omega
    · by_cases h2 : y < x
      · rw [if_neg h1, if_pos h2] at h; omega
      · rw [if_neg h1, if_neg h2] at h
        rw [cmpL_zero p q h, show x = y by omega]
theorem cmpL_trans : ∀ p q r : List Int, cmpL p q < 0 → cmpL q r < 0 → cmpL p r < 0
  | [], [], _, h, _ => by simp [cmpL] at h
  | [], _ :: _, [], _, h => by simp [cmpL] at h
  | [], _ :: _, _ :: _, _, _ => by simp [cmpL]
  | _ :: _, [], _, h, _ => by simp [cmpL] at h
  | _ :: _, _ :: _, [], _, h => by simp [cmpL] at h
  | x :: p, y :: q, z :: r, h, h' => by
    unfold cmpL at h h' ⊢
    have ih := cmpL_trans p q r
    by_cases h1 : x < y
    · by_cases h2 : y < z
      · rw [if_pos (by omega)]; omega
      · by_cases h3 : z < y
        · rw [if_neg h2, if_pos h3] at h'; omega
        · rw [if_pos (by omega)]; omega
    · by_cases h1' : y < x
      · rw [if_neg h1, if_pos h1'] at h; omega
      · rw [if_neg h1, if_neg h1'] at h
        by_cases h2 : y < z
        · rw [if_pos (by omega)]; omega
        · by_cases h3 : z < y
          · rw [if_neg h2, if_pos h3] at h'; omega
          · rw [if_neg h2, if_neg h3] at h'
            rw [if_neg (by omega), if_neg (by omega)]
            exact ih h h'
end Go.Proofs.Ytiebnnchaopbkaa
/-
  The library's sort of rows by an order of partitions.
-/
namespace Go.Proofs.Ytiebnnchaopbkaa
open Go.RowKit Go.Shelf Go.Sort

theorem sw_block {α : Type} [Inhabited α] (enc : α → Value) (w : World) (g m : Nat) (d : Array α) (os : Array Obj) (b : Nat) (hb : b ≠ g) (hlt : b < w.heap.size) : (sortWorld enc w g 0 m d os).heap[b]? = w.heap[b]? := by
  unfold sortWorld
  rw [heap_grow_old _ _ (by rw [size_putRow]; exact hlt)]
  simp [putRow, mapBlock, Sort.ahead, Array.getElem?_modify, show ¬ g = b from fun e => hb e.symm]
theorem getD_range_perm {ys : List Nat} {n : Nat} (h : ys.Perm (List.range n)) (j : Nat) (hj : j < n) : ys.getD j 0 < n := by
  have hl : ys.length = n := by rw [h.length_eq, List.length_range]
  have hm : ys.getD j 0 ∈ ys := by rw [List.getD_eq_getElem?_getD, List.getElem?_eq_getElem (by omega)]; exact List.getElem_mem _
  exact List.mem_range.1 (h.mem_iff.1 hm)
theorem getD_range_inj {ys : List Nat} {n : Nat} (h : ys.Perm (List.range n)) (i j : Nat) (hij : i < j) (hj : j < n) : ys.getD i 0 ≠ ys.getD j 0 := by
  have hl : ys.length = n := by rw [h.length_eq, List.length_range]
  have hn : ys.Nodup := h.nodup_iff.2 List.nodup_range
  rw [List.getD_eq_getElem?_getD, List.getElem?_eq_getElem (by omega), List.getD_eq_getElem?_getD, List.getElem?_eq_getElem (by omega)]
  intro e
  have := (List.getElem_inj hn).1 e
  omega
theorem map_range_getD (rows : List (List Int)) : (List.range rows.length).map (fun i => rows.getD i []) = rows := by
  apply List.ext_getElem?
  intro j
  rw [List.getElem?_map]
  by_cases h : j < rows.length
  · rw [List.getElem?_range h, List.getElem?_eq_getElem h, Option.map_some, List.getD_eq_getElem?_getD, List.getElem?_eq_getElem h]; rfl
  · rw [List.getElem?_eq_none (by simp; omega), List.getElem?_eq_none (by omega)]; rfl

theorem swo_on {α β : Type} {cf : α → α → Int} (h : SWO (ltOf cf)) (f : β → α) : SWO (ltOf fun i j => cf (f i) (f j)) :=
  ⟨fun x => h.irrefl (f x), fun x y z h1 h2 => h.trans (f x) (f y) (f z) h1 h2, fun x y z h1 h2 => h.ntrans (f x) (f y) (f z) h1 h2⟩

theorem sortRows_any {ρ : Ren} (L : SlLaysF.n6 Try.prog ρ) (gf : Nat) (eg : ∀ args w, (callFunc gf args).run Try.prog w = .ok (.enter gf args) w) (cf : List Int → List Int → Int) (hO : SWO (ltOf cf))
    (hcmp : ∀ W A B c d xs ys, good xs = true → good ys = true → Cells W A xs → Cells W B ys → Calls Try.prog gf #[.slice A xs.length c, .slice B ys.length d] W fun e w' => e = .returned (.int .i64 (cf xs ys)) ∧ ∃ q os, w' = grow (W.drewN q) os)
    (w : World) (B g c : Nat) (rows : List (List Int)) (P : Nat → Option Addr) (C : Nat → Nat) (hgood : ∀ r ∈ rows, good r = true) (hlen : rows.length < 1000000) (hp : Push w B (.slice (some ⟨g, 0, none⟩) rows.length c) rows P C) :
    Calls Try.prog (ρ.f 6) #[.slice (some ⟨g, 0, none⟩) rows.length c, .func (.func gf) #[] #[]] w fun e w' => e = .returned (.tuple #[]) ∧ ∃ rows' P' C', rows'.Perm rows ∧ (∀ i j, i < j → j < rows.length → ltOf cf (rows'.getD j []) (rows'.getD i []) = false) ∧
      Push w' B (.slice (some ⟨g, 0, none⟩) rows.length c) rows' P' C' ∧ B ≤ g ∧ ∀ B0 w0, B0 ≤ g → Below B0 w0 w → Below B0 w0 w' := by
  obtain ⟨n, hn⟩ : ∃ n, n = rows.length := ⟨_, rfl⟩
  obtain ⟨enc, henc⟩ : ∃ enc : Nat → Value, enc = fun j => .slice (P j) (rows.getD j []).length (C j) := ⟨_, rfl⟩
  have hout : w.ownsRow B 28 1 (.slice (some ⟨g, 0, none⟩) n c) n ((List.range n).map enc) := by
    have h := hp.out
    rw [hn, henc]; exact h
  obtain ⟨g', cap', hv, hBg, hgw, hnc, hcm, -, hH⟩ := Lib.holds_of_ownsRow hout (fun e => by injection e with h1; cases h1)
  injection hv with h1 h2 h3
  injection h1 with h1
  injection h1 with h1
  subst h1; subst h3
  have hcells : ∀ W : World, (∀ b, b ≠ g → b < w.heap.size → W.heap[b]? = w.heap[b]?) → ∀ x, Cells W (P x) (rows.getD x []) := by
    intro W hW x
    by_cases hx : x < rows.length
    · have ho := hp.row x hx
      exact (ho.keep fun b hb hlt => hW b (fun e => by
        have := row_ne' hp.out ho b hb
        rw [e] at this
        exact this rfl) hlt).cells
    · rw [List.getD_eq_getElem?_getD, List.getElem?_eq_none (by omega)]; exact Cells.nil _ _
  have hgd : ∀ x, good (rows.getD x []) = true := by
    intro x
    by_cases hx : x < rows.length
    · exact hgood _ (by rw [List.getD_eq_getElem?_getD, List.getElem?_eq_getElem hx]; exact List.getElem_mem hx)
    · rw [List.getD_eq_getElem?_getD, List.getElem?_eq_none (by omega)]; rfl
  have hs : (List.range n).toArray.size = n := by simp
  have hlays : CmpLays1 Try.prog gf #[] enc (fun i j => cf (rows.getD i []) (rows.getD j [])) g 0 (List.range n).toArray.size w := by
    intro m os dk _ x y
    have h := hcmp (sortWorld enc w g 0 m dk os) (P x) (P y) (C x) (C y) (rows.getD x []) (rows.getD y []) (hgd x) (hgd y) (hcells _ (fun b h1 h2 => sw_block enc w g m dk os b h1 h2) x) (hcells _ (fun b h1 h2 => sw_block enc w g m dk os b h1 h2) y)
    rw [henc]
    rw [henc] at h
    exact h
  have hone : OneCell enc := by rw [henc]; exact fun _ => rfl
  have hcall := Any.slices_SortFunc L enc hone (fun i j => cf (rows.getD i []) (rows.getD j [])) (swo_on hO fun i => rows.getD i []) gf #[] g 0 c (List.range n).toArray w eg hlays hH hgw (by rw [hs]; omega)
  rw [hs] at hcall
  rw [← hn]
  refine hcall.mono ?_
  rintro e w' ⟨rfl, d', m, os, ⟨hds, -, hperm⟩, hsort, rfl⟩
  have hd'n : d'.size = n := by rw [hds, hs]
  have hys : d'.toList.Perm (List.range n) := by
    have e1 : (d'.extract 0 n) = d' := by rw [← hd'n]; exact Array.extract_size
    have e2 : ((List.range n).toArray.extract 0 n) = (List.range n).toArray := by
      have := Array.extract_size (xs := (List.range n).toArray)
      rw [hs] at this; exact this
    rw [e1, e2] at hperm
    exact hperm
  obtain ⟨ys, hyse⟩ : ∃ ys, ys = d'.toList := ⟨_, rfl⟩
  rw [← hyse] at hys
  have hyl : ys.length = n := by rw [hys.length_eq, List.length_range]
  have hda : d' = ys.toArray := by rw [hyse]
  have hget : ∀ j, j < n → d'[j]! = ys.getD j 0 := by
    intro j hj
    rw [hda, List.getD_eq_getElem?_getD, List.getElem?_eq_getElem (by omega)]
    simp [getElem!_pos, hyl, hj]
  have hblk : ∀ b, b ≠ g → b < w.heap.size → (sortWorld enc w g 0 m d' os).heap[b]? = w.heap[b]? := fun b h1 h2 => sw_block enc w g m d' os b h1 h2
  have hlt := getD_range_perm hys
  have hinj := getD_range_inj hys
  have hr' : ∀ j, j < n → (ys.map fun i => rows.getD i []).getD j [] = rows.getD (ys.getD j 0) [] := by
    intro j hj
    rw [List.getD_eq_getElem?_getD, List.getElem?_map, List.getElem?_eq_getElem (by omega), List.getD_eq_getElem?_getD (l := ys), List.getElem?_eq_getElem (by omega)]; rfl
  refine ⟨rfl, ys.map fun i => rows.getD i [], fun j => P (ys.getD j 0), fun j => C (ys.getD j 0), ?_, ?_, ⟨?_, ?_, ?_⟩, hBg, ?_⟩
  · have := hys.map fun i => rows.getD i []
    rw [hn, map_range_getD] at this
    exact this
  · intro i j hij hj
    have h := hsort i j (Nat.zero_le _) hij (by omega)
    rw [hget j (by omega), hget i (by omega)] at h
    rw [hr' j (by omega), hr' i (by omega)]
    exact h
  · have e1 : RL (fun j => P (ys.getD j 0)) (fun j => C (ys.getD j 0)) (ys.map fun i => rows.getD i []) = ys.map enc := by
      apply List.ext_getElem?
      intro j
      by_cases hj : j < n
      · rw [RL_get _ _ _ _ (by rw [List.length_map]; omega), hr' j hj, List.getElem?_map, List.getElem?_eq_getElem (by omega), henc]
        rw [List.getD_eq_getElem?_getD (l := ys), List.getElem?_eq_getElem (by omega)]; rfl
      · rw [List.getElem?_eq_none (by rw [RL_len, List.length_map]; omega), List.getElem?_eq_none (by rw [List.length_map]; omega)]
    rw [e1, List.length_map, hyl]
    have h2 := Lib.ownsRow_putRow (q := m) (k := n) hout hyl (Nat.le_refl _)
    rw [List.take_of_length_le (by omega), ← hda] at h2
    exact ownsRow_keep h2 fun b _ hb => by unfold sortWorld; exact heap_grow_old _ _ hb
  · intro j hj
    rw [List.length_map, hyl] at hj
    have ho := hp.row (ys.getD j 0) (by rw [← hn]; exact hlt j hj)
    rw [hr' j hj]
    exact ho.keep fun b hb hl => hblk b (fun e => by
      have := row_ne' hp.out ho b hb
      rw [e] at this
      exact this rfl) hl
  · intro i j hij hj b hb he
    rw [List.length_map, hyl] at hj
    have h1 := hlt i (by omega)
    have h2 := hlt j hj
    rcases Nat.lt_or_gt_of_ne (hinj i j hij hj) with h | h
    · exact hp.apart _ _ h (by rw [← hn]; exact h2) b hb he
    · exact hp.apart _ _ h (by rw [← hn]; exact h1) b he hb
  · intro B0 w0 hB0 hbel
    have h3 := Lib.below_putRow (enc := enc) (q := m) (d := d') hbel hB0
    refine ⟨h3.os, h3.tape, h3.output, ?_, fun k hk => ?_⟩
    · unfold sortWorld; rw [size_grow]; have := h3.size; omega
    · unfold sortWorld
      by_cases hks : k < (putRow enc (Sort.ahead w m) g 0 d').heap.size
      · rw [heap_grow_old _ _ hks]; exact h3.block k hk
      · rw [size_putRow] at hks
        exact absurd (show k < w.heap.size by have := hbel.size; omega) hks
end Go.Proofs.Ytiebnnchaopbkaa
