/-
  Several texts in one.
-/
import Derived.Shelf.SlSortCmp.Whole1
import Derived.Shelf.SlGeneric
import Derived.Test.YthbkonpclflkhaaCB
import Derived.Test.YthbkonpclflkhaaR33
import Derived.Test.YthbkonpclflkhaaCI
import Derived.Shelf.SlSortCmp.NoneTotal
/-
  The library's contract laid at this program: sortF.
-/
namespace Go.Proofs.Ythbkonpclflkhaa
open Go.RowKit Go.Shelf Go.Sort

def sortFRen : Go.Shelf.Ren := ⟨fun | 6 => 148 | 15 => 181 | 14 => 180 | 28 => 204 | 29 => 205 | 20 => 196 | 21 => 197 | 22 => 198 | 23 => 199 | 24 => 200 | 25 => 201 | 26 => 202 | 27 => 203 | 46 => 209 | 47 => 210 | 48 => 211 | 49 => 212 | 50 => 213 | 57 => 215 | n => n, fun | 22 => 38 | 24 => 22 | 25 => 112 | 3 => 3 | 39 => 138 | 0 => 0 | 53 => 156 | 55 => 158 | 4 => 4 | 46 => 150 | 45 => 149 | 50 => 47 | 5 => 5 | 9 => 9 | 66 => 159 | 70 => 163 | 76 => 165 | 77 => 166 | n => n, fun | n => n⟩
theorem sortFLays : Go.Proofs.SlLaysF.n6 Try.prog sortFRen := {
  mixed := by kernel_rfl
  f6 := ⟨Try.f148.name, by decide, Try.func148.trans (congrArg some (by kernel_rfl))⟩
  f14 := ⟨Try.f180.name, by decide, Try.func180.trans (congrArg some (by kernel_rfl))⟩
  f15 := Try.func181.trans (congrArg some (by kernel_rfl))
  f20 := ⟨Try.f196.name, by decide, Try.func196.trans (congrArg some (by kernel_rfl))⟩
  f21 := ⟨Try.f197.name, by decide, Try.func197.trans (congrArg some (by kernel_rfl))⟩
  f22 := ⟨Try.f198.name, by decide, Try.func198.trans (congrArg some (by kernel_rfl))⟩
  f23 := ⟨Try.f199.name, by decide, Try.func199.trans (congrArg some (by kernel_rfl))⟩
  f24 := ⟨Try.f200.name, by decide, Try.func200.trans (congrArg some (by kernel_rfl))⟩
  f25 := ⟨Try.f201.name, by decide, Try.func201.trans (congrArg some (by kernel_rfl))⟩
  f26 := ⟨Try.f202.name, by decide, Try.func202.trans (congrArg some (by kernel_rfl))⟩
  f27 := ⟨Try.f203.name, by decide, Try.func203.trans (congrArg some (by kernel_rfl))⟩
  f28 := Try.func204.trans (congrArg some (by kernel_rfl))
  f29 := Try.func205.trans (congrArg some (by kernel_rfl))
  f46 := ⟨Try.f209.name, by decide, Try.func209.trans (congrArg some (by kernel_rfl))⟩
  f47 := Try.func210.trans (congrArg some (by kernel_rfl))
  f48 := Try.func211.trans (congrArg some (by kernel_rfl))
  f49 := ⟨Try.f212.name, by decide, Try.func212.trans (congrArg some (by kernel_rfl))⟩
  f50 := ⟨Try.f213.name, by decide, Try.func213.trans (congrArg some (by kernel_rfl))⟩
  f57 := ⟨Try.f215.name, by decide, Try.func215.trans (congrArg some (by kernel_rfl))⟩
  t0 := Try.underlying0
  a0 := Try.isAgg0
  z0 := Try.sizeOf0
  v0 := Try.zeroValue0
  t3 := Try.underlying3
  a3 := Try.isAgg3
  z3 := Try.sizeOf3
  v3 := Try.zeroValue3
  t4 := Try.underlying4
  a4 := Try.isAgg4
  z4 := Try.sizeOf4
  v4 := Try.zeroValue4
  t5 := Try.underlying5
  a5 := Try.isAgg5
  z5 := Try.sizeOf5
  v5 := Try.zeroValue5
  t9 := Try.underlying9
  a9 := Try.isAgg9
  z9 := Try.sizeOf9
  v9 := Try.zeroValue9
  t22 := Try.underlying38
  a22 := Try.isAgg38
  z22 := Try.sizeOf38
  v22 := Try.zeroValue38
  a24 := Try.isAgg22
  z24 := Try.sizeOf22
  t25 := Try.underlying112
  a25 := Try.isAgg112
  z25 := Try.sizeOf112
  v25 := Try.zeroValue112
  t39 := Try.underlying138
  a39 := Try.isAgg138
  z39 := Try.sizeOf138
  v39 := Try.zeroValue138
  t45 := Try.underlying149
  a45 := Try.isAgg149
  z45 := Try.sizeOf149
  v45 := Try.zeroValue149
  t46 := Try.underlying150
  a46 := Try.isAgg150
  z46 := Try.sizeOf150
  v46 := Try.zeroValue150
  t50 := Try.underlying47
  a50 := Try.isAgg47
  z50 := Try.sizeOf47
  v50 := Try.zeroValue47
  t53 := Try.underlying156
  a53 := Try.isAgg156
  z53 := Try.sizeOf156
  v53 := Try.zeroValue156
  t55 := Try.underlying158
  a55 := Try.isAgg158
  z55 := Try.sizeOf158
  v55 := Try.zeroValue158
  t66 := Try.underlying159
  a66 := Try.isAgg159
  z66 := Try.sizeOf159
  v66 := Try.zeroValue159
  t70 := Try.underlying163
  a70 := Try.isAgg163
  z70 := Try.sizeOf163
  v70 := Try.zeroValue163
  t76 := Try.underlying165
  a76 := Try.isAgg165
  z76 := Try.sizeOf165
  v76 := Try.zeroValue165
  t77 := Try.underlying166
  a77 := Try.isAgg166
  z77 := Try.sizeOf166
  v77 := Try.zeroValue166 }
end Go.Proofs.Ythbkonpclflkhaa
/-
  CoresWith on both sides.
-/
namespace Go.Proofs.Ythbkonpclflkhaa
open Go.RowKit Go.Shelf Go.Sort

theorem cl_facts {t n : Int} {v : List Int} (h : v ∈ lwF t n) : (Lev v ∧ clF v = partsL (kL 11 v) ∧ clOk v = true) ∧ good (clF v) = true ∧ (clF v).sum = n := by
  obtain ⟨L, hs, hn⟩ := lwF_lev h
  have hk : clOk v = true := by simp [clOk, levB_iff.2 L]; omega
  have h2 := L.lo
  have h3 := L.hi
  have e : clF v = partsL (kL 5 v) := by rw [cl_yes hk, cl_at L (by omega) (by omega)]
  have hg := goodB_iff.1 (kL_good (q := 5) L (by omega) (by omega) (by omega))
  have hq0 : ∀ i, i < v.length → 0 ≤ ((5 : Nat) : Int) + v.getD i 0 := fun i hi => by have := lev_small L (by omega) i hi; omega
  refine ⟨⟨L, cl_yes hk, hk⟩, by rw [e]; exact (good_iff _).2 hg.parts, ?_⟩
  have hl : (kL 5 v).length = v.length * 5 := by have := kL_len L hq0; omega
  rw [e, beads_sum hg.rise, kL_sum L hq0, hl]
  omega
def cwF (t n : Int) : List (List Int) := cwK (lwF t n) (lwF t n).length
theorem cwK_rows {t n : Int} {m : Nat} (hm : m ≤ (lwF t n).length) : ∀ r ∈ cwK (lwF t n) m, good r = true ∧ r.sum = n := by
  intro r hr
  have h1 := (cwK_perm m hm).mem_iff.1 hr
  obtain ⟨v, hv, rfl⟩ := List.mem_map.1 h1
  exact (cl_facts (List.mem_of_mem_take hv)).2
theorem good_pos {r : List Int} (h : good r = true) : ∀ x ∈ r, 1 ≤ x := by
  intro x hx
  obtain ⟨j, hj, e⟩ := List.getElem_of_mem hx
  have := ((good_iff r).1 h).pos j hj
  rw [List.getD_eq_getElem?_getD, List.getElem?_eq_getElem hj] at this
  rw [← e]; exact this
theorem mem_getL {L : List (List Int)} {j : Nat} (h : j < L.length) : L.getD j [] ∈ L := by
  rw [List.getD_eq_getElem?_getD, List.getElem?_eq_getElem h]; exact List.getElem_mem h
theorem cwK_sorted {t n : Int} : ∀ m, m ≤ (lwF t n).length → (cwK (lwF t n) m).Pairwise (fun x y => ¬ gcf y x < 0)
  | 0, _ => by simp [cwK]
  | m + 1, h => by
    rw [cwK_succ h]
    refine insC_sorted n _ _ (fun r hr => ?_) (cwK_sorted m (by omega))
    rcases List.mem_cons.1 hr with e | e
    · obtain ⟨-, h1, h2⟩ := cl_facts (mem_getL (show m < (lwF t n).length by omega))
      rw [e]; exact ⟨good_pos h1, h2⟩
    · obtain ⟨h1, h2⟩ := cwK_rows (by omega) r e
      exact ⟨good_pos h1, h2⟩
theorem cwK_len {L : List (List Int)} {m : Nat} (h : m ≤ L.length) : (cwK L m).length = m := by
  rw [(cwK_perm m h).length_eq, List.length_map, List.length_take]; omega
theorem tot_le30 : ∀ rows : List (List Int), (∀ r ∈ rows, r.length ≤ 30) → tot rows ≤ 30 * rows.length
  | [], _ => by simp [tot]
  | r :: rs, h => by
    have h1 := h r (List.mem_cons_self ..)
    have h2 := tot_le30 rs fun x hx => h x (List.mem_cons_of_mem _ hx)
    rw [tot, List.length_cons]; omega
theorem bound_CoresWith (t n : Int) : (cwF t n).length ≤ 1048576 ∧ tot (cwF t n) ≤ 1048576 := by
  have h1 := lwF_len t n
  have h2 : (cwF t n).length = (lwF t n).length := cwK_len (Nat.le_refl _)
  have h3 := tot_le30 (cwF t n) fun r hr => ((good_iff r).1 (cwK_rows (Nat.le_refl _) r hr).1).len
  omega
theorem cw_no {t n : Int} (h : lwOk t n = false) : cwF t n = [] := by unfold cwF; rw [lw_no h]; rfl

set_option maxRecDepth 100000 in
set_option maxHeartbeats 2000000 in
theorem sortGreat_any (w : World) (B g c : Nat) (rows : List (List Int)) (P : Nat → Option Addr) (C : Nat → Nat) (hgood : ∀ r ∈ rows, good r = true) (hlen : rows.length < 1000000) (hp : Push w B (.slice (some ⟨g, 0, none⟩) rows.length c) rows P C)
    (L : List (List Int)) (h1 : rows.Perm L) (h2 : L.Pairwise fun x y => ¬ gcf y x < 0) :
    Calls Try.prog 148 #[.slice (some ⟨g, 0, none⟩) rows.length c, .func (.func 149) #[] #[]] w fun e w' => e = .returned (.tuple #[]) ∧ ∃ P' C', Push w' B (.slice (some ⟨g, 0, none⟩) rows.length c) L P' C' ∧ B ≤ g ∧ ∀ B0 w0, B0 ≤ g → Below B0 w0 w → Below B0 w0 w' := by
  have eg : ∀ args w, (callFunc 149 args).run Try.prog w = .ok (.enter 149 args) w := enters_of Try.func149 (by kernel_rfl) rfl
  have hcall := sortRows_any sortFLays 149 eg gcf gcf_swo (fun W A B c d xs ys hx hy hA hB => (greatest_any A B c d xs ys W (by have := ((good_iff xs).1 hx).len; omega) (by have := ((good_iff ys).1 hy).len; omega) hA hB).mono (by
    rintro e w' ⟨rfl, rfl⟩
    exact ⟨rfl, 0, #[], by unfold grow; simp [World.drewN]⟩)) w B g c rows P C hgood hlen hp
  change Calls Try.prog 148 _ w _ at hcall
  refine hcall.mono ?_
  rintro e w' ⟨rfl, rows', P', C', hperm, hs, hpush, hBg, hbel⟩
  have he : rows' = L := rows_eqG (hperm.trans h1) (pairs_ofG fun i j hij hj => hs i j hij (by rw [hperm.length_eq] at hj; exact hj)) h2
  rw [he] at hpush
  exact ⟨rfl, P', C', hpush, hBg, hbel⟩

theorem sortNone_any (p : Option Addr) (c gf : Nat) (w : World) : Calls Try.prog 148 #[.slice p 0 c, .func (.func gf) #[] #[]] w fun e w' => e = .returned (.tuple #[]) ∧ w' = w :=
  AnyF.slices_SortFunc_none { sortFLays with } p c (.func (.func gf) #[] #[]) w
theorem pushC_form {w : World} {B : Nat} {v : Value} {rows : List (List Int)} {P : Nat → Option Addr} {C : Nat → Nat} (h : Push w B v rows P C) (h0 : 0 < rows.length) : ∃ g c, v = .slice (some ⟨g, 0, none⟩) rows.length c := by
  rcases h.out.2 with ⟨-, h1⟩ | ⟨g, cap, cur, hv, -⟩
  · omega
  · exact ⟨g, cap, hv⟩
theorem takeC_getD {L : List (List Int)} {k : Nat} (h : k < L.length) : L.take (k + 1) = L.take k ++ [L.getD k []] := by
  rw [List.take_succ_eq_append_getElem h, List.getD_eq_getElem?_getD, List.getElem?_eq_getElem h]; rfl
theorem mapC_get {L : List (List Int)} {k : Nat} (h : k < L.length) : (L.map clF).getD k [] = clF (L.getD k []) := by
  rw [List.getD_eq_getElem?_getD, List.getElem?_map, List.getElem?_eq_getElem h, List.getD_eq_getElem?_getD, List.getElem?_eq_getElem h]; rfl

end Go.Proofs.Ythbkonpclflkhaa
