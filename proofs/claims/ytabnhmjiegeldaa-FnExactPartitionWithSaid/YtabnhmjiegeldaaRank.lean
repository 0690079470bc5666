/-
  Contracts: RankPartition of the program and of the model.
-/
import Derived.Test.YtabnhmjiegeldaaCountF
namespace Go.Proofs.Ytabnhmjiegeldaa
open Go.RowKit

theorem T_sat : ∀ n, n < 31 → ∀ k, k < 31 → n ≤ k → T n k = T n n := by decide +kernel
theorem T_min {l m : Nat} (hl : l < 31) (hm : m < 31) : T l (min l m) = T l m := by
  rcases Nat.le_total l m with h | h
  · rw [Nat.min_eq_left h, T_sat l hl m hm h]
  · rw [Nat.min_eq_right h]
def rk : Nat → Nat → List Int → Int
  | _, _, [] => 0
  | l, m, x :: t => ((T l m : Int) - T l x.toNat) + rk (l - x.toNat) x.toNat t
def rankF (xs : List Int) : Int := if good xs then rk xs.sum.toNat xs.sum.toNat xs else 0
theorem rankF_t {xs : List Int} (h : good xs = true) : rankF xs = rk xs.sum.toNat xs.sum.toNat xs := by simp [rankF, h]
theorem rankF_f {xs : List Int} (h : good xs = false) : rankF xs = 0 := by simp [rankF, h]
theorem sum_drop_nonneg {xs : List Int} (G : Good xs) (k : Nat) : 0 ≤ (xs.drop k).sum := by
  refine (sum_bound (xs.drop k) 30 fun j hj => ?_).1
  rw [List.length_drop] at hj
  rw [getD_drop]
  have := G.pos (k + j) (by omega); have := G.le (k + j) (by omega); omega
theorem sum_drop {xs : List Int} {k : Nat} (h : k < xs.length) : (xs.drop k).sum = xs.getD k 0 + (xs.drop (k + 1)).sum := by rw [drop_cons xs k h, List.sum_cons]

set_option maxHeartbeats 1000000 in
theorem above_any (b n part limit : Nat) (w : World) (hn : n ≤ 30) (hp : part ≤ 30) (hm : limit ≤ 30) (ht : Tab w b (fun i => (T (i / 31) (i % 31) : Int))) :
    Calls Try.prog 173 #[.pointer (some ⟨b, 0, none⟩), .int .i64 n, .int .i64 part, .int .i64 limit] w fun e w' => e = .returned (.int .i64 ((T n limit : Int) - T n part)) ∧ ∃ k, w' = w.drewN k := by
  have hc := ht.cell (n * 31 + limit) (by omega)
  rw [show (n * 31 + limit) / 31 = n by omega, show (n * 31 + limit) % 31 = limit by omega] at hc
  have hd := ht.cell (n * 31 + part) (by omega)
  rw [show (n * 31 + part) / 31 = n by omega, show (n * 31 + part) % 31 = part by omega] at hd
  have h1 := T_bound n (by omega) limit (by omega)
  have h2 := T_bound n (by omega) part (by omega)
  have hn31 : (n : Int) < 31 := by omega
  have hp31 : (part : Int) < 31 := by omega
  have hl31 : (limit : Int) < 31 := by omega
  obtain ⟨u, hu⟩ : ∃ u, u = T n limit := ⟨_, rfl⟩
  obtain ⟨v, hv⟩ : ∃ v, v = T n part := ⟨_, rfl⟩
  rw [← hu] at hc h1
  rw [← hv] at hd h2
  rw [← hu, ← hv]
  have hw : IntKind.i64.wrap ((u : Int) - v) = (u : Int) - v := IntWalk.i64_in _ (by omega)
  clear ht hu hv
  go_enter Try.func173, Try.ntmps173
  go_wp2_with fail
  go_quiet (fail)
  go_wp2_with fail
  go_ret
  exact ⟨rfl, _, rfl⟩

end Go.Proofs.Ytabnhmjiegeldaa
