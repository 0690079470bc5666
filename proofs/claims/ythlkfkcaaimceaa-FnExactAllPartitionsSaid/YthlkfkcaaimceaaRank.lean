/-
  Contracts: RankPartition of the program and of the model.
-/
import Derived.Test.YthlkfkcaaimceaaCountF
namespace Go.Proofs.Ythlkfkcaaimceaa
open Go.RowKit

theorem T_sat : ∀ n, n < 31 → ∀ k, k < 31 → n ≤ k → T n k = T n n := by decide +kernel
theorem T_min {l m : Nat} (hl : l < 31) (hm : m < 31) : T l (min l m) = T l m := by
  rcases Nat.le_total l m with h | h
  · rw [Nat.min_eq_left h, T_sat l hl m hm h]
  · rw [Nat.min_eq_right h]
def rk : Nat → Nat → List Int → Int
  | _, _, [] => 0
  | l, m, x :: t => ((T l m : Int) - T l x.toNat) + rk (l - x.toNat) x.toNat t
def rankF (xs : List Int) : Int := if good xs then rk xs.sum.toNat xs.sum.toNat xs else 0
theorem rankF_t {xs : List Int} (h : good xs = true) : rankF xs = rk xs.sum.toNat xs.sum.toNat xs := by simp [rankF, h]
theorem rankF_f {xs : List Int} (h : good xs = false) : rankF xs = 0 := by simp [rankF, h]
theorem sum_drop_nonneg {xs : List Int} (G : Good xs) (k : Nat) : 0 ≤ (xs.drop k).sum := by
  refine (sum_bound (xs.drop k) 30 fun j hj => ?_).1
  rw [List.length_drop] at hj
  rw [getD_drop]
  have := G.pos (k + j) (by omega); have := G.le (k + j) (by omega); omega
theorem sum_drop {xs : List Int} {k : Nat} (h : k < xs.length) : (xs.drop k).sum = xs.getD k 0 + (xs.drop (k + 1)).sum := by rw [drop_cons xs k h, List.sum_cons]

set_option maxHeartbeats 1000000 in
theorem above_any (b n part limit : Nat) (w : World) (hn : n ≤ 30) (hp : part ≤ 30) (hm : limit ≤ 30) (ht : Tab w b (fun i => (T (i / 31) (i % 31) : Int))) :
    Calls Try.prog 118 #[.pointer (some ⟨b, 0, none⟩), .int .i64 n, .int .i64 part, .int .i64 limit] w fun e w' => e = .returned (.int .i64 ((T n limit : Int) - T n part)) ∧ ∃ k, w' = w.drewN k := by
  have hc := ht.cell (n * 31 + limit) (by omega)
  rw [show (n * 31 + limit) / 31 = n by omega, show (n * 31 + limit) % 31 = limit by omega] at hc
  have hd := ht.cell (n * 31 + part) (by omega)
  rw [show (n * 31 + part) / 31 = n by omega, show (n * 31 + part) % 31 = part by omega] at hd
  have h1 := T_bound n (by omega) limit (by omega)
  have h2 := T_bound n (by omega) part (by omega)
  have hn31 : (n : Int) < 31 := by omega
  have hp31 : (part : Int) < 31 := by omega
  have hl31 : (limit : Int) < 31 := by omega
  obtain ⟨u, hu⟩ : ∃ u, u = T n limit := ⟨_, rfl⟩
  obtain ⟨v, hv⟩ : ∃ v, v = T n part := ⟨_, rfl⟩
  rw [← hu] at hc h1
  rw [← hv] at hd h2
  rw [← hu, ← hv]
  have hw : IntKind.i64.wrap ((u : Int) - v) = (u : Int) - v := IntWalk.i64_in _ (by omega)
  clear ht hu hv
  go_enter Try.func118, Try.ntmps118
  go_wp2_with fail
  go_quiet (fail)
  go_wp2_with fail
  go_ret
  exact ⟨rfl, _, rfl⟩

set_option maxRecDepth 100000 in
set_option maxHeartbeats 2000000 in
theorem impl_RankPartition (A : Option Addr) (c : Nat) (xs : List Int) (w : World) (hl : xs.length ≤ 1048576) (hc : Cells w A xs) :
    Calls Try.prog 72 #[.slice A xs.length c] w fun e w' => e = .returned (.tuple #[.int .i64 (rankF xs), .bool (good xs)]) ∧ Below w.heap.size w w' := by
  cases hg : good xs
  · rw [rankF_f hg]
    have HB := hid hg; clear hg
    go_enter Try.func72, Try.ntmps72
    go_wp2_with (go_at_call 34; refine (IsPartition_b _ _ _ _ hl hc _ HB.out).mono ?_; rintro e w' ⟨rfl, rfl⟩)
    go_ret2
    exact ⟨rfl, Below.refl _ _⟩
  rw [rankF_t hg]
  have HG := hid ((good_iff xs).1 hg)
  have hlen := HG.out.len
  have hs0 := HG.out.sum0
  have hs30 := HG.out.sum
  have HB := hid hg; clear hg
  obtain ⟨s, hs⟩ : ∃ s : Nat, xs.sum = s := ⟨xs.sum.toNat, by omega⟩
  have HS := hid hs
  have hst : xs.sum.toNat = s := by omega
  rw [hst]
  have hs30' : s ≤ 30 := by omega
  clear hs0 hs30 hst hs
  go_enter Try.func72, Try.ntmps72
  go_wp2_with fail
  refine (IsPartition_b _ _ _ _ hl hc _ HB.out).mono ?_
  rintro e w1 ⟨rfl, rfl⟩
  go_wp2_with fail
  refine (countBounded_any _).mono ?_
  rintro e w2 ⟨rfl, ht, b2⟩
  have HT := hid ht; clear ht
  go_wp2_with fail
  refine (cellCount_any _ _ _ _ hlen HG.out.b1000 (hc.below b2)).mono ?_
  rintro e w3 ⟨rfl, rfl⟩
  rw [HS.out]
  go_wp2_with fail
  go_loopw [5, 6, 7, 19] (fun av lv mv i wr => ∃ (k l m : Nat) (a : Int), k ≤ xs.length ∧ i = .int .i64 k ∧ av = .int .i64 a ∧ lv = .int .i64 l ∧ mv = .int .i64 m ∧ Hid ((l : Int) = (xs.drop k).sum) ∧ m ≤ 30 ∧ l ≤ 30 ∧ Hid (a + rk l m (xs.drop k) = rk s s xs) ∧ -(5604 * (k : Int)) ≤ a ∧ a ≤ 5604 * (k : Int) ∧ Hid (∃ n, wr = w2.drewN n)) (fun _ _ _ i _ => xs.length - (intOf i).toNat)
  case atStart => exact ⟨0, s, s, 0, Nat.zero_le _, rfl, rfl, rfl, rfl, by rw [List.drop_zero]; exact HS.out.symm, hs30', hs30', by rw [List.drop_zero]; exact Int.zero_add _, by omega, by omega, ⟨0, rfl⟩⟩
  case round =>
    obtain ⟨k, l, m, a, hk, rfl, rfl, rfl, rfl, HL, hm30, hl30, HA, ha1, ha2, HW⟩ := hrel
    by_cases hlt : k < xs.length
    · obtain ⟨nw, hnw⟩ := HW.out
      have hcr : Cells wr A xs := by rw [hnw]; exact hc.below (below_drewN b2 _)
      have htr : Tab wr w.heap.size (fun i => (T (i / 31) (i % 31) : Int)) := by rw [hnw]; exact HT.out.drewN _
      have HTR := hid htr
      obtain ⟨b, o, rfl, hck⟩ := hcr.get hlt
      have hx1 := HG.out.pos k hlt
      have hx2 := HG.out.le k hlt
      have hsd := sum_drop hlt
      have hsn := sum_drop_nonneg HG.out (k + 1)
      have hle := HL.out
      obtain ⟨x, hx⟩ : ∃ x : Nat, xs.getD k 0 = x := ⟨(xs.getD k 0).toNat, by omega⟩
      have hdr := drop_cons xs k hlt
      rw [hx] at hck hx1 hx2 hsd hdr
      have hxl : x ≤ l := by omega
      have hnext : ((l - x : Nat) : Int) = (xs.drop (k + 1)).sum := by omega
      have HN := hid hnext
      have HD := hid hdr
      have hb1 := T_bound l (by omega) m (by omega)
      have hb2 := T_bound l (by omega) x (by omega)
      obtain ⟨u, hu⟩ : ∃ u, u = T l m := ⟨_, rfl⟩
      obtain ⟨v, hv⟩ : ∃ v, v = T l x := ⟨_, rfl⟩
      rw [← hu] at hb1
      rw [← hv] at hb2
      have HU := hid hu
      have HV := hid hv
      have hab := above_any w.heap.size l x m wr hl30 (by omega) hm30 HTR.out
      rw [← hu, ← hv] at hab
      have HAB := hid hab
      have HNW := hid hnw
      have hk30 : (k : Int) ≤ 30 := by omega
      clear hsd hsn hle hnext hdr hab hu hv hx hnw htr hcr
      go_wp2_with (go_at_call 118; refine HAB.out.mono ?_; rintro e w4 ⟨rfl, n4, rfl⟩)
      go_roundw
      case rel =>
        refine ⟨k + 1, l - x, x, a + ((u : Int) - v), by omega, by go_num, rfl, by go_num, rfl, HN.out, by omega, by omega, ?_, by omega, by omega, ?_⟩
        · have h := HA.out
          rw [HD.out, rk, Int.toNat_natCast, ← HU.out, ← HV.out, ← Int.add_assoc] at h
          exact h
        · rw [HNW.out]; exact drew2 _ _
      case measure => simp [intOf]; omega
    · have hkl : k = xs.length := by omega
      subst hkl
      have h := HA.out
      rw [List.drop_eq_nil_of_le (Nat.le_refl _), rk, Int.add_zero] at h
      have HH := hid h; clear h
      go_wp2_with fail
      go_ret2
      refine ⟨ret_two (congrArg (Value.int .i64) HH.out) rfl, ?_⟩
      obtain ⟨nw, hnw⟩ := HW.out
      rw [hnw]; exact below_drewN b2 _
end Go.Proofs.Ythlkfkcaaimceaa
