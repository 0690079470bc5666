/-
  Several texts in one.
-/
import Derived.Test.YtiebnnchaopbkaaR29
import Derived.Test.YtiebnnchaopbkaaR30
import Derived.Test.YtiebnnchaopbkaaCB
import Derived.RegionTactic
import Derived.ChangeAlike
/-
  Cores counted: by levels, by lists and by the series. No walk in this text.
-/
namespace Go.Proofs.Ytiebnnchaopbkaa
open Go.RowKit

theorem flat_nodup {α β : Type} {f : α → List β} : ∀ L : List α, L.Nodup → (∀ a ∈ L, (f a).Nodup) → (∀ a ∈ L, ∀ b ∈ L, a ≠ b → ∀ x ∈ f a, x ∉ f b) → (L.flatMap f).Nodup
  | [], _, _, _ => by simp
  | a :: L, hn, h1, h2 => by
    have hn' := List.nodup_cons.1 hn
    rw [List.flatMap_cons, List.nodup_append]
    refine ⟨h1 a (List.mem_cons_self ..), flat_nodup L hn'.2 (fun b hb => h1 b (List.mem_cons_of_mem _ hb)) (fun b hb c hc => h2 b (List.mem_cons_of_mem _ hb) c (List.mem_cons_of_mem _ hc)), ?_⟩
    rintro x hx y hy rfl
    obtain ⟨b, hb, hxb⟩ := List.mem_flatMap.1 hy
    exact h2 a (List.mem_cons_self ..) b (List.mem_cons_of_mem _ hb) (fun e => hn'.1 (by rw [e]; exact hb)) x hx hxb
theorem chL_nodup (n : Int) : ∀ (r : Nat) (P : List Int), (chL n r P).Nodup
  | 0, P => by rw [chL]; split <;> simp
  | r + 1, P => by
    rw [chL]
    refine flat_nodup _ (lvl_nodup _ _) (fun c _ => chL_nodup n r _) fun a _ b _ hab v hv hv2 => hab ?_
    obtain ⟨_, _, _, x, e1⟩ := mem_chL r _ hv
    obtain ⟨_, _, _, y, e2⟩ := mem_chL r _ hv2
    rw [e1] at e2
    have := congrArg (fun l : List Int => l.getD P.length 0) e2
    simpa [List.getD] using this
theorem lwF_nodup (t n : Int) : (lwF t n).Nodup := by
  unfold lwF
  split
  · exact chL_nodup n _ _
  · simp
theorem lwF_len_t {t n : Int} {v : List Int} (h : v ∈ lwF t n) : (v.length : Int) = t ∧ inB 2 6 t = true := by
  cases hk : lwOk t n
  · rw [lw_no hk] at h; cases h
  · rw [lw_yes hk] at h
    have hk2 := hk
    simp only [lwOk, Bool.and_eq_true] at hk2
    have h1 := inB_iff.1 hk2.1
    have := (mem_chL _ _ h).2.2.1
    simp at this
    exact ⟨by omega, hk2.1⟩
/-- A core of the list and its levels. -/
theorem core_lv {t n : Int} {v : List Int} (h : v ∈ lwF t n) : Good (clF v) ∧ (clF v).sum = n ∧ lvOk (clF v) t = true ∧ lvF (clF v) t = v ∧ isCoreF (clF v) t = true := by
  obtain ⟨⟨L, _, hk⟩, hg, hs⟩ := cl_facts h
  obtain ⟨hl, _⟩ := lwF_len_t h
  obtain ⟨G, f1, f2, f3, f4, f5, f6⟩ := lv_cl hk
  rw [← hl]
  exact ⟨G, hs, f5, by rw [lvF_t f5, f1], f4⟩
theorem cw_mem {t n : Int} {p : List Int} (h : p ∈ cwF t n) : ∃ v ∈ lwF t n, clF v = p := by
  have h1 := (cwK_perm (L := lwF t n) _ (Nat.le_refl _)).mem_iff.1 h
  rw [List.take_length] at h1
  exact List.mem_map.1 h1
theorem cw_len (t n : Int) : (cwF t n).length = (lwF t n).length := cwK_len (Nat.le_refl _)
theorem cw_nodup (t n : Int) : (cwF t n).Nodup := by
  have hp := cwK_perm (L := lwF t n) _ (Nat.le_refl _)
  rw [List.take_length] at hp
  refine hp.nodup_iff.2 ?_
  have key : ∀ L : List (List Int), (∀ v ∈ L, v ∈ lwF t n) → L.Nodup → (L.map clF).Nodup := by
    intro L
    induction L with
    | nil => intro _ _; simp
    | cons a L ih =>
      intro h hn
      have hn' := List.nodup_cons.1 hn
      rw [List.map_cons, List.nodup_cons]
      refine ⟨fun hm => ?_, ih (fun v hv => h v (List.mem_cons_of_mem _ hv)) hn'.2⟩
      obtain ⟨b, hb, e⟩ := List.mem_map.1 hm
      have e1 := (core_lv (h a (List.mem_cons_self ..))).2.2.2.1
      have e2 := (core_lv (h b (List.mem_cons_of_mem _ hb))).2.2.2.1
      rw [e] at e2
      exact hn'.1 (by rw [← e1, e2]; exact hb)
  exact key _ (fun v hv => hv) (lwF_nodup t n)
/-- The cores are told in order. -/
theorem cw_bef {t n : Int} {m k : Nat} (hk : k < (cwF t n).length) (hmk : m + 1 = k) : befB ((cwF t n).getD m []) ((cwF t n).getD k []) = true := by
  have hs := cwK_sorted (t := t) (n := n) _ (Nat.le_refl _)
  have hn := cw_nodup t n
  have hm : m < (cwF t n).length := by omega
  have e1 : (cwF t n).getD m [] = (cwF t n)[m] := by rw [List.getD_eq_getElem?_getD, List.getElem?_eq_getElem hm]; rfl
  have e2 : (cwF t n).getD k [] = (cwF t n)[k] := by rw [List.getD_eq_getElem?_getD, List.getElem?_eq_getElem hk]; rfl
  have h1 : ¬ gcf (cwF t n)[k] (cwF t n)[m] < 0 := (List.pairwise_iff_getElem.1 hs) m k hm hk (by omega)
  have h2 : (cwF t n)[m] ≠ (cwF t n)[k] := (List.pairwise_iff_getElem.1 hn) m k hm hk (by omega)
  obtain ⟨g1, s1⟩ := cwK_rows (t := t) (n := n) (Nat.le_refl _) _ (List.getElem_mem hm)
  obtain ⟨g2, s2⟩ := cwK_rows (t := t) (n := n) (Nat.le_refl _) _ (List.getElem_mem hk)
  rw [e1, e2]
  refine (bef_gcf (good_pos g1) (good_pos g2) (by rw [s1, s2])).2 ?_
  apply Classical.byContradiction
  intro h3
  exact h2 (gcf_total h3 h1)
/-- How many levels there are, without the list. -/
def cf9 (t : Nat) : Nat → Int → Int → Nat
  | 0, s, h => if s = 0 ∧ h = 0 then 1 else 0
  | 1, s, h => if (-10 ≤ s ∧ s < 11) ∧ h - shr t (t - 1) s = 0 then 1 else 0
  | r + 2, s, h => ((lvl 10 21).map fun l => if h - shr t (t - (r + 2)) l < 0 then 0 else cf9 t (r + 1) (s - l) (h - shr t (t - (r + 2)) l)).sum
theorem sum_eq9 {α : Type} {f g : α → Nat} : ∀ L : List α, (∀ x ∈ L, f x = g x) → (L.map f).sum = (L.map g).sum
  | [], _ => rfl
  | x :: L, h => by rw [List.map_cons, List.map_cons, List.sum_cons, List.sum_cons, h x (List.mem_cons_self ..), sum_eq9 L fun y hy => h y (List.mem_cons_of_mem _ hy)]
theorem lf_one9 (t : Nat) (s h : Int) : (lf t 1 s h).length = if (-10 ≤ s ∧ s < 11) ∧ h - shr t (t - 1) s = 0 then 1 else 0 := by
  unfold lf
  rw [flat_one (s := s) (lvl 10 21) (lvl_nodup _ _) (fun l _ hl => by
    split
    · rfl
    · rw [lf_zero, if_neg (by omega)]; rfl)]
  by_cases hm : s ∈ lvl 10 21
  · rw [if_pos hm]
    have hb := mem_lvl.1 hm
    obtain ⟨x, hx⟩ : ∃ x, x = h - shr t (t - 1) s := ⟨_, rfl⟩
    rw [show t - (0 + 1) = t - 1 from rfl, ← hx]
    by_cases h0 : x < 0
    · rw [if_pos h0, if_neg (by omega)]; rfl
    · rw [if_neg h0, List.length_map, lf_zero]
      by_cases h1 : x = 0
      · rw [if_pos ⟨by omega, h1⟩, if_pos ⟨by omega, h1⟩]; rfl
      · rw [if_neg (fun hh => h1 hh.2), if_neg (fun hh => h1 hh.2)]; rfl
  · rw [if_neg hm, if_neg (fun hh => hm (mem_lvl.2 (by omega)))]; rfl
theorem lf_cf9 (t : Nat) : ∀ (r : Nat) (s h : Int), (lf t r s h).length = cf9 t r s h
  | 0, s, h => by rw [lf_zero, cf9]; split <;> rfl
  | 1, s, h => lf_one9 t s h
  | r + 2, s, h => by
    unfold lf cf9
    rw [List.length_flatMap]
    refine sum_eq9 _ fun l _ => ?_
    by_cases h1 : h - shr t (t - (r + 2)) l < 0
    · rw [if_pos h1, if_pos h1]; rfl
    · rw [if_neg h1, if_neg h1, List.length_map]
      exact lf_cf9 t (r + 1) _ _
def serC (t a b : Nat) : Bool := (List.range 31).all fun n => decide (n < a) || (decide (b ≤ n) || ((serI t n).getD n 0 == ((cf9 t t 0 (2 * (n : Int)) : Nat) : Int)))
set_option maxHeartbeats 40000000 in
theorem ser2_0 : serC 2 0 31 = true := by decide +kernel
set_option maxHeartbeats 40000000 in
theorem ser3_0 : serC 3 0 22 = true := by decide +kernel
set_option maxHeartbeats 40000000 in
theorem ser3_22 : serC 3 22 31 = true := by decide +kernel
set_option maxHeartbeats 40000000 in
theorem ser4_0 : serC 4 0 20 = true := by decide +kernel
set_option maxHeartbeats 40000000 in
theorem ser4_20 : serC 4 20 26 = true := by decide +kernel
set_option maxHeartbeats 40000000 in
theorem ser4_26 : serC 4 26 29 = true := by decide +kernel
set_option maxHeartbeats 40000000 in
theorem ser4_29 : serC 4 29 31 = true := by decide +kernel
set_option maxHeartbeats 40000000 in
theorem ser5_0 : serC 5 0 15 = true := by decide +kernel
set_option maxHeartbeats 40000000 in
theorem ser5_15 : serC 5 15 20 = true := by decide +kernel
set_option maxHeartbeats 40000000 in
theorem ser5_20 : serC 5 20 23 = true := by decide +kernel
set_option maxHeartbeats 40000000 in
theorem ser5_23 : serC 5 23 25 = true := by decide +kernel
set_option maxHeartbeats 40000000 in
theorem ser5_25 : serC 5 25 27 = true := by decide +kernel
set_option maxHeartbeats 40000000 in
theorem ser5_27 : serC 5 27 28 = true := by decide +kernel
set_option maxHeartbeats 40000000 in
theorem ser5_28 : serC 5 28 29 = true := by decide +kernel
set_option maxHeartbeats 40000000 in
theorem ser5_29 : serC 5 29 30 = true := by decide +kernel
set_option maxHeartbeats 40000000 in
theorem ser5_30 : serC 5 30 31 = true := by decide +kernel
set_option maxHeartbeats 40000000 in
theorem ser6_0 : serC 6 0 12 = true := by decide +kernel
set_option maxHeartbeats 40000000 in
theorem ser6_12 : serC 6 12 16 = true := by decide +kernel
set_option maxHeartbeats 40000000 in
theorem ser6_16 : serC 6 16 19 = true := by decide +kernel
set_option maxHeartbeats 40000000 in
theorem ser6_19 : serC 6 19 21 = true := by decide +kernel
set_option maxHeartbeats 40000000 in
theorem ser6_21 : serC 6 21 23 = true := by decide +kernel
set_option maxHeartbeats 40000000 in
theorem ser6_23 : serC 6 23 24 = true := by decide +kernel
set_option maxHeartbeats 40000000 in
theorem ser6_24 : serC 6 24 25 = true := by decide +kernel
set_option maxHeartbeats 40000000 in
theorem ser6_25 : serC 6 25 26 = true := by decide +kernel
set_option maxHeartbeats 40000000 in
theorem ser6_26 : serC 6 26 27 = true := by decide +kernel
set_option maxHeartbeats 40000000 in
theorem ser6_27 : serC 6 27 28 = true := by decide +kernel
set_option maxHeartbeats 40000000 in
theorem ser6_28 : serC 6 28 29 = true := by decide +kernel
set_option maxHeartbeats 40000000 in
theorem ser6_29 : serC 6 29 30 = true := by decide +kernel
set_option maxHeartbeats 40000000 in
theorem ser6_30 : serC 6 30 31 = true := by decide +kernel
theorem serC_at {t a b n : Nat} (h : serC t a b = true) (h1 : a ≤ n) (h2 : n < b) (hn : n < 31) : (serI t n).getD n 0 = (cf9 t t 0 (2 * (n : Int)) : Nat) := by
  have := List.all_eq_true.1 h n (List.mem_range.2 hn)
  rw [Bool.or_eq_true, Bool.or_eq_true, decide_eq_true_eq, decide_eq_true_eq] at this
  rcases this with h3 | h3 | h3
  · omega
  · omega
  · exact eq_of_beq h3
theorem ser_chk (t : Nat) (h1 : t < 7) (h2 : 2 ≤ t) (n : Nat) (hn : n < 31) : (serI t n).getD n 0 = (cf9 t t 0 (2 * (n : Int)) : Nat) := by
  have ht : t = 2 ∨ t = 3 ∨ t = 4 ∨ t = 5 ∨ t = 6 := by omega
  rcases ht with rfl | rfl | rfl | rfl | rfl
  · exact serC_at ser2_0 (by omega) (by omega) hn
  · by_cases h22 : n < 22
    · exact serC_at ser3_0 (by omega) h22 hn
    exact serC_at ser3_22 (by omega) (by omega) hn
  · by_cases h20 : n < 20
    · exact serC_at ser4_0 (by omega) h20 hn
    by_cases h26 : n < 26
    · exact serC_at ser4_20 (by omega) h26 hn
    by_cases h29 : n < 29
    · exact serC_at ser4_26 (by omega) h29 hn
    exact serC_at ser4_29 (by omega) (by omega) hn
  · by_cases h15 : n < 15
    · exact serC_at ser5_0 (by omega) h15 hn
    by_cases h20 : n < 20
    · exact serC_at ser5_15 (by omega) h20 hn
    by_cases h23 : n < 23
    · exact serC_at ser5_20 (by omega) h23 hn
    by_cases h25 : n < 25
    · exact serC_at ser5_23 (by omega) h25 hn
    by_cases h27 : n < 27
    · exact serC_at ser5_25 (by omega) h27 hn
    by_cases h28 : n < 28
    · exact serC_at ser5_27 (by omega) h28 hn
    by_cases h29 : n < 29
    · exact serC_at ser5_28 (by omega) h29 hn
    by_cases h30 : n < 30
    · exact serC_at ser5_29 (by omega) h30 hn
    exact serC_at ser5_30 (by omega) (by omega) hn
  · by_cases h12 : n < 12
    · exact serC_at ser6_0 (by omega) h12 hn
    by_cases h16 : n < 16
    · exact serC_at ser6_12 (by omega) h16 hn
    by_cases h19 : n < 19
    · exact serC_at ser6_16 (by omega) h19 hn
    by_cases h21 : n < 21
    · exact serC_at ser6_19 (by omega) h21 hn
    by_cases h23 : n < 23
    · exact serC_at ser6_21 (by omega) h23 hn
    by_cases h24 : n < 24
    · exact serC_at ser6_23 (by omega) h24 hn
    by_cases h25 : n < 25
    · exact serC_at ser6_24 (by omega) h25 hn
    by_cases h26 : n < 26
    · exact serC_at ser6_25 (by omega) h26 hn
    by_cases h27 : n < 27
    · exact serC_at ser6_26 (by omega) h27 hn
    by_cases h28 : n < 28
    · exact serC_at ser6_27 (by omega) h28 hn
    by_cases h29 : n < 29
    · exact serC_at ser6_28 (by omega) h29 hn
    by_cases h30 : n < 30
    · exact serC_at ser6_29 (by omega) h30 hn
    exact serC_at ser6_30 (by omega) (by omega) hn
/-- The series tells how many cores there are. -/
theorem ser_count {t n : Int} (h : lwOk t n = true) : ∃ N : Nat, n = (N : Int) ∧ askB t n = true ∧ (serF t n).length = N + 1 ∧ (serF t n).getD N 0 = ((lwF t n).length : Int) ∧ N ≤ 30 := by
  have h2 := h
  simp only [lwOk, Bool.and_eq_true] at h2
  have h3 := inB_iff.1 h2.1
  have h4 := inB_iff.1 h2.2
  obtain ⟨T, rfl⟩ : ∃ T : Nat, t = (T : Int) := ⟨t.toNat, by omega⟩
  obtain ⟨N, rfl⟩ : ∃ N : Nat, n = (N : Int) := ⟨n.toNat, by omega⟩
  have ha : askB (T : Int) (N : Int) = true := h
  refine ⟨N, rfl, ha, by rw [serF_t ha, serI_len], ?_, by omega⟩
  rw [serF_t ha, lw_yes h, Int.toNat_natCast, ← lw_main (by omega) (by omega), lf_cf9]
  exact ser_chk T (by omega) (by omega) N (by omega)
theorem ser_len {m k : Int} (h : askB m k = true) : ((serF m k).length : Int) = k + 1 := by
  obtain ⟨a, b, rfl, rfl, _, _, _⟩ := askB_iff h
  rw [serF_t h, serI_len]; omega
end Go.Proofs.Ytiebnnchaopbkaa
/-
  Contracts: CoresBySeries of the program.
-/
namespace Go.Proofs.Ytiebnnchaopbkaa
open Go.RowKit

set_option maxRecDepth 100000 in
set_option maxHeartbeats 2000000 in
theorem impl_CoresBySeries (t0 n0 : Int) (w : World) (_ : I64 t0) (_ : I64 n0) :
    Calls Try.prog 10 #[.int .i64 t0, .int .i64 n0] w fun e w' => ∃ A' c', e = .returned (.tuple #[.slice A' (serF t0 n0).length c', .bool (askB t0 n0)]) ∧ Own w' w.heap.size A' c' (serF t0 n0) ∧ Below w.heap.size w w' := by
  obtain ⟨i0, hi, hz0, hz1, hz2⟩ := info_parts Try.infoInt
  cases ht : inB 2 6 t0
  · have hb : askB t0 n0 = false := by simp [askB, ht]
    rw [serF_f hb, hb]
    have HT := hid ht; clear ht hb
    go_enter Try.func10, Try.ntmps10
    go_wp2_with (go_at_call 26; refine (hasRunners_b _ _ _ HT.out).mono ?_; rintro e w' ⟨rfl, rfl⟩)
    go_ret2
    exact ⟨none, 0, rfl, own_nil _ _, Below.refl _ _⟩
  cases hn : okN n0
  · have hb : askB t0 n0 = false := by simp [askB, hn]
    rw [serF_f hb, hb]
    have HT := hid ht; have HN := hid hn; clear ht hb hn
    go_enter Try.func10, Try.ntmps10
    go_wp2_with (first | (go_at_call 26; refine (hasRunners_b _ _ _ HT.out).mono ?_; rintro e w' ⟨rfl, rfl⟩) | (go_at_call 27; refine (isCellNumber_b _ _ _ HN.out).mono ?_; rintro e w' ⟨rfl, rfl⟩))
    go_ret2
    exact ⟨none, 0, rfl, own_nil _ _, Below.refl _ _⟩
  have hb : askB t0 n0 = true := by simp [askB, ht, hn]
  obtain ⟨t, n, rfl, rfl, ht1, ht2, hn30⟩ := askB_iff hb
  rw [serF_t hb, hb]
  have HT := hid ht; have HN := hid hn; clear ht hb hn
  have HSL := hid (serI_len t)
  have o1 : Own (w.alloc (.cells #[.int .i64 1] 3)) w.heap.size (some ⟨w.heap.size, 0, none⟩) 1 [1] :=
    World.ownsRow_lit (base := w.heap.size) (e := 3) (size := 1) w #[.int .i64 1] 1 (Nat.le_refl _) (by unfold maxLen; omega) rfl
  go_enter Try.func10, Try.ntmps10
  go_wp2_with (first | (go_at_call 26; refine (hasRunners_b _ _ _ HT.out).mono ?_; rintro e w' ⟨rfl, rfl⟩) | (go_at_call 27; refine (isCellNumber_b _ _ _ HN.out).mono ?_; rintro e w' ⟨rfl, rfl⟩))
  go_loopw [6, 7] (fun v i wr => ∃ K : Nat, K ≤ n ∧ i = .int .i64 ((K : Int) + 1) ∧ wr.ownsRow w.heap.size 3 1 v (serI t K).length (IL (serI t K)) ∧ Below w.heap.size w wr) (fun _ i _ => n + 1 - (intOf i).toNat)
  case atStart => exact ⟨0, Nat.zero_le _, rfl, o1, (Below.refl _ _).alloc (Nat.le_refl _) _⟩
  case round =>
    obtain ⟨K, hK, rfl, hown, hbel⟩ := hrel
    by_cases hlt : K < n
    · have HE := hid (show serI t (K + 1) = serI t K ++ [IntKind.i64.wrap ((sumI (serI t K) t (K + 1) (K + 1)).tdiv (K + 1 : Nat))] from rfl)
      have hlen := HSL.out K
      obtain ⟨A1, c1, rfl, ho1⟩ := own_form hown rfl
      obtain ⟨S, hS⟩ : ∃ S, S = serI t K := ⟨_, rfl⟩
      rw [← hS] at HE hlen hown ho1
      have HO := hid hown
      have HL := hid hlen
      have HO1 := hid ho1
      obtain ⟨wo, rfl⟩ : ∃ wo : World, wo = wr := ⟨_, rfl⟩
      rw [← hS]
      clear hS hown ho1 o1
      rw [hlen]
      clear hlen
      go_wp2_with fail
      go_loopw [8, 9] (fun s j wi => ∃ d : Nat, d ≤ K + 1 ∧ j = .int .i64 ((d : Int) + 1) ∧ s = .int .i64 (sumI S t (K + 1) d) ∧ ∃ m, wi = wo.drewN m) (fun _ j _ => K + 2 - (intOf j).toNat)
      case atStart => exact ⟨0, Nat.zero_le _, rfl, rfl, 0, rfl⟩
      case round =>
        obtain ⟨d, hd, rfl, rfl, m, hwi⟩ := hrel
        by_cases hdl : d < K + 1
        · obtain ⟨b, o, rfl, hcc⟩ := (HO1.out.cells) (by rw [HL.out]; omega)
          have hck := hcc (K - d) (by rw [HL.out]; omega)
          have hck2 : wr.cell? ⟨b, o + (K - d), none⟩ = some (.int .i64 (S.getD (K - d) 0)) := by rw [hwi]; exact hck
          have HF := hid (show sumI S t (K + 1) (d + 1) = IntKind.i64.wrap (sumI S t (K + 1) d + IntKind.i64.wrap (lg t (d + 1) * S.getD (K + 1 - (d + 1)) 0)) from rfl)
          rw [show K + 1 - (d + 1) = K - d by omega] at HF
          have hlg := fun W => logarithmAt_any t (d + 1) W (by omega) (by omega)
          obtain ⟨s, hs⟩ : ∃ s, s = sumI S t (K + 1) d := ⟨_, rfl⟩
          obtain ⟨x, hx⟩ : ∃ x, x = S.getD (K - d) 0 := ⟨_, rfl⟩
          obtain ⟨y, hy⟩ : ∃ y, y = lg t (d + 1) := ⟨_, rfl⟩
          rw [← hs] at HF ⊢
          rw [← hx] at HF hck2
          rw [← hy] at HF hlg
          have HLG := hid hlg
          have HWI := hid hwi
          have hwp : IntKind.i64.wrap ((K : Int) + 1 - ((d : Int) + 1)) = ((K - d : Nat) : Int) := by rw [IntWalk.i64_in _ (by omega)]; omega
          have hlt1 : ((K - d : Nat) : Int) < (K : Int) + 1 := by omega
          clear hcc hck hs hx hy hlg hwi
          go_wp2_with fail
          go_quiet ((go_at_call 29; exact Calls.quiet_of_same (HLG.out _)))
          go_wp2_with fail
          go_roundw
          case rel => exact ⟨d + 1, by omega, by go_num, by rw [HF.out, IntWalk.i64_left, IntWalk.i64_left], by rw [HWI.out]; exact drew2 _ _⟩
          case measure => simp [intOf]; omega
        · have hdk : d = K + 1 := by omega
          subst hdk
          have hwo : wr.ownsRow w.heap.size 3 1 (.slice A1 S.length c1) S.length (IL S) := by rw [hwi]; exact HO.out
          have hbi : Below w.heap.size w wr := by rw [hwi]; exact below_drewN hbel _
          have hsz := hbi.size
          have hll : S.length ≤ 31 := by rw [HL.out]; omega
          obtain ⟨z, hz⟩ : ∃ z, z = sumI S t (K + 1) (K + 1) := ⟨_, rfl⟩
          rw [← hz, IntWalk.i64_left] at HE
          rw [← hz]
          have hne : ¬ ((K : Int) + 1 = 0) := by omega
          clear hz hwi
          rw [HL.out] at hwo hll
          go_wp2_with (at_builtin; refine wpList_append_own _ rfl _ _ 28 rfl w.heap.size 3 i0 (.int .i64 0) 1 8 Try.underlying28 hi hz0 hz1 hz2 rfl (by decide) _ _ _ rfl (hwo.alloc _) ⟨wr.heap.size, 0, none⟩ 1 1 [.int .i64 (wrap64 (z.tdiv ((K : Int) + 1)))] rfl rfl one_at (one_cell _) (by unfold maxLen; omega) (by omega) (by simp; omega) ?_)
          intro v' w1 hown' hgrow _
          have hb1 : Below w.heap.size w w1 := (hbi.alloc hsz _).grown hgrow (by simp; omega) (fun q hq => (hwo.lt q hq).1)
          rw [← HL.out] at hown'
          have hown2 := own_snoc HE.out hown'
          clear hgrow hown' hwo
          go_wp2_with fail
          go_roundw
          case rel => exact ⟨K + 1, by omega, by go_num, hown2, hb1⟩
          case measure => simp [intOf]; omega
    · have hkn : K = n := by omega
      subst hkn
      obtain ⟨A', c', rfl, ho⟩ := own_form hown rfl
      clear hown o1
      go_wp2_with fail
      go_ret2
      exact ⟨A', c', rfl, ho, hbel⟩
end Go.Proofs.Ytiebnnchaopbkaa
/-
  Small facts on a row that the call has made, its first number 1.
-/
namespace Go.Proofs.Ytiebnnchaopbkaa
open Go.RowKit

theorem own_drew {w : World} {B : Nat} {A : Option Addr} {c : Nat} {xs : List Int} (h : Own w B A c xs) : Own w.drew B A c xs := h
theorem below_drew {B : Nat} {a w : World} (h : Below B a w) : Below B a w.drew := ⟨h.os, h.tape, h.output, h.size, h.block⟩

theorem own_made1 (w : World) (n : Nat) (hn : n ≤ 1048576) : Own (w.alloc (.cells ((madeCells #[.int .i64 0] n).setIfInBounds 0 (.int .i64 1)) 3)) w.heap.size (some ⟨w.heap.size, 0, none⟩) n ((fnRow n (fun _ => 0)).set 0 1) := by
  have h := World.ownsRow_lit (base := w.heap.size) (e := 3) (size := 1) w ((madeCells #[.int .i64 0] n).setIfInBounds 0 (.int .i64 1)) n (Nat.le_refl _) (by unfold maxLen; omega) (by rw [Array.size_setIfInBounds, size_madeCells]; simp)
  rw [Array.toList_setIfInBounds, toList_madeCells_one] at h
  unfold Own
  rw [List.length_set, fnRow_len, ← IL_set', rowF_zero]
  have e : IL (List.replicate n 0) = List.replicate n (.int .i64 0) := by simp [IL]
  rw [e]
  exact h

theorem own_at_len {w : World} {B : Nat} {A : Option Addr} {c n : Nat} {xs : List Int} (h : Own w B A c xs) (e : xs.length = n) : w.ownsRow B 3 1 (.slice A n c) n (IL xs) := by subst e; exact h
theorem own_of_len {w : World} {B : Nat} {A : Option Addr} {c n : Nat} {xs : List Int} (h : w.ownsRow B 3 1 (.slice A n c) n (IL xs)) (e : xs.length = n) : Own w B A c xs := by subst e; exact h
end Go.Proofs.Ytiebnnchaopbkaa
