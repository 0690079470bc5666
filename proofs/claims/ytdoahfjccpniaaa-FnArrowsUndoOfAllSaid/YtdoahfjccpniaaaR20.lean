/-
  Several texts in one.
-/
import Derived.Test.YtdoahfjccpniaaaR11
import Derived.Test.YtdoahfjccpniaaaCU
import Derived.Test.YtdoahfjccpniaaaCC
/-
  What the law on arrows needs. No walk in this text.
-/
namespace Go.Proofs.Ytdoahfjccpniaaa
open Go.RowKit

theorem bl_str9 (l : List UInt8) : bl (strOf l) = l := by simp [bl, strOf]
theorem idx_ltr {s : ByteArray} (h : rdOk s = true) : Ltr (idx (bl s)) := by
  intro m hm
  obtain ⟨h1, h2⟩ := idx_mem hm
  unfold rdOk at h
  rw [Bool.and_eq_true, List.all_eq_true] at h
  have hx : (bl s).getD m.2 0 ∈ bl s := memD_ar h1
  have := h.2 _ hx
  rw [Bool.or_eq_true, beq_iff_eq, beq_iff_eq] at this
  rcases this with e | e
  · left; rw [h2, e]; rfl
  · right; rw [h2, e]; rfl
theorem rd_eq {s : ByteArray} (h : rdOk s = true) : rdF s = strOf (ltrs (red (idx (bl s)))) := by simp [rdF, h]
theorem red_ltr {M : List (Nat × Nat)} (h : Ltr M) : Ltr (red M) := fun m hm => h m (red_mem M m hm)
theorem nf_red {L a b : List (Nat × Nat)} (h : Nf L a b) : red L = L := by
  obtain ⟨e, ha, hb⟩ := h
  unfold red
  rw [e, List.foldl_append, go_r a [] (by simp) ha, go_a b _ hb, List.nil_append]
theorem ltrs_keep (M : List (Nat × Nat)) (f : Nat × Nat → Nat) : ltrs (M.map fun q => (q.1, f q)) = ltrs M := by simp [ltrs]
theorem ltrs_ok {L : List (Nat × Nat)} (h : Ltr L) (hl : L.length ≤ 100) : rdOk (strOf (ltrs L)) = true := by
  unfold rdOk
  rw [bl_str9, strOf_size, ltrs_len, decide_eq_true hl, Bool.true_and, List.all_eq_true]
  intro c hc
  unfold ltrs at hc
  obtain ⟨m, hm, rfl⟩ := List.mem_map.1 hc
  rcases h m hm with e | e <;> rw [e] <;> rfl
theorem rd_facts {s : ByteArray} (h : rdOk s = true) : rdOk (rdF s) = true ∧ rdF (rdF s) = rdF s ∧ (rdF s).size ≤ 100 := by
  have hL := idx_ltr h
  obtain ⟨a, b, nf⟩ := red_nf _ hL
  have hL2 := red_ltr hL
  have hlen : (red (idx (bl s))).length ≤ 100 := by
    have h1 := red_len (idx (bl s))
    rw [idx_len, bl_len] at h1
    unfold rdOk at h
    rw [Bool.and_eq_true] at h
    have := of_decide_eq_true h.1
    omega
  have hok : rdOk (rdF s) = true := by rw [rd_eq h]; exact ltrs_ok hL2 hlen
  refine ⟨hok, ?_, by rw [rd_eq h, strOf_size, ltrs_len]; exact hlen⟩
  rw [rd_eq hok, rd_eq h, bl_str9]
  have hr := red_rows (red (idx (bl s))) fun m hm => by rcases hL2 m hm with e | e <;> omega
  have e := ltrs_keep (red (idx (ltrs (red (idx (bl s)))))) (fun q => ((rws (red (idx (bl s)))).getD q.2 0).toNat)
  rw [hr, nf_red nf] at e
  rw [← e]
theorem rd_none {s : ByteArray} (h : rdOk s = false) : rdF s = ByteArray.empty := by simp [rdF, h]
theorem rd_noAR {s : ByteArray} (h : rdOk s = true) {m k : Nat} (hm : m < (rdF s).size) (hk : k < (rdF s).size) (hmk : m + 1 = k) (h1 : (rdF s)[m] = 65) (h2 : (rdF s)[k] = 82) : False := by
  obtain ⟨a, b, e, ha, hb⟩ := red_nf _ (idx_ltr h)
  have hL2 := red_ltr (idx_ltr h)
  have hbl : bl (rdF s) = ltrs (red (idx (bl s))) := by rw [rd_eq h, bl_str9]
  have key : ∀ j, (hj : j < (rdF s).size) → ∃ x ∈ red (idx (bl s)), (red (idx (bl s))).getD j (0, 0) = x ∧ (rdF s)[j] = UInt8.ofNat x.1 ∧ j < (red (idx (bl s))).length := fun j hj => by
    have hj2 : j < (red (idx (bl s))).length := by rw [← bl_len, hbl, ltrs_len] at hj; exact hj
    refine ⟨_, memD_ar hj2, rfl, ?_, hj2⟩
    rw [← bl_at (rdF s) j hj, hbl]
    simp [ltrs, List.getD, hj2]
  obtain ⟨x, hx, ex, e1, j1⟩ := key m hm
  obtain ⟨y, hy, ey, e2, j2⟩ := key k hk
  have x65 : x.1 = 65 := by
    rcases hL2 x hx with h3 | h3
    · exact h3
    · rw [h3, h1] at e1; exact absurd e1 (by decide)
  have y82 : y.1 = 82 := by
    rcases hL2 y hy with h3 | h3
    · rw [h3, h2] at e2; exact absurd e2 (by decide)
    · exact h3
  rw [e] at ex ey j1 j2
  rw [List.length_append] at j1 j2
  have hma : a.length ≤ m := by
    rcases Nat.lt_or_ge m a.length with h3 | h3
    · rw [List.getD_eq_getElem?_getD, List.getElem?_append_left h3, List.getElem?_eq_getElem h3] at ex
      have := ha _ (List.getElem_mem h3)
      have ex' : a[m] = x := ex
      rw [ex'] at this; omega
    · exact h3
  rw [List.getD_eq_getElem?_getD, List.getElem?_append_right (by omega), List.getElem?_eq_getElem (by omega)] at ey
  have := hb _ (List.getElem_mem (show k - a.length < b.length by omega))
  have ey' : b[k - a.length]'(by omega) = y := ey
  rw [ey'] at this; omega
/-- What the signature of a partition tells. -/
theorem as_facts {p : List Int} {t i : Int} (h : asB p t i = true) : ∃ T I A J : Nat, t = (T : Int) ∧ i = (I : Int) ∧ Good p ∧ (2 ≤ T ∧ T ≤ 6) ∧ I < T ∧ A < T ∧ J < T ∧ ((I : Int) + 1) % (T : Int) = (A : Int) ∧ ((I : Int) + T - 1) % (T : Int) = (J : Int) ∧
    dnOk8 p t i = decide (0 < ctD p t i) ∧ (upOk p t i = true → 0 < ctU p t i) ∧ rdOk (sgF p t i) = true ∧ ((rdF (sgF p t i)).size : Int) = ctD p t i + ctU p t i ∧ (sgF p t i).size ≤ 100 ∧ resB p t = true ∧
    (0 ≤ ctD p t i ∧ ctD p t i ≤ 31) ∧ (0 ≤ ctU p t i ∧ ctU p t i ≤ 31) ∧ (resF p t).length = T ∧ (∀ j, j < T → 0 ≤ (resF p t).getD j 0 ∧ (resF p t).getD j 0 ≤ 900) ∧
    ctU p t i - ctD p t i = (resF p t).getD A 0 + (resF p t).getD J 0 - 2 * (resF p t).getD I 0 + (if I = 0 then 1 else 0) := by
  obtain ⟨hg, P, ht, hi⟩ := asB_t h
  obtain ⟨T, rfl⟩ : ∃ T : Nat, t = (T : Int) := ⟨t.toNat, by omega⟩
  obtain ⟨I, rfl⟩ : ∃ I : Nat, i = (I : Int) := ⟨i.toNat, by omega⟩
  have hT : 2 ≤ T ∧ T ≤ 6 := by omega
  have hI : I < T := by omega
  have hL : Ltr (sig p T I) := sgM_ltr p T I _
  have hcD : ctD p (T : Int) I = ct 82 (red (sig p T I)) := by unfold ctD ct; rw [h, if_pos rfl, Int.toNat_natCast]
  have hcU : ctU p (T : Int) I = ct 65 (red (sig p T I)) := by unfold ctU ct; rw [h, if_pos rfl, Int.toNat_natCast]
  have hsl := sig_len (xs := p) T (I : Int)
  have hrl := red_len (sig p T (I : Int))
  have hpl := P.len
  have hsg : sgF p (T : Int) I = strOf (ltrs (sig p T I)) := by unfold sgF; rw [h, if_pos rfl, Int.toNat_natCast]
  have hsz : (sgF p (T : Int) I).size ≤ 100 := by rw [hsg, strOf_size, ltrs_len]; omega
  have hrd : rdOk (sgF p (T : Int) I) = true := by rw [hsg]; exact ltrs_ok hL (by omega)
  have hfc := fl_count (red (sig p T (I : Int))) (red_ltr hL)
  have hlen : (red (idx (ltrs (sig p T (I : Int))))).length = (red (sig p T (I : Int))).length := by
    have := congrArg List.length (red_rows (sig p T (I : Int)) sig_lt)
    rw [List.length_map] at this
    exact this
  have hres : resB p (T : Int) = true := by
    unfold asB at h
    rw [Bool.and_eq_true, Bool.and_eq_true] at h
    unfold resB
    rw [hg, h.2.1]; rfl
  have hget : ∀ j, j < T → (resF p (T : Int)).getD j 0 = cnt T (contL p p.length) j := fun j hj => by
    rw [resF_t hres]
    unfold cntL
    exact fnRow_get _ _ _ hj
  have hA : (I + 1) % T < T := Nat.mod_lt _ (by omega)
  have hJ : (I + T - 1) % T < T := Nat.mod_lt _ (by omega)
  have hJI : ((I + T - 1) % T + 1) % T = I := by
    rw [Nat.add_mod, Nat.mod_mod, ← Nat.add_mod, show I + T - 1 + 1 = I + T by omega, Nat.add_mod_right, Nat.mod_eq_of_lt hI]
  have hdue := arrows_due P (t := T) hT.1 hI hJ hJI
  rw [← red_ct _ hL] at hdue
  refine ⟨T, I, (I + 1) % T, (I + T - 1) % T, rfl, rfl, P, hT, hI, hA, hJ, by rw [Int.natCast_emod]; rfl, ?_, ?_, ?_, hrd, ?_, hsz, hres, ?_, ?_, ?_, ?_, ?_⟩
  · rw [show (I : Int) + T - 1 = ((I + T - 1 : Nat) : Int) by omega, Int.natCast_emod]
  · unfold dnOk8 adB
    rw [h, Bool.true_and, Int.toNat_natCast, hcD]
    cases hd : dnRr (red (sig p T (I : Int))) with
    | none => unfold ct; rw [dnRr_no hd]; rfl
    | some r => have := (dnR_fl hd).1; unfold ct; rw [decide_eq_true (by omega)]; rfl
  · intro hu
    unfold upOk auB at hu
    rw [Bool.and_eq_true, Bool.and_eq_true, Int.toNat_natCast] at hu
    rw [hcU]
    cases hd : upR (red (sig p T (I : Int))) with
    | none => rw [hd] at hu; exact absurd hu.2.1 (by decide)
    | some r => have := (upR_fl hd).1; unfold ct; omega
  · rw [rd_eq hrd, strOf_size, ltrs_len, hsg, bl_str9, hlen, hcD, hcU]
    unfold ct; omega
  · rw [hcD]; unfold ct; have := fl_le (red (sig p T (I : Int))) 82; omega
  · rw [hcU]; unfold ct; have := fl_le (red (sig p T (I : Int))) 65; omega
  · rw [resF_t hres, cntL_len]
  · intro j hj
    rw [hget j hj]
    have h1 := cnt_bd T (contL p p.length) j
    have h2 := contL_len P p.length (Nat.le_refl _)
    omega
  · rw [hget _ hA, hget _ hJ, hget _ hI, hcD, hcU, hdue]
    omega
end Go.Proofs.Ytdoahfjccpniaaa
/-
  Contracts: AddableOf of the program and of the model.
-/
namespace Go.Proofs.Ytdoahfjccpniaaa
open Go.RowKit

theorem owns_drewN {w : World} {B e s n : Nat} {v : Value} {xs : List Value} (h : w.ownsRow B e s v n xs) (k : Nat) : (w.drewN k).ownsRow B e s v n xs := h

set_option maxRecDepth 100000 in
set_option maxHeartbeats 1000000 in
theorem impl_AddableOf (A : Option Addr) (c : Nat) (xs : List Int) (w : World) (hl : xs.length ≤ 1048576) (hc : Cells w A xs) :
    Calls Try.prog 42 #[.slice A xs.length c] w fun e w' => ∃ A' c', e = .returned (.tuple #[.slice A' (addF xs).length c', .bool (good xs)]) ∧ Own w' w.heap.size A' c' (addF xs) ∧ Below w.heap.size w w' := by
  obtain ⟨i0, hi, hz0, hz1, hz2⟩ := info_parts Try.infoInt
  cases hg : good xs
  · rw [addF_f hg]
    have HG := hid hg; clear hg
    go_enter Try.func42, Try.ntmps42
    go_wp2_with (go_at_call 34; refine (IsPartition_b _ _ _ _ hl hc _ HG.out).mono ?_; rintro e w' ⟨rfl, rfl⟩)
    go_ret2
    exact ⟨none, 0, rfl, own_nil _ _, Below.refl _ _⟩
  rw [addF_t hg]
  have hlen := ((good_iff xs).1 hg).len
  have HG := hid hg; clear hg
  go_enter Try.func42, Try.ntmps42
  go_wp2_with (go_at_call 34; refine (IsPartition_b _ _ _ _ hl hc _ HG.out).mono ?_; rintro e w' ⟨rfl, rfl⟩)
  go_loopw [4, 12] (fun v i wr => ∃ k : Nat, k ≤ xs.length ∧ i = .int .i64 k ∧ wr.ownsRow w.heap.size 3 1 v (filt (addB xs) k).length (IL (filt (addB xs) k)) ∧ Below w.heap.size w wr) (fun _ i _ => xs.length - (intOf i).toNat)
  case atStart => exact ⟨0, Nat.zero_le _, rfl, World.ownsRow_nil _ _ _ _, Below.refl _ _⟩
  case round =>
    obtain ⟨k, hk, rfl, hown, hbel⟩ := hrel
    have hfl := filt_len (addB xs) k
    by_cases hlt : k < xs.length
    · have hcr : Cells wr A xs := hc.later hbel
      obtain ⟨b, o, rfl, hcc⟩ := hcr (by omega)
      have hck := hcc k hlt
      obtain ⟨x, hx⟩ : ∃ x, x = xs.getD k 0 := ⟨_, rfl⟩
      rw [← hx] at hck
      have HX := hid hx; clear hx
      by_cases hz : k = 0
      · have HZ := hid hz
        have hke : ((k : Int) == 0) = true := beq_iff_eq.2 (by omega)
        clear hcc hz
        go_wp2_with (at_builtin; refine wpList_append_own _ rfl _ _ 22 rfl w.heap.size 3 i0 (.int .i64 0) 1 8 Try.underlying22 hi hz0 hz1 hz2 rfl (by decide) _ _ _ rfl (hown.alloc _) ⟨wr.heap.size, 0, none⟩ 1 1 [.int .i64 (k : Int)] rfl rfl one_at (one_cell _) (by have := hfl; unfold maxLen; omega) (by have := hfl; omega) (by have := hbel.size; simp; omega) ?_)
        intro v' w1 hown' hgrow _
        have hb1 : Below w.heap.size w w1 := (hbel.alloc hbel.size _).grown hgrow (by have := hbel.size; simp; omega) (fun q hq => (hown.lt q hq).1)
        have hown2 := own_snoc (filt_yes (by rw [HZ.out]; exact add_zero xs)) hown'
        clear hgrow hown hown'
        go_wp2_with fail
        go_roundw
        case rel => exact ⟨k + 1, by omega, by go_num, hown2, hb1⟩
        case measure => simp [intOf]; omega
      have hke : ((k : Int) == 0) = false := beq_eq_false_iff_ne.2 (by omega)
      have hck1 := hcc (k - 1) (by omega)
      have hk1 : 1 ≤ k := by omega
      have hidx : ((k : Int) - 1).toNat = k - 1 := by omega
      obtain ⟨y, hy⟩ : ∃ y, y = xs.getD (k - 1) 0 := ⟨_, rfl⟩
      rw [← hy] at hck1
      have HY := hid hy; clear hy hcc hz
      by_cases hxy : x < y
      · have HXY := hid hxy
        go_wp2_with (at_builtin; refine wpList_append_own _ rfl _ _ 22 rfl w.heap.size 3 i0 (.int .i64 0) 1 8 Try.underlying22 hi hz0 hz1 hz2 rfl (by decide) _ _ _ rfl (hown.alloc _) ⟨wr.heap.size, 0, none⟩ 1 1 [.int .i64 (k : Int)] rfl rfl one_at (one_cell _) (by have := hfl; unfold maxLen; omega) (by have := hfl; omega) (by have := hbel.size; simp; omega) ?_)
        intro v' w1 hown' hgrow _
        have hb1 : Below w.heap.size w w1 := (hbel.alloc hbel.size _).grown hgrow (by have := hbel.size; simp; omega) (fun q hq => (hown.lt q hq).1)
        have hown2 := own_snoc (filt_yes (add_lt (by rw [← HX.out, ← HY.out]; exact HXY.out))) hown'
        clear hgrow hown hown'
        go_wp2_with fail
        go_roundw
        case rel => exact ⟨k + 1, by omega, by go_num, hown2, hb1⟩
        case measure => simp [intOf]; omega
      · go_wp2_with fail
        go_roundw
        case rel => exact ⟨k + 1, by omega, by go_num, by rw [filt_no (add_no (by omega) (by omega) (by rw [← HX.out, ← HY.out]; exact hxy))]; exact hown, hbel⟩
        case measure => simp [intOf]; omega
    · have hkl : k = xs.length := by omega
      subst hkl
      go_wp2_with (at_builtin; refine wpList_append_own _ rfl _ _ 22 rfl w.heap.size 3 i0 (.int .i64 0) 1 8 Try.underlying22 hi hz0 hz1 hz2 rfl (by decide) _ _ _ rfl (hown.alloc _) ⟨wr.heap.size, 0, none⟩ 1 1 [.int .i64 (xs.length : Int)] rfl rfl one_at (one_cell _) (by have := hfl; unfold maxLen; omega) (by have := hfl; omega) (by have := hbel.size; simp; omega) ?_)
      intro v' w1 hown' hgrow _
      have hb1 : Below w.heap.size w w1 := (hbel.alloc hbel.size _).grown hgrow (by have := hbel.size; simp; omega) (fun q hq => (hown.lt q hq).1)
      have hown2 := own_snoc (filt_yes (add_last xs)) hown'
      clear hgrow hown hown'
      obtain ⟨A', c', rfl, ho⟩ := own_form hown2 rfl
      clear hown2 hfl
      go_wp2_with fail
      go_ret2
      exact ⟨A', c', rfl, ho, hb1⟩

end Go.Proofs.Ytdoahfjccpniaaa
