/-
  Contracts: CoreWord of the program.
-/
import Derived.Test.YtblkmomcdchdoaaCoWMath
import Derived.Test.YtblkmomcdchdoaaRfC
import Derived.Test.YtblkmomcdchdoaaIns
namespace Go.Proofs.Ytblkmomcdchdoaa
open Go.RowKit

theorem own_apart {w w1 : World} {A : Option Addr} {B c : Nat} {xs : List Int} {row : Option Nat} (h : Own w B A c xs) (hg : w.grownBy w1 row) (hne : ∀ b, row = some b → b < B) : Own w1 B A c xs :=
  h.keep fun b hb hlt => hg.block b hlt (fun e => by have := (h.block b hb).1; have := hne b e.symm; omega)

set_option maxRecDepth 100000 in
set_option maxHeartbeats 4000000 in
theorem firstDescent_any {B : Nat} (A : Option Addr) (c : Nat) (p : List Int) (t : Nat) (w : World) (hcr : isCoreF p t = true) (h0 : 0 < p.length) (ho : Own w B A c p) :
    Calls Try.prog 96 #[.slice A p.length c, .int .i64 t] w fun e w' => ∃ A' c', e = .returned (.tuple #[.int .i64 (firstC p t : Nat), .slice A' (nextC t p).length c']) ∧ Own w' w.heap.size A' c' (nextC t p) ∧ Below w.heap.size w w' := by
  obtain ⟨G, ht2, ht6, hD⟩ := core_good hcr
  have htn : 2 ≤ t ∧ t ≤ 6 := by omega
  have HX := hid (ds_ex G h0 htn.1 hD)
  have HF := hid fun k (hk : k < t) (hb : ∀ j, j < k → dsB p t (j : Nat) = false) (h : dsB p t (k : Nat) = true) => firstC_eq hk hb h
  have HRA := hid fun (i : Int) W => reflectionAt_any t i W
  have HRF := hid fun (i : Int) T I H W h1 h2 h3 (h : Own W B A c p) => reflect_any T I H t i A c p W G htn h1 h2 h3 h
  have HIM := hid fun i => ds_impl G t i
  have HCN := hid fun W (h : Cells W A p) => cellCount_any A p c W G.len (fun j hj => by have := G.pos j hj; have := G.le j hj; omega) h
  have HCR := hid fun W (R : List Int) A3 c3 (g : Good R) (h : Cells W A3 R) => cellCount_any A3 R c3 W g.len (fun j hj => by have := g.pos j hj; have := g.le j hj; omega) h
  have HO := hid ho
  obtain ⟨s, hs⟩ : ∃ s, s = p.sum := ⟨_, rfl⟩
  rw [← hs] at HCN HIM
  clear hcr G hD h0 ho hs
  go_enter Try.func96, Try.ntmps96
  go_wp2_with fail
  go_loopw [10] (fun kv wr => ∃ k : Nat, k ≤ t ∧ kv = .int .i64 k ∧ Hid (∀ j, j < k → dsB p t (j : Nat) = false) ∧ Below w.heap.size w wr) (fun kv _ => t - (intOf kv).toNat)
  case atStart => exact ⟨0, Nat.zero_le _, rfl, hid fun j hj => absurd hj (by omega), Below.refl _ _⟩
  case round =>
    obtain ⟨k, hk, rfl, HB, hbel⟩ := hrel
    by_cases hlt : k < t
    · have him := HIM.out (k : Int)
      have hrf := HRF.out (k : Int)
      cases hgd : good (rfL p t (k : Int))
      · rw [hgd] at him hrf
        have HRK := hid hrf
        have HN := hid (show ∀ j, j < k + 1 → dsB p t (j : Nat) = false from fun j hj => by
          by_cases e : j = k
          · subst e; rw [← him]; rfl
          · exact HB.out j (by omega))
        clear him hrf hgd
        go_wp2_with (first | (go_at_call 94; refine (HRA.out _ _).mono ?_; rintro e w2 ⟨T, I, H, rfl, c1, c2, c3, b2⟩; have B2 := hid (Below.next hbel b2); have HO2 := hid ((HO.out.below hbel).below b2)) | (go_at_call 123; refine (HRK.out T I H _ c1 c2 c3 HO2.out).mono ?_; rintro e w3 ⟨A3, c3', rfl, o3, b3⟩; have B3 := hid (Below.next B2.out b3)))
        go_roundw
        case rel => exact ⟨k + 1, by omega, by go_num, HN, B3.out⟩
        case measure => simp [intOf]; omega
      · rw [hgd] at him
        rw [show (if good (rfL p t (k : Int)) = true then rfL p t (k : Int) else []) = rfL p t (k : Int) by rw [if_pos hgd], hgd] at hrf
        have HRK := hid hrf
        have HG3 := hid ((good_iff _).1 hgd)
        have HNX := hid (show firstC p t = k → nextC t p = rfL p t (k : Int) from fun e => by unfold nextC; rw [e])
        obtain ⟨R, hR⟩ : ∃ R, R = rfL p t (k : Int) := ⟨_, rfl⟩
        rw [← hR] at HRK HG3 HNX him
        obtain ⟨s2, hs2⟩ : ∃ s2, s2 = R.sum := ⟨_, rfl⟩
        have HS2 := hid hs2
        have hcr3 := HCR.out
        have HC3 := hid fun W A3 c3 (h : Cells W A3 R) => (by have := HCR.out W R A3 c3 HG3.out h; rw [← HS2.out] at this; exact this : Calls Try.prog 101 #[.slice A3 R.length c3] W fun e w' => e = .returned (.int .i64 s2) ∧ W = w')
        rw [← hs2] at him
        clear hrf hgd hR hs2 hcr3
        by_cases hless : s2 < s
        · have hd : dsB p t (k : Int) = true := by rw [← him, decide_eq_true hless]; rfl
          have hfe := HF.out k hlt HB.out hd
          have HFE := hid hfe
          have HNE := hid (HNX.out hfe)
          clear him hd hfe
          go_wp2_with fail
          refine (HRA.out _ _).mono ?_
          rintro e w2 ⟨T, I, H, rfl, c1, c2, c3, b2⟩
          have B2 := hid (Below.next hbel b2)
          have HO2 := hid ((HO.out.below hbel).below b2)
          have HK2 := hid (HRK.out T I H _ c1 c2 c3 HO2.out)
          clear b2
          go_wp2_with fail
          refine HK2.out.mono ?_
          rintro e w3 ⟨A3, c3', rfl, o3, b3⟩
          have B3 := hid (Below.next B2.out b3)
          have HO3 := hid o3
          have HC4 := hid (HC3.out _ A3 c3' o3.cells)
          have HC5 := hid (HCN.out _ (HO2.out.below b3).cells)
          clear o3 b3 c1 c2 c3
          go_wp2_with fail
          refine HC4.out.mono ?_
          rintro e w4 ⟨rfl, rfl⟩
          go_wp2_with fail
          refine HC5.out.mono ?_
          rintro e w4 ⟨rfl, rfl⟩
          go_wp2_with fail
          go_ret2
          exact ⟨A3, c3', by rw [HFE.out, HNE.out]; rfl, by rw [HNE.out]; exact HO3.out.more B2.out.size, B3.out⟩
        · have HN := hid (show ∀ j, j < k + 1 → dsB p t (j : Nat) = false from fun j hj => by
            by_cases e : j = k
            · subst e; rw [← him, decide_eq_false hless]; rfl
            · exact HB.out j (by omega))
          clear him
          go_wp2_with fail
          refine (HRA.out _ _).mono ?_
          rintro e w2 ⟨T, I, H, rfl, c1, c2, c3, b2⟩
          have B2 := hid (Below.next hbel b2)
          have HO2 := hid ((HO.out.below hbel).below b2)
          have HK2 := hid (HRK.out T I H _ c1 c2 c3 HO2.out)
          clear b2
          go_wp2_with fail
          refine HK2.out.mono ?_
          rintro e w3 ⟨A3, c3', rfl, o3, b3⟩
          have B3 := hid (Below.next B2.out b3)
          have HO3 := hid o3
          have HC4 := hid (HC3.out _ A3 c3' o3.cells)
          have HC5 := hid (HCN.out _ (HO2.out.below b3).cells)
          clear o3 b3 c1 c2 c3
          go_wp2_with fail
          refine HC4.out.mono ?_
          rintro e w4 ⟨rfl, rfl⟩
          go_wp2_with fail
          refine HC5.out.mono ?_
          rintro e w4 ⟨rfl, rfl⟩
          go_wp2_with fail
          go_roundw
          case rel => exact ⟨k + 1, by omega, by go_num, HN, B3.out⟩
          case measure => simp [intOf]; omega
    · exfalso
      obtain ⟨i, h1, h2⟩ := HX.out
      rw [HB.out i (by omega)] at h2
      cases h2

set_option maxRecDepth 100000 in
set_option maxHeartbeats 4000000 in
theorem impl_CoreWord {B : Nat} (A : Option Addr) (c : Nat) (xs : List Int) (t : Int) (w : World) (hl : xs.length ≤ 1048576) (ho : Own w B A c xs) (h64 : I64 t) :
    Calls Try.prog 55 #[.slice A xs.length c, .int .i64 t] w fun e w' => ∃ A' c', e = .returned (.tuple #[.slice A' (cwoF xs t).length c', .bool (isCoreF xs t)]) ∧ Own w' w.heap.size A' c' (cwoF xs t) ∧ Below w.heap.size w w' := by
  obtain ⟨i0, hi, hz0, hz1, hz2⟩ := info_parts Try.infoInt
  have HR := hid (impl_IsCore A c xs t w hl ho.cells h64)
  cases hg : isCoreF xs t
  · rw [show cwoF xs t = [] by simp [cwoF, hg]]
    rw [hg] at HR
    obtain ⟨b, hb⟩ : ∃ b, b = crB xs t := ⟨_, rfl⟩
    rw [← hb] at HR
    clear hg hb
    go_enter Try.func55, Try.ntmps55
    go_wp2_with fail
    refine HR.out.mono ?_
    rintro e w1 ⟨rfl, b1⟩
    go_wp2_with fail
    go_ret2
    exact ⟨none, 0, rfl, own_nil _ _, b1⟩
  · rw [show cwoF xs t = cwoL t.toNat xs by simp [cwoF, hg]]
    rw [hg, core_cr hg] at HR
    obtain ⟨G, ht2, ht6, _⟩ := core_good hg
    obtain ⟨n, rfl⟩ : ∃ n : Nat, t = n := ⟨t.toNat, by omega⟩
    rw [Int.toNat_natCast]
    obtain ⟨hK30, hKe, hKs⟩ := cwoK_ok hg
    have HEND := hid (show cwoL n xs = cwo n xs (cwoK n xs) from rfl)
    obtain ⟨K, hK⟩ : ∃ K, K = cwoK n xs := ⟨_, rfl⟩
    rw [← hK] at hK30 hKe hKs HEND
    have HD := hid hKs
    have HKE := hid hKe
    have HOO := hid ho
    clear hg G hK hKe hKs ho
    go_enter Try.func55, Try.ntmps55
    go_wp2_with fail
    refine HR.out.mono ?_
    rintro e w1 ⟨rfl, b1⟩
    have HO1 := hid (HOO.out.below b1)
    have hbs1 := b1.size
    go_wp2_with fail
    go_loopw [8, 9] (fun wv lv wr => ∃ (k : Nat) (Aw : Option Addr) (cw : Nat) (Al : Option Addr) (cl Bl : Nat), k ≤ K ∧ wv = .slice Aw k cw ∧ lv = .slice Al (dwc n xs k).length cl ∧ Hid (Own wr w1.heap.size Aw cw (cwo n xs k)) ∧ Hid (Own wr Bl Al cl (dwc n xs k)) ∧ Below w1.heap.size w1 wr) (fun wv _ _ => 31 - (match wv with | .slice _ m _ => m | _ => 0))
    case atStart => exact ⟨0, none, 0, A, c, B, Nat.zero_le _, rfl, rfl, hid (own_nil _ _), hid HO1.out, Below.refl _ _⟩
    case round =>
      obtain ⟨k, Aw, cw, Al, cl, Bl, hk, rfl, rfl, HO, HCL, hbel⟩ := hrel
      obtain ⟨hcr, hpos⟩ := HD.out k hk
      by_cases hlt : k < K
      · have hp := hpos hlt
        have HFA := hid (firstDescent_any Al cl (dwc n xs k) n wr hcr hp HCL.out)
        obtain ⟨g, _, _, hDn⟩ := core_good hcr
        have hdl := g.len
        have hfd : firstC (dwc n xs k) n < n := (firstC_lt (ds_ex g hp (by omega) hDn)).1
        have HAW := hid (cwo_succ n xs k)
        have HAL := hid (cwo_len n xs k)
        have HAL2 := hid (cwo_len n xs (k + 1))
        have HNX := hid (show nextC n (dwc n xs k) = dwc n xs (k + 1) from rfl)
        rw [HNX.out] at HFA
        obtain ⟨L, hL⟩ : ∃ L, L = dwc n xs k := ⟨_, rfl⟩
        obtain ⟨R, hR⟩ : ∃ R, R = dwc n xs (k + 1) := ⟨_, rfl⟩
        obtain ⟨f, hf⟩ : ∃ f, f = firstC (dwc n xs k) n := ⟨_, rfl⟩
        rw [← hf] at HFA hfd HAW
        rw [← hL, ← hR] at HFA
        rw [← hL] at hp hdl ⊢
        have HRE := hid hR
        clear g hDn hcr hpos hL hf hR
        have hl0 : (0 : Int) < (L.length : Int) := by omega
        go_wp2_with fail
        refine HFA.out.mono ?_
        rintro e w2 ⟨A2, c2, rfl, o2, b2⟩
        have HO2 := hid o2
        have HB2 := hid (Below.next hbel b2)
        have hown0 := HO.out.below b2
        unfold Own at hown0
        rw [HAL.out] at hown0
        have HOW := hid hown0
        have hblk := hid (show ∀ b, (Value.slice Aw k cw).ownBlock = some b → b < wr.heap.size from fun b hb => by
          have h1 := HO.out
          unfold Own at h1
          rw [HAL.out] at h1
          exact (World.ownsRow.lt h1 b hb).2)
        have hsz2 := HB2.out.size
        clear o2 b2 hown0
        go_wp2_with (at_builtin; refine wpList_append_own _ rfl _ _ 22 rfl w1.heap.size 3 i0 (.int .i64 0) 1 8 Try.underlying22 hi hz0 hz1 hz2 rfl (by decide) _ _ _ rfl (HOW.out.alloc _) ⟨w2.heap.size, 0, none⟩ 1 1 [.int .i64 (f : Nat)] rfl rfl one_at (one_cell _) (by unfold maxLen; omega) (by omega) (by simp; omega) ?_)
        intro v3 w3 hown3 hgrow3 _
        have hb3 : Below w1.heap.size w1 w3 := (HB2.out.alloc HB2.out.size _).grown hgrow3 (by simp; omega) (fun q hq => (HOW.out.lt q hq).1)
        have hown4 : w3.ownsRow w1.heap.size 3 1 v3 (cwo n xs (k + 1)).length (IL (cwo n xs (k + 1))) := own_snoc HAW.out (by rw [HAL.out]; exact hown3)
        obtain ⟨A3, c3, e3, o3⟩ := own_form hown4 rfl
        rw [HAL2.out] at e3
        subst e3
        have hcl : Own w3 wr.heap.size A2 c2 R := by
          have ho2 := HO2.out.below ((Below.refl _ _).alloc (Nat.le_refl _) (.cells #[.int .i64 (f : Nat)] 3) : Below w2.heap.size w2 (w2.alloc _))
          exact own_apart ho2 hgrow3 hblk.out
        have HO3 := hid o3
        have HB3 := hid hb3
        have HC3 := hid hcl
        clear hown3 hgrow3 hown4 o3 hb3 hcl
        go_wp2_with fail
        go_roundw
        case rel => exact ⟨k + 1, A3, c3, A2, c2, wr.heap.size, by omega, rfl, by rw [HRE.out], HO3, by rw [← HRE.out]; exact HC3, HB3.out⟩
        case measure => show 31 - (k + 1) < 31 - k; omega
      · have hkK : k = K := by omega
        have hz : (dwc n xs k).length = 0 := by rw [hkK]; exact HKE.out
        have hO := HO.out
        rw [hkK, ← HEND.out] at hO
        have HO5 := hid (hO.more hbs1)
        have HAL := hid (show (cwoL n xs).length = k by rw [HEND.out, cwo_len, hkK])
        rw [hz]
        have HBB := hid (Below.next b1 hbel)
        clear hkK hcr hpos hO hz
        go_wp2_with fail
        go_ret2
        exact ⟨Aw, cw, by rw [HAL.out]; rfl, HO5.out, HBB.out⟩
end Go.Proofs.Ytblkmomcdchdoaa
