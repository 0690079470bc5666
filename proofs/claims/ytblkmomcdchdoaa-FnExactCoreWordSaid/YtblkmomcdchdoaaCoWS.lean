/-
  Contracts: CoreWord of the model.
-/
import Derived.Test.YtblkmomcdchdoaaCoW
import Derived.Test.YtblkmomcdchdoaaSame
namespace Go.Proofs.Ytblkmomcdchdoaa
open Go.RowKit

set_option maxRecDepth 100000 in
set_option maxHeartbeats 4000000 in
theorem spec_CoreWord {B : Nat} (A : Option Addr) (c : Nat) (xs : List Int) (t : Int) (w : World) (hl : xs.length ≤ 1048576) (ho : Own w B A c xs) (_ : I64 t) :
    Calls Try.prog 54 #[.slice A xs.length c, .int .i64 t] w fun e w' => ∃ A' c', e = .returned (.tuple #[.slice A' (cwoF xs t).length c', .bool (isCoreF xs t)]) ∧ Own w' w.heap.size A' c' (cwoF xs t) ∧ Below w.heap.size w w' := by
  obtain ⟨i0, hi, hz0, hz1, hz2⟩ := info_parts Try.infoInt
  have HR := hid (chCoreOf_any A c xs t w hl ho.cells)
  cases hg : isCoreF xs t
  · rw [show cwoF xs t = [] by simp [cwoF, hg]]
    rw [hg] at HR
    clear hg
    go_enter Try.func54, Try.ntmps54
    go_wp2_with fail
    refine HR.out.mono ?_
    rintro e w1 ⟨rfl, b1⟩
    go_wp2_with fail
    go_ret2
    exact ⟨none, 0, rfl, own_nil _ _, b1⟩
  · rw [show cwoF xs t = cwoL t.toNat xs by simp [cwoF, hg]]
    rw [hg] at HR
    obtain ⟨G, ht2, ht6, _⟩ := core_good hg
    obtain ⟨n, rfl⟩ : ∃ n : Nat, t = n := ⟨t.toNat, by omega⟩
    rw [Int.toNat_natCast]
    obtain ⟨hK30, hKe, hKs⟩ := cwoK_ok hg
    have HEND := hid (show cwoL n xs = cwo n xs (cwoK n xs) from rfl)
    obtain ⟨K, hK⟩ : ∃ K, K = cwoK n xs := ⟨_, rfl⟩
    rw [← hK] at hK30 hKe hKs HEND
    have HD := hid hKs
    have HKE := hid hKe
    have HOO := hid ho
    clear hg G hK hKe hKs ho
    go_enter Try.func54, Try.ntmps54
    go_wp2_with fail
    refine HR.out.mono ?_
    rintro e w1 ⟨rfl, b1⟩
    have HO1 := hid (HOO.out.below b1)
    have hbs1 := b1.size
    go_wp2_with fail
    go_loopw [6, 7] (fun wv lv wr => ∃ (k : Nat) (Aw : Option Addr) (cw : Nat) (Al : Option Addr) (cl Bl : Nat), k ≤ K ∧ wv = .slice Aw k cw ∧ lv = .slice Al (dwc n xs k).length cl ∧ Hid (Own wr w1.heap.size Aw cw (cwo n xs k)) ∧ Hid (Own wr Bl Al cl (dwc n xs k)) ∧ Below w1.heap.size w1 wr) (fun wv _ _ => 31 - (match wv with | .slice _ m _ => m | _ => 0))
    case atStart => exact ⟨0, none, 0, A, c, B, Nat.zero_le _, rfl, rfl, hid (own_nil _ _), hid HO1.out, Below.refl _ _⟩
    case round =>
      obtain ⟨k, Aw, cw, Al, cl, Bl, hk, rfl, rfl, HO, HCL, hbel⟩ := hrel
      obtain ⟨wo, rfl⟩ : ∃ wo : World, wo = wr := ⟨_, rfl⟩
      obtain ⟨hcr, hpos⟩ := HD.out k hk
      by_cases hlt : k < K
      · have hp := hpos hlt
        obtain ⟨g, _, _, hDn⟩ := core_good hcr
        have hdl := g.len
        have HCALL := hid fun W (h : Own W Bl Al cl (dwc n xs k)) (i : Nat) (hi : i < n) => (chReflect_any n (i : Int) Al cl (dwc n xs k) W g (by omega) (by omega) h : Calls Try.prog 92 _ W _)
        have HLEN := hid fun (i : Nat) => (by have := rfK_le (dwc n xs k) n i; rw [show (rfL (dwc n xs k) n i).length = rfK (dwc n xs k) n i from fnRow_len _ _]; omega : (rfL (dwc n xs k) n i).length ≤ 1048576)
        have HSM := hid fun (i : Nat) W A2 c2 (h : Cells W A2 (rfL (dwc n xs k) n i)) (h2 : Cells W Al (dwc n xs k)) b hb => l1Same_b A2 Al c2 cl (rfL (dwc n xs k) n i) (dwc n xs k) W (HLEN.out i) (by omega) h h2 b hb
        have HEX := hid (ds_ex g hp (by omega) hDn)
        have HF := hid fun j (hj : j < n) (hb : ∀ i, i < j → dsB (dwc n xs k) n (i : Nat) = false) (h : dsB (dwc n xs k) n (j : Nat) = true) => firstC_eq hj hb h
        have HDS := hid fun (i : Nat) => (show dsB (dwc n xs k) n i = (!grw (dwc n xs k) n i && decide (¬ rfL (dwc n xs k) n i = dwc n xs k)) from rfl)
        have HAW := hid (cwo_succ n xs k)
        have HAL := hid (cwo_len n xs k)
        have HAL2 := hid (cwo_len n xs (k + 1))
        have HNX := hid (show dwc n xs (k + 1) = rfL (dwc n xs k) n (firstC (dwc n xs k) n : Nat) from rfl)
        obtain ⟨L, hL⟩ : ∃ L, L = dwc n xs k := ⟨_, rfl⟩
        rw [← hL] at HCALL HEX HF HAW HNX HDS HSM HLEN HCL hp hdl ⊢
        obtain ⟨f, hf⟩ : ∃ f, f = firstC L n := ⟨_, rfl⟩
        rw [← hf] at HF HAW HNX
        obtain ⟨rf, hrf⟩ : ∃ rf : Nat → List Int, rf = fun i => rfL L n (i : Nat) := ⟨_, rfl⟩
        obtain ⟨gr, hgr⟩ : ∃ gr : Nat → Bool, gr = fun i => grw L n (i : Nat) := ⟨_, rfl⟩
        obtain ⟨ds, hds⟩ : ∃ ds : Nat → Bool, ds = fun i => dsB L n (i : Nat) := ⟨_, rfl⟩
        have HCA := hid fun W (h : Own W Bl Al cl L) (i : Nat) (hi : i < n) => (by have := HCALL.out W h i hi; rw [hrf, hgr]; exact this : Calls Try.prog 92 #[.slice Al L.length cl, .int .i64 n, .int .i64 i] W fun e w' => ∃ A' c', e = .returned (.tuple #[.slice A' (rf i).length c', .bool (gr i)]) ∧ Own w' W.heap.size A' c' (rf i) ∧ Below W.heap.size W w')
        have HSA := hid fun (i : Nat) W A2 c2 (h : Cells W A2 (rf i)) (h2 : Cells W Al L) b (hb : decide (rf i = L) = b) => (by subst hrf; exact HSM.out i W A2 c2 h h2 b hb : Calls Try.prog 95 #[.slice A2 (rf i).length c2, .slice Al L.length cl] W fun e w' => e = .returned (.bool b) ∧ ∃ n, w' = W.drewN n)
        have HDD := hid fun (i : Nat) => (by rw [hds, hgr, hrf]; exact HDS.out i : ds i = (!gr i && decide (¬ rf i = L)))
        have HE2 := hid (by obtain ⟨i, h1, h2⟩ := HEX.out; exact ⟨i, h1, by rw [hds]; exact h2⟩ : ∃ i, i < n ∧ ds i = true)
        have HF2 := hid fun j (hj : j < n) (hb : ∀ i, i < j → ds i = false) (h : ds j = true) => (by subst hds; exact HF.out j hj hb h : f = j)
        have HN2 := hid (by rw [hrf]; exact HNX.out : dwc n xs (k + 1) = rf f)
        clear g hDn hcr hpos hL hf hrf hgr hds HCALL HSM HLEN HDS HEX HF HNX
        have hl0 : (0 : Int) < (L.length : Int) := by omega
        have h0n : 0 < n := by omega
        have hown0 := HO.out
        unfold Own at hown0
        rw [HAL.out] at hown0
        have HOW0 := hid hown0
        have HC00 := hid (HCA.out wo HCL.out 0 h0n)
        clear hown0
        go_wp2_with fail
        refine HC00.out.mono ?_
        rintro e w2 ⟨A2, c2, rfl, o2, b2⟩
        have HO2 := hid o2
        have HB2 := hid b2
        clear o2 b2
        go_wp2_with fail
        go_loopw [8, 9, 10] (fun iv nv gv wr => ∃ (i : Nat) (A2 : Option Addr) (c2 : Nat), i < n ∧ iv = .int .i64 i ∧ nv = .slice A2 (rf i).length c2 ∧ gv = .bool (gr i) ∧ Hid (Own wr wo.heap.size A2 c2 (rf i)) ∧ Hid (∀ j, j < i → ds j = false) ∧ Below wo.heap.size wo wr) (fun iv _ _ _ => n - (intOf iv).toNat)
        case atStart => exact ⟨0, A2, c2, h0n, rfl, rfl, rfl, hid HO2.out, hid fun j hj => absurd hj (by omega), HB2.out⟩
        case round =>
          obtain ⟨i, A3, c3, hin, rfl, rfl, rfl, HO3, HBF, hbel2⟩ := hrel
          have hdi := HDD.out i
          cases hds : ds i
          · have HNB := hid (show ∀ j, j < i + 1 → ds j = false from fun j hj => by
              by_cases e : j = i
              · subst e; exact hds
              · exact HBF.out j (by omega))
            have hi1 : i + 1 < n := by
              apply Classical.byContradiction
              intro hh
              obtain ⟨j, h1, h2⟩ := HE2.out
              rw [HNB.out j (by omega)] at h2
              cases h2
            rw [hds] at hdi
            cases hgi : gr i
            · have hsm : decide (rf i = L) = true := by
                rw [hgi] at hdi
                apply decide_eq_true
                apply Classical.byContradiction
                intro hne
                rw [decide_eq_true hne] at hdi; cases hdi
              have HSS := hid (HSA.out i wr A3 c3 HO3.out.cells (HCL.out.below hbel2).cells true hsm)
              have HCB := hid fun W h => HCA.out W h (i + 1) hi1
              clear hsm hdi hds hgi
              go_wp2_with fail
              refine HSS.out.mono ?_
              rintro e w4 ⟨rfl, q, rfl⟩
              obtain ⟨w4, hw4⟩ : ∃ w4, w4 = wr.drewN q := ⟨_, rfl⟩
              have HB4 := hid (show Below wo.heap.size wo w4 by rw [hw4]; exact below_drewN hbel2 _)
              rw [← hw4]
              clear hw4
              go_wp2_with fail
              refine (HCB.out _ (HCL.out.below HB4.out)).mono ?_
              rintro e w5 ⟨A5, c5, rfl, o5, b5⟩
              have HO5 := hid (o5.more HB4.out.size)
              have HB5 := hid (Below.next HB4.out b5)
              clear o5 b5
              go_wp2_with fail
              go_roundw
              case rel => exact ⟨i + 1, A5, c5, hi1, by go_num, rfl, rfl, HO5, HNB, HB5.out⟩
              case measure => simp [intOf]; omega
            · have HCB := hid (HCA.out wr (HCL.out.below hbel2) (i + 1) hi1)
              clear hdi hds hgi
              go_wp2_with fail
              refine HCB.out.mono ?_
              rintro e w5 ⟨A5, c5, rfl, o5, b5⟩
              have HO5 := hid (o5.more hbel2.size)
              have HB5 := hid (Below.next hbel2 b5)
              clear o5 b5
              go_wp2_with fail
              go_roundw
              case rel => exact ⟨i + 1, A5, c5, hi1, by go_num, rfl, rfl, HO5, HNB, HB5.out⟩
              case measure => simp [intOf]; omega
          · have hfi := HF2.out i hin HBF.out hds
            rw [hds] at hdi
            have hgi : gr i = false := by
              cases h : gr i
              · rfl
              · rw [h] at hdi; cases hdi
            have hsm : decide (rf i = L) = false := by
              rw [hgi] at hdi
              apply decide_eq_false
              intro e
              rw [decide_eq_false (fun h => h e)] at hdi; cases hdi
            have HSS := hid (HSA.out i wr A3 c3 HO3.out.cells (HCL.out.below hbel2).cells false hsm)
            have hn2 := HN2.out
            rw [hfi] at hn2
            have HNE := hid hn2
            have haw := HAW.out
            rw [hfi] at haw
            have HAW2 := hid haw
            obtain ⟨R, hR⟩ : ∃ R, R = rf i := ⟨_, rfl⟩
            rw [← hR] at HO3 HNE HSS ⊢
            rw [hgi]
            clear hsm hdi hds hgi hR hn2 haw hfi
            go_wp2_with fail
            refine HSS.out.mono ?_
            rintro e w4 ⟨rfl, q, rfl⟩
            obtain ⟨w4, hw4⟩ : ∃ w4, w4 = wr.drewN q := ⟨_, rfl⟩
            have HB04 := hid (show Below wo.heap.size wo w4 by rw [hw4]; exact below_drewN hbel2 _)
            have HO4 := hid (show Own w4 wo.heap.size A3 c3 R by rw [hw4]; exact own_drewN' HO3.out q)
            rw [← hw4]
            clear hw4
            have HB4 := hid (Below.next hbel HB04.out)
            have hown1 := HO.out.below HB04.out
            unfold Own at hown1
            rw [HAL.out] at hown1
            have HOW := hid hown1
            have hblk := hid (show ∀ b, (Value.slice Aw k cw).ownBlock = some b → b < wo.heap.size from fun b hb => (World.ownsRow.lt HOW0.out b hb).2)
            have hsz4 := HB4.out.size
            clear hown1
            go_wp2_with (at_builtin; refine wpList_append_own _ rfl _ _ 22 rfl w1.heap.size 3 i0 (.int .i64 0) 1 8 Try.underlying22 hi hz0 hz1 hz2 rfl (by decide) _ _ _ rfl (HOW.out.alloc _) ⟨w4.heap.size, 0, none⟩ 1 1 [.int .i64 (i : Nat)] rfl rfl one_at (one_cell _) (by unfold maxLen; omega) (by omega) (by simp; omega) ?_)
            intro v3 w3 hown3 hgrow3 _
            have hb3 : Below w1.heap.size w1 w3 := (HB4.out.alloc HB4.out.size _).grown hgrow3 (by simp; omega) (fun q hq => (HOW.out.lt q hq).1)
            have hown4 : w3.ownsRow w1.heap.size 3 1 v3 (cwo n xs (k + 1)).length (IL (cwo n xs (k + 1))) := own_snoc HAW2.out (by rw [HAL.out]; exact hown3)
            obtain ⟨A6, c6, e6, o6⟩ := own_form hown4 rfl
            rw [HAL2.out] at e6
            subst e6
            have hcl : Own w3 wo.heap.size A3 c3 R := by
              have ho2 := HO4.out.below ((Below.refl _ _).alloc (Nat.le_refl _) (.cells #[.int .i64 (i : Nat)] 3) : Below w4.heap.size w4 (w4.alloc _))
              exact own_apart ho2 hgrow3 hblk.out
            have HO6 := hid o6
            have HB6 := hid hb3
            have HC6 := hid hcl
            clear hown3 hgrow3 hown4 o6 hb3 hcl
            go_wp2_with fail
            go_roundw
            case rel => exact ⟨k + 1, A6, c6, A3, c3, wo.heap.size, by omega, rfl, by rw [HNE.out], HO6, by rw [HNE.out]; exact HC6, HB6.out⟩
            case measure => show 31 - (k + 1) < 31 - k; omega
      · have hkK : k = K := by omega
        have hz : (dwc n xs k).length = 0 := by rw [hkK]; exact HKE.out
        have hO := HO.out
        rw [hkK, ← HEND.out] at hO
        have HO5 := hid (hO.more hbs1)
        have HAL := hid (show (cwoL n xs).length = k by rw [HEND.out, cwo_len, hkK])
        rw [hz]
        have HBB := hid (Below.next b1 hbel)
        clear hkK hcr hpos hO hz
        go_wp2_with fail
        go_ret2
        exact ⟨Aw, cw, by rw [HAL.out]; rfl, HO5.out, HBB.out⟩
end Go.Proofs.Ytblkmomcdchdoaa
