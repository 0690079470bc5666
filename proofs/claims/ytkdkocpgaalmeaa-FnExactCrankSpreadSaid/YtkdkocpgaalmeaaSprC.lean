/-
  Contract: spreadOf with 154.
-/
import Derived.Test.YtkdkocpgaalmeaaSprI
namespace Go.Proofs.Ytkdkocpgaalmeaa
open Go.RowKit Go.Maps

set_option maxRecDepth 100000 in
set_option maxHeartbeats 2000000 in
theorem spreadC_any (A : Option Addr) (c : Nat) (R : List (List Int)) (V : Nat → Int) (w : World) (g1 g2 : Nat) (hl : R.length ≤ 10000) (hc : Cells2 w A R) (hV : ∀ k, k < R.length → -1000 ≤ V k ∧ V k ≤ 1000)
    (hcl : ∀ k, k < R.length → ∀ (wx : World) (A' : Option Addr) (c' : Nat), Below w.heap.size w wx → Cells wx A' (R.getD k []) → Calls Try.prog 154 #[.slice A' (R.getD k []).length c', .pointer (some ⟨g1, 0, none⟩), .pointer (some ⟨g2, 0, none⟩)] wx fun e w' => e = .returned (.int .i64 (V k)) ∧ Below wx.heap.size wx w') :
    Calls Try.prog 117 #[.slice A R.length c, .func (.func 154) #[] #[.pointer (some ⟨g1, 0, none⟩), .pointer (some ⟨g2, 0, none⟩)]] w fun e w' => e = .returned (.map (some w.heap.size)) ∧ SpI w' w.heap.size R.length V ∧ Below w.heap.size w w' := by
  have hmm := @run_makeMap Try.prog
  have HCL := hid hcl
  clear hcl
  go_enter Try.func117, Try.ntmps117
  go_wp2_with fail
  go_loopw [11] (fun i wr => ∃ k : Nat, k ≤ R.length ∧ i = .int .i64 k ∧ Hid (SpI wr w.heap.size k V) ∧ Hid (Below w.heap.size w wr)) (fun i _ => R.length - (intOf i).toNat)
  case atStart => exact ⟨0, Nat.zero_le _, rfl, hid ⟨_, World.ownsMap_made _ _ _ _, fun _ _ => rfl⟩, hid ((Below.refl _ _).alloc (Nat.le_refl _) _)⟩
  case round =>
    obtain ⟨k, hk, rfl, HS, HB⟩ := hrel
    clear hmm
    by_cases hlt : k < R.length
    · have hc2 := cells2_below hc HB.out
      obtain ⟨P, C, h1, h2⟩ := hc2
      obtain ⟨b, o, rfl, hcc⟩ := h1 (by omega)
      have hck := hcc k hlt
      have HF := hid (HCL.out k hlt wr (P k) (C k) HB.out (h2 k hlt))
      obtain ⟨r, hr⟩ : ∃ r, r = R.getD k [] := ⟨_, rfl⟩
      rw [← hr] at hck HF
      have hvb := hV k hlt
      obtain ⟨v, hv⟩ : ∃ v, v = V k := ⟨_, rfl⟩
      rw [← hv] at hvb
      have hvw : (Lit.int .i64 v).wf = true := WalkArith.wf_i64 (by omega)
      have hcn := cntV_le V v k
      have HV := hid hv
      rw [← hv] at HF
      clear h1 h2 hcc hr hv
      go_wp2_with (first | (go_at_call 154; refine HF.out.mono ?_; rintro e w2 ⟨rfl, b2⟩; have s2 := HS.out.below b2; have hrun := s2.look v hvw; obtain ⟨D, hown, hat⟩ := s2; have HAT := hid hat; have HBB := hid (HB.out.trans (b2.mono HB.out.size)); clear hat; obtain ⟨n, hn⟩ : ∃ n : Nat, n = cntV V v k := ⟨_, rfl⟩; rw [← hn] at hrun hcn; have HN := hid hn; clear hn) | (at_mapUpdate; refine wpList_mapUpdate_own _ rfl _ _ _ 81 rfl 3 3 Try.spILaw Try.underlying81 _ w.heap.size k _ rfl hown (by unfold maxLen; omega) _ _ _ rfl rfl (keyOf_int_mk Try.underlying3 hvw) _ [] (plainElem_int Try.underlying3 (WalkArith.wf_i64 (by omega))) ?_; intro w3 hown3 hgrow3))
      have hs3 := SpI.put HAT.out (hown.tidy Try.spILaw).isMap hvw HV.out.symm (by rw [← HN.out]; exact hown3)
      have hb3 := HBB.out.grown hgrow3 HBB.out.size (fun j hj => by cases hj; exact Nat.le_refl _)
      have HS3 := hid hs3
      have HB3 := hid hb3
      clear hs3 hb3 hown3 hgrow3 hown
      go_roundw
      case rel => exact ⟨k + 1, by omega, by go_num, HS3, HB3⟩
      case measure => simp [intOf]; omega
    · have hkl : k = R.length := by omega
      subst hkl
      go_wp2_with fail
      go_ret
      exact ⟨rfl, HS.out, HB.out⟩
end Go.Proofs.Ytkdkocpgaalmeaa
