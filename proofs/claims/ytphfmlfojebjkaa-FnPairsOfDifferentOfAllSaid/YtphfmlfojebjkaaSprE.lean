/-
  Contract: spreadOf with 22.
-/
import Derived.Test.YtphfmlfojebjkaaSprB
namespace Go.Proofs.Ytphfmlfojebjkaa
open Go.RowKit Go.Maps

set_option maxRecDepth 100000 in
set_option maxHeartbeats 2000000 in
theorem spreadE_any (A : Option Addr) (c : Nat) (R : List (List Int)) (V : Nat → Bool) (w : World) (hl : R.length ≤ 10000) (hc : Cells2 w A R)
    (hcl : ∀ k, k < R.length → ∀ (wx : World) (A' : Option Addr) (c' : Nat), Below w.heap.size w wx → Cells wx A' (R.getD k []) → Calls Try.prog 22 #[.slice A' (R.getD k []).length c'] wx fun e w' => e = .returned (.bool (V k)) ∧ Below wx.heap.size wx w') :
    Calls Try.prog 20 #[.slice A R.length c, .func (.func 22) #[] #[]] w fun e w' => e = .returned (.map (some w.heap.size)) ∧ SpB w' w.heap.size R.length V ∧ Below w.heap.size w w' := by
  have hmm := @run_makeMap Try.prog
  have HCL := hid hcl
  clear hcl
  go_enter Try.func20, Try.ntmps20
  go_wp2_with fail
  go_loopw [11] (fun i wr => ∃ k : Nat, k ≤ R.length ∧ i = .int .i64 k ∧ Hid (SpB wr w.heap.size k V) ∧ Hid (Below w.heap.size w wr)) (fun i _ => R.length - (intOf i).toNat)
  case atStart => exact ⟨0, Nat.zero_le _, rfl, hid ⟨_, World.ownsMap_made _ _ _ _, fun _ _ => rfl⟩, hid ((Below.refl _ _).alloc (Nat.le_refl _) _)⟩
  case round =>
    obtain ⟨k, hk, rfl, HS, HB⟩ := hrel
    clear hmm
    by_cases hlt : k < R.length
    · have hc2 := cells2_below hc HB.out
      obtain ⟨P, C, h1, h2⟩ := hc2
      obtain ⟨b, o, rfl, hcc⟩ := h1 (by omega)
      have hck := hcc k hlt
      have HF := hid (HCL.out k hlt wr (P k) (C k) HB.out (h2 k hlt))
      obtain ⟨r, hr⟩ : ∃ r, r = R.getD k [] := ⟨_, rfl⟩
      rw [← hr] at hck HF
      obtain ⟨v, hv⟩ : ∃ v, v = V k := ⟨_, rfl⟩
      have hvw : True := trivial
      have hcn := cntV_le V v k
      have HV := hid hv
      rw [← hv] at HF
      clear h1 h2 hcc hr hv
      go_wp2_with (first | (go_at_call 22; refine HF.out.mono ?_; rintro e w2 ⟨rfl, b2⟩; have s2 := HS.out.below b2; have hrun := s2.look v hvw; obtain ⟨D, hown, hat⟩ := s2; have HAT := hid hat; have HBB := hid (HB.out.trans (b2.mono HB.out.size)); clear hat; obtain ⟨n, hn⟩ : ∃ n : Nat, n = cntV V v k := ⟨_, rfl⟩; rw [← hn] at hrun hcn; have HN := hid hn; clear hn) | (at_mapUpdate; refine wpList_mapUpdate_own _ rfl _ _ _ 35 rfl 4 3 Try.spBLaw Try.underlying35 _ w.heap.size k _ rfl hown (by unfold maxLen; omega) _ _ _ rfl rfl (keyOf_bool_mk Try.underlying4 _) _ [] (plainElem_int Try.underlying3 (WalkArith.wf_i64 (by omega))) ?_; intro w3 hown3 hgrow3))
      have hs3 := SpB.put HAT.out (hown.tidy Try.spBLaw).isMap hvw HV.out.symm (by rw [← HN.out]; exact hown3)
      have hb3 := HBB.out.grown hgrow3 HBB.out.size (fun j hj => by cases hj; exact Nat.le_refl _)
      have HS3 := hid hs3
      have HB3 := hid hb3
      clear hs3 hb3 hown3 hgrow3 hown
      go_roundw
      case rel => exact ⟨k + 1, by omega, by go_num, HS3, HB3⟩
      case measure => simp [intOf]; omega
    · have hkl : k = R.length := by omega
      subst hkl
      go_wp2_with fail
      go_ret
      exact ⟨rfl, HS.out, HB.out⟩
end Go.Proofs.Ytphfmlfojebjkaa
