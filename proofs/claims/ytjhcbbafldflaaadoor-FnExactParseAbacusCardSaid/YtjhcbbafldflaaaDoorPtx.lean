/-
  Contracts: PartText of the program and of the model.
-/
import Derived.Test.YtjhcbbafldflaaaDoorJn
import Derived.Test.YtjhcbbafldflaaaDoorPtxS
import Derived.Test.YtjhcbbafldflaaaDoorCB
namespace Go.Proofs.YtjhcbbafldflaaaDoor
open Go.RowKit Go.Shelf

def plusT : ByteArray := ⟨#[43]⟩
theorem jnT_snoc (sep : ByteArray) (xs : List Int) (k : Nat) (h : k < xs.length) : jnT sep (xs.take (k + 1)) = (if k = 0 then jnT sep (xs.take k) else jnT sep (xs.take k) ++ sep) ++ numT (xs.getD k 0).toNat := by
  apply ByteArray.ext
  apply Array.toList_inj.1
  rw [ByteArray.data_append, Array.toList_append]
  unfold jnT
  rw [jnB_snoc xs k h, List.map_append, List.map_cons, List.map_nil, join_snoc]
  by_cases h0 : k = 0
  · subst h0
    simp [jnB, Lib.join_nil]
  · have hne : (jnB (xs.take k)).map (·.data.toList) ≠ [] := by
      intro e
      have := congrArg List.length e
      rw [List.length_map, jnB_len, List.length_take] at this
      rw [List.length_nil] at this; omega
    rw [if_neg hne, if_neg h0, ByteArray.data_append]
    simp
theorem txK_jn (p : List Int) : ∀ k, k ≤ p.length → txK p k = jnT plusT (p.take k)
  | 0, _ => by rw [List.take_zero]; rfl
  | k + 1, h => by
    rw [txK, jnT_snoc plusT p k (by omega), txK_jn p k (by omega)]; rfl
def ptF (p : List Int) : ByteArray := if good p then ptT p else ⟨#[]⟩

set_option maxHeartbeats 1000000 in
theorem impl_PartText (A : Option Addr) (c : Nat) (p : List Int) (w : World) (hl : p.length ≤ 1048576) (hc : Cells w A p) :
    Calls Tryd.prog 9 #[.slice A p.length c] w fun e w' => e = .returned (.tuple #[.string (ptF p), .bool (good p)]) ∧ Below w.heap.size w w' := by
  cases hg : good p
  · have e : ptF p = ⟨#[]⟩ := by simp [ptF, hg]
    rw [e]
    have HG := hid hg; clear hg e
    go_enter Tryd.func9, Tryd.ntmps9
    go_wp2_with (go_at_call 26; refine (IsPartition_b _ _ _ _ hl hc _ HG.out).mono ?_; rintro e w' ⟨rfl, rfl⟩)
    go_ret2
    exact ⟨rfl, Below.refl _ _⟩
  · have G := (good_iff p).1 hg
    have HG := hid hg
    by_cases h0 : p.length = 0
    · have e : ptF p = ⟨#[48]⟩ := by simp [ptF, hg, ptT, h0]
      rw [e]
      have H0 := hid h0
      have hz : (p.length : Int) = 0 := by omega
      clear e hg h0
      go_enter Tryd.func9, Tryd.ntmps9
      go_wp2_with (go_at_call 26; refine (IsPartition_b _ _ _ _ hl hc _ HG.out).mono ?_; rintro e w' ⟨rfl, rfl⟩)
      go_ret2
      exact ⟨rfl, Below.refl _ _⟩
    · have e : ptF p = jnT plusT p := by
        have := txK_jn p p.length (Nat.le_refl _)
        rw [List.take_of_length_le (Nat.le_refl _)] at this
        simp [ptF, hg, ptT, h0, this]
      rw [e]
      have HJ := hid fun W (h : Cells W A p) => joinNumbers_any A c p plusT W (by have := G.len; omega) (fun j hj => ⟨by have := G.pos j hj; omega, by have := G.le j hj; omega⟩) (by decide) h
      have hz : ¬ (p.length : Int) = 0 := by omega
      clear e hg h0 G
      go_enter Tryd.func9, Tryd.ntmps9
      go_wp2_with (first | (go_at_call 26; refine (IsPartition_b _ _ _ _ hl hc _ HG.out).mono ?_; rintro e w' ⟨rfl, rfl⟩) | (go_at_call 27; refine (HJ.out _ hc).mono ?_; rintro e w' ⟨rfl, b1⟩))
      go_ret2
      exact ⟨rfl, b1⟩

set_option maxHeartbeats 1000000 in
theorem spec_PartText (A : Option Addr) (c : Nat) (p : List Int) (w : World) (hl : p.length ≤ 1048576) (hc : Cells w A p) :
    Calls Tryd.prog 7 #[.slice A p.length c] w fun e w' => e = .returned (.tuple #[.string (ptF p), .bool (good p)]) ∧ Below w.heap.size w w' := by
  cases hg : good p
  · have e : ptF p = ⟨#[]⟩ := by simp [ptF, hg]
    rw [e]
    have HG := hid hg; clear hg e
    go_enter Tryd.func7, Tryd.ntmps7
    go_wp2_with (go_at_call 24; refine (ptGood_b _ _ _ _ hl hc _ HG.out).mono ?_; rintro e w' ⟨rfl, n, rfl⟩)
    go_ret2
    exact ⟨rfl, below_drew' _ _⟩
  · have G := (good_iff p).1 hg
    have e : ptF p = ptT p := by simp [ptF, hg]
    rw [e]
    have HG := hid hg; clear hg e
    have HT := hid fun W (h : Cells W A p) => ptText_any A c p W G h
    go_enter Tryd.func7, Tryd.ntmps7
    go_wp2_with (go_at_call 24; refine (ptGood_b _ _ _ _ hl hc _ HG.out).mono ?_; rintro e w' ⟨rfl, n, rfl⟩)
    refine (HT.out _ (hc.below (below_drew' _ n))).mono ?_
    rintro e w1 ⟨rfl, b1⟩
    go_wp2_with fail
    go_ret2
    exact ⟨rfl, Below.next (below_drew' _ n) b1⟩
end Go.Proofs.YtjhcbbafldflaaaDoor
