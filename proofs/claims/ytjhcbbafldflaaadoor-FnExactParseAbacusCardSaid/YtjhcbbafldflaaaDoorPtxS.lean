/-
  Contract: the text of a partition, of the model.
-/
import Derived.Test.YtjhcbbafldflaaaDoorNumS
import Derived.Test.YtjhcbbafldflaaaDoorCB
namespace Go.Proofs.YtjhcbbafldflaaaDoor
open Go.RowKit

def txK (p : List Int) : Nat → ByteArray
  | 0 => ⟨#[]⟩
  | k + 1 => (if k = 0 then txK p k else txK p k ++ ⟨#[43]⟩) ++ numT (p.getD k 0).toNat
theorem numT_size (n : Nat) : 1 ≤ (numT n).size ∧ (numT n).size ≤ 2 := by
  unfold numT
  split
  · rw [digT_size]; omega
  · rw [ByteArray.size_append, digT_size, digT_size]; omega
theorem txK_size (p : List Int) : ∀ k, (txK p k).size ≤ 3 * k
  | 0 => Nat.le_refl _
  | k + 1 => by
    have h := txK_size p k
    have h2 := numT_size (p.getD k 0).toNat
    rw [txK, ByteArray.size_append]
    split
    · omega
    · rw [ByteArray.size_append]
      have : (ByteArray.mk #[43]).size = 1 := rfl
      omega
theorem txK_pos (p : List Int) (k : Nat) : 0 < (txK p (k + 1)).size := by
  have h2 := numT_size (p.getD k 0).toNat
  rw [txK, ByteArray.size_append]; omega
def ptT (p : List Int) : ByteArray := if p.length = 0 then ⟨#[48]⟩ else txK p p.length

set_option maxRecDepth 100000 in
set_option maxHeartbeats 2000000 in
theorem ptText_any (A : Option Addr) (c : Nat) (p : List Int) (w : World) (G : Good p) (hc : Cells w A p) :
    Calls Tryd.prog 25 #[.slice A p.length c] w fun e w' => e = .returned (.string (ptT p)) ∧ Below w.heap.size w w' := by
  have hlen := G.len
  have HG := hid G; clear G
  go_enter Tryd.func25, Tryd.ntmps25
  go_wp2_with fail
  go_loopw [3, 8] (fun s i wr => ∃ k : Nat, k ≤ p.length ∧ i = .int .i64 k ∧ s = .string (txK p k) ∧ Below w.heap.size w wr) (fun _ i _ => p.length - (intOf i).toNat)
  case atStart => exact ⟨0, Nat.zero_le _, rfl, rfl, Below.refl _ _⟩
  case round =>
    obtain ⟨k, hk, rfl, rfl, hbel⟩ := hrel
    have hsz := txK_size p k
    by_cases hlt : k < p.length
    · obtain ⟨b, o, rfl, hcc⟩ := (hc.later hbel) (by omega)
      have hck := hcc k hlt
      have hx0 := HG.out.pos k hlt
      have hx1 := HG.out.le k hlt
      obtain ⟨x, hx⟩ : ∃ x : Nat, p.getD k 0 = x := ⟨(p.getD k 0).toNat, by omega⟩
      rw [hx] at hck hx0 hx1
      have HN := hid (fun W => l1Num_any x W (by omega))
      have hns := numT_size x
      have HS := hid (show txK p (k + 1) = (if k = 0 then txK p k else txK p k ++ ⟨#[43]⟩) ++ numT x by rw [txK, hx, Int.toNat_natCast])
      obtain ⟨s, hs⟩ : ∃ s, s = txK p k := ⟨_, rfl⟩
      rw [← hs] at hsz HS ⊢
      obtain ⟨t, ht⟩ : ∃ t, t = numT x := ⟨_, rfl⟩
      rw [← ht] at HN HS hns
      clear hcc hx hs ht
      by_cases h0 : k = 0
      · have HE := hid (HS.out.trans (by rw [if_pos h0]))
        have hk0 : ¬ (0 : Int) < (k : Int) := by omega
        have hcat : ¬ 9223372036854775807 < s.size + t.size := by omega
        clear h0
        go_wp2_with fail
        refine (HN.out _).mono ?_
        rintro e w2 ⟨rfl, b2⟩
        have hb2 := hbel.trans (b2.mono hbel.size)
        go_wp2_with fail
        go_roundw
        case rel => exact ⟨k + 1, by omega, by go_num, by rw [HE.out], hb2⟩
        case measure => simp [intOf]; omega
      · have HE := hid (HS.out.trans (by rw [if_neg h0]))
        have hk0 : (0 : Int) < (k : Int) := by omega
        have hp1 : (ByteArray.mk #[43]).size = 1 := rfl
        obtain ⟨u, hu⟩ : ∃ u, u = s ++ ⟨#[43]⟩ := ⟨_, rfl⟩
        have hus : u.size = s.size + 1 := by rw [hu, ByteArray.size_append]; rfl
        have hcat1 : ¬ 9223372036854775807 < s.size + 1 := by omega
        have hcat2 : ¬ 9223372036854775807 < u.size + t.size := by omega
        rw [← hu] at HE
        have hu2 : s ++ ⟨#[43]⟩ = u := hu.symm
        clear h0 hu hus
        go_wp2_with fail
        refine (HN.out _).mono ?_
        rintro e w2 ⟨rfl, b2⟩
        have hb2 := hbel.trans (b2.mono hbel.size)
        go_wp2_with fail
        go_roundw
        case rel => exact ⟨k + 1, by omega, by go_num, by rw [HE.out], hb2⟩
        case measure => simp [intOf]; omega
    · have hke : k = p.length := by omega
      subst hke
      clear hlt hsz
      by_cases hn : p.length = 0
      · have HP := hid (show ptT p = ⟨#[48]⟩ by simp [ptT, hn])
        have HT := hid (show txK p p.length = ⟨#[]⟩ by rw [hn]; rfl)
        rw [HT.out]
        go_wp2_with fail
        go_ret
        exact ⟨by rw [HP.out]; rfl, hbel⟩
      · have HP := hid (show ptT p = txK p p.length by simp [ptT, hn])
        have hpos := txK_pos p (p.length - 1)
        rw [show p.length - 1 + 1 = p.length by omega] at hpos
        obtain ⟨s, hs⟩ : ∃ s, s = txK p p.length := ⟨_, rfl⟩
        rw [← hs] at hpos HP ⊢
        have hie : s.toList.isEmpty = false := by
          rw [ByteArray.toList_eq]
          cases hl : s.data.toList with
          | nil => have h2 : s.size = s.data.toList.length := (Array.length_toList).symm; rw [hl, List.length_nil] at h2; exact absurd hpos (by rw [h2]; exact Nat.lt_irrefl 0)
          | cons _ _ => rfl
        clear hs hn
        go_wp2_with fail
        go_ret
        exact ⟨by rw [HP.out]; rfl, hbel⟩
end Go.Proofs.YtjhcbbafldflaaaDoor
