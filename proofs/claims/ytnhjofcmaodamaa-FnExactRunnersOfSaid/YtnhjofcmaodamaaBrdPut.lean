/-
  Contracts: a bead put to another row of a runner (made by genput.py).
-/
import Derived.Test.YtnhjofcmaodamaaBrdEq
import Derived.Laws.Tables
namespace Go.Proofs.Ytnhjofcmaodamaa
open Go.RowKit

/-- A bead of a runner put from one row to another one, where that can be done. -/
def canPut (f : Nat → Bool) (a b : Int) : Bool := decide (0 ≤ b) && (decide (b < 36) && (f a.toNat && !f b.toNat))
def putR (f : Nat → Bool) (a b : Int) : Nat → Bool := if canPut f a b then updB (updB f a.toNat false) b.toNat true else f

set_option maxRecDepth 100000 in
set_option maxHeartbeats 4000000 in
theorem rnPut_any (f : Nat → Bool) (a : Nat) (b : Int) (w : World) (ha : a < 36) :
    Calls Try.prog 159 #[rnV f, .int .i64 a, .int .i64 b] w fun e w' => e = .returned (rnV (putR f a b)) ∧ Below w.heap.size w w' := by
  have hz := Try.rnZero
  have x1 := (Blk.new w 74 36 (bitV f)).alloc (.cells (ca 36 (bitV fun _ => false)) 74)
  have x2 := Blk.new (w.alloc (.cells (ca 36 (bitV f)) 74)) 74 36 (bitV fun _ => false)
  rw [World.size_alloc] at x2
  have hb : Below w.heap.size w ((w.alloc (.cells (ca 36 (bitV f)) 74)).alloc (.cells (ca 36 (bitV fun _ => false)) 74)) := ((Below.refl _ _).alloc (Nat.le_refl _) _).alloc (by simp) _
  have hca := x1.cell (k := a) ha
  unfold rnV at hz ⊢
  have ha' : (a : Int) < 36 := by omega
  by_cases h0 : b < 0
  · have hp : canPut f a b = false := by simp only [canPut, Bool.and_eq_false_iff, decide_eq_false_iff_not]; left; omega
    have HP := hid (show putR f a b = f by simp [putR, hp])
    clear hp
    go_enter Try.func159, Try.ntmps159
    go_wp2_with (first | (refine wpList_load_row rfl 74 _ rfl w.heap.size rfl 74 (ca 36 (bitV f)) (0, 0) _ x1 Try.underlying74 rfl (by rw [ca_size]; exact Try.rnSize) ?_) | (refine wpList_store_row rfl 74 _ _ rfl (w.heap.size + 1) (ca 36 (bitV f)) rfl rfl 74 (ca 36 (bitV fun _ => false)) x2 (by rw [ca_size]; exact Try.rnSize) (by rw [ca_size, ca_size]) (ca_one fun _ _ => rfl) ?_))
    have x3 := setRow_blk x2 (bitV f)
    refine bodyPost_ret (v := rnV f) ?_ rfl ⟨by rw [HP.out]; rfl, setRow_below hb (by omega) _⟩
    exact results_cell_row rfl _ _ (w.heap.size + 1) 74 (ca 36 (bitV f)) (0, 0) _ rfl x3 Try.underlying74 rfl (by rw [ca_size]; exact Try.rnSize)
  by_cases h36 : 36 ≤ b
  · have hp : canPut f a b = false := by simp only [canPut, Bool.and_eq_false_iff, decide_eq_false_iff_not]; right; left; omega
    have HP := hid (show putR f a b = f by simp [putR, hp])
    clear hp
    go_enter Try.func159, Try.ntmps159
    go_wp2_with (first | (refine wpList_load_row rfl 74 _ rfl w.heap.size rfl 74 (ca 36 (bitV f)) (0, 0) _ x1 Try.underlying74 rfl (by rw [ca_size]; exact Try.rnSize) ?_) | (refine wpList_store_row rfl 74 _ _ rfl (w.heap.size + 1) (ca 36 (bitV f)) rfl rfl 74 (ca 36 (bitV fun _ => false)) x2 (by rw [ca_size]; exact Try.rnSize) (by rw [ca_size, ca_size]) (ca_one fun _ _ => rfl) ?_))
    have x3 := setRow_blk x2 (bitV f)
    refine bodyPost_ret (v := rnV f) ?_ rfl ⟨by rw [HP.out]; rfl, setRow_below hb (by omega) _⟩
    exact results_cell_row rfl _ _ (w.heap.size + 1) 74 (ca 36 (bitV f)) (0, 0) _ rfl x3 Try.underlying74 rfl (by rw [ca_size]; exact Try.rnSize)
  obtain ⟨b', rfl⟩ : ∃ b' : Nat, b = b' := ⟨b.toNat, by omega⟩
  have hb36 : b' < 36 := by omega
  have hcb := x1.cell (k := b') hb36
  simp only [bitV] at hca hcb
  cases hfa : f a
  · have hq : canPut f a b' = false := by simp [canPut, hfa]
    rw [hfa] at hca
    clear hcb
    have hp : canPut f a b' = false := by exact hq
    have HP := hid (show putR f a b' = f by simp [putR, hp])
    clear hp
    go_enter Try.func159, Try.ntmps159
    go_wp2_with (first | (refine wpList_load_row rfl 74 _ rfl w.heap.size rfl 74 (ca 36 (bitV f)) (0, 0) _ x1 Try.underlying74 rfl (by rw [ca_size]; exact Try.rnSize) ?_) | (refine wpList_store_row rfl 74 _ _ rfl (w.heap.size + 1) (ca 36 (bitV f)) rfl rfl 74 (ca 36 (bitV fun _ => false)) x2 (by rw [ca_size]; exact Try.rnSize) (by rw [ca_size, ca_size]) (ca_one fun _ _ => rfl) ?_))
    have x3 := setRow_blk x2 (bitV f)
    refine bodyPost_ret (v := rnV f) ?_ rfl ⟨by rw [HP.out]; rfl, setRow_below hb (by omega) _⟩
    exact results_cell_row rfl _ _ (w.heap.size + 1) 74 (ca 36 (bitV f)) (0, 0) _ rfl x3 Try.underlying74 rfl (by rw [ca_size]; exact Try.rnSize)
  by_cases hfb : f b' = true
  · have hq : canPut f a b' = false := by simp [canPut, hfb]
    rw [hfa] at hca
    rw [hfb] at hcb
    have hp : canPut f a b' = false := by exact hq
    have HP := hid (show putR f a b' = f by simp [putR, hp])
    clear hp
    go_enter Try.func159, Try.ntmps159
    go_wp2_with (first | (refine wpList_load_row rfl 74 _ rfl w.heap.size rfl 74 (ca 36 (bitV f)) (0, 0) _ x1 Try.underlying74 rfl (by rw [ca_size]; exact Try.rnSize) ?_) | (refine wpList_store_row rfl 74 _ _ rfl (w.heap.size + 1) (ca 36 (bitV f)) rfl rfl 74 (ca 36 (bitV fun _ => false)) x2 (by rw [ca_size]; exact Try.rnSize) (by rw [ca_size, ca_size]) (ca_one fun _ _ => rfl) ?_))
    have x3 := setRow_blk x2 (bitV f)
    refine bodyPost_ret (v := rnV f) ?_ rfl ⟨by rw [HP.out]; rfl, setRow_below hb (by omega) _⟩
    exact results_cell_row rfl _ _ (w.heap.size + 1) 74 (ca 36 (bitV f)) (0, 0) _ rfl x3 Try.underlying74 rfl (by rw [ca_size]; exact Try.rnSize)
  have hfb : f b' = false := by simpa using hfb
  rw [hfa] at hca
  rw [hfb] at hcb
  have hp : canPut f a b' = true := by simp [canPut, hfa, hfb]; omega
  have HP := hid (show putR f a b' = updB (updB f a false) b' true by simp [putR, hp])
  have hfz := x1.froz
  have hfza := hfz a
  have hfzb := hfz b'
  have hs1 : ((ca 36 (bitV f)).setIfInBounds a (.bool false)) = ca 36 (bitV (updB f a false)) := by rw [ca_set, updV_bit]
  have x1s : Blk ((w.alloc (.cells ((ca 36 (bitV f)).setIfInBounds a (.bool false)) 74)).alloc (.cells (ca 36 (bitV fun _ => false)) 74)) w.heap.size 74 36 (bitV (updB f a false)) := by
    rw [hs1]; exact (Blk.new w 74 36 _).alloc _
  have hcb2 := x1s.cell (k := b') hb36
  have hfzb2 := x1s.froz b'
  clear hs1 x1s
  obtain ⟨f2, hf2⟩ : ∃ f2, f2 = updB (updB f a false) b' true := ⟨_, rfl⟩
  have he : ((ca 36 (bitV f)).setIfInBounds a (.bool false)).setIfInBounds b' (.bool true) = ca 36 (bitV f2) := by rw [ca_set, ca_set, updV_bit, updV_bit, hf2]
  have HE := hid he
  rw [← hf2] at HP
  have y1 := heap_alloc2_old w (.cells (((ca 36 (bitV f)).setIfInBounds a (.bool false)).setIfInBounds b' (.bool true)) 74) (.cells (ca 36 (bitV fun _ => false)) 74)
  have y2 := Blk.new (w.alloc (.cells (((ca 36 (bitV f)).setIfInBounds a (.bool false)).setIfInBounds b' (.bool true)) 74)) 74 36 (bitV fun _ => false)
  rw [World.size_alloc] at y2
  have hbb : Below w.heap.size w ((w.alloc (.cells (((ca 36 (bitV f)).setIfInBounds a (.bool false)).setIfInBounds b' (.bool true)) 74)).alloc (.cells (ca 36 (bitV fun _ => false)) 74)) := ((Below.refl _ _).alloc (Nat.le_refl _) _).alloc (by simp) _
  have h36s : (((ca 36 (bitV f)).setIfInBounds a (.bool false)).setIfInBounds b' (.bool true)).size = 36 := by rw [he, ca_size]
  have h1c : (((ca 36 (bitV f)).setIfInBounds a (.bool false)).setIfInBounds b' (.bool true)).all (·.oneCell') = true := by rw [he]; exact ca_one fun _ _ => rfl
  have HS := hid h36s
  have HC := hid h1c
  clear hp hf2 hfz he h36s h1c
  go_enter Try.func159, Try.ntmps159
  go_wp2_with (first | (refine wpList_load_row rfl 74 _ rfl w.heap.size rfl 74 _ (0, 0) _ y1 Try.underlying74 rfl (by rw [HS.out]; exact Try.rnSize) ?_) | (refine wpList_store_row rfl 74 _ _ rfl (w.heap.size + 1) _ rfl rfl 74 (ca 36 (bitV fun _ => false)) y2 (by rw [HS.out]; exact Try.rnSize) (by rw [ca_size, HS.out]) HC.out ?_))
  rw [HE.out]
  have y2' := y2
  rw [HE.out] at y2' hbb
  have x3 := setRow_blk y2' (bitV f2)
  refine bodyPost_ret (v := rnV f2) ?_ rfl ⟨by rw [HP.out]; rfl, setRow_below hbb (by omega) _⟩
  exact results_cell_row rfl _ _ (w.heap.size + 1) 74 (ca 36 (bitV f2)) (0, 0) _ rfl x3 Try.underlying74 rfl (by rw [ca_size]; exact Try.rnSize)
end Go.Proofs.Ytnhjofcmaodamaa
