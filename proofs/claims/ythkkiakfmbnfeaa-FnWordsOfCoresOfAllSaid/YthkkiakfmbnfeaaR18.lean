/-
  Several texts in one.
-/
import Derived.Test.YthkkiakfmbnfeaaR17
import Derived.Test.YthkkiakfmbnfeaaR11
import Derived.Test.YthkkiakfmbnfeaaR12
import Derived.Test.YthkkiakfmbnfeaaCB
/-
  Plain facts: the reflection of a core is a core.
-/
namespace Go.Proofs.Ythkkiakfmbnfeaa
open Go.RowKit

theorem num_lt {p : List Int} (G : Good p) {r s : Nat} (h : r < s) : num p s < num p r := by
  have := down_le p G.down r (s - r) 
  by_cases hs : s < p.length
  · have h2 := this (by omega)
    rw [show r + (s - r) = s by omega] at h2
    unfold num; omega
  · have h3 := part_nn G r
    have h4 : p.getD s 0 = 0 := by rw [List.getD_eq_getElem?_getD, List.getElem?_eq_none (by omega)]; rfl
    unfold num; omega
theorem num_le' {p : List Int} (G : Good p) {r s : Nat} (h : r ≤ s) : num p s ≤ num p r := by
  rcases Nat.lt_or_eq_of_le h with h | h
  · exact Int.le_of_lt (num_lt G h)
  · rw [h]; exact Int.le_refl _
def Bd (p : List Int) (x : Int) : Prop := ∃ r, num p r = x
theorem getD_out' {p : List Int} {r : Nat} (h : p.length ≤ r) : p.getD r 0 = 0 := by rw [List.getD_eq_getElem?_getD, List.getElem?_eq_none h]; rfl
theorem add_bd {p : List Int} (G : Good p) (r : Nat) : (decide (r < p.length + 1) && addB p r) = true ↔ ¬ Bd p (num p r + 1) := by
  constructor
  · intro h ⟨s, hs⟩
    simp only [Bool.and_eq_true, decide_eq_true_eq, addB, Bool.or_eq_true] at h
    obtain ⟨hl, h⟩ := h
    by_cases hsr : s < r
    · have h1 := num_le' G (show s ≤ r - 1 by omega)
      have h2 : p.getD r 0 < p.getD (r - 1) 0 := by
        rcases h with h | h | h
        · omega
        · rw [getD_out' (show p.length ≤ r by omega)]
          have := G.pos (r - 1) (by omega); omega
        · exact h
      have h3 : num p (r - 1) = p.getD (r - 1) 0 - (r - 1 : Nat) - 1 := rfl
      have h4 : num p r = p.getD r 0 - r - 1 := rfl
      omega
    · have := num_le' G (show r ≤ s by omega)
      omega
  · intro h
    simp only [Bool.and_eq_true, decide_eq_true_eq, addB, Bool.or_eq_true]
    have hr : r = 0 ∨ num p (r - 1) ≠ num p r + 1 := by
      rcases Nat.eq_zero_or_pos r with h0 | h0
      · exact .inl h0
      · exact .inr fun e => h ⟨r - 1, e⟩
    rcases hr with hr | hr
    · exact ⟨by omega, .inl hr⟩
    · by_cases h0 : r = 0
      · exact ⟨by omega, .inl h0⟩
      · have h3 : num p (r - 1) = p.getD (r - 1) 0 - (r - 1 : Nat) - 1 := rfl
        have h4 : num p r = p.getD r 0 - r - 1 := rfl
        have h5 := num_lt G (show r - 1 < r by omega)
        by_cases hl : r < p.length + 1
        · exact ⟨hl, .inr (.inr (by omega))⟩
        · exfalso
          rw [getD_out' (show p.length ≤ r by omega)] at h4
          rw [getD_out' (show p.length ≤ r - 1 by omega)] at h3
          omega
theorem cor_bd {p : List Int} (G : Good p) (r : Nat) : (decide (r < p.length) && corB p r) = true ↔ ¬ Bd p (num p r - 1) := by
  have h3 : num p (r + 1) = p.getD (r + 1) 0 - (r + 1 : Nat) - 1 := rfl
  have h4 : num p r = p.getD r 0 - r - 1 := rfl
  constructor
  · intro h ⟨s, hs⟩
    simp only [Bool.and_eq_true, decide_eq_true_eq, corB, Bool.or_eq_true] at h
    obtain ⟨hl, h⟩ := h
    by_cases hsr : r < s
    · have h1 := num_le' G (show r + 1 ≤ s by omega)
      have h2 : p.getD (r + 1) 0 < p.getD r 0 := by
        rcases h with h | h
        · rw [getD_out' (show p.length ≤ r + 1 by omega)]
          have := G.pos r hl; omega
        · exact h
      omega
    · have := num_le' G (show s ≤ r by omega)
      omega
  · intro h
    simp only [Bool.and_eq_true, decide_eq_true_eq, corB, Bool.or_eq_true]
    have hne : num p (r + 1) ≠ num p r - 1 := fun e => h ⟨r + 1, e⟩
    have h5 := num_lt G (show r < r + 1 by omega)
    by_cases hl : r < p.length
    · exact ⟨hl, .inr (by omega)⟩
    · exfalso
      rw [getD_out' (show p.length ≤ r by omega)] at h4
      rw [getD_out' (show p.length ≤ r + 1 by omega)] at h3
      omega
theorem rf_get {p : List Int} (t : Nat) (i : Int) (r : Nat) : (rfL p t i).getD r 0 = rfG p t i r := by
  unfold rfL
  by_cases h : r < rfK p t i
  · exact fnRow_get _ _ _ h
  · rw [getD_out' (by rw [fnRow_len]; omega)]
    by_cases h2 : r < p.length + 1
    · exact (rf_zero t i (by omega) h2).symm
    · unfold rfG
      split
      · unfold aR
        rw [getD_out' (show p.length ≤ r by omega), decide_eq_false h2]; rfl
      · unfold cR
        rw [getD_out' (show p.length ≤ r by omega), decide_eq_false (show ¬ r < p.length by omega)]; rfl
open Classical in
theorem rf_up {p : List Int} (G : Good p) {t : Nat} {i : Int} (hg : grw p t i = true) (r : Nat) : num (rfL p t i) r = num p r + if ¬ Bd p (num p r + 1) ∧ (num p r + 1) % (t : Int) = i then 1 else 0 := by
  have e : num (rfL p t i) r = rfG p t i r - r - 1 := by unfold num; rw [rf_get]
  rw [e]
  unfold rfG
  rw [if_pos hg]
  unfold aR
  have h4 : num p r = p.getD r 0 - r - 1 := rfl
  have hq : qA p t i r = decide ((num p r + 1) % (t : Int) = i) := by unfold qA; rw [h4, show p.getD r 0 - (r : Int) - 1 + 1 = p.getD r 0 - r by omega]
  have ha := add_bd G r
  by_cases h1 : (decide (r < p.length + 1) && addB p r) = true
  · by_cases h2 : (num p r + 1) % (t : Int) = i
    · rw [if_pos (by rw [h1, hq, decide_eq_true h2]; rfl), if_pos ⟨ha.1 h1, h2⟩]; omega
    · rw [if_neg (by rw [hq, decide_eq_false h2]; simp), if_neg fun h => h2 h.2]; omega
  · rw [if_neg (by intro h; rw [Bool.and_eq_true] at h; exact h1 h.1), if_neg fun h => h1 (ha.2 h.1)]; omega
open Classical in
theorem rf_down {p : List Int} (G : Good p) {t : Nat} {i : Int} (hg : grw p t i = false) (r : Nat) : num (rfL p t i) r = num p r - if ¬ Bd p (num p r - 1) ∧ num p r % (t : Int) = i then 1 else 0 := by
  have e : num (rfL p t i) r = rfG p t i r - r - 1 := by unfold num; rw [rf_get]
  rw [e]
  unfold rfG
  rw [if_neg (by rw [hg]; simp)]
  unfold cR
  have h4 : num p r = p.getD r 0 - r - 1 := rfl
  have hq : qC p t i r = decide (num p r % (t : Int) = i) := by unfold qC; rw [h4, show p.getD r 0 - (r : Int) - 1 = p.getD r 0 - 1 - r by omega]
  have ha := cor_bd G r
  by_cases h1 : (decide (r < p.length) && corB p r) = true
  · by_cases h2 : num p r % (t : Int) = i
    · rw [if_pos (by rw [h1, hq, decide_eq_true h2]; rfl), if_pos ⟨ha.1 h1, h2⟩]; omega
    · rw [if_neg (by rw [hq, decide_eq_false h2]; simp), if_neg fun h => h2 h.2]; omega
  · rw [if_neg (by intro h; rw [Bool.and_eq_true] at h; exact h1 h.1), if_neg fun h => h1 (ha.2 h.1)]; omega
theorem mod_sub (x : Int) (t : Nat) : (x - t) % (t : Int) = x % t := by simp
theorem mod_next {x : Int} {t : Nat} (ht : 2 ≤ t) {i : Int} (h1 : x % (t : Int) = i) (h2 : (x + 1) % (t : Int) = i) : False := by
  have h : (x + 1 - x) % (t : Int) = 0 := by rw [Int.sub_emod, h1, h2]; simp
  rw [show x + 1 - x = 1 by omega, Int.emod_eq_of_lt (by omega) (by omega)] at h
  omega
theorem rf_dn {p : List Int} (G : Good p) {t : Nat} (ht : 2 ≤ t) {i : Int} (hD : Dn p t) : Dn (rfL p t i) t := by
  have hB : ∀ x, Bd p x → Bd p (x - t) := fun x ⟨r, hr⟩ => by
    obtain ⟨s, hs⟩ := hD r
    exact ⟨s, by omega⟩
  intro r
  cases hg : grw p t i
  · have key := rf_down G hg
    have hr := key r
    by_cases hm : ¬ Bd p (num p r - 1) ∧ num p r % (t : Int) = i
    · rw [if_pos hm] at hr
      obtain ⟨s, hs⟩ := hD r
      have hsi : num p s % (t : Int) = i := by rw [hs, mod_sub]; exact hm.2
      by_cases hb : Bd p (num p s - 1)
      · obtain ⟨u, hu⟩ := hb
        refine ⟨u, ?_⟩
        rw [key u, if_neg, hr]
        · omega
        · rintro ⟨_, h2⟩
          rw [hu] at h2
          exact mod_next ht h2 (by rw [show num p s - 1 + 1 = num p s by omega]; exact hsi)
      · exact ⟨s, by rw [key s, if_pos ⟨hb, hsi⟩, hr]; omega⟩
    · rw [if_neg hm] at hr
      obtain ⟨s, hs⟩ := hD r
      refine ⟨s, ?_⟩
      rw [key s, if_neg, hr]
      · omega
      · rintro ⟨h1, h2⟩
        rw [hs, mod_sub] at h2
        refine hm ⟨fun hb => h1 ?_, h2⟩
        have := hB _ hb
        rw [hs, show num p r - (t : Int) - 1 = num p r - 1 - t by omega]; exact this
  · have key := rf_up G hg
    have hr := key r
    by_cases hm : ¬ Bd p (num p r + 1) ∧ (num p r + 1) % (t : Int) = i
    · rw [if_pos hm] at hr
      obtain ⟨s, hs⟩ := hD r
      have hsi : (num p s + 1) % (t : Int) = i := by rw [hs, show num p r - (t : Int) + 1 = num p r + 1 - t by omega, mod_sub]; exact hm.2
      by_cases hb : Bd p (num p s + 1)
      · obtain ⟨u, hu⟩ := hb
        refine ⟨u, ?_⟩
        rw [key u, if_neg, hr]
        · omega
        · rintro ⟨_, h2⟩
          rw [hu] at h2
          exact mod_next ht hsi h2
      · exact ⟨s, by rw [key s, if_pos ⟨hb, hsi⟩, hr]; omega⟩
    · rw [if_neg hm] at hr
      obtain ⟨s, hs⟩ := hD r
      refine ⟨s, ?_⟩
      rw [key s, if_neg, hr]
      · omega
      · rintro ⟨h1, h2⟩
        rw [hs, show num p r - (t : Int) + 1 = num p r + 1 - t by omega, mod_sub] at h2
        refine hm ⟨fun hb => h1 ?_, h2⟩
        have := hB _ hb
        rw [hs, show num p r - (t : Int) + 1 = num p r + 1 - t by omega]; exact this
theorem core_Dn {p : List Int} {t : Int} (h : isCoreF p t = true) : Dn p t := by
  have hg : crB p t = true := by unfold isCoreF at h; rw [Bool.and_eq_true] at h; exact h.1
  obtain ⟨h1, h2⟩ := crB_good hg
  have G := (good_iff p).1 h1
  have ht := inB_iff.1 h2
  refine no_hook_dn G (by omega) fun r c hr hc he => ?_
  have hin := hook_in hr hc
  have := core_no hg hr hin (by rw [(hook_at hr hin).1, he, Int.tmod_self])
  rw [h] at this; cases this
theorem Dn_core {p : List Int} {t : Int} (hg : crB p t = true) (h : Dn p t) : isCoreF p t = true := by
  obtain ⟨h1, h2⟩ := crB_good hg
  have G := (good_iff p).1 h1
  have ht := inB_iff.1 h2
  refine core_yes hg fun r hr c hc hm => ?_
  obtain ⟨e, hlt⟩ := hook_at hr hc
  rw [e] at hm
  exact dn_no_div G (by omega) h r c hr hlt (Int.emod_eq_zero_of_dvd (Int.dvd_of_tmod_eq_zero hm))
/-- The reflection of a core is a core, if it has cells enough to be a partition at all. -/
theorem rf_core {p : List Int} {t : Nat} {i : Int} (h : isCoreF p t = true) (hg : good (rfL p t i) = true) : isCoreF (rfL p t i) t = true := by
  have hc : crB p t = true := by unfold isCoreF at h; rw [Bool.and_eq_true] at h; exact h.1
  obtain ⟨h1, h2⟩ := crB_good hc
  have ht := inB_iff.1 h2
  exact Dn_core (by unfold crB; rw [hg, h2]; rfl) (rf_dn ((good_iff p).1 h1) (by omega) (core_Dn h))
end Go.Proofs.Ythkkiakfmbnfeaa
/-
  Contracts: a runner with rows, and FromRunners, of the program.
-/
namespace Go.Proofs.Ythkkiakfmbnfeaa
open Go.RowKit

/-- The bits of a row of numbers. -/
def rbK (xs : List Int) (k r : Nat) : Bool := decide ((r : Int) ∈ xs.take k)
def rbF (xs : List Int) : Nat → Bool := fun r => decide ((r : Int) ∈ xs)
theorem rbK_zero (xs : List Int) : rbK xs 0 = fun _ => false := by funext r; simp [rbK]
theorem rbK_all (xs : List Int) : rbK xs xs.length = rbF xs := by funext r; simp [rbK, rbF]
theorem rbK_succ {xs : List Int} {k n : Nat} (hk : k < xs.length) (hn : xs.getD k 0 = n) : updB (rbK xs k) n true = rbK xs (k + 1) := by
  funext r
  unfold updB rbK
  rw [take_snoc xs k hk _ hn]
  by_cases e : r = n
  · subst e; simp
  · rw [if_neg e]
    have : (r : Int) ≠ (n : Int) := by omega
    simp [this]
def rwOk (xs : List Int) : Bool := rises 0 35 xs
def rwB (xs : List Int) : Nat → Bool := if rwOk xs then rbF xs else fun _ => false

set_option maxRecDepth 100000 in
set_option maxHeartbeats 4000000 in
theorem runnerWith_any (A : Option Addr) (c : Nat) (xs : List Int) (w : World) (hl : xs.length ≤ 1048576) (hc : Cells w A xs) :
    Calls Try.prog 66 #[.slice A xs.length c] w fun e w' => e = .returned (.tuple #[rnV (rwB xs), .bool (rwOk xs)]) ∧ Below w.heap.size w w' := by
  have hzr := Try.rnZero
  unfold rnV at hzr ⊢
  obtain ⟨w0, hw0⟩ : ∃ w0, w0 = ((w.alloc (.cells (ca 36 (bitV fun _ => false)) 70)).alloc (.cells (ca 36 (bitV fun _ => false)) 70)) := ⟨_, rfl⟩
  have x1 : Blk w0 w.heap.size 70 36 (bitV fun _ => false) := by rw [hw0]; exact (Blk.new w 70 36 (bitV fun _ => false)).alloc _
  have x2 : Blk w0 (w.heap.size + 1) 70 36 (bitV (rbK xs 0)) := by
    rw [hw0, rbK_zero]
    have h := Blk.new (w.alloc (.cells (ca 36 (bitV fun _ => false)) 70)) 70 36 (bitV fun _ => false)
    rw [World.size_alloc] at h; exact h
  have hb : Below w.heap.size w w0 := by rw [hw0]; exact ((Below.refl _ _).alloc (Nat.le_refl _) _).alloc (by simp) _
  have X1 := hid x1; have X2 := hid x2
  have HW := hid hw0
  obtain ⟨Z, hZ⟩ : ∃ Z, Z = rwB xs := ⟨_, rfl⟩
  obtain ⟨q, hq⟩ : ∃ q, q = rwOk xs := ⟨_, rfl⟩
  have HB := hid (show Z = if q then rbF xs else fun _ => false by rw [hZ, hq]; rfl)
  rw [← hZ, ← hq]
  have HQ := hid hq
  clear hw0 x1 x2 hZ hq
  go_enter Try.func66, Try.ntmps66
  go_wp2_with fail
  rw [← HW.out]
  go_loopw [9] (fun i wr => ∃ k : Nat, k ≤ xs.length ∧ i = .int .i64 k ∧ Hid (∀ j, j < k → okAt 0 35 xs j = true) ∧ Hid (Blk wr w.heap.size 70 36 (bitV fun _ => false)) ∧ Hid (Blk wr (w.heap.size + 1) 70 36 (bitV (rbK xs k))) ∧ Below w.heap.size w wr) (fun i _ => xs.length - (intOf i).toNat)
  case atStart => exact ⟨0, Nat.zero_le _, rfl, hid fun j hj => absurd hj (Nat.not_lt_zero _), X1, X2, hb⟩
  case round =>
    obtain ⟨k, hk, rfl, HD, HR, HL, hbel⟩ := hrel
    clear X1 X2 hb
    by_cases hlt : k < xs.length
    · obtain ⟨b, o, rfl, hcc⟩ := (hc.later hbel) (by omega)
      have hck := hcc k hlt
      have hck1 := hcc (k - 1) (by omega)
      have hek : ((k : Int) - 1).toNat = k - 1 := by omega
      have HO := hid (okAt_iff (lo := 0) (hi := 35) (xs := xs) (j := k))
      have HS := hid (fun n (h : xs.getD k 0 = (n : Nat)) => rbK_succ hlt h)
      clear hcc
      obtain ⟨x, hx⟩ : ∃ x, x = xs.getD k 0 := ⟨_, rfl⟩
      obtain ⟨y, hy⟩ : ∃ y, y = xs.getD (k - 1) 0 := ⟨_, rfl⟩
      rw [← hx] at hck HO HS
      rw [← hy] at hck1 HO
      clear hx hy
      by_cases hok : (0 ≤ x ∧ x ≤ 35) ∧ (k = 0 ∨ y < x)
      · have hyes := HO.out.2 hok
        have HYES := hid hyes; clear hyes
        have HRR := hid (show ∀ j, j < k + 1 → okAt 0 35 xs j = true from fun j hj => by
          by_cases h : j < k
          · exact HD.out j h
          · have : j = k := by omega
            subst this; exact HYES.out)
        obtain ⟨⟨hx0, hx1⟩, hok2⟩ := hok
        obtain ⟨n, rfl⟩ : ∃ n : Nat, x = n := ⟨x.toNat, by omega⟩
        have hn36 : n < 36 := by omega
        have f1 := HL.out.cell (k := n) hn36
        have f2 := HL.out.froz n
        have hst := HL.out.set n (.bool true)
        rw [updV_bit, HS.out n rfl] at hst
        have HST := hid hst
        have HR2 := hid (HR.out.other (g' := w.heap.size + 1) (k := n) (by omega) (.bool true))
        have hb2 : Below w.heap.size w (wr.setCell ⟨w.heap.size + 1, n, none⟩ (.bool true)) := hbel.setCell (by simp) _
        clear hst
        unfold bitV at f1
        by_cases h0 : k = 0
        · subst h0
          rw [Nat.add_zero] at hck
          go_wp2_with fail
          go_roundw
          case rel => exact ⟨1, by omega, by go_num, HRR.out |> hid, HR2, HST, hb2⟩
          case measure => simp [intOf]; omega
        · have h1 : 0 < k := by omega
          have hyx : y < (n : Int) := by omega
          go_wp2_with fail
          go_roundw
          case rel => exact ⟨k + 1, by omega, by go_num, HRR.out |> hid, HR2, HST, hb2⟩
          case measure => simp [intOf]; omega
      · have hno : okAt 0 35 xs k = false := by
          cases h : okAt 0 35 xs k
          · rfl
          · exact absurd (HO.out.1 h) hok
        have hqf : q = false := by rw [HQ.out]; exact rises_no hlt hno
        have hzf : Z = fun _ => false := by rw [HB.out, hqf]; rfl
        subst hqf hzf
        have hth := HR.out.there 0 36 (by omega)
        have hsc := run_storeCells_cells (P := Try.prog) w.heap.size 0 (ca 36 (bitV fun _ => false)).toList 0 wr (fun j hj => by have := (hth j (by rw [show (ca 36 (bitV fun _ => false)).toList = caL 36 (bitV fun _ => false) from rfl, caL_len] at hj; exact hj)).1; simpa using this) (fun j hj => by have := (hth j (by rw [show (ca 36 (bitV fun _ => false)).toList = caL 36 (bitV fun _ => false) from rfl, caL_len] at hj; exact hj)).2; simpa using this) (bit_one 36 _)
        simp only [Nat.add_zero] at hsc
        have z3 : Blk (wr.setCells w.heap.size 0 (ca 36 (bitV fun _ => false)).toList) w.heap.size 70 36 (bitV fun _ => false) := (HR.out.setMid 0 36 (bitV fun _ => false)).to fun j _ => by unfold midV bitV; split <;> rfl
        have hb3 : Below w.heap.size w (wr.setCells w.heap.size 0 (ca 36 (bitV fun _ => false)).toList) := setCells_below _ _ _ _ _ _ hbel (Nat.le_refl _)
        obtain ⟨w4, hw4⟩ : ∃ w4, w4 = wr.setCells w.heap.size 0 (ca 36 (bitV fun _ => false)).toList := ⟨_, rfl⟩
        rw [← hw4] at hsc z3 hb3
        have HSC := hid hsc
        clear hno hth hsc hw4
        by_cases hx0 : x < 0
        · go_wp2_with fail
          rw [HSC.out]
          go_wp2_with fail
          refine bodyPost_ret (results_cell2 rfl _ _ _ w.heap.size 70 _ (0, 0) _ rfl z3 Try.underlying70 rfl (by rw [ca_size]; exact Try.rnSize)) rfl ⟨rfl, hb3⟩
        by_cases hx1 : 35 < x
        · go_wp2_with fail
          rw [HSC.out]
          go_wp2_with fail
          refine bodyPost_ret (results_cell2 rfl _ _ _ w.heap.size 70 _ (0, 0) _ rfl z3 Try.underlying70 rfl (by rw [ca_size]; exact Try.rnSize)) rfl ⟨rfl, hb3⟩
        have h1 : 0 < k := by omega
        have hyx : x ≤ y := by omega
        clear hok
        go_wp2_with fail
        rw [HSC.out]
        go_wp2_with fail
        refine bodyPost_ret (results_cell2 rfl _ _ _ w.heap.size 70 _ (0, 0) _ rfl z3 Try.underlying70 rfl (by rw [ca_size]; exact Try.rnSize)) rfl ⟨rfl, hb3⟩
    · have hkl : k = xs.length := by omega
      subst hkl
      have hqt : q = true := by rw [HQ.out]; exact rises_iff.2 fun j hj => HD.out j hj
      have hzt : Z = rbF xs := by rw [HB.out, hqt]; rfl
      have HL2 := hid (show Blk wr (w.heap.size + 1) 70 36 (bitV (rbF xs)) by rw [← rbK_all]; exact HL.out)
      rw [← hzt] at HL2
      have z3 := setRow_blk HR.out (bitV Z)
      subst hqt
      clear hzt HL
      go_wp2_with (first | (refine wpList_load_row rfl 70 _ rfl (w.heap.size + 1) rfl 70 _ (0, 0) _ HL2.out Try.underlying70 rfl (by rw [ca_size]; exact Try.rnSize) ?_) | (refine wpList_store_row rfl 70 _ _ rfl w.heap.size _ rfl rfl 70 _ HR.out (by rw [ca_size]; exact Try.rnSize) (by rw [ca_size, ca_size]) (ca_one fun _ _ => rfl) ?_))
      refine bodyPost_ret (results_cell2 rfl _ _ _ w.heap.size 70 _ (0, 0) _ rfl z3 Try.underlying70 rfl (by rw [ca_size]; exact Try.rnSize)) rfl ⟨rfl, setRow_below hbel (Nat.le_refl _) _⟩
end Go.Proofs.Ythkkiakfmbnfeaa
