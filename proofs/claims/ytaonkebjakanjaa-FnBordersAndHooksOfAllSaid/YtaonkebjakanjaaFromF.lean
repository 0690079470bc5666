/-
  Contract: the partition of a border word, the program.
-/
import Derived.Test.YtaonkebjakanjaaFromI
namespace Go.Proofs.Ytaonkebjakanjaa
open Go.RowKit

theorem below_bytes (w : World) (e : TypeId) (s : ByteArray) : Below w.heap.size w (Lib.bytesWorld w e s) :=
  ⟨rfl, rfl, rfl, by rw [Lib.bytesWorld_size]; omega, fun k hk => Lib.bytesWorld_at_old w e s k hk⟩

theorem up_r (row r k : Nat) (w : World) (h : row = r + 1) (hr : r ≤ 100) : Calls Try.prog 44 #[.agg #[.int .i64 row, .int .i64 k]] w fun e w' => e = .returned (.agg #[.int .i64 (r : Nat), .int .i64 k]) ∧ Below w.heap.size w w' := by
  have := up_any (row : Int) k w (by omega) (by omega)
  rwa [show (row : Int) - 1 = (r : Nat) by omega] at this
theorem right_r (row k k1 : Nat) (w : World) (h : k1 = k + 1) (hr : k ≤ 100) : Calls Try.prog 45 #[.agg #[.int .i64 row, .int .i64 k]] w fun e w' => e = .returned (.agg #[.int .i64 row, .int .i64 (k1 : Nat)]) ∧ Below w.heap.size w w' := by
  have := right_any row k w (by omega)
  rwa [← h] at this
theorem own_other {w : World} {B g k c b : Nat} {xs : List Int} (h : Own w B (some ⟨b, 0, none⟩) c xs) (hne : b ≠ g) (v : Value) : Own (w.setCell ⟨g, k, none⟩ v) B (some ⟨b, 0, none⟩) c xs :=
  h.keep fun b' hb _ => by
    have e : b = b' := by simpa using hb
    subst e
    exact Below.heap_setCell _ _ _ b (fun e => hne (by rw [e]))
theorem own_alloc {w : World} {B c : Nat} {A : Option Addr} {xs : List Int} (h : Own w B A c xs) (o : Obj) : Own (w.alloc o) B A c xs := h.below ((Below.refl _ _).alloc (Nat.le_refl _) o)
theorem eql_up (w : World) : (binOp .eql 54 (.func (.func 44) #[] #[]) .nilFunc).run Try.prog w = .ok (.bool false) w := by
  have h : ∀ d : Nat, (Op.equalIn (d + 1) 54 (.func (.func 44) #[] #[]) .nilFunc).run Try.prog w = .ok false w := fun d => by
    simp [Op.equalIn, run_underlying Try.underlying54]
  simp only [binOp]
  simp [Op.equal, Op.maxDepth, h 9999]
theorem eql_right (w : World) : (binOp .eql 54 (.func (.func 45) #[] #[]) .nilFunc).run Try.prog w = .ok (.bool false) w := by
  have h : ∀ d : Nat, (Op.equalIn (d + 1) 54 (.func (.func 45) #[] #[]) .nilFunc).run Try.prog w = .ok false w := fun d => by
    simp [Op.equalIn, run_underlying Try.underlying54]
  simp only [binOp]
  simp [Op.equal, Op.maxDepth, h 9999]
theorem eql_none (w : World) : (binOp .eql 54 .nilFunc .nilFunc).run Try.prog w = .ok (.bool true) w := by
  have h : ∀ d : Nat, (Op.equalIn (d + 1) 54 .nilFunc .nilFunc).run Try.prog w = .ok true w := fun d => by
    simp [Op.equalIn, run_underlying Try.underlying54]
  simp only [binOp]
  simp [Op.equal, Op.maxDepth, h 9999]

set_option maxRecDepth 100000 in
set_option maxHeartbeats 4000000 in
theorem impl_FromBorder (s : ByteArray) (w : World) (hs : s.size ≤ 1048576) :
    Calls Try.prog 14 #[.string s] w fun e w' => ∃ A' c', e = .returned (.tuple #[.slice A' (fromF s).length c', .bool (fromOK s)]) ∧ Own w' w.heap.size A' c' (fromF s) ∧ Below w.heap.size w w' := by
  by_cases hbig : 60 < s.size
  · have hno : fromOK s = false := by simp [fromOK]; omega
    have hnf := from_no hno
    rw [hno, hnf]
    clear hno hnf
    go_enter Try.func14, Try.ntmps14
    go_wp2_with fail
    go_ret2
    exact ⟨none, 0, rfl, own_nil _ _, Below.refl _ _⟩
  · have h60 : s.size ≤ 60 := by omega
    clear hbig
    cases hE : endsB s
    · have hno := ok_ends hE
      have hnf := from_no hno
      rw [hno, hnf]
      have hen : ∀ w : World, Calls Try.prog 33 #[.string s] w fun e w' => e = .returned (.bool false) ∧ w = w' := fun w => by
        have := hasEnds_any s w h60
        rwa [hE] at this
      clear hno hnf hE
      go_enter Try.func14, Try.ntmps14
      go_wp2_with (go_at_call 33; refine (hen _).mono ?_; rintro e w2 ⟨rfl, rfl⟩)
      go_ret2
      exact ⟨none, 0, rfl, own_nil _ _, Below.refl _ _⟩
    · have hen : ∀ w : World, Calls Try.prog 33 #[.string s] w fun e w' => e = .returned (.bool true) ∧ w = w' := fun w => by
        have := hasEnds_any s w h60
        rwa [hE] at this
      have HE := hid hE
      obtain ⟨K, hK⟩ : ∃ K, K = ups (bl s) := ⟨_, rfl⟩
      have hK60 : K ≤ 60 := by
        have h1 := List.count_le_length (a := (85 : UInt8)) (l := bl s)
        rw [bl_len] at h1
        rw [hK]; unfold ups; omega
      obtain ⟨w1, hw1⟩ : ∃ w1, w1 = Lib.bytesWorld w 5 s := ⟨_, rfl⟩
      have hcell : ∀ j (h : j < s.size), w1.cell? ⟨w.heap.size, j, none⟩ = some (.int .u8 s[j].toNat) := fun j h => by
        rw [hw1, Lib.bytesWorld_cell w 5 s j h, ← bl_get s j h]
        simp [bl, List.getD, h]
      have hB1 : Below w.heap.size w w1 := by rw [hw1]; exact below_bytes w _ s
      have hs1 : w.heap.size < w1.heap.size := by rw [hw1, Lib.bytesWorld_size]; omega
      have hconv := Lib.run_convert_string_bytes (P := Try.prog) w 9 47 5 s Try.underlying9 Try.underlying47 Try.underlying5
      rw [← hw1] at hconv
      have hsum : ∀ c, Calls Try.prog 34 #[.slice (some ⟨w.heap.size, 0, none⟩) s.size c, .func (.func 35) #[] #[]] w1 fun e w' => e = .returned (.int .i64 (K : Nat)) ∧ w1 = w' := fun c => by
        rw [hK]; exact sumUps s _ c w1 h60 hcell
      have hmk := run_make_row' (P := Try.prog) 22 3 (.int .i64 0) 8 Try.underlying22 Try.infoInt rfl .i64 .i64 K (by omega) (by omega)
      have HK := hid hK
      have HW1 := hid hw1
      clear hw1 hK hcell hE
      go_enter Try.func14, Try.ntmps14
      go_wp2_with (first | (go_at_call 33; refine (hen _).mono ?_; rintro e w2 ⟨rfl, rfl⟩) | (go_at_call 34; refine (hsum _).mono ?_; rintro e w2 ⟨rfl, rfl⟩))
      obtain ⟨w0, hw0⟩ : ∃ w0, w0 = (w1.alloc (.cells #[.int .i64 K, .int .i64 0] 42)).alloc (.cells (madeCells #[.int .i64 0] K) 3) := ⟨_, rfl⟩
      have z0 : Box2 w0 w1.heap.size 42 (.int .i64 K) (.int .i64 0) := by rw [hw0]; exact (Box2.new _ _ _ _).alloc _
      have o0 : Own w0 w.heap.size (some ⟨w1.heap.size + 1, 0, none⟩) K (half K []) := by
        have h := World.ownsRow_lit (base := w.heap.size) (e := 3) (size := 1) (w1.alloc (.cells #[.int .i64 K, .int .i64 0] 42)) (madeCells #[.int .i64 0] K) K (by simp; omega) (by unfold maxLen; omega) (by rw [size_madeCells]; omega)
        rw [toList_madeCells_one, World.size_alloc] at h
        rw [hw0, half_nil]
        show World.ownsRow _ _ _ _ _ _ _
        rw [List.length_replicate, show IL (List.replicate K 0) = List.replicate K (.int .i64 0) by simp [IL]]
        exact h
      have b0 : Below w.heap.size w w0 := by rw [hw0]; exact (hB1.alloc (by omega) _).alloc (by simp; omega) _
      rw [← hw0, decide_eq_false (show ¬ (60 : Int) < (s.size : Int) by omega)]
      obtain ⟨b4, hb4⟩ : ∃ b4, b4 = w1.heap.size := ⟨_, rfl⟩
      rw [← hb4] at z0 o0 ⊢
      have hlt4 : w.heap.size < b4 := by omega
      clear hw0 hconv hsum hmk hen hb4 hs1 hB1
      go_loopw [26] (fun i wr => ∃ k : Nat, k ≤ s.size ∧ i = .int .i64 (k : Nat) ∧ RU ((bl s).take k) ∧ Box2 wr b4 42 (.int .i64 (K - (fb ((bl s).take k)).1.length : Nat)) (.int .i64 ((fb ((bl s).take k)).2 : Nat)) ∧ Own wr w.heap.size (some ⟨b4 + 1, 0, none⟩) K (half K (fb ((bl s).take k)).1) ∧ Below w.heap.size w wr) (fun i _ => s.size - (intOf i).toNat)
      case atStart => exact ⟨0, Nat.zero_le _, rfl, by simp [RU], by simpa [fb] using z0, by simpa [fb] using o0, b0⟩
      case round =>
        obtain ⟨k, hk, rfl, hru, zr, hown, hbel⟩ := hrel
        obtain ⟨st, hst⟩ : ∃ st, st = fb ((bl s).take k) := ⟨_, rfl⟩
        rw [← hst] at zr hown
        have hup : st.1.length = ups ((bl s).take k) := by rw [hst]; exact ups_fb _
        have huK : st.1.length ≤ K := by rw [hup, HK.out]; exact ups_take _ _
        have hat : st.2 ≤ 60 := by
          have := fb_len ((bl s).take k)
          rw [← hst] at this
          have h3 : ((bl s).take k).length ≤ 60 := by rw [List.length_take, bl_len]; omega
          omega
        have HST := hid hst
        clear hst
        by_cases hlt : k < s.size
        · have hn := fb_next s k hlt
          rw [← HST.out] at hn
          have hbsz := hbel.size
          obtain ⟨row, hrow⟩ : ∃ row, row = K - st.1.length := ⟨_, rfl⟩
          rw [← hrow] at zr
          have hr60 : row ≤ 60 := by omega
          have p1 := zr.cell0
          have q1 := zr.cell1
          by_cases h5 : s[k] = 85
          · have hltK : st.1.length < K := by rw [hup, HK.out]; exact ups_lt s k hlt h5
            have HN := hid (show fb ((bl s).take (k + 1)) = ((st.2 : Int) :: st.1, st.2) by rw [hn, h5]; rfl)
            have HR := hid (ru_take hlt hru (.inr h5))
            have hcv : (s[k].toNat : Int) = 85 := by rw [h5]; rfl
            have hr1 : 1 ≤ row := by omega
            have HROW := hid hrow
            have HUP := hid hup
            have HUK := hid huK
            have heq := eql_up
            clear hn h5 hrow hup huK hltK
            obtain ⟨r, hr⟩ : ∃ r, row = r + 1 := ⟨row - 1, by omega⟩
            have hrK : r < K := by have := HROW.out; omega
            have hr0 : (0 : Int) ≤ (r : Int) := by omega
            have hrKi : (r : Int) < (K : Int) := by omega
            have hrlt : (r : Int) < (row : Int) := by omega
            have hr100 : r ≤ 100 := by omega
            have HRR := hid hr
            have HRL := hid (show r < (half K st.1).length by rw [half_len _ _ HUK.out]; exact hrK)
            clear hr
            go_wp2_with (first | (go_at_call 28; refine (stepU _).mono ?_; rintro e w2 ⟨rfl, rfl⟩) | (go_at_call 44; refine (up_r row r st.2 _ HRR.out hr100).mono ?_; rintro e w5 ⟨rfl, b5⟩; have z5 := zr.next b5; have o5 := hown.below b5; have B5 := Below.next hbel b5; have z6 := z5.alloc (.cells #[.int .i64 (r : Nat), .int .i64 (st.2 : Nat)] 42); have f6 := z6.cell0; have o6 := o5.below ((Below.refl _ _).alloc (Nat.le_refl _) (.cells #[.int .i64 (r : Nat), .int .i64 (st.2 : Nat)] 42)); have r6 := own_froz o6 r; have r5 := own_froz o5 r; have e5 := own_get o5 HRL.out; have e6 := own_get o6 HRL.out; have hbk := (o5.block (b4 + 1) rfl).2; have z7 := z5.other (g' := b4 + 1) (k := r) (by omega) (.int .i64 (st.2 : Nat)); have o7 := own_set o5 r (st.2 : Nat); have z8 := z7.alloc (.cells #[.int .i64 (r : Nat), .int .i64 (st.2 : Nat)] 42); have f8 := z8.cell0; have y8 := z8.froz 0; have f8b := z8.cell1; have y8b := z8.froz 1; have z9 := z7.set0 (.int .i64 (r : Nat)); have z10 := z9.alloc (.cells #[.int .i64 (r : Nat), .int .i64 (st.2 : Nat)] 42); have f10 := z10.cell1; have y10 := z10.froz 1; have z11 := z8.set0 (.int .i64 (r : Nat)); have f11 := z11.cell1; have y11 := z11.froz 1))
            have z12 := z11.set1 (.int .i64 (st.2 : Nat))
            have HZ := hid z12
            have HO := hid (own_other (k := 1) (own_other (g := b4) (k := 0) (own_alloc o7 (.cells #[.int .i64 (r : Nat), .int .i64 (st.2 : Nat)] 42)) (by omega) (.int .i64 (r : Nat))) (g := b4) (by omega) (.int .i64 (st.2 : Nat)))
            have HB := hid ((((B5.setCell (p := ⟨b4 + 1, r, none⟩) (by show w.heap.size ≤ b4 + 1; omega) (.int .i64 (st.2 : Nat))).alloc (by have := B5.size; simpa using this) (.cells #[.int .i64 (r : Nat), .int .i64 (st.2 : Nat)] 42)).setCell (p := ⟨b4, 0, none⟩) (Nat.le_of_lt hlt4) (.int .i64 (r : Nat))).setCell (p := ⟨b4, 1, none⟩) (Nat.le_of_lt hlt4) (.int .i64 (st.2 : Nat)))
            have er : K - st.1.length - 1 = r := by have := HROW.out; have := HRR.out; omega
            have hl2 : K - (((st.2 : Int) :: st.1).length) = r := by rw [List.length_cons]; omega
            have hhs := half_set K st.1 (st.2 : Int) (by have := HROW.out; have := HRR.out; omega)
            rw [er] at hhs
            have hlen2 : ((half K st.1).set r (st.2 : Int)).length = K := by rw [List.length_set, half_len _ _ HUK.out]
            refine ⟨⟨k + 1, by omega, by go_num, HR.out, ?_, ?_, HB.out⟩, by simp [intOf]; omega⟩
            · rw [HN.out, show K - (((st.2 : Int) :: st.1, st.2) : List Int × Nat).1.length = r from hl2]; exact HZ.out
            · rw [HN.out]
              show Own _ _ _ _ (half K ((st.2 : Int) :: st.1))
              rw [← hhs]; exact HO.out
          · by_cases h2 : s[k] = 82
            · have HN := hid (show fb ((bl s).take (k + 1)) = (st.1, st.2 + 1) by rw [hn, h2]; rfl)
              have HR := hid (ru_take hlt hru (.inl h2))
              have hcv : (s[k].toNat : Int) = 82 := by rw [h2]; rfl
              have HROW := hid hrow
              have heq := eql_right
              obtain ⟨a1, ha1⟩ : ∃ a1, a1 = st.2 + 1 := ⟨_, rfl⟩
              have HA := hid ha1
              clear hn h5 h2 hrow hup huK ha1
              go_wp2_with (first | (go_at_call 28; refine (stepR _).mono ?_; rintro e w2 ⟨rfl, rfl⟩) | (go_at_call 45; refine (right_r row st.2 a1 _ HA.out (by omega)).mono ?_; rintro e w5 ⟨rfl, b5⟩; have z5 := zr.next b5; have o5 := hown.below b5; have B5 := Below.next hbel b5; have z6 := z5.alloc (.cells #[.int .i64 (row : Nat), .int .i64 (a1 : Nat)] 42); have f6 := z6.cell0; have f6b := z6.cell1; have y6 := z6.froz 0; have y6b := z6.froz 1; have z9 := z5.set0 (.int .i64 (row : Nat)); have z10 := z9.alloc (.cells #[.int .i64 (row : Nat), .int .i64 (a1 : Nat)] 42); have f10 := z10.cell1; have y10 := z10.froz 1; have z11 := z6.set0 (.int .i64 (row : Nat)); have f11 := z11.cell1; have y11 := z11.froz 1; have hbk := (o5.block (b4 + 1) rfl).2))
              have z12 := z11.set1 (.int .i64 (a1 : Nat))
              have HZ := hid z12
              have HO := hid (own_other (k := 1) (own_other (g := b4) (k := 0) (own_alloc o5 (.cells #[.int .i64 (row : Nat), .int .i64 (a1 : Nat)] 42)) (by omega) (.int .i64 (row : Nat))) (g := b4) (by omega) (.int .i64 (a1 : Nat)))
              have HB := hid (((B5.alloc (by have := B5.size; omega) (.cells #[.int .i64 (row : Nat), .int .i64 (a1 : Nat)] 42)).setCell (p := ⟨b4, 0, none⟩) (Nat.le_of_lt hlt4) (.int .i64 (row : Nat))).setCell (p := ⟨b4, 1, none⟩) (Nat.le_of_lt hlt4) (.int .i64 (a1 : Nat)))
              refine ⟨⟨k + 1, by omega, by go_num, HR.out, ?_, ?_, HB.out⟩, by simp [intOf]; omega⟩
              · rw [HN.out, show ((st.1, st.2 + 1) : List Int × Nat).2 = a1 from HA.out.symm, show K - ((st.1, st.2 + 1) : List Int × Nat).1.length = row from HROW.out.symm]; exact HZ.out
              · rw [HN.out]; exact HO.out
            · have hno := no_ru hlt h2 h5
              have HNO := hid hno
              have HNF := hid (from_no hno)
              have hc2 : ¬ ((s[k].toNat : Int) = 82) := fun e => h2 (UInt8.toNat_inj.1 (by have : (82 : UInt8).toNat = 82 := rfl; omega))
              have hc5 : ¬ ((s[k].toNat : Int) = 85) := fun e => h5 (UInt8.toNat_inj.1 (by have : (85 : UInt8).toNat = 85 := rfl; omega))
              have heq := eql_none
              clear hno hn h2 h5
              go_wp2_with (go_at_call 28; refine (stepN _ _ hc5 hc2).mono ?_; rintro e w2 ⟨rfl, rfl⟩)
              go_ret2
              exact ⟨none, 0, by rw [HNO.out, HNF.out]; rfl, by rw [HNF.out]; exact own_nil _ _, hbel⟩
        · have htk : (bl s).take k = bl s := List.take_of_length_le (by rw [bl_len]; omega)
          rw [htk] at hru hup
          have hst2 : st.1 = fromP s := by rw [HST.out, htk]; rfl
          have hfull : half K st.1 = st.1 := half_full _ _ (by rw [hup, HK.out])
          have hlK : st.1.length = K := by rw [hup, HK.out]
          rw [hfull] at hown
          have hok := ok_good h60 HE.out hru
          rw [← hst2] at hok
          obtain ⟨ps, hps⟩ : ∃ ps, ps = st.1 := ⟨_, rfl⟩
          rw [← hps] at hown hlK hok
          have HF := hid (hps.trans hst2)
          have HOK := hid hok
          have hl2 : ps.length ≤ 1048576 := by omega
          have hcells := hown.cells
          have hpb : ∀ (w2 : World) (b : Bool), good ps = b → Cells w2 (some ⟨b4 + 1, 0, none⟩) ps → Calls Try.prog 12 #[.slice (some ⟨b4 + 1, 0, none⟩) K K] w2 fun e w' => e = .returned (.bool b) ∧ w2 = w' := fun w2 b h hc => by
            have := IsPartition_b (some ⟨b4 + 1, 0, none⟩) ps K w2 hl2 hc b h
            rwa [hlK] at this
          clear hok hst2 hps hfull htk hup HST
          cases hg : good ps
          · have HNO := hid (HOK.out.trans hg)
            have HNF := hid (from_no HNO.out)
            have HG := hid hg
            clear hg
            go_wp2_with (go_at_call 12; refine (hpb _ _ HG.out (by exact hcells)).mono ?_; rintro e w2 ⟨rfl, rfl⟩)
            go_ret2
            exact ⟨none, 0, by rw [HNO.out, HNF.out]; rfl, by rw [HNF.out]; exact own_nil _ _, hbel⟩
          · have HY := hid (HOK.out.trans hg)
            have HYF := hid ((from_yes HY.out).trans HF.out.symm)
            have HG := hid hg
            have HLK := hid hlK
            clear hg hlK
            go_wp2_with (go_at_call 12; refine (hpb _ _ HG.out (by exact hcells)).mono ?_; rintro e w2 ⟨rfl, rfl⟩)
            go_ret2
            exact ⟨_, K, by rw [HY.out, HYF.out, HLK.out]; rfl, by rw [HYF.out]; exact hown, hbel⟩
end Go.Proofs.Ytaonkebjakanjaa
