/-
  Several texts in one.
-/
import Derived.Test.YtdoahfjccpniaaaCV
import Derived.Test.YtdoahfjccpniaaaR23
import Derived.Test.YtdoahfjccpniaaaR16
import Derived.Test.YtdoahfjccpniaaaCU
/-
  Contracts: signatures and arrows of the program (made by genfo.py).
-/
namespace Go.Proofs.Ytdoahfjccpniaaa
open Go.RowKit

theorem canHaveArrows_b (A : Option Addr) (c : Nat) (xs : List Int) (t i : Int) (w : World) (hl : xs.length ≤ 1048576) (hc : Cells w A xs) (b : Bool) (h : asB xs t i = b) :
    Calls Try.prog 21 #[.slice A xs.length c, .int .i64 t, .int .i64 i] w fun e w' => e = .returned (.bool b) ∧ w = w' := by
  subst h
  cases hg : good xs
  · rw [show asB xs t i = false by simp [asB, hg]]
    have H := hid hg
    clear hg
    go_enter Try.func21, Try.ntmps21
    go_wp2_with (go_at_call 34; refine (IsPartition_b _ _ _ _ hl hc _ H.out).mono ?_; rintro e w' ⟨rfl, rfl⟩)
    go_ret
    exact ⟨rfl, rfl⟩
  · cases ht : inB 2 6 t
    · rw [show asB xs t i = false by simp [asB, ht]]
      have H := hid hg
      have HT := hid ht
      clear hg ht
      go_enter Try.func21, Try.ntmps21
      go_wp2_with (first | (go_at_call 34; refine (IsPartition_b _ _ _ _ hl hc _ H.out).mono ?_; rintro e w' ⟨rfl, rfl⟩) | (go_at_call 30; refine (hasRunners_b _ _ _ HT.out).mono ?_; rintro e w' ⟨rfl, rfl⟩))
      go_ret
      exact ⟨rfl, rfl⟩
    · have H := hid hg
      have HT := hid ht
      have e : asB xs t i = (decide (0 ≤ i) && decide (i < t)) := by
        rw [show asB xs t i = inB 0 (t - 1) i by simp [asB, hg, ht]]
        unfold inB
        congr 1
        exact decide_eq_decide.2 (by omega)
      obtain ⟨b, hb⟩ : ∃ b, b = (decide (0 ≤ i) && decide (i < t)) := ⟨_, rfl⟩
      rw [e, ← hb]
      have HB := hid hb.symm
      clear hg ht e hb
      go_enter Try.func21, Try.ntmps21
      go_wp2_with (first | (go_at_call 34; refine (IsPartition_b _ _ _ _ hl hc _ H.out).mono ?_; rintro e w' ⟨rfl, rfl⟩) | (go_at_call 30; refine (hasRunners_b _ _ _ HT.out).mono ?_; rintro e w' ⟨rfl, rfl⟩) | (go_at_call 40; refine (isResidue_b _ _ _ _ HB.out).mono ?_; rintro e w' ⟨rfl, rfl⟩))
      go_ret
      exact ⟨rfl, rfl⟩

set_option maxRecDepth 100000 in
set_option maxHeartbeats 1000000 in
theorem impl_SignatureOfC (A : Option Addr) (c : Nat) (xs : List Int) (t i : Int) (w : World) (hl : xs.length ≤ 1048576) (hno : A = none → xs.length = 0 ∧ c = 0) (hc : Cells w A xs) :
    Calls Try.prog 13 #[.slice A xs.length c, .int .i64 t, .int .i64 i] w fun e w' => e = .returned (.tuple #[.string (sgF xs t i), .bool (asB xs t i)]) ∧ Below w.heap.size w w' := by
  cases h : asB xs t i
  · rw [show sgF xs t i = ByteArray.empty by simp [sgF, h]]
    have H := hid h; clear h
    go_enter Try.func13, Try.ntmps13
    go_wp2_with (go_at_call 21; refine (canHaveArrows_b _ _ _ _ _ _ hl hc _ H.out).mono ?_; rintro e w' ⟨rfl, rfl⟩)
    go_ret2
    exact ⟨rfl, Below.refl _ _⟩
  · rw [show sgF xs t i = strOf (ltrs (sig xs t.toNat i)) by simp [sgF, h]]
    obtain ⟨hg, _, ht, _⟩ := asB_t h
    have H := hid h; clear h
    obtain ⟨n, rfl⟩ : ∃ n : Nat, t = n := ⟨t.toNat, by omega⟩
    rw [Int.toNat_natCast]
    have hsl := sig_len (xs := xs) n i
    have hg30 := good_len hg
    have HS := hid (signatureOf_any A c xs n i w hg (by omega) hno hc)
    have HL := hid fun A1 c1 W (h : OwnM W w.heap.size A1 c1 (sig xs n i)) => lettersOf_any A1 c1 (sig xs n i) W (by omega) h
    obtain ⟨S, hS⟩ : ∃ S, S = sig xs n i := ⟨_, rfl⟩
    rw [← hS] at HS HL
    rw [← hS]
    clear hS hsl
    go_enter Try.func13, Try.ntmps13
    go_wp2_with (go_at_call 21; refine (canHaveArrows_b _ _ _ _ _ _ hl hc _ H.out).mono ?_; rintro e w' ⟨rfl, rfl⟩)
    refine HS.out.mono ?_
    rintro e w1 ⟨A1, c1, rfl, o1, b1⟩
    have HLC := hid (HL.out A1 c1 w1 o1)
    clear o1
    go_wp2_with (go_at_call 24; refine HLC.out.mono ?_; rintro e w2 ⟨rfl, b2⟩)
    go_ret2
    exact ⟨rfl, Below.next b1 b2⟩

set_option maxRecDepth 100000 in
set_option maxHeartbeats 4000000 in
theorem impl_ReducedSignature (s : ByteArray) (w : World) (hs : s.size ≤ 1048576) :
    Calls Try.prog 11 #[.string s] w fun e w' => e = .returned (.tuple #[.string (rdF s), .bool (rdOk s)]) ∧ Below w.heap.size w w' := by
  obtain ⟨i1, hj, hy0, hy1, hy2⟩ := info_parts Try.infoMark
  by_cases hbig : 100 < s.size
  · have hno : rdOk s = false := by simp [rdOk]; omega
    rw [show rdF s = ByteArray.empty by simp [rdF, hno], hno]
    clear hno
    go_enter Try.func11, Try.ntmps11
    go_wp2_with fail
    go_ret2
    exact ⟨rfl, Below.refl _ _⟩
  have h100 : s.size ≤ 100 := by omega
  have hb2 : ¬ (100 : Int) < (s.size : Int) := by omega
  have hil : (idx (bl s)).length = s.size := by rw [idx_len, bl_len]
  have HIL := hid hil
  have HNX := hid fun k (h : k < s.size) => (show (idx (bl s)).take (k + 1) = (idx (bl s)).take k ++ [(s[k].toNat, k)] by
    rw [take_snoc_get (idx (bl s)) (0, 0) k (by rw [hil]; exact h), idx_get (bl s) k (by rw [bl_len]; exact h), bl_at s k h])
  clear hbig hil
  go_enter Try.func11, Try.ntmps11
  go_wp2_with fail
  go_loopw [4, 11] (fun mv kv wr => ∃ k A c, k ≤ s.size ∧ kv = .int .i64 (k : Nat) ∧ mv = .slice A k c ∧ Hid (OwnM wr w.heap.size A c ((idx (bl s)).take k)) ∧ Below w.heap.size w wr ∧ Hid (∀ j, (h : j < s.size) → j < k → s[j] = 65 ∨ s[j] = 82)) (fun _ kv _ => s.size - (intOf kv).toNat)
  case atStart => exact ⟨0, none, 0, Nat.zero_le _, rfl, rfl, hid (ownM_nil _ _), Below.refl _ _, hid fun j _ hj => absurd hj (by omega)⟩
  case round =>
    obtain ⟨k, A, c, hk, rfl, rfl, HO, hbel, HB⟩ := hrel
    have htl : ((idx (bl s)).take k).length = k := by rw [List.length_take, HIL.out]; omega
    have HTL := hid htl
    clear htl
    by_cases hlt : k < s.size
    · have hown := HO.out
      unfold OwnM at hown
      rw [HTL.out] at hown
      have HOW := hid hown
      have HN := hid (HNX.out k hlt)
      have FIN := hid fun (z : Int) (hz : ((s[k].toNat : Nat) : Int) = z) v' w1 (hown' : w1.ownsRow w.heap.size 44 2 v' (k + 1) (ML ((idx (bl s)).take k) ++ [.int .u8 z, .int .i64 (k : Int)])) (hgrow : (wr.alloc (.cells #[.int .u8 z, .int .i64 (k : Int)] 44)).grownBy w1 (Value.slice A k c).ownBlock) => (show ∃ A c, v' = .slice A (k + 1) c ∧ Hid (OwnM w1 w.heap.size A c ((idx (bl s)).take (k + 1))) ∧ Below w.heap.size w w1 by
        subst hz
        have hb1 : Below w.heap.size w w1 := (hbel.alloc hbel.size _).grown hgrow (by have := hbel.size; simp; omega) (fun q hq => (HOW.out.lt q hq).1)
        have hl1 : k + 1 = ((idx (bl s)).take (k + 1)).length := by rw [List.length_take, HIL.out]; omega
        have hown8 : w1.ownsRow w.heap.size 44 2 v' (k + 1) (ML ((idx (bl s)).take (k + 1))) := by rw [HN.out, ML_snoc]; exact hown'
        obtain ⟨A', c', e', ho⟩ := ownM_form hown8 hl1
        exact ⟨A', c', by rw [e', ← hl1], hid ho, hb1⟩)
      clear hown
      by_cases hok : s[k] = 65 ∨ s[k] = 82
      · have HOK := hid hok
        have HBK := hid (show ∀ j, (h : j < s.size) → j < k + 1 → s[j] = 65 ∨ s[j] = 82 from fun j hj hjk => by
          by_cases e : j = k
          · subst e; exact HOK.out
          · exact HB.out j hj (by omega))
        rcases hok with e1 | e1
        · have HFZ := hid (FIN.out 65 (by rw [e1]; rfl))
          go_wp2_with (at_builtin; refine wpList_append_own _ rfl _ _ 42 rfl w.heap.size 44 i1 (.agg #[.int .u8 0, .int .i64 0]) 2 16 Try.underlying42 hj hy0 hy1 hy2 rfl (by decide) _ _ _ rfl (HOW.out.alloc _) ⟨wr.heap.size, 0, none⟩ 1 1 [.int .u8 65, .int .i64 (k : Int)] rfl rfl mark_at (mark_cell _ _) (by unfold maxLen; omega) (by omega) (by have := hbel.size; simp; omega) ?_)
          intro v7 w7 hown7 hgrow7 _
          have HF := hid (HFZ.out v7 w7 hown7 hgrow7)
          clear hown7 hgrow7
          go_wp2_with fail
          go_roundw
          case rel => obtain ⟨A, c, e, o, b⟩ := HF.out; exact ⟨k + 1, A, c, by omega, by go_num, e, o, b, HBK⟩
          case measure => simp [intOf]; omega
        · have HFZ := hid (FIN.out 82 (by rw [e1]; rfl))
          go_wp2_with (at_builtin; refine wpList_append_own _ rfl _ _ 42 rfl w.heap.size 44 i1 (.agg #[.int .u8 0, .int .i64 0]) 2 16 Try.underlying42 hj hy0 hy1 hy2 rfl (by decide) _ _ _ rfl (HOW.out.alloc _) ⟨wr.heap.size, 0, none⟩ 1 1 [.int .u8 82, .int .i64 (k : Int)] rfl rfl mark_at (mark_cell _ _) (by unfold maxLen; omega) (by omega) (by have := hbel.size; simp; omega) ?_)
          intro v7 w7 hown7 hgrow7 _
          have HF := hid (HFZ.out v7 w7 hown7 hgrow7)
          clear hown7 hgrow7
          go_wp2_with fail
          go_roundw
          case rel => obtain ⟨A, c, e, o, b⟩ := HF.out; exact ⟨k + 1, A, c, by omega, by go_num, e, o, b, HBK⟩
          case measure => simp [intOf]; omega
      · have h1 : s[k] ≠ 65 := fun e => hok (.inl e)
        have h2 : s[k] ≠ 82 := fun e => hok (.inr e)
        have h1' : ¬ ((s[k].toNat : Nat) : Int) = 65 := fun e => h1 (u8_eq (n := 65) (by decide) (by omega))
        have h2' : ¬ ((s[k].toNat : Nat) : Int) = 82 := fun e => h2 (u8_eq (n := 82) (by decide) (by omega))
        have b1 : (((s[k].toNat : Nat) : Int) != 65) = true := bne_iff_ne.2 h1'
        have b2 : (((s[k].toNat : Nat) : Int) != 82) = true := bne_iff_ne.2 h2'
        have hno := rd_no hlt h1 h2
        have HNO := hid (show rdF s = ByteArray.empty ∧ rdOk s = false from ⟨by simp [rdF, hno], hno⟩)
        clear h1 h2 hno hok h1' h2'
        go_wp2_with fail
        go_ret2
        exact ⟨by rw [HNO.out.1, HNO.out.2]; rfl, hbel⟩
    · have hyes := rd_yes h100 fun j hj => HB.out j hj (by omega)
      have HY := hid (show rdF s = strOf (ltrs (red (idx (bl s)))) ∧ rdOk s = true from ⟨by simp [rdF, hyes], hyes⟩)
      have hke : k = (idx (bl s)).length := by rw [HIL.out]; omega
      have hO := HO.out
      rw [hke, List.take_of_length_le (Nat.le_refl _)] at hO
      have hil := HIL.out
      have HRD := hid (reduced_any A c (idx (bl s)) wr (by omega) hO)
      have hrl := red_len (idx (bl s))
      have HLT := hid fun A1 c1 W (h : OwnM W wr.heap.size A1 c1 (red (idx (bl s)))) => lettersOf_any A1 c1 (red (idx (bl s))) W (by omega) h
      rw [← hke] at HRD
      obtain ⟨R, hR⟩ : ∃ R, R = red (idx (bl s)) := ⟨_, rfl⟩
      rw [← hR] at HRD HLT HY
      clear hyes hke hO hil hrl hR
      go_wp2_with fail
      refine HRD.out.mono ?_
      rintro e w1 ⟨A1, c1, rfl, o1, b1⟩
      have HLC := hid (HLT.out A1 c1 w1 o1)
      clear o1
      go_wp2_with (go_at_call 24; refine HLC.out.mono ?_; rintro e w2 ⟨rfl, b2⟩)
      go_ret2
      exact ⟨by rw [HY.out.1, HY.out.2]; rfl, Below.next (Below.next hbel b1) b2⟩
end Go.Proofs.Ytdoahfjccpniaaa
/-
  Contracts: the arrows of the program (made by genfa.py).
-/
namespace Go.Proofs.Ytdoahfjccpniaaa
open Go.RowKit

theorem RN_get (l : List Nat) (k : Nat) (h : k < l.length) : (RN l).getD k 0 = ((l.getD k 0 : Nat) : Int) := by simp [RN, List.getD, h]

theorem choice_call_up (v : Value) (w : World) : (callMethod (.iface 35 (.agg #[])) "loop.example/g01136/impl.choice" #[v]).run Try.prog w = .ok (.enter 70 #[.agg #[], v]) w := by kernel_rfl
theorem change_call_up (v x : Value) (w : World) : (callMethod (.iface 35 (.agg #[])) "loop.example/g01136/impl.change" #[v, x]).run Try.prog w = .ok (.enter 69 #[.agg #[], v, x]) w := by kernel_rfl
theorem nil_up (n : Nat) (w : World) : (nilAhead (n + 1) 35 (.agg #[]) "loop.example/g01136/impl.change").run Try.prog w = .ok (some false) w := by kernel_rfl
theorem choice_up (A : Option Addr) (c : Nat) (X : List Int) (r : Nat) (w : World) (_hl : X.length ≤ 1000) (h0 : 0 < X.length) (hr : X.getD (0) 0 = (r : Int)) (hc : Cells w A X) :
    Calls Try.prog 70 #[.agg #[], .slice A X.length c] w fun e w' => e = .returned (.int .i64 r) ∧ Below w.heap.size w w' := by
  obtain ⟨b, o, rfl, hcc⟩ := hc h0
  have hck := (hcc (0) (by omega)).trans (by rw [hr])
  have hck2 : (w.alloc (.cells #[] 35)).cell? ⟨b, o + (0), none⟩ = some (.int .i64 (r : Int)) := by
    rw [((Below.refl _ _).alloc (Nat.le_refl _) _ : Below w.heap.size w (w.alloc (.cells #[] 35))).cell (World.block_lt_of_cell? w _ hck)]; exact hck
  obtain ⟨n, hn⟩ : ∃ n, n = X.length := ⟨_, rfl⟩
  rw [← hn] at h0 ⊢
  rw [Nat.add_zero] at hck hck2
  clear hcc hr hn
  go_enter Try.func70, Try.ntmps70
  go_wp2
  go_ret
  exact ⟨rfl, (Below.refl _ _).alloc (Nat.le_refl _) _⟩
theorem change_up (A : Option Addr) (c : Nat) (p : List Int) (r : Nat) (w : World) (G : Good p) (hok : r ≤ p.length) (hno : A = none → p.length = 0 ∧ c = 0) (hc : Cells w A p) :
    Calls Try.prog 69 #[.agg #[], .slice A p.length c, .int .i64 r] w fun e w' => ∃ A' c', e = .returned (.slice A' (incL p r).length c') ∧ Own w' w.heap.size A' c' (incL p r) ∧ Below w.heap.size w w' := by
  have hw : Below w.heap.size w (w.alloc (.cells #[] 35)) := (Below.refl _ _).alloc (Nat.le_refl _) _
  have HC := hid (withCellC_any A c p r (w.alloc (.cells #[] 35)) (by have := G.len; omega) (fun j hj => ⟨G.pos j hj, G.le j hj⟩) hok hno (hc.later hw))
  have hsz : (w.alloc (.cells #[] 35)).heap.size = w.heap.size + 1 := by simp
  have HW := hid hw
  have HSZ := hid hsz
  clear hw hsz hc hno G hok
  go_enter Try.func69, Try.ntmps69
  go_wp2_with fail
  refine HC.out.mono ?_
  rintro e w1 ⟨A1, c1, rfl, o1, b1⟩
  have HO := hid (o1.more (by rw [HSZ.out]; omega) : Own w1 w.heap.size A1 c1 _)
  have HB := hid (Below.next HW.out b1)
  clear o1 b1
  go_wp2_with fail
  go_ret
  exact ⟨A1, c1, rfl, HO.out, HB.out⟩

set_option maxRecDepth 100000 in
set_option maxHeartbeats 8000000 in
theorem follow_up (A : Option Addr) (c : Nat) (xs : List Int) (t i : Int) (w : World) (hl : xs.length ≤ 1048576) (hno : A = none → xs.length = 0 ∧ c = 0) (hc : Cells w A xs) :
    Calls Try.prog 16 #[.slice A xs.length c, .int .i64 t, .int .i64 i, .iface 35 (.agg #[])] w fun e w' => ∃ A' c', e = .returned (.tuple #[.slice A' (upF xs t i).length c', .bool (upOk xs t i)]) ∧ Own w' w.heap.size A' c' (upF xs t i) ∧ Below w.heap.size w w' := by
  cases h : asB xs t i
  · rw [show upF xs t i = [] by simp [upF, h], show upOk xs t i = false by simp [upOk, h]]
    have H := hid h; clear h
    go_enter Try.func16, Try.ntmps16
    go_wp2_with (go_at_call 21; refine (canHaveArrows_b _ _ _ _ _ _ hl hc _ H.out).mono ?_; rintro e w' ⟨rfl, rfl⟩)
    go_ret2
    exact ⟨none, 0, rfl, own_nil _ _, Below.refl _ _⟩
  · obtain ⟨hg, G, ht, _⟩ := asB_t h
    obtain ⟨n, rfl⟩ : ∃ n : Nat, t = n := ⟨t.toNat, by omega⟩
    have HR := hid (rowsLeft_up A c xs n i w hg (by omega) hno hc)
    have hrl := sigM_len31 G.len n i
    have hfl := fl_le (red (sig xs n i)) 65
    have hRl : (RN (fl (red (sig xs n i)) 65)).length ≤ 31 := by rw [RN_len]; omega
    have H := hid h
    cases hu : upR (red (sig xs n i)) with
    | none =>
      rw [upR_no hu, show RN ([] : List Nat) = [] from rfl] at HR
      have e1 : upF xs n i = [] := by simp [upF, h, (au_none hu).1]
      have e2 : upOk xs n i = false := by simp [upOk, (au_none hu).2]
      rw [e1, e2]
      clear h hu e1 e2 hrl hfl hRl G
      go_enter Try.func16, Try.ntmps16
      go_wp2_with (first | (go_at_call 21; refine (canHaveArrows_b _ _ _ _ _ _ hl hc _ H.out).mono ?_; rintro e w' ⟨rfl, rfl⟩) | (go_at_call 22; refine HR.out.mono ?_; rintro e w1 ⟨A1, c1, rfl, o1, b1⟩))
      go_ret2
      exact ⟨none, 0, rfl, own_nil _ _, b1⟩
    | some r =>
      obtain ⟨k0, k1⟩ := upR_fl hu
      have hX0 : 0 < (RN (fl (red (sig xs n i)) 65)).length := by rw [RN_len]; exact k0
      have hXr : (RN (fl (red (sig xs n i)) 65)).getD (0) 0 = (r : Int) := by first | rw [RN_len, RN_get _ _ (by omega), k1] | rw [RN_get _ _ (by omega), k1]
      have hok := up_ok G hu
      have hrl31 := hok.1
      have e1 : upF xs n i = (if good (incL xs r) then incL xs r else []) := by simp [upF, h, (au_some hu).1]
      have e2 : upOk xs n i = good (incL xs r) := by simp [upOk, h, (au_some hu).1, (au_some hu).2]
      rw [e1, e2]
      obtain ⟨X, hX⟩ : ∃ X, X = RN (fl (red (sig xs n i)) 65) := ⟨_, rfl⟩
      rw [← hX] at HR hX0 hXr hRl
      have HX0 := hid hX0
      have HXR := hid hXr
      have HCHO := hid fun W A1 c1 (h : Cells W A1 X) => choice_up A1 c1 X r W (by omega) HX0.out HXR.out h
      have HCHA := hid fun W (h : Cells W A xs) => change_up A c xs r W G hok.1 hno h
      have hch := choice_call_up
      have hca := change_call_up
      have hna := nil_up
      have hx30 := G.len
      have hDl : (incL xs r).length ≤ 31 := by rw [inc_len]; split <;> omega
      have HGOOD := hid (True.intro : True)
      obtain ⟨D, hD⟩ : ∃ D, D = incL xs r := ⟨_, rfl⟩
      rw [← hD] at HCHA hDl
      rw [← hD]
      have HIP := hid fun A2 c2 W (h : Cells W A2 D) b hb => IsPartition_b A2 D c2 W (by omega) h b hb
      have HCC := hid hc
      clear h hu k0 k1 hok e1 e2 hrl hfl G hX hD hX0 hXr
      have hne : ¬ ((X.length : Nat) : Int) = 0 := by have := HX0.out; omega
      cases hg2 : good D
      · have HG := hid hg2
        rw [if_neg (by simp)]
        clear hg2
        go_enter Try.func16, Try.ntmps16
        go_wp2_with (first | (go_at_call 21; refine (canHaveArrows_b _ _ _ _ _ _ hl hc _ H.out).mono ?_; rintro e w' ⟨rfl, rfl⟩) | (go_at_call 22; refine HR.out.mono ?_; rintro e w1 ⟨A1, c1, rfl, o1, b1⟩))
        have HX1 := hid o1.cells
        have HB1 := hid b1
        have bd : Below w.heap.size w w1.drew := below_drewN b1 1
        have HBD := hid bd
        have HXD := hid (show Cells w1.drew A1 X from o1.cells)
        have HCD := hid (HCC.out.later bd)
        have HWN := hid b1.size
        clear o1 b1 bd
        go_region_with (first | (go_at_call 70; refine (HCHO.out _ _ _ HXD.out).mono ?_; rintro e w2 ⟨rfl, b2⟩; have HB2 := hid b2; have HC2 := hid (HCD.out.later b2); clear b2) | (go_at_call 69; refine (HCHA.out _ HC2.out).mono ?_; rintro e w3 ⟨A3, c3, rfl, o3, b3⟩; have HO3 := hid o3; have HB3 := hid b3; clear o3 b3))
        all_goals go_wp2_with (go_at_call 34; refine (HIP.out _ _ _ HO3.out.cells _ HG.out).mono ?_; rintro e w' ⟨rfl, rfl⟩)
        all_goals go_ret2
        all_goals exact ⟨none, 0, rfl, own_nil _ _, Below.next (Below.next HBD.out HB2.out) HB3.out⟩
      · have HG := hid hg2
        rw [if_pos rfl]
        clear hg2
        go_enter Try.func16, Try.ntmps16
        go_wp2_with (first | (go_at_call 21; refine (canHaveArrows_b _ _ _ _ _ _ hl hc _ H.out).mono ?_; rintro e w' ⟨rfl, rfl⟩) | (go_at_call 22; refine HR.out.mono ?_; rintro e w1 ⟨A1, c1, rfl, o1, b1⟩))
        have HX1 := hid o1.cells
        have HB1 := hid b1
        have bd : Below w.heap.size w w1.drew := below_drewN b1 1
        have HBD := hid bd
        have HXD := hid (show Cells w1.drew A1 X from o1.cells)
        have HCD := hid (HCC.out.later bd)
        have HWN := hid b1.size
        clear o1 b1 bd
        go_region_with (first | (go_at_call 70; refine (HCHO.out _ _ _ HXD.out).mono ?_; rintro e w2 ⟨rfl, b2⟩; have HB2 := hid b2; have HC2 := hid (HCD.out.later b2); clear b2) | (go_at_call 69; refine (HCHA.out _ HC2.out).mono ?_; rintro e w3 ⟨A3, c3, rfl, o3, b3⟩; have HO3 := hid o3; have HB3 := hid b3; clear o3 b3))
        all_goals go_wp2_with (go_at_call 34; refine (HIP.out _ _ _ HO3.out.cells _ HG.out).mono ?_; rintro e w' ⟨rfl, rfl⟩)
        all_goals go_ret2
        all_goals exact ⟨A3, c3, rfl, HO3.out.more (Nat.le_trans HBD.out.size HB2.out.size), Below.next (Below.next HBD.out HB2.out) HB3.out⟩


theorem choice_call_down (v : Value) (w : World) : (callMethod (.iface 38 (.agg #[])) "loop.example/g01136/impl.choice" #[v]).run Try.prog w = .ok (.enter 75 #[.agg #[], v]) w := by kernel_rfl
theorem change_call_down (v x : Value) (w : World) : (callMethod (.iface 38 (.agg #[])) "loop.example/g01136/impl.change" #[v, x]).run Try.prog w = .ok (.enter 74 #[.agg #[], v, x]) w := by kernel_rfl
theorem nil_down (n : Nat) (w : World) : (nilAhead (n + 1) 38 (.agg #[]) "loop.example/g01136/impl.change").run Try.prog w = .ok (some false) w := by kernel_rfl
theorem choice_down (A : Option Addr) (c : Nat) (X : List Int) (r : Nat) (w : World) (_hl : X.length ≤ 1000) (h0 : 0 < X.length) (hr : X.getD (X.length - 1) 0 = (r : Int)) (hc : Cells w A X) :
    Calls Try.prog 75 #[.agg #[], .slice A X.length c] w fun e w' => e = .returned (.int .i64 r) ∧ Below w.heap.size w w' := by
  obtain ⟨b, o, rfl, hcc⟩ := hc h0
  have hck := (hcc (X.length - 1) (by omega)).trans (by rw [hr])
  have hck2 : (w.alloc (.cells #[] 38)).cell? ⟨b, o + (X.length - 1), none⟩ = some (.int .i64 (r : Int)) := by
    rw [((Below.refl _ _).alloc (Nat.le_refl _) _ : Below w.heap.size w (w.alloc (.cells #[] 38))).cell (World.block_lt_of_cell? w _ hck)]; exact hck
  obtain ⟨n, hn⟩ : ∃ n, n = X.length := ⟨_, rfl⟩
  rw [← hn] at hck hck2 _hl h0 ⊢
  have hw : IntKind.i64.wrap ((n : Int) - 1) = ((n - 1 : Nat) : Int) := by rw [IntWalk.i64_in _ (by omega)]; omega
  have hn2 : ((n - 1 : Nat) : Int) < (n : Int) := by omega
  have hn1 : n - 1 < n := by omega
  obtain ⟨n1, hn1e⟩ : ∃ n1, n1 = n - 1 := ⟨_, rfl⟩
  rw [← hn1e] at hck hck2 hw hn2 hn1
  clear hn1e
  clear hcc hr hn
  go_enter Try.func75, Try.ntmps75
  go_wp2
  go_ret
  exact ⟨rfl, (Below.refl _ _).alloc (Nat.le_refl _) _⟩
theorem change_down (A : Option Addr) (c : Nat) (p : List Int) (r : Nat) (w : World) (G : Good p) (hok : r < p.length ∧ p.getD (r + 1) 0 < p.getD r 0) (hno : A = none → p.length = 0 ∧ c = 0) (hc : Cells w A p) :
    Calls Try.prog 74 #[.agg #[], .slice A p.length c, .int .i64 r] w fun e w' => ∃ A' c', e = .returned (.slice A' (decL p r).length c') ∧ Own w' w.heap.size A' c' (decL p r) ∧ Below w.heap.size w w' := by
  have hw : Below w.heap.size w (w.alloc (.cells #[] 38)) := (Below.refl _ _).alloc (Nat.le_refl _) _
  have HC := hid (withoutCell_any A c p r (w.alloc (.cells #[] 38)) G hok.1 hok.2 hno (hc.later hw))
  have hsz : (w.alloc (.cells #[] 38)).heap.size = w.heap.size + 1 := by simp
  have HW := hid hw
  have HSZ := hid hsz
  clear hw hsz hc hno G hok
  go_enter Try.func74, Try.ntmps74
  go_wp2_with fail
  refine HC.out.mono ?_
  rintro e w1 ⟨A1, c1, rfl, o1, b1⟩
  have HO := hid (o1.more (by rw [HSZ.out]; omega) : Own w1 w.heap.size A1 c1 _)
  have HB := hid (Below.next HW.out b1)
  clear o1 b1
  go_wp2_with fail
  go_ret
  exact ⟨A1, c1, rfl, HO.out, HB.out⟩

set_option maxRecDepth 100000 in
set_option maxHeartbeats 8000000 in
theorem follow_down (A : Option Addr) (c : Nat) (xs : List Int) (t i : Int) (w : World) (hl : xs.length ≤ 1048576) (hno : A = none → xs.length = 0 ∧ c = 0) (hc : Cells w A xs) :
    Calls Try.prog 16 #[.slice A xs.length c, .int .i64 t, .int .i64 i, .iface 38 (.agg #[])] w fun e w' => ∃ A' c', e = .returned (.tuple #[.slice A' (dnF xs t i).length c', .bool (dnOk8 xs t i)]) ∧ Own w' w.heap.size A' c' (dnF xs t i) ∧ Below w.heap.size w w' := by
  cases h : asB xs t i
  · rw [show dnF xs t i = [] by simp [dnF, h], show dnOk8 xs t i = false by simp [dnOk8, h]]
    have H := hid h; clear h
    go_enter Try.func16, Try.ntmps16
    go_wp2_with (go_at_call 21; refine (canHaveArrows_b _ _ _ _ _ _ hl hc _ H.out).mono ?_; rintro e w' ⟨rfl, rfl⟩)
    go_ret2
    exact ⟨none, 0, rfl, own_nil _ _, Below.refl _ _⟩
  · obtain ⟨hg, G, ht, _⟩ := asB_t h
    obtain ⟨n, rfl⟩ : ∃ n : Nat, t = n := ⟨t.toNat, by omega⟩
    have HR := hid (rowsLeft_down A c xs n i w hg (by omega) hno hc)
    have hrl := sigM_len31 G.len n i
    have hfl := fl_le (red (sig xs n i)) 82
    have hRl : (RN (fl (red (sig xs n i)) 82)).length ≤ 31 := by rw [RN_len]; omega
    have H := hid h
    cases hu : dnRr (red (sig xs n i)) with
    | none =>
      rw [dnRr_no hu, show RN ([] : List Nat) = [] from rfl] at HR
      have e1 : dnF xs n i = [] := by simp [dnF, h, (ad_none hu).1]
      have e2 : dnOk8 xs n i = false := by simp [dnOk8, (ad_none hu).2]
      rw [e1, e2]
      clear h hu e1 e2 hrl hfl hRl G
      go_enter Try.func16, Try.ntmps16
      go_wp2_with (first | (go_at_call 21; refine (canHaveArrows_b _ _ _ _ _ _ hl hc _ H.out).mono ?_; rintro e w' ⟨rfl, rfl⟩) | (go_at_call 22; refine HR.out.mono ?_; rintro e w1 ⟨A1, c1, rfl, o1, b1⟩))
      go_ret2
      exact ⟨none, 0, rfl, own_nil _ _, b1⟩
    | some r =>
      obtain ⟨k0, k1⟩ := dnR_fl hu
      have hX0 : 0 < (RN (fl (red (sig xs n i)) 82)).length := by rw [RN_len]; exact k0
      have hXr : (RN (fl (red (sig xs n i)) 82)).getD ((RN (fl (red (sig xs n i)) 82)).length - 1) 0 = (r : Int) := by first | rw [RN_len, RN_get _ _ (by omega), k1] | rw [RN_get _ _ (by omega), k1]
      have hok := dn_ok G hu
      have hrl31 := hok.1
      have e1 : dnF xs n i = decL xs r := by simp [dnF, h, (ad_some hu).1]
      have e2 : dnOk8 xs n i = true := by simp [dnOk8, h, (ad_some hu).2]
      rw [e1, e2]
      obtain ⟨X, hX⟩ : ∃ X, X = RN (fl (red (sig xs n i)) 82) := ⟨_, rfl⟩
      rw [← hX] at HR hX0 hXr hRl
      have HX0 := hid hX0
      have HXR := hid hXr
      have HCHO := hid fun W A1 c1 (h : Cells W A1 X) => choice_down A1 c1 X r W (by omega) HX0.out HXR.out h
      have HCHA := hid fun W (h : Cells W A xs) => change_down A c xs r W G ⟨hok.1, hok.2.1⟩ hno h
      have hch := choice_call_down
      have hca := change_call_down
      have hna := nil_down
      have hx30 := G.len
      have hDl : (decL xs r).length ≤ 31 := by have := dec_len xs r; omega
      have HGOOD := hid ((good_iff _).2 (dec_good G hok.1 hok.2.1))
      obtain ⟨D, hD⟩ : ∃ D, D = decL xs r := ⟨_, rfl⟩
      rw [← hD] at HCHA hDl HGOOD
      rw [← hD]
      have HIP := hid fun A2 c2 W (h : Cells W A2 D) b hb => IsPartition_b A2 D c2 W (by omega) h b hb
      have HCC := hid hc
      clear h hu k0 k1 hok e1 e2 hrl hfl G hX hD hX0 hXr
      have hne : ¬ ((X.length : Nat) : Int) = 0 := by have := HX0.out; omega
      have HG := HGOOD
      go_enter Try.func16, Try.ntmps16
      go_wp2_with (first | (go_at_call 21; refine (canHaveArrows_b _ _ _ _ _ _ hl hc _ H.out).mono ?_; rintro e w' ⟨rfl, rfl⟩) | (go_at_call 22; refine HR.out.mono ?_; rintro e w1 ⟨A1, c1, rfl, o1, b1⟩))
      have HX1 := hid o1.cells
      have HB1 := hid b1
      have bd : Below w.heap.size w w1.drew := below_drewN b1 1
      have HBD := hid bd
      have HXD := hid (show Cells w1.drew A1 X from o1.cells)
      have HCD := hid (HCC.out.later bd)
      have HWN := hid b1.size
      clear o1 b1 bd
      go_region_with (first | (go_at_call 75; refine (HCHO.out _ _ _ HXD.out).mono ?_; rintro e w2 ⟨rfl, b2⟩; have HB2 := hid b2; have HC2 := hid (HCD.out.later b2); clear b2) | (go_at_call 74; refine (HCHA.out _ HC2.out).mono ?_; rintro e w3 ⟨A3, c3, rfl, o3, b3⟩; have HO3 := hid o3; have HB3 := hid b3; clear o3 b3))
      all_goals go_wp2_with (go_at_call 34; refine (HIP.out _ _ _ HO3.out.cells _ HG.out).mono ?_; rintro e w' ⟨rfl, rfl⟩)
      all_goals go_ret2
      all_goals exact ⟨A3, c3, rfl, HO3.out.more (Nat.le_trans HBD.out.size HB2.out.size), Below.next (Below.next HBD.out HB2.out) HB3.out⟩


set_option maxRecDepth 100000 in
theorem impl_ArrowUpC (A : Option Addr) (c : Nat) (xs : List Int) (t i : Int) (w : World) (hl : xs.length ≤ 1048576) (hno : A = none → xs.length = 0 ∧ c = 0) (hc : Cells w A xs) :
    Calls Try.prog 4 #[.slice A xs.length c, .int .i64 t, .int .i64 i] w fun e w' => ∃ A' c', e = .returned (.tuple #[.slice A' (upF xs t i).length c', .bool (upOk xs t i)]) ∧ Own w' w.heap.size A' c' (upF xs t i) ∧ Below w.heap.size w w' := by
  have HF := hid (follow_up A c xs t i w hl hno hc)
  have hmk := mk_up
  obtain ⟨R, hR⟩ : ∃ R, R = upF xs t i := ⟨_, rfl⟩
  obtain ⟨S, hS⟩ : ∃ S, S = upOk xs t i := ⟨_, rfl⟩
  rw [← hR, ← hS] at HF
  rw [← hR, ← hS]
  clear hR hS
  go_enter Try.func4, Try.ntmps4
  go_wp2_with fail
  refine HF.out.mono ?_
  rintro e w1 ⟨A1, c1, rfl, o1, b1⟩
  go_wp2_with fail
  go_ret2
  exact ⟨A1, c1, rfl, o1, b1⟩

set_option maxRecDepth 100000 in
theorem impl_ArrowDownC (A : Option Addr) (c : Nat) (xs : List Int) (t i : Int) (w : World) (hl : xs.length ≤ 1048576) (hno : A = none → xs.length = 0 ∧ c = 0) (hc : Cells w A xs) :
    Calls Try.prog 6 #[.slice A xs.length c, .int .i64 t, .int .i64 i] w fun e w' => ∃ A' c', e = .returned (.tuple #[.slice A' (dnF xs t i).length c', .bool (dnOk8 xs t i)]) ∧ Own w' w.heap.size A' c' (dnF xs t i) ∧ Below w.heap.size w w' := by
  have HF := hid (follow_down A c xs t i w hl hno hc)
  have hmk := mk_down
  obtain ⟨R, hR⟩ : ∃ R, R = dnF xs t i := ⟨_, rfl⟩
  obtain ⟨S, hS⟩ : ∃ S, S = dnOk8 xs t i := ⟨_, rfl⟩
  rw [← hR, ← hS] at HF
  rw [← hR, ← hS]
  clear hR hS
  go_enter Try.func6, Try.ntmps6
  go_wp2_with fail
  refine HF.out.mono ?_
  rintro e w1 ⟨A1, c1, rfl, o1, b1⟩
  go_wp2_with fail
  go_ret2
  exact ⟨A1, c1, rfl, o1, b1⟩

set_option maxRecDepth 100000 in
set_option maxHeartbeats 1000000 in
theorem impl_ArrowCountsC (A : Option Addr) (c : Nat) (xs : List Int) (t i : Int) (w : World) (hl : xs.length ≤ 1048576) (hno : A = none → xs.length = 0 ∧ c = 0) (hc : Cells w A xs) :
    Calls Try.prog 8 #[.slice A xs.length c, .int .i64 t, .int .i64 i] w fun e w' => e = .returned (.tuple #[.int .i64 (ctD xs t i), .int .i64 (ctU xs t i), .bool (asB xs t i)]) ∧ Below w.heap.size w w' := by
  cases h : asB xs t i
  · rw [show ctD xs t i = 0 by simp [ctD, h], show ctU xs t i = 0 by simp [ctU, h]]
    have H := hid h; clear h
    go_enter Try.func8, Try.ntmps8
    go_wp2_with (go_at_call 21; refine (canHaveArrows_b _ _ _ _ _ _ hl hc _ H.out).mono ?_; rintro e w' ⟨rfl, rfl⟩)
    go_ret3
    exact ⟨rfl, Below.refl _ _⟩
  · obtain ⟨hg, G, ht, _⟩ := asB_t h
    obtain ⟨n, rfl⟩ : ∃ n : Nat, t = n := ⟨t.toNat, by omega⟩
    have e1 : ctD xs n i = ((fl (red (sig xs n i)) 82).length : Nat) := by simp [ctD, h]
    have e2 : ctU xs n i = ((fl (red (sig xs n i)) 65).length : Nat) := by simp [ctU, h]
    rw [e1, e2]
    have HD := hid (rowsLeft_down A c xs n i w hg (by omega) hno hc)
    have HU := hid fun W (h : Cells W A xs) => rowsLeft_up A c xs n i W hg (by omega) hno h
    have hmu := mk_up
    have hmd := mk_down
    rw [RN_len] at HD HU
    have H := hid h
    have HC := hid hc
    clear h e1 e2 G
    go_enter Try.func8, Try.ntmps8
    go_wp2_with (go_at_call 21; refine (canHaveArrows_b _ _ _ _ _ _ hl hc _ H.out).mono ?_; rintro e w' ⟨rfl, rfl⟩)
    refine HD.out.mono ?_
    rintro e w1 ⟨A1, c1, rfl, o1, b1⟩
    have HC1 := hid (HC.out.later b1)
    have HB1 := hid b1
    clear o1 b1
    go_wp2_with fail
    refine (HU.out _ HC1.out).mono ?_
    rintro e w2 ⟨A2, c2, rfl, o2, b2⟩
    have HB2 := hid (Below.next HB1.out b2)
    clear o2 b2
    go_wp2_with fail
    go_ret3
    exact ⟨rfl, HB2.out⟩
end Go.Proofs.Ytdoahfjccpniaaa
