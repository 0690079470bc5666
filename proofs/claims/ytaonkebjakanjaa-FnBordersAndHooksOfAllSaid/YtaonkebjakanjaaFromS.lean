/-
  Contract: the partition of a border word, the model's side.
-/
import Derived.Test.YtaonkebjakanjaaFromMath
import Derived.Test.YtaonkebjakanjaaCB
namespace Go.Proofs.Ytaonkebjakanjaa
open Go.RowKit

def bl (s : ByteArray) : List UInt8 := s.data.toList
theorem bl_len (s : ByteArray) : (bl s).length = s.size := by
  show s.data.toList.length = s.data.size
  exact Array.length_toList
theorem bl_get (s : ByteArray) (k : Nat) (h : k < s.size) : (bl s)[k]'(by rw [bl_len]; exact h) = s[k] := by
  show s.data.toList[k]'_ = s.data[k]'_
  exact Array.getElem_toList _
def ruB (l : List UInt8) : Bool := l.all fun c => c == 82 || c == 85
theorem ruB_iff (l : List UInt8) : ruB l = true ↔ RU l := by simp [ruB, RU]
def fromP (s : ByteArray) : List Int := (fb (bl s)).1
def fromOK (s : ByteArray) : Bool := decide (s.size ≤ 60) && (ruB (bl s) && (good (fromP s) && decide (wordL (fromP s) = bl s)))
def fromF (s : ByteArray) : List Int := if fromOK s then fromP s else []
theorem from_no {s : ByteArray} (h : fromOK s = false) : fromF s = [] := by simp [fromF, h]
theorem from_yes {s : ByteArray} (h : fromOK s = true) : fromF s = fromP s := by simp [fromF, h]
theorem bound_FromBorder (s : ByteArray) : (fromF s).length ≤ 1048576 := by
  unfold fromF
  split
  · rename_i h
    have h60 : s.size ≤ 60 := by simp only [fromOK, Bool.and_eq_true, decide_eq_true_eq] at h; exact h.1
    have := (fb_len (bl s)).2.2
    rw [bl_len] at this
    unfold fromP; omega
  · simp
theorem strOf_bl (s : ByteArray) : strOf (bl s) = s := by cases s; simp [strOf, bl]
theorem no_ru {s : ByteArray} {k : Nat} (h : k < s.size) (h1 : s[k] ≠ 82) (h2 : s[k] ≠ 85) : fromOK s = false := by
  have : ¬ RU (bl s) := fun hr => by
    have := hr (s[k]) (by rw [← bl_get s k h]; exact List.getElem_mem _)
    rcases this with e | e
    · exact h1 e
    · exact h2 e
  have e : ruB (bl s) = false := by cases hb : ruB (bl s); rfl; exact absurd ((ruB_iff _).1 hb) this
  simp [fromOK, e]
theorem ru_take {s : ByteArray} {k : Nat} (h : k < s.size) (hr : RU ((bl s).take k)) (hc : s[k] = 82 ∨ s[k] = 85) : RU ((bl s).take (k + 1)) := by
  rw [List.take_succ_eq_append_getElem (by rw [bl_len]; exact h), bl_get s k h]
  intro c hc'
  rcases List.mem_append.1 hc' with h1 | h1
  · exact hr c h1
  · simp at h1; subst h1; exact hc
theorem fb_next (s : ByteArray) (k : Nat) (h : k < s.size) : fb ((bl s).take (k + 1)) = fbStep (fb ((bl s).take k)) s[k] := by
  rw [fb_take _ _ (by rw [bl_len]; exact h), bl_get s k h]
theorem bytes_ne {a b : ByteArray} (h : a ≠ b) : (a.toList == b.toList) = false := by
  rw [beq_eq_false_iff_ne]
  intro e
  rw [ByteArray.toList_eq, ByteArray.toList_eq] at e
  exact h (ByteArray.ext (Array.toList_inj.1 e))

set_option maxRecDepth 100000 in
set_option maxHeartbeats 2000000 in
theorem spec_FromBorder (s : ByteArray) (w : World) (hs : s.size ≤ 1048576) :
    Calls Try.prog 17 #[.string s] w fun e w' => ∃ A' c', e = .returned (.tuple #[.slice A' (fromF s).length c', .bool (fromOK s)]) ∧ Own w' w.heap.size A' c' (fromF s) ∧ Below w.heap.size w w' := by
  obtain ⟨i0, hi, hz0, hz1, hz2⟩ := info_parts Try.infoInt
  by_cases hbig : 60 < s.size
  · have hno : fromOK s = false := by simp [fromOK]; omega
    have hnf := from_no hno
    rw [hno, hnf]
    clear hno hnf
    go_enter Try.func17, Try.ntmps17
    go_wp2_with fail
    go_ret2
    exact ⟨none, 0, rfl, own_nil _ _, Below.refl _ _⟩
  · have h60 : s.size ≤ 60 := by omega
    clear hbig
    go_enter Try.func17, Try.ntmps17
    go_wp2_with fail
    rw [decide_eq_false (show ¬ (60 : Int) < (s.size : Int) by omega)]
    go_loopw [4, 5, 6] (fun out at_ i wr => ∃ k A c, k ≤ s.size ∧ i = .int .i64 (k : Nat) ∧ RU ((bl s).take k) ∧ at_ = .int .i64 ((fb ((bl s).take k)).2 : Nat) ∧ out = .slice A (fb ((bl s).take k)).1.length c ∧ Own wr w.heap.size A c (fb ((bl s).take k)).1 ∧ Below w.heap.size w wr) (fun _ _ i _ => s.size - (intOf i).toNat)
    case atStart => exact ⟨0, none, 0, Nat.zero_le _, rfl, by simp [RU], rfl, rfl, own_nil _ _, Below.refl _ _⟩
    case round =>
      obtain ⟨k, A, c, hk, rfl, hru, rfl, rfl, hown, hbel⟩ := hrel
      obtain ⟨st, hst⟩ : ∃ st, st = fb ((bl s).take k) := ⟨_, rfl⟩
      rw [← hst] at hown ⊢
      have hl1 : st.1.length ≤ 60 ∧ st.2 ≤ 60 := by
        have := fb_len ((bl s).take k)
        rw [← hst] at this
        have h3 : ((bl s).take k).length ≤ 60 := by rw [List.length_take, bl_len]; omega
        omega
      obtain ⟨hl1, hl2⟩ := hl1
      have HST := hid hst
      clear hst
      by_cases hlt : k < s.size
      · have hn := fb_next s k hlt
        rw [← HST.out] at hn
        by_cases h1 : s[k] = 82
        · have HN := hid (show fb ((bl s).take (k + 1)) = (st.1, st.2 + 1) by rw [hn, h1]; rfl)
          have HR := hid (ru_take hlt hru (.inl h1))
          clear hn
          go_wp2_with fail
          go_roundw
          case rel => exact ⟨k + 1, A, c, by omega, by go_num, HR.out, by rw [HN.out]; go_num, by rw [HN.out], by rw [HN.out]; exact hown, hbel⟩
          case measure => simp [intOf]; omega
        · by_cases h2 : s[k] = 85
          · have HN := hid (show fb ((bl s).take (k + 1)) = ((st.2 : Int) :: st.1, st.2) by rw [hn, h2]; rfl)
            have HR := hid (ru_take hlt hru (.inr h2))
            clear hn h1
            have hnone : A = none → st.1.length = 0 ∧ c = 0 := by rintro rfl; exact own_none hown
            have hnews : ∀ ad, A = some ad → ∀ (j : Nat) (u : Value), (IL st.1)[j]? = some u → (wr.alloc (.cells #[.int .i64 (st.2 : Nat)] 3)).cell? (ad.add j) = some u := by
              intro ad e; subst e; exact own_news hown _
            go_wp2_with (at_builtin; refine wpList_append_opt _ rfl _ _ 22 rfl wr.heap.size 3 i0 (.int .i64 0) 1 8 Try.underlying22 hi hz0 hz1 hz2 rfl (by decide) _ 1 [.int .i64 (st.2 : Nat)] rfl (World.ownsRow_lit (base := wr.heap.size) (e := 3) (size := 1) wr #[.int .i64 (st.2 : Nat)] 1 (Nat.le_refl _) (by unfold maxLen; omega) rfl) A st.1.length c (IL st.1) rfl (by simp [IL]) hnone hnews (by intro u hu; simp [IL] at hu; obtain ⟨x, _, rfl⟩ := hu; rfl) (by unfold maxLen; omega) (by omega) (by simp) ?_)
            intro v1 w1 hown1 hgrow1
            have hown2 : w1.ownsRow wr.heap.size 3 1 v1 (1 + st.1.length) (IL ((st.2 : Int) :: st.1)) := hown1
            obtain ⟨A1, c1, rfl, ho1⟩ := own_form hown2 (by simp; omega)
            have hb1 : Below wr.heap.size wr w1 := ((Below.refl _ _).alloc (Nat.le_refl _) _).grown hgrow1 (by simp) (fun q hq => Nat.le_of_eq (by simpa [Value.ownBlock] using hq))
            have HO := hid (ho1.more hbel.size)
            have HB := hid (Below.next hbel hb1)
            clear hown1 hown2 hgrow1 ho1 hb1
            go_wp2_with fail
            go_roundw
            case rel => exact ⟨k + 1, A1, c1, by omega, by go_num, HR.out, by rw [HN.out], by rw [HN.out], by rw [HN.out]; exact HO.out, HB.out⟩
            case measure => simp [intOf]; omega
          · have hno := no_ru hlt h1 h2
            have hnf := from_no hno
            have HNO := hid hno
            have HNF := hid hnf
            have hc1 : ¬ ((s[k].toNat : Int) = 82) := fun e => h1 (UInt8.toNat_inj.1 (by have : (82 : UInt8).toNat = 82 := rfl; omega))
            have hc2 : ¬ ((s[k].toNat : Int) = 85) := fun e => h2 (UInt8.toNat_inj.1 (by have : (85 : UInt8).toNat = 85 := rfl; omega))
            clear hno hnf hn
            go_wp2_with fail
            go_ret2
            exact ⟨none, 0, by rw [HNO.out, HNF.out]; rfl, by rw [HNF.out]; exact own_nil _ _, hbel⟩
      · have hke : k = s.size := by omega
        have htk : (bl s).take k = bl s := List.take_of_length_le (by rw [bl_len]; omega)
        have hst2 : st.1 = fromP s := by rw [HST.out, htk]; rfl
        rw [htk] at hru
        have hok : fromOK s = (good (fromP s) && decide (wordL (fromP s) = bl s)) := by
          unfold fromOK; rw [decide_eq_true h60, (ruB_iff _).2 hru]; simp
        obtain ⟨ps, hps⟩ : ∃ ps, ps = st.1 := ⟨_, rfl⟩
        rw [← hps] at hown hl1 hst2 ⊢
        rw [← hst2] at hok
        have HF := hid hst2
        have HOK := hid hok
        clear hst2 hok hps htk HST
        cases hg : good ps
        · have hno : fromOK s = false := by rw [HOK.out, hg]; rfl
          have hnf := from_no hno
          have HNO := hid hno
          have HNF := hid hnf
          have HG := hid hg
          clear hno hnf hg
          go_wp2_with (go_at_call 24; refine (ptGood_b _ _ _ _ (by omega) hown.cells _ HG.out).mono ?_; rintro e w' ⟨rfl, n, rfl⟩)
          go_ret2
          exact ⟨none, 0, by rw [HNO.out, HNF.out]; rfl, by rw [HNF.out]; exact own_nil _ _, below_drewN hbel _⟩
        · have G := (good_iff ps).1 hg
          by_cases hw : wordL ps = bl s
          · have hyes : fromOK s = true := by rw [HOK.out, hg, decide_eq_true hw]; rfl
            have hyf := from_yes hyes
            have HY := hid hyes
            have HYF := hid (hyf.trans HF.out.symm)
            have hsw : strOf (wordL ps) = s := by rw [hw, strOf_bl]
            have cw : ∀ w : World, Cells w A ps → Calls Try.prog 30 #[.slice A ps.length c] w fun e w' => e = .returned (.string s) ∧ w = w' := fun w hc => by
              have := ptWord_any A c ps w G hc
              rw [hsw] at this; exact this
            have HG := hid hg
            clear hyes hyf hw hg hsw
            go_wp2_with (first | (go_at_call 24; refine (ptGood_b _ _ _ _ (by omega) hown.cells _ HG.out).mono ?_; rintro e w' ⟨rfl, n, rfl⟩) | (go_at_call 30; refine (cw _ (by exact hown.cells)).mono ?_; rintro e w2 ⟨rfl, rfl⟩))
            go_ret2
            exact ⟨A, c, by rw [HY.out, HYF.out]; rfl, by rw [HYF.out]; exact hown, below_drewN hbel _⟩
          · have hno : fromOK s = false := by rw [HOK.out, hg, decide_eq_false hw]; rfl
            have hnf := from_no hno
            have HNO := hid hno
            have HNF := hid hnf
            have hsw : strOf (wordL ps) ≠ s := fun e => hw (by
              have : bl (strOf (wordL ps)) = bl s := by rw [e]
              simpa [bl, strOf] using this)
            have hbn := bytes_ne hsw
            have HG := hid hg
            clear hno hnf hw hg hsw
            go_wp2_with (first | (go_at_call 24; refine (ptGood_b _ _ _ _ (by omega) hown.cells _ HG.out).mono ?_; rintro e w' ⟨rfl, n, rfl⟩) | (go_at_call 30; refine (ptWord_any _ _ _ _ G (by exact hown.cells)).mono ?_; rintro e w2 ⟨rfl, rfl⟩))
            go_ret2
            exact ⟨none, 0, by rw [HNO.out, HNF.out]; rfl, by rw [HNF.out]; exact own_nil _ _, below_drewN hbel _⟩
end Go.Proofs.Ytaonkebjakanjaa
