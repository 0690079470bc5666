/-
  Contract: one more rim taken away in all ways.
-/
import Derived.Test.YtmbfobcbnnalbaaWaysM
import Derived.Test.YtmbfobcbnnalbaaWith1
import Derived.Test.YtmbfobcbnnalbaaCB
namespace Go.Proofs.Ytmbfobcbnnalbaa
open Go.RowKit Go.Maps Go.ChangeMaps Go.MapKept Go.WideMaps Go.WideElems Go.WideShapes

theorem iwrap (n : Int) : IntKind.i64.wrap n = wrap64 n := IntWalk.i64_left n
theorem size_le {w : World} {b n : Nat} {D : DataW Unit} (h : mOwn w b n D) : Maps.size D ≤ n := by
  obtain ⟨es, clock, _, _, hs, rfl⟩ := h
  simp only [Maps.size, length_sorted, List.length_map, Array.length_toList]
  exact hs
/-- What the outer loop keeps. -/
structure OutR (wr : World) (b b1 r n m' : Nat) (t : Int) (D0 : DataW Unit) (left : Lit → Bool) (cnt n1 : Nat) (D1 : DataW Unit) : Prop where
  rng : mRng wr b r n D0 left cnt
  own : mOwn wr b1 n1 D1
  keys : KeysAt D1 m'
  cnt : n1 + 12 * cnt ≤ 12 * n
  sum : ∀ G : List Int → Int, eqw (sumD D1 fun l => G (dec l)) (came D0 left (tkF t G))
/-- What the inner loop keeps: k rims of the entry at p have come. -/
structure InnR (wr : World) (b b1 r n m' : Nat) (t : Int) (D0 : DataW Unit) (left left' : Lit → Bool) (cnt n1 : Nat) (c : Int) (L : List (List Int × Int)) (k : Nat) (D1 : DataW Unit) : Prop where
  rng : mRng wr b r n D0 left' cnt
  own : mOwn wr b1 n1 D1
  keys : KeysAt D1 m'
  cnt : n1 + 12 + 12 * cnt ≤ 12 * n + k
  sum : ∀ G : List Int → Int, eqw (sumD D1 fun l => G (dec l)) (came D0 left (tkF t G) + c * tkS' (L.take k) G)
theorem InnR.keep {wr w' : World} {b b1 r n m' : Nat} {t : Int} {D0 : DataW Unit} {left left' : Lit → Bool} {cnt n1 : Nat} {c : Int} {L : List (List Int × Int)} {k : Nat} {D1 : DataW Unit}
    (h : InnR wr b b1 r n m' t D0 left left' cnt n1 c L k D1) (hb : Below wr.heap.size wr w') : InnR w' b b1 r n m' t D0 left left' cnt n1 c L k D1 := by
  have hg : wr.grownBy w' none := ⟨hb.os, hb.tape, hb.output, hb.size, fun i hi _ => hb.block i hi⟩
  exact ⟨h.rng.kept hg (by simp) (by simp), h.own.kept hg (by simp), h.keys, h.cnt, h.sum⟩

theorem grown_of_below {a c : World} (h : Below a.heap.size a c) : a.grownBy c none := ⟨h.os, h.tape, h.output, h.size, fun i hi _ => h.block i hi⟩
theorem Tks.kept {w w' : World} {B b : Nat} {v : Value} {L : List (List Int × Int)} {P : Nat → Option Addr} {C : Nat → Nat} (h : Tks w B v L P C) (hg : w.grownBy w' (some b)) (hb : b < B) : Tks w' B v L P C := by
  refine ⟨?_, fun j hj => (h.row j hj).keep fun k hk hlt => hg.block k hlt (fun e => by injection e with e; have := (h.row j hj).block k hk; omega)⟩
  have ho := h.out
  refine ⟨ho.1, ?_⟩
  rcases ho.2 with hn | ⟨g, cap, cur, hv, hbb, hgg, rest⟩
  · exact .inl hn
  · exact .inr ⟨g, cap, cur, hv, hbb, by rw [hg.block g (Array.getElem?_eq_some_iff.1 hgg).1 (fun e => by injection e with e; omega)]; exact hgg, rest⟩
theorem InnR.put {w6 w8 : World} {b b1 r n m' : Nat} {t : Int} {D0 : DataW Unit} {left left' : Lit → Bool} {cnt n1 : Nat} {c : Int} {L : List (List Int × Int)} {k : Nat} {D1 : DataW Unit}
    (h : InnR w6 b b1 r n m' t D0 left left' cnt n1 c L k D1) (hk : k < L.length) {q : List Int} {s c1 y1 y2 : Int} (hL : (q, s) = L.getD k tnil) (Gq : Good q) (hq : q.sum = m') (h12 : q.sum ≤ 12)
    (hat : D1.atKey (klit q) (.lit (.int .i64 0)) = .lit (.int .i64 c1)) (hy1 : y1 = wrap64 (c * s)) (hy2 : y2 = wrap64 (c1 + y1)) (ho : mOwn w8 b1 (n1 + 1) (D1.put (klit q) (.lit (.int .i64 y2)))) (hg : w6.grownBy w8 (some b1)) (hb : b ≠ b1) (hr : r ≠ b1) :
    InnR w8 b b1 r n m' t D0 left left' cnt (n1 + 1) c L (k + 1) (D1.put (klit q) (.lit (.int .i64 y2))) := by
  refine ⟨h.rng.kept hg (fun e => by injection e with e; exact hb e) (fun e => by injection e with e; exact hr e), ho, keys_put h.keys Gq hq _, by have := h.cnt; omega, fun G => ?_⟩
  rw [sumD_put h.own.tidy', hat, dec_k (Gq.sh h12), tkS_take L G k hk, ← hL, Int.mul_add, ← Int.add_assoc]
  refine (h.sum G).add ?_
  show eqw (G q * (y2 - c1)) (c * (s * G q))
  have e1 : eqw (y2 - c1) (c * s) := by
    obtain ⟨a1, ha1⟩ := eqw_wrap (c * s)
    obtain ⟨a2, ha2⟩ := eqw_wrap (c1 + y1)
    rw [← hy1] at ha1
    rw [← hy2] at ha2
    exact ⟨a1 + a2, by omega⟩
  have e2 := e1.mul (G q)
  rw [show c * (s * G q) = G q * (c * s) by rw [← Int.mul_assoc, Int.mul_comm]]
  exact e2

set_option maxRecDepth 100000 in
set_option maxHeartbeats 8000000 in
theorem without_any (b n m : Nat) (t : Int) (Φ : (List Int → Int) → Int) (D0 : DataW Unit) (w : World) (hm : m ≤ 12) (ht : 1 ≤ t ∧ t ≤ 12) (hn : n ≤ 1000000000000) (h0 : SW w b n m Φ D0) :
    Calls Try.prog 173 #[.map (some b), .int .i64 t] w fun e w' => ∃ b' D', e = .returned (.map (some b')) ∧ w.heap.size ≤ b' ∧ SW w' b' (12 * n) (m - t.toNat) (fun G => Φ (tkF t G)) D' ∧ Below w.heap.size w w' := by
  have hmm := @run_makeMap Try.prog
  have hlt := h0.own.lt
  have hownA : mOwn (w.alloc (.map #[] 0)) b n D0 := h0.own.alloc _
  have hnew : mOwn (w.alloc (.map #[] 0)) w.heap.size 0 (.map []) := World.ownsMap_made _ _ _ _
  have bA : Below w.heap.size w (w.alloc (.map #[] 0)) := (Below.refl _ _).alloc (Nat.le_refl _) _
  have HOA := hid hownA; have HNEW := hid hnew; have HBA := hid bA; have H0 := hid h0
  clear hownA hnew bA h0
  go_enter Try.func173, Try.ntmps173
  go_wp2_with (at_range; refine wpList_range_own _ rfl _ 110 rfl 107 3 Try.shKeyed Try.underlying110 _ b n D0 rfl HOA.out ?_)
  intro w0 hrg0 hg0 hs0
  try rw [World.size_alloc] at hs0
  go_wp2_with fail
  have HO0 := hid (show OutR w0 b w.heap.size (w.heap.size + 1) n (m - t.toNat) t D0 (has D0) (Maps.size D0) 0 (.map []) from
    ⟨hrg0, HNEW.out.kept hg0 (by simp), fun l hl => (by cases hl), by have := size_le HOA.out; omega, fun G => by rw [came_start HOA.out]; exact eqw.refl 0⟩)
  have HB0 := hid (HBA.out.trans ⟨hg0.os, hg0.tape, hg0.output, by have := hg0.size; omega, fun i hi => hg0.block i (by simp; omega) (by simp)⟩ : Below w.heap.size w w0)
  clear hrg0 hg0 hs0
  go_loopw [7] (fun _ wr => ∃ left cnt n1 D1, Hid (OutR wr b w.heap.size (w.heap.size + 1) n (m - t.toNat) t D0 left cnt n1 D1) ∧ Hid (Below w.heap.size w wr)) (fun _ wr => wr.rangeLeft b (w.heap.size + 1))
  case atStart => exact ⟨_, _, _, _, HO0, HB0⟩
  case round =>
    obtain ⟨left, cnt, n1, D1, HR, HB⟩ := hrel
    obtain ⟨wo, rfl⟩ : ∃ wo : World, wo = wr := ⟨_, rfl⟩
    go_wp2_with (at_next; refine wpList_next_ranges _ rfl _ rfl 107 Try.shKeyed (plainElem Try.prog 3) (fun v : Value => v) (Value.int .i64) (fun key kl _ => ⟨key, rfl⟩) (fun v y hv => by obtain ⟨c, rfl, _⟩ := plainElem_int_inv Try.underlying3 hv; exact ⟨c, rfl⟩) b (w.heap.size + 1) n D0 left cnt rfl HR.out.rng ?_ ?_)
    · intro hc0 hl0
      have HS1 := hid (show ∀ G : List Int → Int, eqw (sumD D1 fun l => G (dec l)) (Φ (tkF t G)) from fun G => (HR.out.sum G).trans (by rw [came_end hl0]; exact H0.out.sum (tkF t G)))
      have HOW := hid HR.out.own
      have HKS := hid HR.out.keys
      have hn1 : n1 ≤ 12 * n := by have := HR.out.cnt; omega
      have hwb := HOW.out.lt
      have HBW := hid HB.out
      clear hc0 hl0 HR HB
      go_wp2_with (at_range; refine wpList_range_own _ rfl _ 110 rfl 107 3 Try.shKeyed Try.underlying110 _ w.heap.size n1 D1 rfl HOW.out ?_)
      intro w2 hrg2 hg2 hs2
      have HG2 := hid hg2
      have HR2 := hid (show mRng w2 w.heap.size wo.heap.size n1 D1 (has D1) (Maps.size D1) from hrg2)
      clear hrg2 hg2 hs2
      go_wp2_with fail
      go_loopw [11] (fun _ wr => ∃ left2 cnt2 D2, Hid (mRng wr w.heap.size wo.heap.size n1 D2 left2 cnt2) ∧ Hid (KeysAt D2 (m - t.toNat)) ∧ Hid (∀ G : List Int → Int, eqw (sumD D2 fun l => G (dec l)) (Φ (tkF t G))) ∧ Hid (wo.grownBy wr (some w.heap.size))) (fun _ wr => wr.rangeLeft w.heap.size wo.heap.size)
      case atStart => exact ⟨_, _, _, HR2, HKS, HS1, hid (HG2.out.but _)⟩
      case round =>
        obtain ⟨left2, cnt2, D2, HRr, HKr, HSr, HGr⟩ := hrel
        obtain ⟨wi, rfl⟩ : ∃ wi : World, wi = wr := ⟨_, rfl⟩
        go_wp2_with (at_next; refine wpList_next_ranges _ rfl _ rfl 107 Try.shKeyed (plainElem Try.prog 3) (fun v : Value => v) (Value.int .i64) (fun key kl _ => ⟨key, rfl⟩) (fun v y hv => by obtain ⟨c, rfl, _⟩ := plainElem_int_inv Try.underlying3 hv; exact ⟨c, rfl⟩) w.heap.size wo.heap.size n1 D2 left2 cnt2 rfl HRr.out ?_ ?_)
        · intro _ _
          have HFIN := hid (show SW wi w.heap.size (12 * n) (m - t.toNat) (fun G => Φ (tkF t G)) D2 from ⟨HRr.out.owns.mono hn1, HKr.out, HSr.out⟩)
          have hbe : Below w.heap.size w wi := HBW.out.trans ⟨HGr.out.os, HGr.out.tape, HGr.out.output, HGr.out.size, fun i hi => HGr.out.block i (by omega) (fun e => by injection e with e; omega)⟩
          have HBE := hid hbe
          clear hbe
          go_wp2_with fail
          go_ret
          exact ⟨_, D2, rfl, Nat.le_refl _, HFIN.out, HBE.out⟩
        · intro key c l0 yd yp w3 cnt3 hkey hlx hv hat hrg3 hltc hg3 hs3 hen
          obtain ⟨p, Gp, hpm, rfl⟩ := HKr.out _ (has_true_of_atKey hat)
          have hSh := Gp.sh (by omega)
          obtain rfl : key = shV p := Try.shKeyed.inj hkey (key_of hSh)
          obtain ⟨c', ec, ey, hwc⟩ := plainElem_int_inv Try.underlying3 hv
          injection ec with _ ec
          subst ec
          injection ey with ey1 ey2
          subst ey1; subst ey2
          have HZ := hid (show (w3.alloc (.cells zShp 107)).heap[w3.heap.size]? = some (.cells zShp 107 (0, 0)) from heap_alloc_new _ _)
          obtain ⟨w4, hw4⟩ : ∃ w4, w4 = (w3.alloc (.cells zShp 107)).setRow w3.heap.size (ca 12 (shC p)) := ⟨_, rfl⟩
          have x4 : Blk w4 w3.heap.size 107 12 (shC p) := by
            rw [hw4]
            have h := Blk.new w3 107 12 (shC [])
            rw [← zShp_ca] at h
            exact setRow_blk h _
          have b4 : Below w3.heap.size w3 w4 := by rw [hw4]; exact setRow_below ((Below.refl _ _).alloc (Nat.le_refl _) _) (Nat.le_refl _) _
          have HW4 : Hid (w4 = (w3.alloc (.cells #[.int .i64 0, .int .i64 0, .int .i64 0, .int .i64 0, .int .i64 0, .int .i64 0, .int .i64 0, .int .i64 0, .int .i64 0, .int .i64 0, .int .i64 0, .int .i64 0] 107)).setRow w3.heap.size (ca 12 (shC p))) := hw4
          have HX4 := hid x4
          have HR4 := hid (show mRng w4 w.heap.size wo.heap.size n1 D2 (fun z => left2 z && !z.sameKey (klit p)) cnt3 from hrg3.kept (grown_of_below b4) (by simp) (by simp))
          have hGr3 : wo.grownBy w3 (some w.heap.size) := HGr.out.andThen hg3 (fun j e => by injection e with e; left; omega)
          have HG4 := hid (hGr3.andThen (grown_of_below b4) (fun j e => by cases e))
          have HAT := hid (hat (.lit (.int .i64 0)))
          have HL0 := hid HRr.out.left_eq
          have HLT := hid hltc
          have HKEY := hid hkey
          have HTI := hid (HRr.out.owns.tidy Try.shKeyed)
          have HS3 := hid hs3
          clear hkey hlx hv hat hrg3 hg3 hltc hw4 x4 b4 hGr3 hs3
          by_cases hc : c = 0
          · subst hc
            go_wp2_with (first | (refine wpList_store_row rfl 107 _ _ rfl w3.heap.size (ca 12 (shC p)) rfl rfl 107 zShp HZ.out (by rw [ca_size]; exact Try.shSize) (by rw [ca_size]; rfl) (shC_one p) ?_) | (refine wpList_load_row rfl 107 _ rfl w3.heap.size rfl 107 (ca 12 (shC p)) (0, 0) _ (HW4.out ▸ HX4.out) Try.underlying107 rfl (by rw [ca_size]; exact Try.shSize) ?_) | (at_delete; refine wpList_delete_ranges _ rfl _ _ 110 107 rfl 3 Try.shKeyed Try.underlying110 (plainElem Try.prog 3) w.heap.size wo.heap.size n1 D2 _ cnt3 rfl (HW4.out ▸ HR4.out) (shV p) (klit p) rfl HKEY.out ?_))
            intro w5 cnt5 hr5 hle5 ht5
            rw [← HW4.out] at ht5
            have HR5 := hid hr5
            have HK5 := hid (keys_del HKr.out (klit p))
            have HS5 := hid (show ∀ G : List Int → Int, eqw (sumD (D2.del (klit p)) fun l => G (dec l)) (Φ (tkF t G)) from fun G => by
              rw [sumD_del HTI.out, HAT.out]
              have e : dval (DataW.lit (Lit.int .i64 0) : DataW Unit) = 0 := rfl
              rw [e, Int.mul_zero, Int.sub_zero]
              exact HSr.out G)
            have HG5 := hid (HG4.out.andThen ht5.grown (fun j e => .inr e))
            have HL5 := hid hr5.left_eq
            have HLE5 := hid hle5
            clear hr5 hle5 ht5
            go_wp2_with fail
            exact ⟨⟨_, _, _, HR5, HK5, HS5, HG5⟩, by rw [HL5.out, HL0.out]; have := HLE5.out; have := HLT.out; omega⟩
          · have hc2 : (c == 0) = false := beq_eq_false_iff_ne.2 hc
            go_wp2_with (first | (refine wpList_store_row rfl 107 _ _ rfl w3.heap.size (ca 12 (shC p)) rfl rfl 107 zShp HZ.out (by rw [ca_size]; exact Try.shSize) (by rw [ca_size]; rfl) (shC_one p) ?_))
            rw [← HW4.out]
            have HL5 := hid HR4.out.left_eq
            go_wp2_with fail
            exact ⟨⟨_, _, _, HR4, HKr, HSr, HG4⟩, by rw [HL5.out, HL0.out]; exact HLT.out⟩
    · intro key c l0 yd yp w1 cnt1 hkey hlx hv hat hrg1 hltc hg1 hs1 hen
      obtain ⟨p, Gp, hpm, rfl⟩ := H0.out.keys _ (has_true_of_atKey hat)
      have hSh := Gp.sh (by omega)
      obtain rfl : key = shV p := Try.shKeyed.inj hkey (key_of hSh)
      obtain ⟨c', ec, ey, hwc⟩ := plainElem_int_inv Try.underlying3 hv
      injection ec with _ ec
      subst ec
      injection ey with ey1 ey2
      subst ey1; subst ey2
      have hstep := fun F => came_step (HOA.out : mOwn (w.alloc (.map #[] 0)) b n D0) hSh hlx (hat _) F
      have HB1 := hid ((HB.out).trans ⟨hg1.os, hg1.tape, hg1.output, hg1.size, fun i hi => hg1.block i (by have := HB.out.size; omega) (by intro e; injection e with e; omega)⟩ : Below w.heap.size w w1)
      have HI0 := hid (show InnR w1 b w.heap.size (w.heap.size + 1) n (m - t.toNat) t D0 left (fun z => left z && !z.sameKey (klit p)) cnt1 n1 c (tkL p t) 0 D1 from
        ⟨hrg1, HR.out.own.kept hg1 (by simp), HR.out.keys, by have := HR.out.cnt; omega, fun G => by
          have h := HR.out.sum G
          have e : c * tkS' ((tkL p t).take 0) G = 0 := by simp [tkS']
          rw [e, Int.add_zero]; exact h⟩)
      have HST := hid hstep
      have hr1 := HI0.out.rng.lt
      have HLE := hid (show mRng wo b (w.heap.size + 1) n D0 left cnt from HR.out.rng)
      have HS1 := hid hs1
      have HEN := hid hen
      have HLT := hid hltc
      have hwle := HB1.out.size
      clear hkey hlx hv hat hrg1 hg1 hstep hltc hs1
      have HZ := hid (show (w1.alloc (.cells zShp 107)).heap[w1.heap.size]? = some (.cells zShp 107 (0, 0)) from heap_alloc_new _ _)
      obtain ⟨w2, hw2⟩ : ∃ w2, w2 = (w1.alloc (.cells zShp 107)).setRow w1.heap.size (ca 12 (shC p)) := ⟨_, rfl⟩
      have x2 : Blk w2 w1.heap.size 107 12 (shC p) := by
        rw [hw2]
        have h := Blk.new w1 107 12 (shC [])
        rw [← zShp_ca] at h
        exact setRow_blk h _
      have b2 : Below w1.heap.size w1 w2 := by rw [hw2]; exact setRow_below ((Below.refl _ _).alloc (Nat.le_refl _) _) (Nat.le_refl _) _
      have HW2 := hid hw2; have HX2 := hid x2; have HB2 := hid b2
      have HW2' : Hid (w2 = (w1.alloc (.cells #[.int .i64 0, .int .i64 0, .int .i64 0, .int .i64 0, .int .i64 0, .int .i64 0, .int .i64 0, .int .i64 0, .int .i64 0, .int .i64 0, .int .i64 0, .int .i64 0] 107)).setRow w1.heap.size (ca 12 (shC p))) := hw2
      have HPA := hid fun W => parts_any p W hSh.len (fun j hj => (hSh.pos j hj).1)
      have HTK := hid fun A2 c2 W (h : Cells W A2 p) => takenRims_any A2 c2 p t W Gp (by omega) h
      have HTL := hid fun k (hk : k < (tkL p t).length) => tkL_at Gp (t := t) (by omega) k hk
      have hTl := tkK_len Gp (t := t) (by omega) p.length (Nat.le_refl _)
      change (tkL p t).length ≤ p.length at hTl
      have hpl := hSh.len
      clear hw2 x2 b2
      go_wp2_with (first | (refine wpList_store_row rfl 107 _ _ rfl w1.heap.size (ca 12 (shC p)) rfl rfl 107 zShp HZ.out (by rw [ca_size]; exact Try.shSize) (by rw [ca_size]; rfl) (shC_one p) ?_) | (refine wpList_load_row rfl 107 _ rfl w1.heap.size rfl 107 (ca 12 (shC p)) (0, 0) _ (HW2.out ▸ HX2.out) Try.underlying107 rfl (by rw [ca_size]; exact Try.shSize) ?_))
      rw [← HW2'.out]
      refine (HPA.out w2).mono ?_
      rintro e w3 ⟨A3, c3, rfl, hc3, b3⟩
      have HC3 := hid hc3
      have HB3 := hid (Below.next HB2.out b3)
      have hsw3 := HB3.out.size
      clear hc3 b3
      go_wp2_with fail
      refine (HTK.out _ _ _ HC3.out).mono ?_
      rintro e w4 ⟨v, P, C, rfl, ht4, b4⟩
      have HT4 := hid ht4
      have HB4 := hid (Below.next HB3.out b4)
      clear ht4 b4
      have HI4 := hid (HI0.out.keep HB4.out)
      have HST' := hid fun G => HST.out (tkF t G)
      have HKP := hid (klit_key hSh)
      have HF := hid (show ∀ G, tkF t G p = tkS' (tkL p t) G from fun G => rfl)
      obtain ⟨L, hL⟩ : ∃ L, L = tkL p t := ⟨_, rfl⟩
      rw [← hL] at HTL hTl HT4 HI4 HF
      clear hL HI0 HPA HTK HST HW2 HW2' HX2 HZ HEN
      -- the row of rims lies at a block, or is nil
      have hv4 := HT4.out.out
      obtain ⟨A4, c4, hveq⟩ : ∃ A4 c4, v = .slice A4 L.length c4 := by
        rcases hv4.2 with ⟨hvn, h0⟩ | ⟨g, cap, cur, hvn, _⟩
        · exact ⟨none, 0, by rw [h0]; exact hvn⟩
        · exact ⟨_, _, hvn⟩
      subst hveq
      clear hv4
      have hL12 : L.length ≤ 12 := by omega
      go_wp2_with fail
      go_loopw [25] (fun jv wr => ∃ k n2 D2, k ≤ L.length ∧ jv = .int .i64 (k : Nat) ∧ Hid (InnR wr b w.heap.size (w.heap.size + 1) n (m - t.toNat) t D0 left (fun z => left z && !z.sameKey (klit p)) cnt1 n2 c L k D2) ∧ Hid (Tks wr w3.heap.size (.slice A4 L.length c4) L P C) ∧ Hid (w1.grownBy wr (some w.heap.size))) (fun jv _ => L.length - (intOf jv).toNat)
      case atStart => exact ⟨0, _, _, Nat.zero_le _, rfl, HI4, HT4, hid ((grown_of_below HB4.out).but _)⟩
      case round =>
        obtain ⟨k, n2, D2, hk, rfl, HI, HT, HBr⟩ := hrel
        obtain ⟨wi, rfl⟩ : ∃ wi : World, wi = wr := ⟨_, rfl⟩
        by_cases hkl : k < L.length
        · obtain ⟨Gq, hqs, hql⟩ := HTL.out k hkl
          have hrow := HT.out.row k hkl
          have hc0 := TB_at (P := P) (C := C) (L := L) (j := k) (t := 0) hkl (by omega)
          have hc1 := TB_at (P := P) (C := C) (L := L) (j := k) (t := 1) hkl (by omega)
          have htk := fun G => tkS_take L G k hkl
          obtain ⟨g, rfl⟩ : ∃ g, A4 = some ⟨g, 0, none⟩ := by
            rcases HT.out.out.2 with ⟨_, hz⟩ | ⟨g, cap, cur, hvn, _⟩
            · omega
            · injection hvn with hvn; exact ⟨g, hvn⟩
          have f0 := World.ownsRow.cellAt HT.out.out (k * 2 + 0) (by omega)
          have f1 := World.ownsRow.cellAt HT.out.out (k * 2 + 1) (by omega)
          rw [hc0] at f0
          rw [hc1] at f1
          obtain ⟨qs, hqq⟩ : ∃ qs, qs = L.getD k tnil := ⟨_, rfl⟩
          rw [← hqq] at Gq hqs hql hrow f0 f1 htk
          obtain ⟨q, s⟩ := qs
          simp only at Gq hqs hql hrow f0 f1 htk
          change wi.cell? ⟨g, k * 2, none⟩ = some (.slice (P k) q.length (C k)) at f0
          change wi.cell? ⟨g, k * 2 + 1, none⟩ = some (.int .i64 s) at f1
          have HTKK := hid htk
          have HQQ := hid hqq
          have HROW := hid hrow
          clear hc0 hc1 htk hqq hrow
          go_upto_region 8 with fail
          obtain ⟨w5, hw5⟩ : ∃ w5, w5 = wi.alloc (.cells #[.slice (P k) q.length (C k), .int .i64 s] 143) := ⟨_, rfl⟩
          have X5 := hid (Box2.new wi 143 (.slice (P k) q.length (C k)) (.int .i64 s))
          have b5 : Below wi.heap.size wi w5 := by rw [hw5]; exact (Below.refl _ _).alloc (Nat.le_refl _) _
          have hs5 : w5.heap.size = wi.heap.size + 1 := by rw [hw5]; simp
          rw [← hw5] at X5 ⊢
          have HS5 := hid hs5
          have HI5 := hid (show InnR w5.drew b w.heap.size (w.heap.size + 1) n (m - t.toNat) t D0 left (fun z => left z && !z.sameKey (klit p)) cnt1 n2 c L k D2 from HI.out.keep (below_drewN b5 1))
          have HT5 := hid (show Tks w5.drew w3.heap.size (.slice (some ⟨g, 0, none⟩) L.length c4) L P C from HT.out.below (below_drewN b5 1))
          have HB5 := hid (show wi.grownBy w5.drew none from grown_of_below (below_drewN b5 1))
          have k0 : w5.drew.cell? ⟨wi.heap.size, 0, none⟩ = some (.slice (P k) q.length (C k)) := X5.out.cell0
          have k1 : w5.drew.cell? ⟨wi.heap.size, 1, none⟩ = some (.int .i64 s) := X5.out.cell1
          have HR5 := hid ((HROW.out.below (below_drewN b5 1)).cells : Cells w5.drew (P k) q)
          have hShq := Gq.sh (by omega)
          have HSH := hid fun W (h : Cells W (P k) q) => shapeOf_any (P k) (C k) q W hShq.len h
          have EG := hid (show ∀ args w, (callFunc 172 args).run Try.prog w = .ok (.enter 172 args) w from enters_of Try.func172 (by kernel_rfl) rfl)
          have hn2 : n2 < maxLen := by have := HI.out.cnt; unfold maxLen; omega
          have hrlt := HI.out.rng.lt
          have hq0 := Gq.sum0
          have hwne : wi.heap.size ≠ w.heap.size := by omega
          have hwi : wi.heap.size < w5.drew.heap.size := by show wi.heap.size < w5.heap.size; omega
          clear hw5 b5 hs5 f0 f1
          go_region_law (refine step_call _ rfl 172 #[.slice (P k) q.length (C k)] (exec_call1 _ _ (.tmp 31) 22 rfl _ (by first | rfl | (simp [Act.eval]; done) | (simp [Act.eval, Act.put]; done)) (EG.out _ _)) (fun v w' => v = shV q ∧ Below w5.drew.heap.size w5.drew w') ((HSH.out _ HR5.out).mono (by rintro e w' ⟨rfl, b6⟩; exact ⟨_, rfl, rfl, b6⟩)) ?_; rintro v w6 ⟨rfl, b6⟩; have I6 := hid (HI5.out.keep b6); have T6 := hid (HT5.out.below b6); have B6 := hid (HB5.out.andThen (grown_of_below b6) (fun j e => by cases e)); have j1 : w6.cell? ⟨wi.heap.size, 1, none⟩ = some (.int .i64 s) := (b6.cell hwi).trans k1; have s6 := b6.size; obtain ⟨c1, st, w7, hlk, hat1, hen1, hlk7, hg7, hst⟩ := own_entry Try.shLaw Try.underlying110 Try.underlying3 Try.zeroI I6.out.own hn2 (key_of hShq); have j2 : w7.cell? ⟨wi.heap.size, 1, none⟩ = some (.int .i64 s) := (World.cell?_of_block (w := w6) (hg7.block wi.heap.size (Nat.lt_of_lt_of_le hwi s6) (fun e => by injection e with e; exact absurd e hwne))).trans j1; obtain ⟨y1, hy1⟩ : ∃ y1, y1 = wrap64 (c * s) := ⟨_, rfl⟩; obtain ⟨y2, hy2⟩ : ∃ y2, y2 = wrap64 (c1 + y1) := ⟨_, rfl⟩; obtain ⟨w8, hst8, ho8, hg8⟩ := hst y2 (by rw [hy2]; exact wrap64_wf _); have HY1 := hid hy1; have HY2 := hid hy2; have e1 : IntKind.i64.wrap (c * s) = y1 := (iwrap _).trans hy1.symm; have e2 : IntKind.i64.wrap (c1 + y1) = y2 := (iwrap _).trans hy2.symm; have HAT1 := hid hat1; have HO8 := hid ho8; have HG8 := hid hg8; clear hy1 hy2 hat1 ho8 hg8 hst)
          all_goals go_wp2_with fail
          all_goals
            refine ⟨⟨k + 1, n2 + 1, _, by omega, by go_num, hid (I6.out.put hkl HQQ.out Gq (by omega) (by omega) HAT1.out HY1.out HY2.out HO8.out HG8.out (by omega) (by omega)), hid (T6.out.kept HG8.out (by omega)), hid (((HBr.out.andThen B6.out (fun j e => by cases e)).andThen HG8.out (fun j e => .inr e)))⟩, by simp [intOf]; omega⟩
        · have hkl2 : k = L.length := by omega
          subst hkl2
          have hIR := HI.out
          have HON := hid (show OutR wi b w.heap.size (w.heap.size + 1) n (m - t.toNat) t D0 (fun z => left z && !z.sameKey (klit p)) cnt1 n2 D2 from
            ⟨hIR.rng, hIR.own, hIR.keys, by have := hIR.cnt; omega, fun G => by
              have h := hIR.sum G
              rw [List.take_of_length_le (Nat.le_refl _)] at h
              rw [HST'.out G, HF.out G, Int.mul_comm]
              exact h⟩)
          have hle1 := hIR.rng.left_eq
          have hle0 := HLE.out.left_eq
          have HL1 := hid hle1; have HL0 := hid hle0
          have hbe : Below w.heap.size w wi := HB1.out.trans ⟨HBr.out.os, HBr.out.tape, HBr.out.output, HBr.out.size, fun i hi => HBr.out.block i (by omega) (fun e => by injection e with e; omega)⟩
          have HBE := hid hbe
          clear hIR hle1 hle0 hbe
          go_wp2_with fail
          exact ⟨⟨_, _, _, _, HON, HBE⟩, by rw [HL1.out, HL0.out]; exact HLT.out⟩
end Go.Proofs.Ytmbfobcbnnalbaa
