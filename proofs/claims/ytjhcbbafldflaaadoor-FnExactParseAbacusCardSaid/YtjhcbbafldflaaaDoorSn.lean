/-
  Contract: splitNumbers of the program.
-/
import Derived.Test.YtjhcbbafldflaaaDoorSpl
import Derived.Test.YtjhcbbafldflaaaDoorShp
import Derived.Test.YtjhcbbafldflaaaDoorCB
import Derived.Lib.SmallJoins
namespace Go.Proofs.YtjhcbbafldflaaaDoor
open Go.RowKit Go.Shelf

/-- What the package variables of the library hold, as far as the walks ask. -/
structure GV (w : World) : Prop where
  max : ∃ m, w.cell? ⟨0, 0, none⟩ = some (.int .i64 m)
  syn : ∃ ev, w.cell? ⟨1, 0, none⟩ = some ev ∧ (ev = .nilIface ∨ ∃ te pe, ev = .iface te pe)
  rng : ∃ ev, w.cell? ⟨2, 0, none⟩ = some ev ∧ (ev = .nilIface ∨ ∃ te pe, ev = .iface te pe)
theorem GV.below {w w' : World} (h : GV w) (hb : Below w.heap.size w w') : GV w' := by
  obtain ⟨m, hm⟩ := h.max
  obtain ⟨e1, h1, k1⟩ := h.syn
  obtain ⟨e2, h2, k2⟩ := h.rng
  exact ⟨⟨m, (hb.cell (World.block_lt_of_cell? w _ hm)).trans hm⟩, ⟨e1, (hb.cell (World.block_lt_of_cell? w _ h1)).trans h1, k1⟩, ⟨e2, (hb.cell (World.block_lt_of_cell? w _ h2)).trans h2, k2⟩⟩
/-- strconv.Atoi, where a number is read; where none is. -/
theorem atoi_yes (l : List UInt8) (w : World) (hl : l.length ≤ 1048576) (h : okW l = true) :
    Calls Tryd.prog 38 #[.string (mkB l)] w fun e w' => e = .returned (.tuple #[.int .i64 (vW l), .nilIface]) ∧ Below w.heap.size w w' := by
  have hs : (mkB l).size = l.length := by simp [mkB, ByteArray.size]
  have hd : (mkB l).data.toList = l := by simp [mkB]
  cases h1 : Lib.atoiAll l with
  | ok v =>
    have e2 : vW l = v := by simp [vW, h1]
    rw [e2]
    refine (Tryd.strconv_Atoi_ok (mkB l) (by omega) v (by rw [hd]; exact h1) w).mono ?_
    rintro e w' ⟨rfl, hw⟩
    refine ⟨rfl, ?_⟩
    rcases hw with rfl | ⟨t, rfl⟩
    · exact Below.refl _ _
    · exact Go.Joins.below_bytesWorld _ _ _ _ (Nat.le_refl _)
  | range => simp [okW, h1] at h
  | _ => simp [okW, h1] at h
theorem atoi_no (l : List UInt8) (w : World) (hl : l.length ≤ 1048576) (hv : GV w) (h : okW l = false) :
    Calls Tryd.prog 38 #[.string (mkB l)] w fun e w' => (∃ n te pe, e = .returned (.tuple #[.int .i64 n, .iface te pe])) ∧ Below w.heap.size w w' := by
  have hs : (mkB l).size = l.length := by simp [mkB, ByteArray.size]
  have hd : (mkB l).data.toList = l := by simp [mkB]
  cases h1 : Lib.atoiAll l with
  | ok v => simp [okW, h1] at h
  | range =>
    obtain ⟨ev, h2, h3⟩ := hv.rng
    refine (Tryd.strconv_Atoi_range (mkB l) (by omega) (by rw [hd]; exact h1) ev w h2 h3).mono ?_
    rintro e w' ⟨N, rfl, _, _, hb⟩
    exact ⟨⟨_, _, _, rfl⟩, hb⟩
  | _ =>
    obtain ⟨ev, h2, h3⟩ := hv.syn
    refine (Tryd.strconv_Atoi_syntax (mkB l) (by omega) (by rw [hd]; exact h1) ev w h2 h3).mono ?_
    rintro e w' ⟨N, rfl, _, _, hb⟩
    exact ⟨⟨_, _, _, rfl⟩, hb⟩
theorem spl_cells (b : UInt8) (s : ByteArray) : (Lib.splitB ⟨#[b]⟩ 0 (Lib.countB s ⟨#[b]⟩) s).map Value.string = wcL (spW b (strL s)) ∧ Lib.countB s ⟨#[b]⟩ + 1 = (spW b (strL s)).length := by
  have h1 := Lib.splitB_data ⟨#[b]⟩ 0 (Lib.countB s ⟨#[b]⟩) s
  have h2 : Lib.splitK [b] 0 (Lib.count (strL s) [b]) (strL s) = spW b (strL s) := split_spW b _ _ (Nat.le_refl _)
  have h3 : (Lib.splitB ⟨#[b]⟩ 0 (Lib.countB s ⟨#[b]⟩) s).map (·.data.toList) = spW b (strL s) := by rw [h1]; exact h2
  refine ⟨?_, ?_⟩
  · unfold wcL
    rw [← h3, List.map_map]
    refine List.map_congr_left fun x _ => ?_
    show Value.string x = Value.string (mkB (strL x))
    rw [mkB_str]
  · have := Lib.splitB_all ⟨#[b]⟩ (Nat.le_refl 1) 0 _ s rfl
    rw [← this, ← h3, List.length_map]

theorem rows_below {w w' : World} {B : Nat} {e : TypeId} {size : Nat} {v : Value} {n : Nat} {xs : List Value} (h : w.ownsRow B e size v n xs) (hb : Below w.heap.size w w') : w'.ownsRow B e size v n xs := by
  refine ⟨h.1, ?_⟩
  rcases h.2 with hn | ⟨g, cap, cur, hv, hbg, hg, rest⟩
  · exact .inl hn
  · exact .inr ⟨g, cap, cur, hv, hbg, (hb.block g (Array.getElem?_eq_some_iff.1 hg).1).trans hg, rest⟩
def snF (b : UInt8) (s : ByteArray) : List Int := if snB b s then snV b s else []
theorem spW_lens (b : UInt8) : ∀ l : List UInt8, (spW b l).length ≤ l.length + 1 ∧ ∀ w ∈ spW b l, w.length ≤ l.length
  | [] => by simp [spW]
  | c :: r => by
    obtain ⟨h1, h2⟩ := spW_lens b r
    unfold spW
    split
    · refine ⟨by simp; omega, fun w hw => ?_⟩
      rcases List.mem_cons.1 hw with e | e
      · subst e; simp
      · have := h2 w e; simp; omega
    · split
      · simp
      · rename_i w ws e
        rw [e] at h1 h2
        refine ⟨by simp at h1 ⊢; omega, fun x hx => ?_⟩
        rcases List.mem_cons.1 hx with e2 | e2
        · subst e2; have := h2 w (by simp); simp; omega
        · have := h2 x (List.mem_cons_of_mem _ e2); simp; omega

set_option maxRecDepth 100000 in
set_option maxHeartbeats 4000000 in
theorem splitNumbers_any (b : UInt8) (s : ByteArray) (w : World) (hs : s.size ≤ 1000000) (hv : GV w) :
    Calls Tryd.prog 29 #[.string s, .string ⟨#[b]⟩] w fun e w' => ∃ A' c', e = .returned (.tuple #[.slice A' (snF b s).length c', .bool (snB b s)]) ∧ Own w' w.heap.size A' c' (snF b s) ∧ Below w.heap.size w w' := by
  obtain ⟨i0, hi, hz0, hz1, hz2⟩ := info_parts Tryd.infoInt
  obtain ⟨m, hm⟩ := hv.max
  obtain ⟨k1, k2⟩ := spl_cells b s
  have HSP := hid (Tryd.strings_Split s ⟨#[b]⟩ m w (by omega) hm (Nat.le_refl 1))
  rw [k1, k2] at HSP
  obtain ⟨l1, l2⟩ := spW_lens b (strL s)
  rw [strL_len] at l1 l2
  have hF0 : snB b s = false → snF b s = [] := fun h => by simp [snF, h]
  have hF1 : snB b s = true → snF b s = (spW b (strL s)).map vW := fun h => by simp [snF, h, snV]
  have hB : snB b s = (spW b (strL s)).all okW := rfl
  obtain ⟨ws, hws⟩ : ∃ ws, ws = spW b (strL s) := ⟨_, rfl⟩
  rw [← hws] at HSP l1 l2 hF1 hB
  obtain ⟨w1, hw1⟩ : ∃ w1, w1 = w.alloc (.cells (wcL ws).toArray 9) := ⟨_, rfl⟩
  have b1 : Below w.heap.size w w1 := by rw [hw1]; exact (Below.refl _ _).alloc (Nat.le_refl _) _
  have hsz1 : w.heap.size < w1.heap.size := by rw [hw1]; simp
  have HC := hid (show ∀ k, k < ws.length → w1.cell? ⟨w.heap.size, k, none⟩ = some (.string (mkB (ws.getD k []))) from fun k hk => by
    rw [hw1]
    have h2 := wcL_get ws k hk
    rw [cell_of_row (w.alloc (.cells (wcL ws).toArray 9)) w.heap.size k (wcL ws).toArray.toList.toArray 9 (0, 0) (by simpa using World.alloc_heap_new w (.cells (wcL ws).toArray 9))]
    simpa using h2)
  rw [← hw1] at HSP
  have HV := hid (hv.below b1)
  have HL2 := hid l2
  have HB := hid hB
  have HF0 := hid hF0
  have HF1 := hid hF1
  obtain ⟨F, hF⟩ : ∃ F, F = snF b s := ⟨_, rfl⟩
  obtain ⟨B, hBB⟩ : ∃ B, B = snB b s := ⟨_, rfl⟩
  rw [← hF, ← hBB] at HF0 HF1
  rw [← hBB] at HB
  rw [← hF, ← hBB]
  clear hF hBB hF0 hF1 hB hw1 k1 k2 hws hm l2
  go_enter Tryd.func29, Tryd.ntmps29
  go_wp2_with fail
  refine HSP.out.mono ?_
  rintro e w1 ⟨rfl, rfl⟩
  go_wp2_with fail
  go_loopw [6, 15] (fun v i wr => ∃ k : Nat, k ≤ ws.length ∧ i = .int .i64 k ∧ Hid (wr.ownsRow w1.heap.size 3 1 v ((ws.take k).map vW).length (IL ((ws.take k).map vW))) ∧ Below w1.heap.size w1 wr ∧ Hid ((ws.take k).all okW = true)) (fun _ i _ => ws.length - (intOf i).toNat)
  case atStart => exact ⟨0, Nat.zero_le _, rfl, hid (World.ownsRow_nil _ _ _ _), Below.refl _ _, hid (by simp)⟩
  case round =>
    obtain ⟨k, hk, rfl, HOW, hbel, HOK⟩ := hrel
    have hszr := hbel.size
    by_cases hlt : k < ws.length
    · have hck := (hbel.cell (World.block_lt_of_cell? w1 _ (HC.out k hlt))).trans (HC.out k hlt)
      have hmem : ws.getD k [] ∈ ws := by rw [List.getD_eq_getElem?_getD, List.getElem?_eq_getElem hlt]; exact List.getElem_mem hlt
      have hll := HL2.out _ hmem
      have htk : ws.take (k + 1) = ws.take k ++ [ws.getD k []] := by
        rw [List.take_succ_eq_append_getElem hlt]; congr 2; simp [List.getD, hlt]
      obtain ⟨l, hl⟩ : ∃ l, l = ws.getD k [] := ⟨_, rfl⟩
      rw [← hl] at hck hll htk hmem
      have hlk : ((ws.take k).map vW).length ≤ 1048576 := by rw [List.length_map, List.length_take]; omega
      have HLK := hid hlk
      cases hok : okW l
      · have HA := hid (atoi_no l wr (by omega) (HV.out.below hbel) hok)
        have hBf : B = false := by
          rw [HB.out]
          cases ha : ws.all okW
          · rfl
          · rw [List.all_eq_true.1 ha l hmem] at hok; cases hok
        have hFf := HF0.out hBf
        subst hBf
        subst hFf
        clear hl htk hmem hok hlk
        go_wp2_with fail
        refine HA.out.mono ?_
        rintro e w2 ⟨⟨n, te, pe, rfl⟩, b2⟩
        go_wp2_with fail
        go_ret2
        exact ⟨none, 0, rfl, own_nil _ _, Below.next (Below.next b1 hbel) b2⟩
      · have HA := hid (atoi_yes l wr (by omega) hok)
        have HS := hid (show (ws.take (k + 1)).map vW = (ws.take k).map vW ++ [vW l] by rw [htk, List.map_append]; rfl)
        have HN := hid (show (ws.take (k + 1)).all okW = true by rw [htk, List.all_append, HOK.out]; simp [hok])
        obtain ⟨y, hy⟩ : ∃ y, y = vW l := ⟨_, rfl⟩
        rw [← hy] at HA HS
        obtain ⟨f, hf⟩ : ∃ f, f = (ws.take k).map vW := ⟨_, rfl⟩
        rw [← hf] at HOW HS HLK
        clear hl htk hmem hok hlk hy hf
        go_wp2_with fail
        refine HA.out.mono ?_
        rintro e w2 ⟨rfl, b2⟩
        have hbel2 := hbel.trans (b2.mono hszr)
        have hsz2 := hbel2.size
        have HOW2 := hid (show w2.ownsRow w1.heap.size 3 1 _ f.length (IL f) from rows_below HOW.out b2)
        go_wp2_with (at_builtin; refine wpList_append_own _ rfl _ _ 22 rfl w1.heap.size 3 i0 (.int .i64 0) 1 8 Tryd.underlying22 hi hz0 hz1 hz2 rfl (by decide) _ _ _ rfl (HOW2.out.alloc _) ⟨w2.heap.size, 0, none⟩ 1 1 [.int .i64 y] rfl rfl one_at (one_cell _) (by have := HLK.out; unfold maxLen; omega) (by have := HLK.out; omega) (by simp; omega) ?_)
        intro v' w4 hown' hgrow _
        have hb1 : Below w1.heap.size w1 w4 := (hbel2.alloc hsz2 _).grown hgrow (by simp; omega) (fun q hq => (HOW2.out.lt q hq).1)
        have hown2 := own_snoc HS.out hown'
        have HO2 := hid hown2
        clear hgrow hown' hown2
        go_wp2_with fail
        go_roundw
        case rel => exact ⟨k + 1, by omega, by go_num, HO2, hb1, HN⟩
        case measure => simp [intOf]; omega
    · have hkn : k = ws.length := by omega
      subst hkn
      have hown := HOW.out
      have hall := HOK.out
      rw [List.take_of_length_le (Nat.le_refl _)] at hown hall
      have hBt : B = true := by rw [HB.out, hall]
      have hFt := HF1.out hBt
      rw [← hFt] at hown
      obtain ⟨A', c', rfl, ho'⟩ := own_form hown rfl
      subst hBt
      clear hown hall hFt
      have hb2 := Below.next b1 hbel
      have hs1 := b1.size
      go_wp2_with fail
      go_ret2
      exact ⟨A', c', rfl, ho'.more hs1, hb2⟩
end Go.Proofs.YtjhcbbafldflaaaDoor
