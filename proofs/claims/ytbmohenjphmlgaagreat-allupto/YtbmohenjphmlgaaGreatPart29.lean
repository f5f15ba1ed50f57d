/- Part 29 of a proof: what the last text needs. -/
import Derived.Test.YtbmohenjphmlgaaGreatPart28
import Derived.Test.YtbmohenjphmlgaaGreatPart19
import Derived.Test.YtbmohenjphmlgaaGreatPart22
/- The walk of Get (of the document's own answer). -/
namespace Go.Proofs.YtbmohenjphmlgaaGreat
open Go.RowKit
set_option maxRecDepth 100000

/-- What the first look reads. -/
def GfS (r0 b o : Nat) (hv : Value) (s : ByteArray) (w : World) : Prop := w.cell? ⟨r0, 0, none⟩ = some hv ∧ w.cell? ⟨b, o, none⟩ = some (.string s)

theorem gfS_later {r0 b o : Nat} {hv : Value} {s : ByteArray} {w w' : World} (h : GfS r0 b o hv s w) (hb : Below w.heap.size w w') : GfS r0 b o hv s w' :=
  ⟨(hb.cell (p := ⟨r0, 0, none⟩) (World.block_lt_of_cell? w _ h.1)).trans h.1, (hb.cell (p := ⟨b, o, none⟩) (World.block_lt_of_cell? w _ h.2)).trans h.2⟩

def GLoop (w : World) (X : Nat) (S : List (List UInt8)) (T : Option Tr.Way) (fi : Value) (wr : World) : Prop := ∃ (first : Bool) (f : Nat) (y : Tr.Way) (a5 : Option Addr) (c5 : Nat), fi = .bool first ∧ Hid (GetSt w X S T first f wr y a5 c5)

theorem _root_.Go.Proofs.YtbmohenjphmlgaaGreat.BrdC.wider {B C : Nat} {w : World} {v : Value} {l : List UInt8} (h : BrdC B w v l) (hB : B ≤ C) : BrdC C w v l := by
  rcases h with h | ⟨b, off, cap, hv, hcap, hlt, hc⟩
  · exact .inl h
  · exact .inr ⟨b, off, cap, hv, hcap, Nat.lt_of_lt_of_le hlt hB, hc⟩

set_option maxHeartbeats 12800000 in
theorem refGet_any (R : Nat → Prop) (r0 : Nat) (l : List (Int × ByteArray)) (K : List ByteArray) (x : Int) (key : ByteArray) (w : World) (h : RAt R w r0 l K) (hr : Rises l) (hl : l.length ≤ 8) (h8 : ∀ q ∈ l, q.2.size = 8) (hK : K.length ≤ 200) (hs : ∀ e ∈ K, e.size ≤ 1000) (ht : ∀ e ∈ K, ∃ t, Tr.reads e.data.toList = some t) :
    Calls Tryz.prog 42 #[.pointer (some ⟨r0, 0, none⟩), .int .i64 x, .string key] w (RGet (tellAt l (bl K) x key.data.toList) w) := by
  obtain ⟨ah, ch, ak, ck, h0⟩ := h
  have H0 := hid h0
  have HHD := hid (refHead_any r0 ah ch (.slice ak K.length ck) l x w h0.cell (hown_rd h0.heads) (by omega))
  have HRD := hid (hown_rd h0.heads)
  have c0 : w.cell? ⟨r0, 0, none⟩ = some (.slice ah l.length ch) := by rw [cell_of_row _ _ 0 _ _ _ h0.cell]; rfl
  have hlt0 := (Array.getElem?_eq_some_iff.1 h0.cell).1
  have HFIND := hid (fun wx (hb : Below w.heap.size w wx) s => refFind_any r0 ak ck (.slice ah l.length ch) K s wx ((hb.block r0 hlt0).trans h0.cell) (((town_rd h0.kept).later hb).wider hb.size) (by omega) hs)
  have HS := hid hs
  have HT := hid ht
  clear h0 hs ht
  go_enter Tryz.func42, Tryz.ntmps42
  go_wp2_with fail
  refine HHD.out.mono ?_
  rintro e w1 ⟨n, rfl, hn, b1⟩
  have HB1 := hid b1
  have x0 := (b1.cell (p := ⟨r0, 0, none⟩) hlt0).trans c0
  rcases hn with ⟨i, hi, rfl, hix⟩ | ⟨rfl, hne⟩
  · have HTA := hid (tellAt_some (S := bl K) (key := key.data.toList) hr hi hix)
    obtain ⟨bh, oh, rfl, hbh, d0, d1⟩ := HRD.out i hi
    have x2 := (b1.cell (p := ⟨bh, oh + i * 2 + 1, none⟩) hbh).trans d1
    have i1 : ¬ (i : Int) < 0 := by omega
    have i2 : (i : Int) < (l.length : Int) := by omega
    have i3 : (0 : Int) ≤ (i : Int) := by omega
    have h8' := h8 _ (List.getElem_mem hi)
    generalize l[i].2 = r' at *
    by_cases hk6 : 6 < key.size
    · have j1 : (6 : Int) < (key.size : Int) := by omega
      have HE : Hid (tellAt l (bl K) x key.data.toList = ([], false, 3)) := by rw [Hid, HTA.out]; exact if_pos (by rw [ba_len]; exact hk6)
      clear b1 d0 d1 hix
      go_wp2_with fail
      refine bodyPost_ret (v := .tuple #[.string ⟨#[]⟩, .bool false, .int .i64 3]) (by simp [results, Tryz.results42, go_sem]) rfl ?_
      exact rget_of (v := []) HE.out HB1.out
    · have j1 : ¬ (6 : Int) < (key.size : Int) := by omega
      have HE : Hid (tellAt l (bl K) x key.data.toList = Tr.tellEnd (Tr.tellR (bl K) r'.data.toList key.data.toList)) := by rw [Hid, HTA.out]; exact Tr.tell_is (by rw [ba_len]; exact hk6)
      have HDG := hid (fun w => digits_any key w (by omega))
      have HLT := hid (Tr.digits_lt key.data.toList)
      have HDL : Hid ((Tr.digits key.data.toList).length ≤ 12) := by rw [Hid, Tr.digits_len, ba_len]; omega
      have HRN : Hid (r'.data.toList ≠ []) := by
        intro h
        have := ba_len r'
        rw [h] at this
        simp at this
        omega
      have hS : GfS r0 bh (oh + i * 2 + 1) (.slice (some ⟨bh, oh, none⟩) l.length ch) r' w1 := ⟨x0, x2⟩
      clear b1 d0 d1 hix c0 x0 x2 h8'
      go_wp2_with fail
      refine wp_region_held_drew (S := GfS r0 bh (oh + i * 2 + 1) (.slice (some ⟨bh, oh, none⟩) l.length ch) r') (by kernel_rfl) hS (fun hHeld => ?_)
      refine wpAnyH_take (i := 0) (v := .string key) rfl (by kernel_rfl) (by kernel_rfl) (by kernel_rfl) (fun _ _ _ h => h) (Or.inl ⟨by kernel_rfl, ?_⟩) hHeld ?_
      · (intro w' hSw; have q0 := hSw.1; have q1 := hSw.2; go_simp)
      try simp only [Act.put]
      refine wpAnyH_take (i := 2) (v := .pointer (some ⟨r0, 0, none⟩)) rfl (by kernel_rfl) (by kernel_rfl) (by kernel_rfl) (fun _ _ _ h => h) (Or.inl ⟨by kernel_rfl, ?_⟩) hHeld ?_
      · (intro w' hSw; have q0 := hSw.1; have q1 := hSw.2; go_simp)
      try simp only [Act.put]
      refine wpAnyH_take (i := 3) (v := .pointer (some ⟨r0, 0, none⟩)) rfl (by kernel_rfl) (by kernel_rfl) (by kernel_rfl) (fun _ _ _ h => h) (Or.inl ⟨by kernel_rfl, ?_⟩) hHeld ?_
      · (intro w' hSw; have q0 := hSw.1; have q1 := hSw.2; go_simp)
      try simp only [Act.put]
      refine wpAnyH_take (i := 4) (v := .pointer (some ⟨r0, 0, none⟩)) rfl (by kernel_rfl) (by kernel_rfl) (by kernel_rfl) (fun _ _ _ h => h) (Or.inl ⟨by kernel_rfl, ?_⟩) hHeld ?_
      · (intro w' hSw; have q0 := hSw.1; have q1 := hSw.2; go_simp)
      try simp only [Act.put]
      refine wpAnyH_take (i := 5) (v := .slice (some ⟨bh, oh, none⟩) l.length ch) rfl (by kernel_rfl) (by kernel_rfl) (by kernel_rfl) (fun _ _ _ h => h) (Or.inl ⟨by kernel_rfl, ?_⟩) hHeld ?_
      · (intro w' hSw; have q0 := hSw.1; have q1 := hSw.2; go_simp)
      try simp only [Act.put]
      refine wpAnyH_take (i := 6) (v := .int .i64 i) rfl (by kernel_rfl) (by kernel_rfl) (by kernel_rfl) (fun _ _ _ h => h) (Or.inl ⟨by kernel_rfl, ?_⟩) hHeld ?_
      · (intro w' hSw; have q0 := hSw.1; have q1 := hSw.2; go_simp)
      try simp only [Act.put]
      refine wpAnyH_take (i := 7) (v := .pointer (some ⟨bh, oh + i * 2, none⟩)) rfl (by kernel_rfl) (by kernel_rfl) (by kernel_rfl) (fun _ _ _ h => h) (Or.inl ⟨by kernel_rfl, ?_⟩) hHeld ?_
      · (intro w' hSw; have q0 := hSw.1; have q1 := hSw.2; go_simp)
      try simp only [Act.put]
      refine wpAnyH_take (i := 8) (v := .pointer (some ⟨bh, oh + i * 2 + 1, none⟩)) rfl (by kernel_rfl) (by kernel_rfl) (by kernel_rfl) (fun _ _ _ h => h) (Or.inl ⟨by kernel_rfl, ?_⟩) hHeld ?_
      · (intro w' hSw; have q0 := hSw.1; have q1 := hSw.2; go_simp)
      try simp only [Act.put]
      refine wpAnyH_take (i := 9) (v := .string r') rfl (by kernel_rfl) (by kernel_rfl) (by kernel_rfl) (fun _ _ _ h => h) (Or.inl ⟨by kernel_rfl, ?_⟩) hHeld ?_
      · (intro w' hSw; have q0 := hSw.1; have q1 := hSw.2; go_simp)
      try simp only [Act.put]
      refine wpAnyH_ready (rs := [1, 11]) (by kernel_rfl) (by simp) ?_
      refine AllReadyH.cons rfl (fun K' hK => ?_) (AllReadyH.cons rfl (fun K' hK => ?_) AllReadyH.nil)
      · go_simp
        refine (HDG.out _).mono ?_
        rintro e w2 ⟨ad, cd, rfl, hown, b2⟩
        have B2 : Hid (Below w1.heap.size w1 w2) := below_undrew b2
        refine hK.out _ _ (gfS_later hS B2.out) (fun hHeld2 => ?_)
        clear hK K'
        try simp only [List.setIfInBounds_toArray, List.set_cons_zero, List.set_cons_succ]
        refine wpAnyH_take (i := 10) (v := .agg #[.slice ad (Tr.digits key.data.toList).length cd, .bool false, .string ⟨#[]⟩, .bool false, .string r']) rfl (by kernel_rfl) (by kernel_rfl) (by kernel_rfl) (fun _ _ _ h => h) (Or.inl ⟨by kernel_rfl, ?_⟩) hHeld2 ?_
        · (intro w' hSw; go_simp)
        try simp only [Act.put]
        refine wpAnyH_ready (rs := [11]) (by kernel_rfl) (by simp) ?_
        refine AllReadyH.cons rfl (fun K' hK => ?_) AllReadyH.nil
        go_simp
        have HW9 : Hid (Below w1.heap.size w1 (w2.alloc (.cells #[.slice none 0 0, .bool false, .string ⟨#[]⟩, .bool false, .string ⟨#[]⟩] 117))) := B2.out.alloc B2.out.size _
        refine hK.out _ _ (gfS_later hS HW9.out) (fun hHeld3 => ?_)
        clear hK K'
        try simp only [List.setIfInBounds_toArray, List.set_cons_zero, List.set_cons_succ]
        have HXX : Hid ((w2.alloc (.cells #[.slice none 0 0, .bool false, .string ⟨#[]⟩, .bool false, .string ⟨#[]⟩] 117)).heap[w2.heap.size]? = some (.cells #[.slice none 0 0, .bool false, .string ⟨#[]⟩, .bool false, .string ⟨#[]⟩] 117 (0, 0))) := heap_alloc_new _ _
        have HXL : Hid (w1.heap.size ≤ w2.heap.size) := B2.out.size
        have HDI : Hid (BrdC (w2.alloc (.cells #[.slice none 0 0, .bool false, .string ⟨#[]⟩, .bool false, .string ⟨#[]⟩] 117)).heap.size (w2.alloc (.cells #[.slice none 0 0, .bool false, .string ⟨#[]⟩, .bool false, .string ⟨#[]⟩] 117)) (.slice ad (Tr.digits key.data.toList).length cd) (Tr.digits key.data.toList)) := (brdC_of_bown hown).later ((Below.refl _ _).alloc (Nat.le_refl _) _)
        clear hown b2 B2 hHeld hHeld2
        generalize hW9 : w2.alloc (.cells #[.slice none 0 0, .bool false, .string ⟨#[]⟩, .bool false, .string ⟨#[]⟩] 117) = W9 at *
        generalize hX9 : w2.heap.size = X at *
        clear hW9 hX9
        have HX : Hid (W9.heap[X]? = some (.cells #[.slice none 0 0, .bool false, .string ⟨#[]⟩, .bool false, .string ⟨#[]⟩] 117 (0, 0))) := HXX.out
        have HBN : Hid (Below w1.heap.size w1 (set5 W9 X (.slice ad (Tr.digits key.data.toList).length cd) (.bool false) (.string ⟨#[]⟩) (.bool false) (.string r'))) := set5_below HW9.out HXL.out _ _ _ _ _
        have HST0 : Hid (GetSt w X (bl K) (Tr.tellR (bl K) r'.data.toList key.data.toList) true 0 (set5 W9 X (.slice ad (Tr.digits key.data.toList).length cd) (.bool false) (.string ⟨#[]⟩) (.bool false) (.string r')) ⟨Tr.digits key.data.toList, false, [], false, r'.data.toList⟩ ad cd) :=
          ⟨by rw [show (⟨r'.data.toList.toArray⟩ : ByteArray) = r' by cases r'; simp]; exact set5_row HX.out _ _ _ _ _, brdC_set5 HX.out HDI.out _ _ _ _ _, Tr.rest_first _ _ _ _, (fun h => by cases h), fun _ => HRN.out, HLT.out, HDL.out, HB1.out.trans (HBN.out.mono HB1.out.size), Nat.le_trans HB1.out.size HXL.out⟩
        refine wpAnyH_ready (rs := [12]) (by kernel_rfl) (by simp) ?_
        refine AllReadyH.cons rfl (fun K' hK => ?_) AllReadyH.nil
        obtain ⟨v0, v1, v2, v3, v4, z0, z1, z2, z3, z4⟩ := way_facts HX.out
        go_simp
        refine hK.out _ _ (gfS_later hS HBN.out) (fun _ => ?_)
        clear hK K' v0 v1 v2 v3 v4 z0 z1 z2 z3 z4
        try simp only [List.setIfInBounds_toArray, List.set_cons_zero, List.set_cons_succ]
        refine wpAnyH_done (by kernel_rfl) ?_ _
        show Exit.then _ _ _ _ (set5 W9 X (.slice ad (Tr.digits key.data.toList).length cd) (.bool false) (.string ⟨#[]⟩) (.bool false) (.string r'))
        clear HW9 HX HBN HXL HDI HXX
        generalize hWZ : set5 W9 X (.slice ad (Tr.digits key.data.toList).length cd) (.bool false) (.string ⟨#[]⟩) (.bool false) (.string r') = WZ at *
        clear hWZ
        go_wp2_with fail
        go_loopw [11] (fun fi wr => GLoop w X (bl K) (Tr.tellR (bl K) r'.data.toList key.data.toList) fi wr) (fun _ wr => wayM X wr)
        case atStart => exact ⟨true, 0, _, ad, cd, rfl, HST0.out⟩
        case round =>
          obtain ⟨first, f, y, a5, c5, rfl, HST⟩ := hrel
          have HM := hid HST.out.m
          obtain ⟨nd, hnd⟩ : ∃ nd : ByteArray, nd = ⟨y.need.toArray⟩ := ⟨_, rfl⟩
          obtain ⟨vd, hvd⟩ : ∃ vd : ByteArray, vd = ⟨y.value.toArray⟩ := ⟨_, rfl⟩
          have HND : Hid (nd.data.toList = y.need) := by rw [hnd]; rfl
          have HVD := hid hvd
          obtain ⟨v0, v1, v2, v3, v4, z0, z1, z2, z3, z4⟩ := way_facts HST.out.row
          rw [← hnd] at v4
          rw [← hvd] at v2
          have hXr : X < wr.heap.size := (Array.getElem?_eq_some_iff.1 HST.out.row).1
          clear hvd hnd
          by_cases hyn : y.need = []
          · have he1 : nd.toList.isEmpty = true := by
              rw [ByteArray.toList_eq, HND.out, hyn]
              rfl
            have hfi : first = false := by
              cases first with
              | false => rfl
              | true => exact absurd hyn (HST.out.need rfl)
            subst hfi
            have HU : Hid (tellAt l (bl K) x key.data.toList = (y.value, y.found, 0)) := by rw [Hid, HE.out, HST.out.inv, Tr.rest_end hyn]; rfl
            have HB := hid HST.out.old
            clear hyn
            go_wp2_with fail
            go_quiet (fail)
            go_wp2_with fail
            refine bodyPost_ret (v := .tuple #[.string vd, .bool y.found, .int .i64 0]) (by simp [results, Tryz.results42, go_sem]) rfl ?_
            rw [HVD.out]
            exact rget_of HU.out (below_drewN _ HB.out)
          · have he1 : nd.toList.isEmpty = false := by
              rw [ByteArray.toList_eq, HND.out]
              cases hq : y.need with
              | nil => exact absurd hq hyn
              | cons c r => rfl
            have HFW := hid (HFIND.out _ HST.out.old nd)
            go_wp2_with fail
            refine HFW.out.mono ?_
            rintro e w4 ⟨t, fd, rfl, hfd, b4⟩
            have HST4 := hid (HST.out.later b4)
            have HB4 := hid b4
            clear b4 v0 v1 v2 v3 v4 z0 z1 z2 z3 z4
            rcases hfd with ⟨rfl, htK, hf⟩ | ⟨rfl, rfl, hf⟩
            · have HFD : Hid (Tr.find (bl K) y.need = some t.data.toList) := by rw [Hid, ← HND.out]; exact hf
              clear hf
              cases first with
              | true =>
                have hrd := HT.out t htK
                obtain ⟨tt, hrd⟩ := hrd
                have HRD2 := hid hrd
                have HWH := hid (fun w => wholeT_any t w (HS.out t htK) tt hrd)
                clear hrd
                go_wp2_with fail
                refine (HWH.out _).mono ?_
                rintro e w5 ⟨ax, cx, rfl, hwt, hrep, b5⟩
                have HST5 := hid (HST4.out.later b5)
                have b45 := hid b5
                have HBA : Hid (Below w5.heap.size w5 (w5.alloc (.cells #[.bool tt.list, .string ⟨tt.bytes.toArray⟩, .slice ax tt.items.length cx] 119))) := (Below.refl _ _).alloc (Nat.le_refl _) _
                have HST6 := hid (HST5.out.later HBA.out)
                have HGO := hid (goesR_any 1001 _ tt _ _ _ y.digits y.branch (rep_later HBA.out hrep) (Tr.reads_some HRD2.out).2 hwt (Nat.le_refl _) HST6.out.dig HST6.out.lt (Nat.le_trans HST6.out.len (by decide)))
                have hX5 : X < w5.heap.size := (Array.getElem?_eq_some_iff.1 HST5.out.row).1
                have hX5' : ¬ X = w5.heap.size := by omega
                obtain ⟨v0, v1, v2, v3, v4, z0, z1, z2, z3, z4⟩ := way_facts HST5.out.row
                clear hrep hwt b5
                go_wp2_with fail
                refine HGO.out.mono ?_
                rintro e w7 ⟨g1, g2, b7⟩
                have HB7 : Hid (Below w4.heap.size w4 w7) := (b45.out).trans ((HBA.out.trans (b7.mono HBA.out.size)).mono b45.out.size)
                have HST7 := hid (HST6.out.later b7)
                clear v0 v1 v2 v3 v4 z0 z1 z2 z3 z4
                obtain ⟨v0, v1, v2, v3, v4, z0, z1, z2, z3, z4⟩ := way_facts HST7.out.row
                have hX7 : X < w7.heap.size := (Array.getElem?_eq_some_iff.1 HST7.out.row).1
                have hX7' : ¬ X = w7.heap.size := by omega
                cases hgo : Tr.goes tt y.digits y.branch with
                | none =>
                  obtain rfl := g1 hgo
                  have HU : Hid (tellAt l (bl K) x key.data.toList = ([], false, 11)) := by rw [Hid, HE.out, HST.out.stop hyn HFD.out HRD2.out (fun h => by cases h) hgo]; rfl
                  have HB := hid HST7.out.old
                  clear g1 g2 b7 HGO hgo
                  go_wp2_with fail
                  refine bodyPost_ret (v := .tuple #[.string ⟨#[]⟩, .bool false, .int .i64 11]) (by simp [results, Tryz.results42, go_sem]) rfl ?_
                  exact rget_of (v := []) HU.out (HB.out.alloc HB.out.size _)
                | some y' =>
                  obtain ⟨ay, cy, rfl, hdy⟩ := g2 y' hgo
                  have HNX := hid (HST.out.next (w' := w7) (HB4.out.trans (HB7.out.mono HB4.out.size)) hyn HFD.out HRD2.out (fun h => by cases h) hgo (hdy.wider b7.size))
                  have HNY := hid (HNX.out.1.later ((Below.refl _ _).alloc (Nat.le_refl _) (.cells #[.slice ay y'.digits.length cy, .bool y'.branch, .string ⟨y'.value.toArray⟩, .bool y'.found, .string ⟨y'.need.toArray⟩] 117)))
                  have HMN := hid HNY.out.m
                  have HLS := hid HNX.out.2
                  clear g1 g2 b7 HGO hgo hdy HNX
                  unfold set5 at HNY HMN
                  go_wp2_with fail
                  refine ⟨⟨false, _, y', ay, cy, rfl, HNY.out⟩, ?_⟩
                  rw [HMN.out, HM.out, if_neg hyn]
                  split
                  · omega
                  · rename_i hn'; have := HLS.out hn'; omega
              | false =>
                by_cases ht8 : t.size < 8
                · have HU : Hid (tellAt l (bl K) x key.data.toList = ([], false, 11)) := by rw [Hid, HE.out, HST.out.inv, Tr.rest_short hyn HFD.out (by rw [ba_len]; exact ht8)]; rfl
                  have HB := hid HST4.out.old
                  have j2 : (t.size : Int) < 8 := by omega
                  go_wp2_with fail
                  refine bodyPost_ret (v := .tuple #[.string ⟨#[]⟩, .bool false, .int .i64 11]) (by simp [results, Tryz.results42, go_sem]) rfl ?_
                  exact rget_of (v := []) HU.out HB.out
                · have j2 : ¬ (t.size : Int) < 8 := by omega
                  have hrd := HT.out t htK
                  obtain ⟨tt, hrd⟩ := hrd
                  have HRD2 := hid hrd
                  have HWH := hid (fun w => wholeT_any t w (HS.out t htK) tt hrd)
                  clear hrd
                  go_wp2_with fail
                  refine (HWH.out _).mono ?_
                  rintro e w5 ⟨ax, cx, rfl, hwt, hrep, b5⟩
                  have HST5 := hid (HST4.out.later b5)
                  have b45 := hid b5
                  have HBA : Hid (Below w5.heap.size w5 (w5.alloc (.cells #[.bool tt.list, .string ⟨tt.bytes.toArray⟩, .slice ax tt.items.length cx] 119))) := (Below.refl _ _).alloc (Nat.le_refl _) _
                  have HST6 := hid (HST5.out.later HBA.out)
                  have HGO := hid (goesR_any 1001 _ tt _ _ _ y.digits y.branch (rep_later HBA.out hrep) (Tr.reads_some HRD2.out).2 hwt (Nat.le_refl _) HST6.out.dig HST6.out.lt (Nat.le_trans HST6.out.len (by decide)))
                  have hX5 : X < w5.heap.size := (Array.getElem?_eq_some_iff.1 HST5.out.row).1
                  have hX5' : ¬ X = w5.heap.size := by omega
                  obtain ⟨v0, v1, v2, v3, v4, z0, z1, z2, z3, z4⟩ := way_facts HST5.out.row
                  clear hrep hwt b5
                  go_wp2_with fail
                  refine HGO.out.mono ?_
                  rintro e w7 ⟨g1, g2, b7⟩
                  have HB7 : Hid (Below w4.heap.size w4 w7) := (b45.out).trans ((HBA.out.trans (b7.mono HBA.out.size)).mono b45.out.size)
                  have HST7 := hid (HST6.out.later b7)
                  clear v0 v1 v2 v3 v4 z0 z1 z2 z3 z4
                  obtain ⟨v0, v1, v2, v3, v4, z0, z1, z2, z3, z4⟩ := way_facts HST7.out.row
                  have hX7 : X < w7.heap.size := (Array.getElem?_eq_some_iff.1 HST7.out.row).1
                  have hX7' : ¬ X = w7.heap.size := by omega
                  cases hgo : Tr.goes tt y.digits y.branch with
                  | none =>
                    obtain rfl := g1 hgo
                    have HU : Hid (tellAt l (bl K) x key.data.toList = ([], false, 11)) := by rw [Hid, HE.out, HST.out.stop hyn HFD.out HRD2.out (fun _ => by rw [ba_len]; omega) hgo]; rfl
                    have HB := hid HST7.out.old
                    clear g1 g2 b7 HGO hgo
                    go_wp2_with fail
                    refine bodyPost_ret (v := .tuple #[.string ⟨#[]⟩, .bool false, .int .i64 11]) (by simp [results, Tryz.results42, go_sem]) rfl ?_
                    exact rget_of (v := []) HU.out (HB.out.alloc HB.out.size _)
                  | some y' =>
                    obtain ⟨ay, cy, rfl, hdy⟩ := g2 y' hgo
                    have HNX := hid (HST.out.next (w' := w7) (HB4.out.trans (HB7.out.mono HB4.out.size)) hyn HFD.out HRD2.out (fun _ => by rw [ba_len]; omega) hgo (hdy.wider b7.size))
                    have HNY := hid (HNX.out.1.later ((Below.refl _ _).alloc (Nat.le_refl _) (.cells #[.slice ay y'.digits.length cy, .bool y'.branch, .string ⟨y'.value.toArray⟩, .bool y'.found, .string ⟨y'.need.toArray⟩] 117)))
                    have HMN := hid HNY.out.m
                    have HLS := hid HNX.out.2
                    clear g1 g2 b7 HGO hgo hdy HNX
                    unfold set5 at HNY HMN
                    go_wp2_with fail
                    refine ⟨⟨false, _, y', ay, cy, rfl, HNY.out⟩, ?_⟩
                    rw [HMN.out, HM.out, if_neg hyn]
                    split
                    · omega
                    · rename_i hn'; have := HLS.out hn'; omega
            · have HU : Hid (tellAt l (bl K) x key.data.toList = ([], false, 11)) := by rw [Hid, HE.out, HST.out.inv, Tr.rest_lost hyn (by rw [← HND.out]; exact hf)]; rfl
              have HB := hid HST4.out.old
              clear hf
              go_wp2_with fail
              refine bodyPost_ret (v := .tuple #[.string ⟨#[]⟩, .bool false, .int .i64 11]) (by simp [results, Tryz.results42, go_sem]) rfl ?_
              exact rget_of (v := []) HU.out HB.out
      · go_simp
        have HA : Hid (Below w1.heap.size w1 (w1.drew.alloc (.cells #[.slice none 0 0, .bool false, .string ⟨#[]⟩, .bool false, .string ⟨#[]⟩] 117))) := ((Below.refl _ _).drew).alloc (Nat.le_refl _) _
        refine hK.out _ _ (gfS_later hS HA.out) (fun hHeld1 => ?_)
        clear hK K'
        try simp only [List.setIfInBounds_toArray, List.set_cons_zero, List.set_cons_succ]
        refine wpAnyH_ready (rs := [1]) (by kernel_rfl) (by simp) ?_
        refine AllReadyH.cons rfl (fun K' hK => ?_) AllReadyH.nil
        go_simp
        refine (HDG.out _).mono ?_
        rintro e W9 ⟨ad, cd, rfl, hown, b2⟩
        have HW9 : Hid (Below w1.heap.size w1 W9) := HA.out.trans (b2.mono HA.out.size)
        refine hK.out _ _ (gfS_later hS HW9.out) (fun hHeld2 => ?_)
        clear hK K'
        try simp only [List.setIfInBounds_toArray, List.set_cons_zero, List.set_cons_succ]
        refine wpAnyH_take (i := 10) (v := .agg #[.slice ad (Tr.digits key.data.toList).length cd, .bool false, .string ⟨#[]⟩, .bool false, .string r']) rfl (by kernel_rfl) (by kernel_rfl) (by kernel_rfl) (fun _ _ _ h => h) (Or.inl ⟨by kernel_rfl, ?_⟩) hHeld2 ?_
        · (intro w' hSw; go_simp)
        try simp only [Act.put]
        obtain ⟨X, hX9⟩ : ∃ X, X = w1.heap.size := ⟨_, rfl⟩
        have HXX : Hid (W9.heap[X]? = some (.cells #[.slice none 0 0, .bool false, .string ⟨#[]⟩, .bool false, .string ⟨#[]⟩] 117 (0, 0))) := by rw [Hid, hX9]; exact (b2.block w1.heap.size (by simp)).trans (heap_alloc_new w1.drew _)
        have HXL : Hid (w1.heap.size ≤ X) := by rw [hX9]; exact Nat.le_refl _
        have HDI : Hid (BrdC W9.heap.size W9 (.slice ad (Tr.digits key.data.toList).length cd) (Tr.digits key.data.toList)) := brdC_of_bown hown
        clear hown b2 HA hHeld hHeld2 hHeld1
        rw [← hX9]
        clear hX9
        have HX : Hid (W9.heap[X]? = some (.cells #[.slice none 0 0, .bool false, .string ⟨#[]⟩, .bool false, .string ⟨#[]⟩] 117 (0, 0))) := HXX.out
        have HBN : Hid (Below w1.heap.size w1 (set5 W9 X (.slice ad (Tr.digits key.data.toList).length cd) (.bool false) (.string ⟨#[]⟩) (.bool false) (.string r'))) := set5_below HW9.out HXL.out _ _ _ _ _
        have HST0 : Hid (GetSt w X (bl K) (Tr.tellR (bl K) r'.data.toList key.data.toList) true 0 (set5 W9 X (.slice ad (Tr.digits key.data.toList).length cd) (.bool false) (.string ⟨#[]⟩) (.bool false) (.string r')) ⟨Tr.digits key.data.toList, false, [], false, r'.data.toList⟩ ad cd) :=
          ⟨by rw [show (⟨r'.data.toList.toArray⟩ : ByteArray) = r' by cases r'; simp]; exact set5_row HX.out _ _ _ _ _, brdC_set5 HX.out HDI.out _ _ _ _ _, Tr.rest_first _ _ _ _, (fun h => by cases h), fun _ => HRN.out, HLT.out, HDL.out, HB1.out.trans (HBN.out.mono HB1.out.size), Nat.le_trans HB1.out.size HXL.out⟩
        refine wpAnyH_ready (rs := [12]) (by kernel_rfl) (by simp) ?_
        refine AllReadyH.cons rfl (fun K' hK => ?_) AllReadyH.nil
        obtain ⟨v0, v1, v2, v3, v4, z0, z1, z2, z3, z4⟩ := way_facts HX.out
        go_simp
        refine hK.out _ _ (gfS_later hS HBN.out) (fun _ => ?_)
        clear hK K' v0 v1 v2 v3 v4 z0 z1 z2 z3 z4
        try simp only [List.setIfInBounds_toArray, List.set_cons_zero, List.set_cons_succ]
        refine wpAnyH_done (by kernel_rfl) ?_ _
        show Exit.then _ _ _ _ (set5 W9 X (.slice ad (Tr.digits key.data.toList).length cd) (.bool false) (.string ⟨#[]⟩) (.bool false) (.string r'))
        clear HW9 HX HBN HXL HDI HXX
        generalize hWZ : set5 W9 X (.slice ad (Tr.digits key.data.toList).length cd) (.bool false) (.string ⟨#[]⟩) (.bool false) (.string r') = WZ at *
        clear hWZ
        go_wp2_with fail
        go_loopw [11] (fun fi wr => GLoop w X (bl K) (Tr.tellR (bl K) r'.data.toList key.data.toList) fi wr) (fun _ wr => wayM X wr)
        case atStart => exact ⟨true, 0, _, ad, cd, rfl, HST0.out⟩
        case round =>
          obtain ⟨first, f, y, a5, c5, rfl, HST⟩ := hrel
          have HM := hid HST.out.m
          obtain ⟨nd, hnd⟩ : ∃ nd : ByteArray, nd = ⟨y.need.toArray⟩ := ⟨_, rfl⟩
          obtain ⟨vd, hvd⟩ : ∃ vd : ByteArray, vd = ⟨y.value.toArray⟩ := ⟨_, rfl⟩
          have HND : Hid (nd.data.toList = y.need) := by rw [hnd]; rfl
          have HVD := hid hvd
          obtain ⟨v0, v1, v2, v3, v4, z0, z1, z2, z3, z4⟩ := way_facts HST.out.row
          rw [← hnd] at v4
          rw [← hvd] at v2
          have hXr : X < wr.heap.size := (Array.getElem?_eq_some_iff.1 HST.out.row).1
          clear hvd hnd
          by_cases hyn : y.need = []
          · have he1 : nd.toList.isEmpty = true := by
              rw [ByteArray.toList_eq, HND.out, hyn]
              rfl
            have hfi : first = false := by
              cases first with
              | false => rfl
              | true => exact absurd hyn (HST.out.need rfl)
            subst hfi
            have HU : Hid (tellAt l (bl K) x key.data.toList = (y.value, y.found, 0)) := by rw [Hid, HE.out, HST.out.inv, Tr.rest_end hyn]; rfl
            have HB := hid HST.out.old
            clear hyn
            go_wp2_with fail
            go_quiet (fail)
            go_wp2_with fail
            refine bodyPost_ret (v := .tuple #[.string vd, .bool y.found, .int .i64 0]) (by simp [results, Tryz.results42, go_sem]) rfl ?_
            rw [HVD.out]
            exact rget_of HU.out (below_drewN _ HB.out)
          · have he1 : nd.toList.isEmpty = false := by
              rw [ByteArray.toList_eq, HND.out]
              cases hq : y.need with
              | nil => exact absurd hq hyn
              | cons c r => rfl
            have HFW := hid (HFIND.out _ HST.out.old nd)
            go_wp2_with fail
            refine HFW.out.mono ?_
            rintro e w4 ⟨t, fd, rfl, hfd, b4⟩
            have HST4 := hid (HST.out.later b4)
            have HB4 := hid b4
            clear b4 v0 v1 v2 v3 v4 z0 z1 z2 z3 z4
            rcases hfd with ⟨rfl, htK, hf⟩ | ⟨rfl, rfl, hf⟩
            · have HFD : Hid (Tr.find (bl K) y.need = some t.data.toList) := by rw [Hid, ← HND.out]; exact hf
              clear hf
              cases first with
              | true =>
                have hrd := HT.out t htK
                obtain ⟨tt, hrd⟩ := hrd
                have HRD2 := hid hrd
                have HWH := hid (fun w => wholeT_any t w (HS.out t htK) tt hrd)
                clear hrd
                go_wp2_with fail
                refine (HWH.out _).mono ?_
                rintro e w5 ⟨ax, cx, rfl, hwt, hrep, b5⟩
                have HST5 := hid (HST4.out.later b5)
                have b45 := hid b5
                have HBA : Hid (Below w5.heap.size w5 (w5.alloc (.cells #[.bool tt.list, .string ⟨tt.bytes.toArray⟩, .slice ax tt.items.length cx] 119))) := (Below.refl _ _).alloc (Nat.le_refl _) _
                have HST6 := hid (HST5.out.later HBA.out)
                have HGO := hid (goesR_any 1001 _ tt _ _ _ y.digits y.branch (rep_later HBA.out hrep) (Tr.reads_some HRD2.out).2 hwt (Nat.le_refl _) HST6.out.dig HST6.out.lt (Nat.le_trans HST6.out.len (by decide)))
                have hX5 : X < w5.heap.size := (Array.getElem?_eq_some_iff.1 HST5.out.row).1
                have hX5' : ¬ X = w5.heap.size := by omega
                obtain ⟨v0, v1, v2, v3, v4, z0, z1, z2, z3, z4⟩ := way_facts HST5.out.row
                clear hrep hwt b5
                go_wp2_with fail
                refine HGO.out.mono ?_
                rintro e w7 ⟨g1, g2, b7⟩
                have HB7 : Hid (Below w4.heap.size w4 w7) := (b45.out).trans ((HBA.out.trans (b7.mono HBA.out.size)).mono b45.out.size)
                have HST7 := hid (HST6.out.later b7)
                clear v0 v1 v2 v3 v4 z0 z1 z2 z3 z4
                obtain ⟨v0, v1, v2, v3, v4, z0, z1, z2, z3, z4⟩ := way_facts HST7.out.row
                have hX7 : X < w7.heap.size := (Array.getElem?_eq_some_iff.1 HST7.out.row).1
                have hX7' : ¬ X = w7.heap.size := by omega
                cases hgo : Tr.goes tt y.digits y.branch with
                | none =>
                  obtain rfl := g1 hgo
                  have HU : Hid (tellAt l (bl K) x key.data.toList = ([], false, 11)) := by rw [Hid, HE.out, HST.out.stop hyn HFD.out HRD2.out (fun h => by cases h) hgo]; rfl
                  have HB := hid HST7.out.old
                  clear g1 g2 b7 HGO hgo
                  go_wp2_with fail
                  refine bodyPost_ret (v := .tuple #[.string ⟨#[]⟩, .bool false, .int .i64 11]) (by simp [results, Tryz.results42, go_sem]) rfl ?_
                  exact rget_of (v := []) HU.out (HB.out.alloc HB.out.size _)
                | some y' =>
                  obtain ⟨ay, cy, rfl, hdy⟩ := g2 y' hgo
                  have HNX := hid (HST.out.next (w' := w7) (HB4.out.trans (HB7.out.mono HB4.out.size)) hyn HFD.out HRD2.out (fun h => by cases h) hgo (hdy.wider b7.size))
                  have HNY := hid (HNX.out.1.later ((Below.refl _ _).alloc (Nat.le_refl _) (.cells #[.slice ay y'.digits.length cy, .bool y'.branch, .string ⟨y'.value.toArray⟩, .bool y'.found, .string ⟨y'.need.toArray⟩] 117)))
                  have HMN := hid HNY.out.m
                  have HLS := hid HNX.out.2
                  clear g1 g2 b7 HGO hgo hdy HNX
                  unfold set5 at HNY HMN
                  go_wp2_with fail
                  refine ⟨⟨false, _, y', ay, cy, rfl, HNY.out⟩, ?_⟩
                  rw [HMN.out, HM.out, if_neg hyn]
                  split
                  · omega
                  · rename_i hn'; have := HLS.out hn'; omega
              | false =>
                by_cases ht8 : t.size < 8
                · have HU : Hid (tellAt l (bl K) x key.data.toList = ([], false, 11)) := by rw [Hid, HE.out, HST.out.inv, Tr.rest_short hyn HFD.out (by rw [ba_len]; exact ht8)]; rfl
                  have HB := hid HST4.out.old
                  have j2 : (t.size : Int) < 8 := by omega
                  go_wp2_with fail
                  refine bodyPost_ret (v := .tuple #[.string ⟨#[]⟩, .bool false, .int .i64 11]) (by simp [results, Tryz.results42, go_sem]) rfl ?_
                  exact rget_of (v := []) HU.out HB.out
                · have j2 : ¬ (t.size : Int) < 8 := by omega
                  have hrd := HT.out t htK
                  obtain ⟨tt, hrd⟩ := hrd
                  have HRD2 := hid hrd
                  have HWH := hid (fun w => wholeT_any t w (HS.out t htK) tt hrd)
                  clear hrd
                  go_wp2_with fail
                  refine (HWH.out _).mono ?_
                  rintro e w5 ⟨ax, cx, rfl, hwt, hrep, b5⟩
                  have HST5 := hid (HST4.out.later b5)
                  have b45 := hid b5
                  have HBA : Hid (Below w5.heap.size w5 (w5.alloc (.cells #[.bool tt.list, .string ⟨tt.bytes.toArray⟩, .slice ax tt.items.length cx] 119))) := (Below.refl _ _).alloc (Nat.le_refl _) _
                  have HST6 := hid (HST5.out.later HBA.out)
                  have HGO := hid (goesR_any 1001 _ tt _ _ _ y.digits y.branch (rep_later HBA.out hrep) (Tr.reads_some HRD2.out).2 hwt (Nat.le_refl _) HST6.out.dig HST6.out.lt (Nat.le_trans HST6.out.len (by decide)))
                  have hX5 : X < w5.heap.size := (Array.getElem?_eq_some_iff.1 HST5.out.row).1
                  have hX5' : ¬ X = w5.heap.size := by omega
                  obtain ⟨v0, v1, v2, v3, v4, z0, z1, z2, z3, z4⟩ := way_facts HST5.out.row
                  clear hrep hwt b5
                  go_wp2_with fail
                  refine HGO.out.mono ?_
                  rintro e w7 ⟨g1, g2, b7⟩
                  have HB7 : Hid (Below w4.heap.size w4 w7) := (b45.out).trans ((HBA.out.trans (b7.mono HBA.out.size)).mono b45.out.size)
                  have HST7 := hid (HST6.out.later b7)
                  clear v0 v1 v2 v3 v4 z0 z1 z2 z3 z4
                  obtain ⟨v0, v1, v2, v3, v4, z0, z1, z2, z3, z4⟩ := way_facts HST7.out.row
                  have hX7 : X < w7.heap.size := (Array.getElem?_eq_some_iff.1 HST7.out.row).1
                  have hX7' : ¬ X = w7.heap.size := by omega
                  cases hgo : Tr.goes tt y.digits y.branch with
                  | none =>
                    obtain rfl := g1 hgo
                    have HU : Hid (tellAt l (bl K) x key.data.toList = ([], false, 11)) := by rw [Hid, HE.out, HST.out.stop hyn HFD.out HRD2.out (fun _ => by rw [ba_len]; omega) hgo]; rfl
                    have HB := hid HST7.out.old
                    clear g1 g2 b7 HGO hgo
                    go_wp2_with fail
                    refine bodyPost_ret (v := .tuple #[.string ⟨#[]⟩, .bool false, .int .i64 11]) (by simp [results, Tryz.results42, go_sem]) rfl ?_
                    exact rget_of (v := []) HU.out (HB.out.alloc HB.out.size _)
                  | some y' =>
                    obtain ⟨ay, cy, rfl, hdy⟩ := g2 y' hgo
                    have HNX := hid (HST.out.next (w' := w7) (HB4.out.trans (HB7.out.mono HB4.out.size)) hyn HFD.out HRD2.out (fun _ => by rw [ba_len]; omega) hgo (hdy.wider b7.size))
                    have HNY := hid (HNX.out.1.later ((Below.refl _ _).alloc (Nat.le_refl _) (.cells #[.slice ay y'.digits.length cy, .bool y'.branch, .string ⟨y'.value.toArray⟩, .bool y'.found, .string ⟨y'.need.toArray⟩] 117)))
                    have HMN := hid HNY.out.m
                    have HLS := hid HNX.out.2
                    clear g1 g2 b7 HGO hgo hdy HNX
                    unfold set5 at HNY HMN
                    go_wp2_with fail
                    refine ⟨⟨false, _, y', ay, cy, rfl, HNY.out⟩, ?_⟩
                    rw [HMN.out, HM.out, if_neg hyn]
                    split
                    · omega
                    · rename_i hn'; have := HLS.out hn'; omega
            · have HU : Hid (tellAt l (bl K) x key.data.toList = ([], false, 11)) := by rw [Hid, HE.out, HST.out.inv, Tr.rest_lost hyn (by rw [← HND.out]; exact hf)]; rfl
              have HB := hid HST4.out.old
              clear hf
              go_wp2_with fail
              refine bodyPost_ret (v := .tuple #[.string ⟨#[]⟩, .bool false, .int .i64 11]) (by simp [results, Tryz.results42, go_sem]) rfl ?_
              exact rget_of (v := []) HU.out HB.out
  · have HTA := hid (tellAt_none (S := bl K) (key := key.data.toList) hne)
    clear b1
    go_wp2_with fail
    refine bodyPost_ret (v := .tuple #[.string ⟨#[]⟩, .bool false, .int .i64 10]) (by simp [results, Tryz.results42, go_sem]) rfl ?_
    exact rget_of (v := []) HTA.out HB1.out
end Go.Proofs.YtbmohenjphmlgaaGreat

/- The walks of copiedItem, text and sameItem (of the statements' own). -/
namespace Go.Proofs.YtbmohenjphmlgaaGreat
open Go.RowKit
set_option maxRecDepth 100000

namespace Itm
end Itm

/-- A mark's text. -/
def markText (q : Nat) : List UInt8 := [63, UInt8.ofNat (q % 256), UInt8.ofNat (q / 256 % 256)]

end Go.Proofs.YtbmohenjphmlgaaGreat

/- Items that are handed in: each list in a row of its own with eight marked places behind it; storing an item into a row. -/
namespace Go.Proofs.YtbmohenjphmlgaaGreat
open Go.RowKit
set_option maxRecDepth 100000

/-- A row with its k-th three cells written. -/
def put3 (xs : List Value) (k : Nat) (a b c : Value) : List Value := ((xs.set (k * 3) a).set (k * 3 + 1) b).set (k * 3 + 2) c

theorem row_cell {w : World} {g : Nat} {xs : List Value} {E : TypeId} (h : w.heap[g]? = some (.cells xs.toArray E (0, 0))) (j : Nat) (hj : j < xs.length) : w.cell? ⟨g, j, none⟩ = some (xs.getD j default) := by
  rw [cell_of_row _ _ j _ _ _ h, List.getD_eq_getElem?_getD]
  simp [hj]

theorem row_frozen {w : World} {g : Nat} {xs : List Value} {E : TypeId} (h : w.heap[g]? = some (.cells xs.toArray E (0, 0))) (j : Nat) : w.frozen? ⟨g, j, none⟩ = false := frozen_of_row w g j _ E h

/-- The mark of spare room. -/
def bang : Value := .agg #[.bool false, .string ⟨#[33]⟩, .slice none 0 0]

/-- An item in lists of its own, each with eight marked places behind it. -/
def Hand (E : TypeId) (w : World) : Nat → Nat → Nat → Value → Itm → Prop
  | 0 => fun _ _ _ _ => False
  | n + 1 => fun lo hi v t => ∃ (g : Nat) (xs : List Value) (L H : Nat → Nat),
      v = .agg #[.bool t.list, .string ⟨t.bytes.toArray⟩, .slice (some ⟨g, 0, none⟩) t.items.length (t.items.length + 8)] ∧ lo ≤ g ∧ g < hi ∧
      w.heap[g]? = some (.cells xs.toArray E (0, 0)) ∧ xs.length = (t.items.length + 8) * 3 ∧
      (∀ i (h : i < t.items.length), lo ≤ L i ∧ H i ≤ hi ∧ (g < L i ∨ H i ≤ g) ∧ Hand E w n (L i) (H i) (tri xs i) t.items[i]) ∧
      (∀ i j, i < j → j < t.items.length → H i ≤ L j) ∧ (∀ i, t.items.length ≤ i → i < t.items.length + 8 → tri xs i = bang)

end Go.Proofs.YtbmohenjphmlgaaGreat

/- Lists that their owner has marked: a slice of marks, marks appended to it. -/
namespace Go.Proofs.YtbmohenjphmlgaaGreat
open Go.RowKit
set_option maxRecDepth 100000

/-- The item that an owner marks a list with. -/
def markV (q : Nat) : Value := .agg #[.bool false, .string ⟨(markText q).toArray⟩, .slice none 0 0]

/-- The first n items of block g are marks. -/
def Marks (w : World) (q g n : Nat) : Prop := ∀ j, j < n →
  w.cell? ⟨g, j * 3, none⟩ = some (.bool false) ∧ w.cell? ⟨g, j * 3 + 1, none⟩ = some (.string ⟨(markText q).toArray⟩) ∧ w.cell? ⟨g, j * 3 + 2, none⟩ = some (.slice none 0 0)

/-- A slice all of whose items are marks. -/
def Mk (w : World) (q : Nat) (v : Value) : Prop := v = .slice none 0 0 ∨ ∃ g n cap, v = .slice (some ⟨g, 0, none⟩) n cap ∧ n ≤ maxLen ∧ g < w.heap.size ∧ Marks w q g n

end Go.Proofs.YtbmohenjphmlgaaGreat

/- The walk of markItem (of the statements' own): the book of lists that came out; the lists of an item are marked, and kept as marked. -/
namespace Go.Proofs.YtbmohenjphmlgaaGreat
open Go.RowKit
set_option maxRecDepth 100000

/-- A list that was marked, in a block of that colour. -/
def MarkedAt (w : World) (c : Nat → Nat) (v : Value) (q : Nat) : Prop := Mk w q v ∧ ∀ g, v.ownBlock = some g → c g = 5

/-- The book, its marked lists; each block has a colour: 1 the book itself, 2 the row of its marked lists, 5 what was marked. -/
structure BookSt (w : World) (c : Nat → Nat) (B : Nat) (it wi we : Value) (Q : Nat) : Prop where
  bk : w.heap[B]? = some (.cells #[.slice none 0 0, .slice none 0 0, it, .slice none 0 0, .slice none 0 0, .slice none 0 0, .slice none 0 0, wi, we] 59 (0, 0))
  cb : c B = 1
  crow : ∀ g, it.ownBlock = some g → c g = 2
  row : ∃ ls : List Value, w.ownsRow 0 57 1 it ls.length ls ∧ ls.length = 4 * Q ∧ ∀ k (h : k < ls.length), MarkedAt w c ls[k] (k / 4)

/-- What a mark of an item turns: the book, its row, blocks from lo on and below hi; new colours of those alone. -/
structure Turn (c c' : Nat → Nat) (lo hi : Nat) (w w' : World) : Prop where
  os : w'.os = w.os
  tape : w'.tape = w.tape
  output : w'.output = w.output
  size : w.heap.size ≤ w'.heap.size
  block : ∀ k, k < w.heap.size → (k < lo ∨ hi ≤ k) → c k ≠ 1 → c k ≠ 2 → w'.heap[k]? = w.heap[k]?
  color : ∀ k, k < w.heap.size → (k < lo ∨ hi ≤ k) → c' k = c k

theorem Turn.of_below {c c' : Nat → Nat} {lo hi : Nat} {w w' : World} (h : Below w.heap.size w w') (hc : ∀ k, k < w.heap.size → c' k = c k) : Turn c c' lo hi w w' :=
  ⟨h.os, h.tape, h.output, h.size, fun k hk _ _ _ => h.block k hk, fun k hk _ => hc k hk⟩

/-- The colours of what there is; what is new has none. -/
def paint (c : Nat → Nat) (n : Nat) : Nat → Nat := fun k => if k < n then c k else 0

theorem paint_old (c : Nat → Nat) {n k : Nat} (h : k < n) : paint c n k = c k := by unfold paint; rw [if_pos h]
theorem paint_new (c : Nat → Nat) {n k : Nat} (h : n ≤ k) : paint c n k = 0 := by unfold paint; rw [if_neg (by omega)]

/-- How far the items within an item have been marked. -/
structure MarkKids (n : Nat) (t : Itm) (w : World) (c0 : Nat → Nat) (B : Nat) (wi we : Value) (Q lo hi m : Nat) (sl : Value) (xs : List Value) (L H : Nat → Nat) (k : Nat) (wr : World) (c : Nat → Nat) (it : Value) : Prop where
  book : BookSt wr c B it wi we (Q + Itm.cntL (t.items.take k))
  turn : Turn c0 c lo hi w wr
  box : wr.heap[w.heap.size]? = some (.cells #[.bool t.list, .string ⟨t.bytes.toArray⟩, sl] 119 (0, 0))
  cbox : c w.heap.size = 0
  row : wr.ownsRow lo 119 3 sl t.items.length xs
  crow : ∀ g, sl.ownBlock = some g → c g = m
  kids : ∀ i (h : i < t.items.length), k ≤ i → (∀ j, L i ≤ j → j < H i → c j = m) ∧ Own 119 wr n (L i) (H i) (tri xs i) t.items[i]

/-- How far an item's own list has been marked. -/
structure MarkRow (n : Nat) (w : World) (c0 : Nat → Nat) (B : Nat) (wi we : Value) (Q lo hi m M : Nat) (sl : Value) (i : Nat) (wr : World) (c : Nat → Nat) (it : Value) (ys : List Value) : Prop where
  book : BookSt wr c B it wi we Q
  turn : Turn c0 c lo hi w wr
  box : wr.heap[M]? = some (.cells #[.bool false, .string ⟨(markText Q).toArray⟩, .slice none 0 0] 119 (0, 0))
  cbox : c M = 0
  new : w.heap.size ≤ M
  row : wr.ownsRow lo 119 3 sl n ys
  crow : ∀ g, sl.ownBlock = some g → c g = m
  fresh : ∀ k, M < k → c k = 0
  done : ∀ j, j < i → tri ys j = markV Q

theorem cells_new (w : World) (l : List Value) (e : TypeId) : ∀ j u, l[j]? = some u → (w.alloc (.cells l.toArray e)).cell? ((⟨w.heap.size, 0, none⟩ : Addr).add j) = some u := by
  intro j u hu
  have hadd : (⟨w.heap.size, 0, none⟩ : Addr).add j = ⟨w.heap.size, j, none⟩ := by unfold Addr.add; split <;> simp_all
  rw [hadd, cell_of_row _ _ j l.toArray e (0, 0) (heap_alloc_new w _)]
  simpa using hu

/-- The colours once a list and those made of it are kept as marked. -/
def recolor (c : Nat → Nat) (it : Value) (vs : List Value) : Nat → Nat := fun k => if it.ownBlock = some k then 2 else if vs.any (fun u => u.ownBlock == some k) then 5 else c k

theorem ones {k : Nat} (q : Nat) : ∀ u ∈ (List.replicate k [Value.bool false, .string ⟨(markText q).toArray⟩, .slice none 0 0]).flatten, u.oneCell' = true := by
  intro u hu
  rw [List.mem_flatten] at hu
  obtain ⟨l, hl, hu⟩ := hu
  obtain rfl := (List.mem_replicate.1 hl).2
  simp only [List.mem_cons, List.not_mem_nil, or_false] at hu
  rcases hu with rfl | rfl | rfl <;> rfl

/-- A mark of an item. -/
def MarkPost (c : Nat → Nat) (B : Nat) (wi we : Value) (Q lo hi : Nat) (t : Itm) (w : World) (e : Ending) (w' : World) : Prop :=
  e = .returned (.tuple #[]) ∧ ∃ c' it', BookSt w' c' B it' wi we (Q + Itm.cnt t) ∧ Turn c c' lo hi w w'

end Go.Proofs.YtbmohenjphmlgaaGreat
