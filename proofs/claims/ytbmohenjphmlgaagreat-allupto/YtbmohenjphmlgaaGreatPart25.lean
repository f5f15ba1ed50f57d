/- Part 25 of a proof: what the last text needs. -/
import Derived.Test.YtbmohenjphmlgaaGreatPart24
/- The walk of goes (of the document's own answer): down a branch; all ways together. -/
namespace Go.Proofs.YtbmohenjphmlgaaGreat
open Go.RowKit
set_option maxRecDepth 100000

section
variable (n : Nat) (t : Itm) (w : World) (a : Option Addr) (cap : Nat) (B : Nat) (ad : Option Addr) (capd : Nat) (k : List UInt8) (br : Bool)


set_option maxHeartbeats 3200000 in
theorem goes_dn (hG : GoesAt n) (hr : Rep w.heap.size w (n + 1) (.agg #[.bool t.list, .string ⟨t.bytes.toArray⟩, .slice a t.items.length cap]) t) (hw : Itm.wt t ≤ 1000000) (hB : B ≤ w.heap.size) (c : UInt8) (r : List UInt8) (hkc : k = c :: r) (hd : BrdC B w (.slice ad k.length capd) k) (hk16 : ∀ c ∈ k, c.toNat < 16) (hk6 : k.length ≤ 1000000) (hb : Tr.isBranch t = true) (hs : Tr.sound t = true) (hcp : ¬ capd = 1) (hy : Tr.refers (Tr.kid t c.toNat) r false = none) : Calls Tryz.prog 74 #[.agg #[.bool t.list, .string ⟨t.bytes.toArray⟩, .slice a t.items.length cap], .slice ad k.length capd, .bool br] w (GoesPost B (Tr.goes t k br) w) := by
  subst hkc
  have hc16 : c.toNat < 16 := hk16 c (by simp)
  obtain ⟨bd, od, hcapd, hbd, hcell, rfl⟩ : ∃ bd od, (c :: r).length ≤ capd ∧ bd < B ∧ w.cell? ⟨bd, od, none⟩ = some (.int .u8 (c.toNat : Nat)) ∧ ad = some ⟨bd, od, none⟩ := by
    rcases id hd with ⟨_, h0⟩ | ⟨b, off, cap', hv, hc, hlt, hcs⟩
    · cases h0
    · simp only [Value.slice.injEq, true_and] at hv
      exact ⟨b, off, by have := hv.2; omega, hlt, by have := hcs 0 (by simp); simpa using this, hv.1⟩
  have he := Tr.branch_full hb
  have hl := Tr.branch_len hb
  have HV := hid ((Tr.goes_down c r br hb (by omega)).trans hy)
  have HBR := hid (fun w => isBranch_any t w a cap)
  have HE := hid (fun w => isEmpty_any t w a cap)
  obtain ⟨b, off, a1, cap1, rfl, hbb, g0, g1, g2, r1⟩ := rep_kid hr c.toNat (by omega)
  have w1' := kid_wt' t c.toNat (by omega)
  have HRF : Hid (∀ W, Rep W.heap.size W n (.agg #[.bool (Tr.kid t c.toNat).list, .string ⟨(Tr.kid t c.toNat).bytes.toArray⟩, .slice a1 (Tr.kid t c.toNat).items.length cap1]) (Tr.kid t c.toNat) → B ≤ W.heap.size → BrdC B W (.slice (some ⟨bd, od + 1, none⟩) r.length (capd - 1)) r →
      Calls Tryz.prog 107 #[.agg #[.bool (Tr.kid t c.toNat).list, .string ⟨(Tr.kid t c.toNat).bytes.toArray⟩, .slice a1 (Tr.kid t c.toNat).items.length cap1], .slice (some ⟨bd, od + 1, none⟩) r.length (capd - 1), .bool false] W
        fun e w' => e = .returned (.tuple #[.agg #[.slice none 0 0, .bool false, .string ⟨#[]⟩, .bool false, .string ⟨#[]⟩], .bool false]) ∧ Below W.heap.size W w') := by
    intro W hW hBW hdW
    have h := refers_any n hG _ (Tr.kid t c.toNat) W B _ r false hW (Tr.sound_down hs hb c.toNat hc16) (by omega) hBW hdW (fun x hx => hk16 x (by simp [hx])) (by simp at hk6; omega)
    refine h.mono ?_
    rintro e w' ⟨g1, _, g3⟩
    exact ⟨g1 hy, g3⟩
  have HDR := hid (hd.drop 1 (by simp))
  simp only [List.drop_succ_cons, List.drop_zero] at HDR
  have HBB := hid hB
  have HR1 := hid r1
  have i1 : (0 : Int) ≤ (c.toNat : Int) := by omega
  have i2 : (c.toNat : Int) < (t.items.length : Int) := by omega
  have hcapd' : r.length + 1 ≤ capd := by simpa only [List.length_cons] using hcapd
  have i3 : (1 : Int) ≤ (capd : Int) := by omega
  have i4 : ((r.length : Int) + 1 == 0) = false := by simp; omega
  have i5 : (r.length : Int) + 1 ≤ (capd : Int) := by omega
  have i7 : (1 : Int) ≤ (r.length : Int) + 1 := by omega
  have i8 : (0 : Int) ≤ (r.length : Int) := by omega
  have i6 : (0 : Int) < (r.length : Int) + 1 := by omega
  have hbw : bd < w.heap.size := by omega
  rw [hb] at HBR
  rw [he] at HE
  clear hG hr hl hb he hw w1' hd r1 hcapd hcapd' hy hs hk16 hk6 hc16
  cases br
  · go_enter Tryz.func74, Tryz.ntmps74
    go_wp2_with fail
    refine (HBR.out _).mono ?_
    rintro e w1 ⟨rfl, b1⟩
    obtain ⟨p1, p2, p3⟩ := two_kept b1
    have x0 := cell_of_row _ _ 0 _ _ _ p1
    have x1 := cell_of_row _ _ 1 _ _ _ p1
    have x2 := cell_of_row _ _ 2 _ _ _ p1
    obtain ⟨v0, v1, v2, v3, v4, z0, z1, z2, z3, z4⟩ := way_cells p2
    have HP1 := hid p2
    have HB1 := hid p3
    have HT1 := hid b1
    clear b1 p1 p2 p3
    go_wp2_with fail
    refine (HE.out _).mono ?_
    rintro e w2 ⟨rfl, b2⟩
    have HT2 := hid (bb_on HT1.out b2)
    obtain ⟨p1, p2, p3⟩ := two_kept HT2.out
    have x0 := cell_of_row _ _ 0 _ _ _ p1
    have x1 := cell_of_row _ _ 1 _ _ _ p1
    have x2 := cell_of_row _ _ 2 _ _ _ p1
    obtain ⟨v0, v1, v2, v3, v4, z0, z1, z2, z3, z4⟩ := way_cells p2
    have HP2 := hid p2
    have HB2 := hid p3
    clear b2 p1 p2 p3
    have k0 := (HB2.out.cell (p := ⟨b, off + c.toNat * 3, none⟩) hbb).trans g0
    have k1 := (HB2.out.cell (p := ⟨b, off + c.toNat * 3 + 1, none⟩) hbb).trans g1
    have k2 := (HB2.out.cell (p := ⟨b, off + c.toNat * 3 + 2, none⟩) hbb).trans g2
    have kc := (HB2.out.cell (p := ⟨bd, od, none⟩) hbw).trans hcell
    have HRX := hid (rep_in HR1.out HB2.out)
    have HDX := hid (HDR.out.frame (HB2.out.mono HBB.out))
    have HBX : Hid (B ≤ w2.heap.size) := Nat.le_trans HBB.out HB2.out.size
    have hb3 : b < w2.heap.size := Nat.lt_of_lt_of_le hbb HB2.out.size
    have hbd3 : bd < w2.heap.size := Nat.lt_of_lt_of_le hbw HB2.out.size
    have hw3 : w.heap.size + 1 < w2.heap.size := (Array.getElem?_eq_some_iff.1 HP2.out).1
    have hw30 : w.heap.size < w2.heap.size := by omega
    have hnb : ¬ b = w.heap.size + 1 := by omega
    have hnb' : ¬ w.heap.size + 1 = b := by omega
    have hnd : ¬ bd = w.heap.size + 1 := by omega
    have hnd' : ¬ w.heap.size + 1 = bd := by omega
    clear g0 g1 g2 HE HBR HT1 HT2 HB1 HP1 HDR HR1
    go_wp2_with fail
    go_region_held3 (fun w' => w'.cell? ⟨w.heap.size, 2, none⟩ = some (.slice (some ⟨b, off, none⟩) t.items.length cap) ∧ w'.cell? ⟨bd, od, none⟩ = some (.int .u8 (c.toNat : Nat)) ∧ w'.cell? ⟨b, off + c.toNat * 3, none⟩ = some (.bool (Tr.kid t c.toNat).list) ∧ w'.cell? ⟨b, off + c.toNat * 3 + 1, none⟩ = some (.string ⟨(Tr.kid t c.toNat).bytes.toArray⟩) ∧ w'.cell? ⟨b, off + c.toNat * 3 + 2, none⟩ = some (.slice a1 (Tr.kid t c.toNat).items.length cap1)) (go_keep)
      ((go_at_call 107; refine (HRF.out w2.drew (rep_in HRX.out ((Below.refl _ _).drew)) HBX.out (HDX.out.frame ((Below.refl _ _).drew))).mono ?_; rintro e w4 ⟨rfl, b4⟩; have B24 : Hid (Below w2.heap.size w2 w4) := below_undrew b4; have HP4 : Hid (w4.heap[w.heap.size + 1]? = some (.cells #[.slice none 0 0, .bool false, .string ⟨#[]⟩, .bool false, .string ⟨#[]⟩] 117 (0, 0))) := (B24.out.block (w.heap.size + 1) hw3).trans HP2.out; obtain ⟨v0, v1, v2, v3, v4, z0, z1, z2, z3, z4⟩ := way_cells HP4.out; obtain ⟨hcc, hff⟩ := bcell B24.out; have y2 := (hcc _ 2 hw30).trans x2; have mc := (hcc _ _ hbd3).trans kc; have m0 := (hcc _ _ hb3).trans k0; have m1 := (hcc _ _ hb3).trans k1; have m2 := (hcc _ _ hb3).trans k2; clear b4 hcc hff))
    all_goals
      go_wp2_with fail
      obtain ⟨c0, c1, c2, c3, c4⟩ := set5_cells HP4.out (.slice none 0 0) (.bool false) (.string ⟨#[]⟩) (.bool false) (.string ⟨#[]⟩)
      have HF := hid (set5_below (bb_on HB2.out B24.out) (by omega : w.heap.size ≤ w.heap.size + 1) (.slice none 0 0) (.bool false) (.string ⟨#[]⟩) (.bool false) (.string ⟨#[]⟩))
      generalize hwF : set5 w4 (w.heap.size + 1) (.slice none 0 0) (.bool false) (.string ⟨#[]⟩) (.bool false) (.string ⟨#[]⟩) = wF at *
      unfold set5 at hwF
      rw [hwF]
      refine bodyPost_ret (v := .tuple #[.agg #[.slice none 0 0, .bool false, .string ⟨#[]⟩, .bool false, .string ⟨#[]⟩], .bool false]) (by simp [results, Tryz.results74, go_sem, c0, c1, c2, c3, c4]) rfl ?_
      exact goesPost_none HV.out HF.out
  · go_enter Tryz.func74, Tryz.ntmps74
    go_wp2_with fail
    refine (HBR.out _).mono ?_
    rintro e w1 ⟨rfl, b1⟩
    obtain ⟨p1, p2, p3⟩ := two_kept b1
    have x0 := cell_of_row _ _ 0 _ _ _ p1
    have x1 := cell_of_row _ _ 1 _ _ _ p1
    have x2 := cell_of_row _ _ 2 _ _ _ p1
    obtain ⟨v0, v1, v2, v3, v4, z0, z1, z2, z3, z4⟩ := way_cells p2
    have HP1 := hid p2
    have HB1 := hid p3
    have HT1 := hid b1
    clear b1 p1 p2 p3
    go_wp2_with fail
    refine (HE.out _).mono ?_
    rintro e w2 ⟨rfl, b2⟩
    have HT2 := hid (bb_on HT1.out b2)
    obtain ⟨p1, p2, p3⟩ := two_kept HT2.out
    have x0 := cell_of_row _ _ 0 _ _ _ p1
    have x1 := cell_of_row _ _ 1 _ _ _ p1
    have x2 := cell_of_row _ _ 2 _ _ _ p1
    obtain ⟨v0, v1, v2, v3, v4, z0, z1, z2, z3, z4⟩ := way_cells p2
    have HP2 := hid p2
    have HB2 := hid p3
    clear b2 p1 p2 p3
    have k0 := (HB2.out.cell (p := ⟨b, off + c.toNat * 3, none⟩) hbb).trans g0
    have k1 := (HB2.out.cell (p := ⟨b, off + c.toNat * 3 + 1, none⟩) hbb).trans g1
    have k2 := (HB2.out.cell (p := ⟨b, off + c.toNat * 3 + 2, none⟩) hbb).trans g2
    have kc := (HB2.out.cell (p := ⟨bd, od, none⟩) hbw).trans hcell
    have HRX := hid (rep_in HR1.out HB2.out)
    have HDX := hid (HDR.out.frame (HB2.out.mono HBB.out))
    have HBX : Hid (B ≤ w2.heap.size) := Nat.le_trans HBB.out HB2.out.size
    have hb3 : b < w2.heap.size := Nat.lt_of_lt_of_le hbb HB2.out.size
    have hbd3 : bd < w2.heap.size := Nat.lt_of_lt_of_le hbw HB2.out.size
    have hw3 : w.heap.size + 1 < w2.heap.size := (Array.getElem?_eq_some_iff.1 HP2.out).1
    have hw30 : w.heap.size < w2.heap.size := by omega
    have hnb : ¬ b = w.heap.size + 1 := by omega
    have hnb' : ¬ w.heap.size + 1 = b := by omega
    have hnd : ¬ bd = w.heap.size + 1 := by omega
    have hnd' : ¬ w.heap.size + 1 = bd := by omega
    clear g0 g1 g2 HE HBR HT1 HT2 HB1 HP1 HDR HR1
    go_wp2_with fail
    go_region_held3 (fun w' => w'.cell? ⟨w.heap.size, 2, none⟩ = some (.slice (some ⟨b, off, none⟩) t.items.length cap) ∧ w'.cell? ⟨bd, od, none⟩ = some (.int .u8 (c.toNat : Nat)) ∧ w'.cell? ⟨b, off + c.toNat * 3, none⟩ = some (.bool (Tr.kid t c.toNat).list) ∧ w'.cell? ⟨b, off + c.toNat * 3 + 1, none⟩ = some (.string ⟨(Tr.kid t c.toNat).bytes.toArray⟩) ∧ w'.cell? ⟨b, off + c.toNat * 3 + 2, none⟩ = some (.slice a1 (Tr.kid t c.toNat).items.length cap1)) (go_keep)
      ((go_at_call 107; refine (HRF.out w2.drew (rep_in HRX.out ((Below.refl _ _).drew)) HBX.out (HDX.out.frame ((Below.refl _ _).drew))).mono ?_; rintro e w4 ⟨rfl, b4⟩; have B24 : Hid (Below w2.heap.size w2 w4) := below_undrew b4; have HP4 : Hid (w4.heap[w.heap.size + 1]? = some (.cells #[.slice none 0 0, .bool false, .string ⟨#[]⟩, .bool false, .string ⟨#[]⟩] 117 (0, 0))) := (B24.out.block (w.heap.size + 1) hw3).trans HP2.out; obtain ⟨v0, v1, v2, v3, v4, z0, z1, z2, z3, z4⟩ := way_cells HP4.out; obtain ⟨hcc, hff⟩ := bcell B24.out; have y2 := (hcc _ 2 hw30).trans x2; have mc := (hcc _ _ hbd3).trans kc; have m0 := (hcc _ _ hb3).trans k0; have m1 := (hcc _ _ hb3).trans k1; have m2 := (hcc _ _ hb3).trans k2; clear b4 hcc hff))
    all_goals
      go_wp2_with fail
      obtain ⟨c0, c1, c2, c3, c4⟩ := set5_cells HP4.out (.slice none 0 0) (.bool false) (.string ⟨#[]⟩) (.bool false) (.string ⟨#[]⟩)
      have HF := hid (set5_below (bb_on HB2.out B24.out) (by omega : w.heap.size ≤ w.heap.size + 1) (.slice none 0 0) (.bool false) (.string ⟨#[]⟩) (.bool false) (.string ⟨#[]⟩))
      generalize hwF : set5 w4 (w.heap.size + 1) (.slice none 0 0) (.bool false) (.string ⟨#[]⟩) (.bool false) (.string ⟨#[]⟩) = wF at *
      unfold set5 at hwF
      rw [hwF]
      refine bodyPost_ret (v := .tuple #[.agg #[.slice none 0 0, .bool false, .string ⟨#[]⟩, .bool false, .string ⟨#[]⟩], .bool false]) (by simp [results, Tryz.results74, go_sem, c0, c1, c2, c3, c4]) rfl ?_
      exact goesPost_none HV.out HF.out

set_option maxHeartbeats 3200000 in
theorem goes_en (hG : GoesAt n) (hr : Rep w.heap.size w (n + 1) (.agg #[.bool t.list, .string ⟨t.bytes.toArray⟩, .slice a t.items.length cap]) t) (hw : Itm.wt t ≤ 1000000) (hB : B ≤ w.heap.size) (c : UInt8) (r : List UInt8) (hkc : k = c :: r) (hd : BrdC B w (.slice ad k.length capd) k) (hk16 : ∀ c ∈ k, c.toNat < 16) (hk6 : k.length ≤ 1000000) (hb : Tr.isBranch t = true) (hs : Tr.sound t = true) (hcp : capd = 1) (hy : Tr.refers (Tr.kid t c.toNat) r false = none) : Calls Tryz.prog 74 #[.agg #[.bool t.list, .string ⟨t.bytes.toArray⟩, .slice a t.items.length cap], .slice ad k.length capd, .bool br] w (GoesPost B (Tr.goes t k br) w) := by
  subst hkc
  have hc16 : c.toNat < 16 := hk16 c (by simp)
  obtain ⟨bd, od, hcapd, hbd, hcell, rfl⟩ : ∃ bd od, (c :: r).length ≤ capd ∧ bd < B ∧ w.cell? ⟨bd, od, none⟩ = some (.int .u8 (c.toNat : Nat)) ∧ ad = some ⟨bd, od, none⟩ := by
    rcases id hd with ⟨_, h0⟩ | ⟨b, off, cap', hv, hc, hlt, hcs⟩
    · cases h0
    · simp only [Value.slice.injEq, true_and] at hv
      exact ⟨b, off, by have := hv.2; omega, hlt, by have := hcs 0 (by simp); simpa using this, hv.1⟩
  subst hcp
  have he := Tr.branch_full hb
  have hl := Tr.branch_len hb
  have HV := hid ((Tr.goes_down c r br hb (by omega)).trans hy)
  have HBR := hid (fun w => isBranch_any t w a cap)
  have HE := hid (fun w => isEmpty_any t w a cap)
  obtain ⟨b, off, a1, cap1, rfl, hbb, g0, g1, g2, r1⟩ := rep_kid hr c.toNat (by omega)
  have w1' := kid_wt' t c.toNat (by omega)
  have HRF : Hid (∀ W, Rep W.heap.size W n (.agg #[.bool (Tr.kid t c.toNat).list, .string ⟨(Tr.kid t c.toNat).bytes.toArray⟩, .slice a1 (Tr.kid t c.toNat).items.length cap1]) (Tr.kid t c.toNat) → B ≤ W.heap.size → BrdC B W (.slice (some ⟨bd, od, none⟩) r.length 0) r →
      Calls Tryz.prog 107 #[.agg #[.bool (Tr.kid t c.toNat).list, .string ⟨(Tr.kid t c.toNat).bytes.toArray⟩, .slice a1 (Tr.kid t c.toNat).items.length cap1], .slice (some ⟨bd, od, none⟩) r.length 0, .bool false] W
        fun e w' => e = .returned (.tuple #[.agg #[.slice none 0 0, .bool false, .string ⟨#[]⟩, .bool false, .string ⟨#[]⟩], .bool false]) ∧ Below W.heap.size W w') := by
    intro W hW hBW hdW
    have h := refers_any n hG _ (Tr.kid t c.toNat) W B _ r false hW (Tr.sound_down hs hb c.toNat hc16) (by omega) hBW hdW (fun x hx => hk16 x (by simp [hx])) (by simp at hk6; omega)
    refine h.mono ?_
    rintro e w' ⟨g1, _, g3⟩
    exact ⟨g1 hy, g3⟩
  have HDR0 := hd.cutOff 1 (by simp)
  rw [if_pos rfl] at HDR0
  simp only [List.drop_succ_cons, List.drop_zero, Nat.sub_self] at HDR0
  have HDR := hid HDR0
  have HBB := hid hB
  have HR1 := hid r1
  have i1 : (0 : Int) ≤ (c.toNat : Int) := by omega
  have i2 : (c.toNat : Int) < (t.items.length : Int) := by omega
  have hcapd' : r.length + 1 ≤ (1 : Nat) := by simpa only [List.length_cons] using hcapd
  have i3 : (1 : Int) ≤ ((1 : Nat) : Int) := by omega
  have i4 : ((r.length : Int) + 1 == 0) = false := by simp; omega
  have i5 : (r.length : Int) + 1 ≤ ((1 : Nat) : Int) := by omega
  have i7 : (1 : Int) ≤ (r.length : Int) + 1 := by omega
  have i8 : (0 : Int) ≤ (r.length : Int) := by omega
  have i6 : (0 : Int) < (r.length : Int) + 1 := by omega
  have hbw : bd < w.heap.size := by omega
  rw [hb] at HBR
  rw [he] at HE
  clear hG hr hl hb he hw w1' hd r1 hcapd hcapd' hy hs hk16 hk6 hc16
  cases br
  · go_enter Tryz.func74, Tryz.ntmps74
    go_wp2_with fail
    refine (HBR.out _).mono ?_
    rintro e w1 ⟨rfl, b1⟩
    obtain ⟨p1, p2, p3⟩ := two_kept b1
    have x0 := cell_of_row _ _ 0 _ _ _ p1
    have x1 := cell_of_row _ _ 1 _ _ _ p1
    have x2 := cell_of_row _ _ 2 _ _ _ p1
    obtain ⟨v0, v1, v2, v3, v4, z0, z1, z2, z3, z4⟩ := way_cells p2
    have HP1 := hid p2
    have HB1 := hid p3
    have HT1 := hid b1
    clear b1 p1 p2 p3
    go_wp2_with fail
    refine (HE.out _).mono ?_
    rintro e w2 ⟨rfl, b2⟩
    have HT2 := hid (bb_on HT1.out b2)
    obtain ⟨p1, p2, p3⟩ := two_kept HT2.out
    have x0 := cell_of_row _ _ 0 _ _ _ p1
    have x1 := cell_of_row _ _ 1 _ _ _ p1
    have x2 := cell_of_row _ _ 2 _ _ _ p1
    obtain ⟨v0, v1, v2, v3, v4, z0, z1, z2, z3, z4⟩ := way_cells p2
    have HP2 := hid p2
    have HB2 := hid p3
    clear b2 p1 p2 p3
    have k0 := (HB2.out.cell (p := ⟨b, off + c.toNat * 3, none⟩) hbb).trans g0
    have k1 := (HB2.out.cell (p := ⟨b, off + c.toNat * 3 + 1, none⟩) hbb).trans g1
    have k2 := (HB2.out.cell (p := ⟨b, off + c.toNat * 3 + 2, none⟩) hbb).trans g2
    have kc := (HB2.out.cell (p := ⟨bd, od, none⟩) hbw).trans hcell
    have HRX := hid (rep_in HR1.out HB2.out)
    have HDX := hid (HDR.out.frame (HB2.out.mono HBB.out))
    have HBX : Hid (B ≤ w2.heap.size) := Nat.le_trans HBB.out HB2.out.size
    have hb3 : b < w2.heap.size := Nat.lt_of_lt_of_le hbb HB2.out.size
    have hbd3 : bd < w2.heap.size := Nat.lt_of_lt_of_le hbw HB2.out.size
    have hw3 : w.heap.size + 1 < w2.heap.size := (Array.getElem?_eq_some_iff.1 HP2.out).1
    have hw30 : w.heap.size < w2.heap.size := by omega
    have hnb : ¬ b = w.heap.size + 1 := by omega
    have hnb' : ¬ w.heap.size + 1 = b := by omega
    have hnd : ¬ bd = w.heap.size + 1 := by omega
    have hnd' : ¬ w.heap.size + 1 = bd := by omega
    clear g0 g1 g2 HE HBR HT1 HT2 HB1 HP1 HDR HR1
    go_wp2_with fail
    go_region_held3 (fun w' => w'.cell? ⟨w.heap.size, 2, none⟩ = some (.slice (some ⟨b, off, none⟩) t.items.length cap) ∧ w'.cell? ⟨bd, od, none⟩ = some (.int .u8 (c.toNat : Nat)) ∧ w'.cell? ⟨b, off + c.toNat * 3, none⟩ = some (.bool (Tr.kid t c.toNat).list) ∧ w'.cell? ⟨b, off + c.toNat * 3 + 1, none⟩ = some (.string ⟨(Tr.kid t c.toNat).bytes.toArray⟩) ∧ w'.cell? ⟨b, off + c.toNat * 3 + 2, none⟩ = some (.slice a1 (Tr.kid t c.toNat).items.length cap1)) (go_keep)
      ((go_at_call 107; refine (HRF.out w2.drew (rep_in HRX.out ((Below.refl _ _).drew)) HBX.out (HDX.out.frame ((Below.refl _ _).drew))).mono ?_; rintro e w4 ⟨rfl, b4⟩; have B24 : Hid (Below w2.heap.size w2 w4) := below_undrew b4; have HP4 : Hid (w4.heap[w.heap.size + 1]? = some (.cells #[.slice none 0 0, .bool false, .string ⟨#[]⟩, .bool false, .string ⟨#[]⟩] 117 (0, 0))) := (B24.out.block (w.heap.size + 1) hw3).trans HP2.out; obtain ⟨v0, v1, v2, v3, v4, z0, z1, z2, z3, z4⟩ := way_cells HP4.out; obtain ⟨hcc, hff⟩ := bcell B24.out; have y2 := (hcc _ 2 hw30).trans x2; have mc := (hcc _ _ hbd3).trans kc; have m0 := (hcc _ _ hb3).trans k0; have m1 := (hcc _ _ hb3).trans k1; have m2 := (hcc _ _ hb3).trans k2; clear b4 hcc hff))
    all_goals
      go_wp2_with fail
      obtain ⟨c0, c1, c2, c3, c4⟩ := set5_cells HP4.out (.slice none 0 0) (.bool false) (.string ⟨#[]⟩) (.bool false) (.string ⟨#[]⟩)
      have HF := hid (set5_below (bb_on HB2.out B24.out) (by omega : w.heap.size ≤ w.heap.size + 1) (.slice none 0 0) (.bool false) (.string ⟨#[]⟩) (.bool false) (.string ⟨#[]⟩))
      generalize hwF : set5 w4 (w.heap.size + 1) (.slice none 0 0) (.bool false) (.string ⟨#[]⟩) (.bool false) (.string ⟨#[]⟩) = wF at *
      unfold set5 at hwF
      rw [hwF]
      refine bodyPost_ret (v := .tuple #[.agg #[.slice none 0 0, .bool false, .string ⟨#[]⟩, .bool false, .string ⟨#[]⟩], .bool false]) (by simp [results, Tryz.results74, go_sem, c0, c1, c2, c3, c4]) rfl ?_
      exact goesPost_none HV.out HF.out
  · go_enter Tryz.func74, Tryz.ntmps74
    go_wp2_with fail
    refine (HBR.out _).mono ?_
    rintro e w1 ⟨rfl, b1⟩
    obtain ⟨p1, p2, p3⟩ := two_kept b1
    have x0 := cell_of_row _ _ 0 _ _ _ p1
    have x1 := cell_of_row _ _ 1 _ _ _ p1
    have x2 := cell_of_row _ _ 2 _ _ _ p1
    obtain ⟨v0, v1, v2, v3, v4, z0, z1, z2, z3, z4⟩ := way_cells p2
    have HP1 := hid p2
    have HB1 := hid p3
    have HT1 := hid b1
    clear b1 p1 p2 p3
    go_wp2_with fail
    refine (HE.out _).mono ?_
    rintro e w2 ⟨rfl, b2⟩
    have HT2 := hid (bb_on HT1.out b2)
    obtain ⟨p1, p2, p3⟩ := two_kept HT2.out
    have x0 := cell_of_row _ _ 0 _ _ _ p1
    have x1 := cell_of_row _ _ 1 _ _ _ p1
    have x2 := cell_of_row _ _ 2 _ _ _ p1
    obtain ⟨v0, v1, v2, v3, v4, z0, z1, z2, z3, z4⟩ := way_cells p2
    have HP2 := hid p2
    have HB2 := hid p3
    clear b2 p1 p2 p3
    have k0 := (HB2.out.cell (p := ⟨b, off + c.toNat * 3, none⟩) hbb).trans g0
    have k1 := (HB2.out.cell (p := ⟨b, off + c.toNat * 3 + 1, none⟩) hbb).trans g1
    have k2 := (HB2.out.cell (p := ⟨b, off + c.toNat * 3 + 2, none⟩) hbb).trans g2
    have kc := (HB2.out.cell (p := ⟨bd, od, none⟩) hbw).trans hcell
    have HRX := hid (rep_in HR1.out HB2.out)
    have HDX := hid (HDR.out.frame (HB2.out.mono HBB.out))
    have HBX : Hid (B ≤ w2.heap.size) := Nat.le_trans HBB.out HB2.out.size
    have hb3 : b < w2.heap.size := Nat.lt_of_lt_of_le hbb HB2.out.size
    have hbd3 : bd < w2.heap.size := Nat.lt_of_lt_of_le hbw HB2.out.size
    have hw3 : w.heap.size + 1 < w2.heap.size := (Array.getElem?_eq_some_iff.1 HP2.out).1
    have hw30 : w.heap.size < w2.heap.size := by omega
    have hnb : ¬ b = w.heap.size + 1 := by omega
    have hnb' : ¬ w.heap.size + 1 = b := by omega
    have hnd : ¬ bd = w.heap.size + 1 := by omega
    have hnd' : ¬ w.heap.size + 1 = bd := by omega
    clear g0 g1 g2 HE HBR HT1 HT2 HB1 HP1 HDR HR1
    go_wp2_with fail
    go_region_held3 (fun w' => w'.cell? ⟨w.heap.size, 2, none⟩ = some (.slice (some ⟨b, off, none⟩) t.items.length cap) ∧ w'.cell? ⟨bd, od, none⟩ = some (.int .u8 (c.toNat : Nat)) ∧ w'.cell? ⟨b, off + c.toNat * 3, none⟩ = some (.bool (Tr.kid t c.toNat).list) ∧ w'.cell? ⟨b, off + c.toNat * 3 + 1, none⟩ = some (.string ⟨(Tr.kid t c.toNat).bytes.toArray⟩) ∧ w'.cell? ⟨b, off + c.toNat * 3 + 2, none⟩ = some (.slice a1 (Tr.kid t c.toNat).items.length cap1)) (go_keep)
      ((go_at_call 107; refine (HRF.out w2.drew (rep_in HRX.out ((Below.refl _ _).drew)) HBX.out (HDX.out.frame ((Below.refl _ _).drew))).mono ?_; rintro e w4 ⟨rfl, b4⟩; have B24 : Hid (Below w2.heap.size w2 w4) := below_undrew b4; have HP4 : Hid (w4.heap[w.heap.size + 1]? = some (.cells #[.slice none 0 0, .bool false, .string ⟨#[]⟩, .bool false, .string ⟨#[]⟩] 117 (0, 0))) := (B24.out.block (w.heap.size + 1) hw3).trans HP2.out; obtain ⟨v0, v1, v2, v3, v4, z0, z1, z2, z3, z4⟩ := way_cells HP4.out; obtain ⟨hcc, hff⟩ := bcell B24.out; have y2 := (hcc _ 2 hw30).trans x2; have mc := (hcc _ _ hbd3).trans kc; have m0 := (hcc _ _ hb3).trans k0; have m1 := (hcc _ _ hb3).trans k1; have m2 := (hcc _ _ hb3).trans k2; clear b4 hcc hff))
    all_goals
      go_wp2_with fail
      obtain ⟨c0, c1, c2, c3, c4⟩ := set5_cells HP4.out (.slice none 0 0) (.bool false) (.string ⟨#[]⟩) (.bool false) (.string ⟨#[]⟩)
      have HF := hid (set5_below (bb_on HB2.out B24.out) (by omega : w.heap.size ≤ w.heap.size + 1) (.slice none 0 0) (.bool false) (.string ⟨#[]⟩) (.bool false) (.string ⟨#[]⟩))
      generalize hwF : set5 w4 (w.heap.size + 1) (.slice none 0 0) (.bool false) (.string ⟨#[]⟩) (.bool false) (.string ⟨#[]⟩) = wF at *
      unfold set5 at hwF
      rw [hwF]
      refine bodyPost_ret (v := .tuple #[.agg #[.slice none 0 0, .bool false, .string ⟨#[]⟩, .bool false, .string ⟨#[]⟩], .bool false]) (by simp [results, Tryz.results74, go_sem, c0, c1, c2, c3, c4]) rfl ?_
      exact goesPost_none HV.out HF.out

set_option maxHeartbeats 3200000 in
theorem goes_ds (hG : GoesAt n) (hr : Rep w.heap.size w (n + 1) (.agg #[.bool t.list, .string ⟨t.bytes.toArray⟩, .slice a t.items.length cap]) t) (hw : Itm.wt t ≤ 1000000) (hB : B ≤ w.heap.size) (c : UInt8) (r : List UInt8) (hkc : k = c :: r) (hd : BrdC B w (.slice ad k.length capd) k) (hk16 : ∀ c ∈ k, c.toNat < 16) (hk6 : k.length ≤ 1000000) (hb : Tr.isBranch t = true) (hs : Tr.sound t = true) (hcp : ¬ capd = 1) (y : Tr.Way) (hy : Tr.refers (Tr.kid t c.toNat) r false = some y) : Calls Tryz.prog 74 #[.agg #[.bool t.list, .string ⟨t.bytes.toArray⟩, .slice a t.items.length cap], .slice ad k.length capd, .bool br] w (GoesPost B (Tr.goes t k br) w) := by
  subst hkc
  have hc16 : c.toNat < 16 := hk16 c (by simp)
  obtain ⟨bd, od, hcapd, hbd, hcell, rfl⟩ : ∃ bd od, (c :: r).length ≤ capd ∧ bd < B ∧ w.cell? ⟨bd, od, none⟩ = some (.int .u8 (c.toNat : Nat)) ∧ ad = some ⟨bd, od, none⟩ := by
    rcases id hd with ⟨_, h0⟩ | ⟨b, off, cap', hv, hc, hlt, hcs⟩
    · cases h0
    · simp only [Value.slice.injEq, true_and] at hv
      exact ⟨b, off, by have := hv.2; omega, hlt, by have := hcs 0 (by simp); simpa using this, hv.1⟩
  have he := Tr.branch_full hb
  have hl := Tr.branch_len hb
  have HV := hid ((Tr.goes_down c r br hb (by omega)).trans hy)
  have HBR := hid (fun w => isBranch_any t w a cap)
  have HE := hid (fun w => isEmpty_any t w a cap)
  obtain ⟨b, off, a1, cap1, rfl, hbb, g0, g1, g2, r1⟩ := rep_kid hr c.toNat (by omega)
  have w1' := kid_wt' t c.toNat (by omega)
  have HRF : Hid (∀ W, Rep W.heap.size W n (.agg #[.bool (Tr.kid t c.toNat).list, .string ⟨(Tr.kid t c.toNat).bytes.toArray⟩, .slice a1 (Tr.kid t c.toNat).items.length cap1]) (Tr.kid t c.toNat) → B ≤ W.heap.size → BrdC B W (.slice (some ⟨bd, od + 1, none⟩) r.length (capd - 1)) r →
      Calls Tryz.prog 107 #[.agg #[.bool (Tr.kid t c.toNat).list, .string ⟨(Tr.kid t c.toNat).bytes.toArray⟩, .slice a1 (Tr.kid t c.toNat).items.length cap1], .slice (some ⟨bd, od + 1, none⟩) r.length (capd - 1), .bool false] W
        fun e w' => ∃ ay capy, e = .returned (.tuple #[.agg #[.slice ay y.digits.length capy, .bool y.branch, .string ⟨y.value.toArray⟩, .bool y.found, .string ⟨y.need.toArray⟩], .bool true]) ∧ BrdC B w' (.slice ay y.digits.length capy) y.digits ∧ Below W.heap.size W w') := by
    intro W hW hBW hdW
    have h := refers_any n hG _ (Tr.kid t c.toNat) W B _ r false hW (Tr.sound_down hs hb c.toNat hc16) (by omega) hBW hdW (fun x hx => hk16 x (by simp [hx])) (by simp at hk6; omega)
    refine h.mono ?_
    rintro e w' ⟨_, g2, g3⟩
    obtain ⟨ay, capy, q1, q2⟩ := g2 y hy
    exact ⟨ay, capy, q1, q2, g3⟩
  have HDR := hid (hd.drop 1 (by simp))
  simp only [List.drop_succ_cons, List.drop_zero] at HDR
  have HBB := hid hB
  have HR1 := hid r1
  have i1 : (0 : Int) ≤ (c.toNat : Int) := by omega
  have i2 : (c.toNat : Int) < (t.items.length : Int) := by omega
  have hcapd' : r.length + 1 ≤ capd := by simpa only [List.length_cons] using hcapd
  have i3 : (1 : Int) ≤ (capd : Int) := by omega
  have i4 : ((r.length : Int) + 1 == 0) = false := by simp; omega
  have i5 : (r.length : Int) + 1 ≤ (capd : Int) := by omega
  have i7 : (1 : Int) ≤ (r.length : Int) + 1 := by omega
  have i8 : (0 : Int) ≤ (r.length : Int) := by omega
  have i6 : (0 : Int) < (r.length : Int) + 1 := by omega
  have hbw : bd < w.heap.size := by omega
  rw [hb] at HBR
  rw [he] at HE
  clear hG hr hl hb he hw w1' hd r1 hcapd hcapd' hy hs hk16 hk6 hc16
  cases br
  · go_enter Tryz.func74, Tryz.ntmps74
    go_wp2_with fail
    refine (HBR.out _).mono ?_
    rintro e w1 ⟨rfl, b1⟩
    obtain ⟨p1, p2, p3⟩ := two_kept b1
    have x0 := cell_of_row _ _ 0 _ _ _ p1
    have x1 := cell_of_row _ _ 1 _ _ _ p1
    have x2 := cell_of_row _ _ 2 _ _ _ p1
    obtain ⟨v0, v1, v2, v3, v4, z0, z1, z2, z3, z4⟩ := way_cells p2
    have HP1 := hid p2
    have HB1 := hid p3
    have HT1 := hid b1
    clear b1 p1 p2 p3
    go_wp2_with fail
    refine (HE.out _).mono ?_
    rintro e w2 ⟨rfl, b2⟩
    have HT2 := hid (bb_on HT1.out b2)
    obtain ⟨p1, p2, p3⟩ := two_kept HT2.out
    have x0 := cell_of_row _ _ 0 _ _ _ p1
    have x1 := cell_of_row _ _ 1 _ _ _ p1
    have x2 := cell_of_row _ _ 2 _ _ _ p1
    obtain ⟨v0, v1, v2, v3, v4, z0, z1, z2, z3, z4⟩ := way_cells p2
    have HP2 := hid p2
    have HB2 := hid p3
    clear b2 p1 p2 p3
    have k0 := (HB2.out.cell (p := ⟨b, off + c.toNat * 3, none⟩) hbb).trans g0
    have k1 := (HB2.out.cell (p := ⟨b, off + c.toNat * 3 + 1, none⟩) hbb).trans g1
    have k2 := (HB2.out.cell (p := ⟨b, off + c.toNat * 3 + 2, none⟩) hbb).trans g2
    have kc := (HB2.out.cell (p := ⟨bd, od, none⟩) hbw).trans hcell
    have HRX := hid (rep_in HR1.out HB2.out)
    have HDX := hid (HDR.out.frame (HB2.out.mono HBB.out))
    have HBX : Hid (B ≤ w2.heap.size) := Nat.le_trans HBB.out HB2.out.size
    have hb3 : b < w2.heap.size := Nat.lt_of_lt_of_le hbb HB2.out.size
    have hbd3 : bd < w2.heap.size := Nat.lt_of_lt_of_le hbw HB2.out.size
    have hw3 : w.heap.size + 1 < w2.heap.size := (Array.getElem?_eq_some_iff.1 HP2.out).1
    have hw30 : w.heap.size < w2.heap.size := by omega
    have hnb : ¬ b = w.heap.size + 1 := by omega
    have hnb' : ¬ w.heap.size + 1 = b := by omega
    have hnd : ¬ bd = w.heap.size + 1 := by omega
    have hnd' : ¬ w.heap.size + 1 = bd := by omega
    clear g0 g1 g2 HE HBR HT1 HT2 HB1 HP1 HDR HR1
    go_wp2_with fail
    go_region_held3 (fun w' => w'.cell? ⟨w.heap.size, 2, none⟩ = some (.slice (some ⟨b, off, none⟩) t.items.length cap) ∧ w'.cell? ⟨bd, od, none⟩ = some (.int .u8 (c.toNat : Nat)) ∧ w'.cell? ⟨b, off + c.toNat * 3, none⟩ = some (.bool (Tr.kid t c.toNat).list) ∧ w'.cell? ⟨b, off + c.toNat * 3 + 1, none⟩ = some (.string ⟨(Tr.kid t c.toNat).bytes.toArray⟩) ∧ w'.cell? ⟨b, off + c.toNat * 3 + 2, none⟩ = some (.slice a1 (Tr.kid t c.toNat).items.length cap1)) (go_keep)
      ((go_at_call 107; refine (HRF.out w2.drew (rep_in HRX.out ((Below.refl _ _).drew)) HBX.out (HDX.out.frame ((Below.refl _ _).drew))).mono ?_; rintro e w4 ⟨ay, capy, rfl, hyd, b4⟩; have B24 : Hid (Below w2.heap.size w2 w4) := below_undrew b4; have HP4 : Hid (w4.heap[w.heap.size + 1]? = some (.cells #[.slice none 0 0, .bool false, .string ⟨#[]⟩, .bool false, .string ⟨#[]⟩] 117 (0, 0))) := (B24.out.block (w.heap.size + 1) hw3).trans HP2.out; obtain ⟨v0, v1, v2, v3, v4, z0, z1, z2, z3, z4⟩ := way_cells HP4.out; have HYD := hid hyd; obtain ⟨hcc, hff⟩ := bcell B24.out; have y2 := (hcc _ 2 hw30).trans x2; have mc := (hcc _ _ hbd3).trans kc; have m0 := (hcc _ _ hb3).trans k0; have m1 := (hcc _ _ hb3).trans k1; have m2 := (hcc _ _ hb3).trans k2; clear hyd b4 hcc hff))
    all_goals
      go_wp2_with fail
      have HFY := hid (HYD.out.frame (set5_below (Below.refl B w4) (Nat.le_trans HBB.out (Nat.le_succ _)) (.slice ay y.digits.length capy) (.bool y.branch) (.string ⟨y.value.toArray⟩) (.bool y.found) (.string ⟨y.need.toArray⟩)))
      obtain ⟨c0, c1, c2, c3, c4⟩ := set5_cells HP4.out (.slice ay y.digits.length capy) (.bool y.branch) (.string ⟨y.value.toArray⟩) (.bool y.found) (.string ⟨y.need.toArray⟩)
      have HF := hid (set5_below (bb_on HB2.out B24.out) (by omega : w.heap.size ≤ w.heap.size + 1) (.slice ay y.digits.length capy) (.bool y.branch) (.string ⟨y.value.toArray⟩) (.bool y.found) (.string ⟨y.need.toArray⟩))
      generalize hwF : set5 w4 (w.heap.size + 1) (.slice ay y.digits.length capy) (.bool y.branch) (.string ⟨y.value.toArray⟩) (.bool y.found) (.string ⟨y.need.toArray⟩) = wF at *
      unfold set5 at hwF
      rw [hwF]
      refine bodyPost_ret (v := .tuple #[.agg #[.slice ay y.digits.length capy, .bool y.branch, .string ⟨y.value.toArray⟩, .bool y.found, .string ⟨y.need.toArray⟩], .bool true]) (by simp [results, Tryz.results74, go_sem, c0, c1, c2, c3, c4]) rfl ?_
      exact goesPost_some HV.out HFY.out HF.out
  · go_enter Tryz.func74, Tryz.ntmps74
    go_wp2_with fail
    refine (HBR.out _).mono ?_
    rintro e w1 ⟨rfl, b1⟩
    obtain ⟨p1, p2, p3⟩ := two_kept b1
    have x0 := cell_of_row _ _ 0 _ _ _ p1
    have x1 := cell_of_row _ _ 1 _ _ _ p1
    have x2 := cell_of_row _ _ 2 _ _ _ p1
    obtain ⟨v0, v1, v2, v3, v4, z0, z1, z2, z3, z4⟩ := way_cells p2
    have HP1 := hid p2
    have HB1 := hid p3
    have HT1 := hid b1
    clear b1 p1 p2 p3
    go_wp2_with fail
    refine (HE.out _).mono ?_
    rintro e w2 ⟨rfl, b2⟩
    have HT2 := hid (bb_on HT1.out b2)
    obtain ⟨p1, p2, p3⟩ := two_kept HT2.out
    have x0 := cell_of_row _ _ 0 _ _ _ p1
    have x1 := cell_of_row _ _ 1 _ _ _ p1
    have x2 := cell_of_row _ _ 2 _ _ _ p1
    obtain ⟨v0, v1, v2, v3, v4, z0, z1, z2, z3, z4⟩ := way_cells p2
    have HP2 := hid p2
    have HB2 := hid p3
    clear b2 p1 p2 p3
    have k0 := (HB2.out.cell (p := ⟨b, off + c.toNat * 3, none⟩) hbb).trans g0
    have k1 := (HB2.out.cell (p := ⟨b, off + c.toNat * 3 + 1, none⟩) hbb).trans g1
    have k2 := (HB2.out.cell (p := ⟨b, off + c.toNat * 3 + 2, none⟩) hbb).trans g2
    have kc := (HB2.out.cell (p := ⟨bd, od, none⟩) hbw).trans hcell
    have HRX := hid (rep_in HR1.out HB2.out)
    have HDX := hid (HDR.out.frame (HB2.out.mono HBB.out))
    have HBX : Hid (B ≤ w2.heap.size) := Nat.le_trans HBB.out HB2.out.size
    have hb3 : b < w2.heap.size := Nat.lt_of_lt_of_le hbb HB2.out.size
    have hbd3 : bd < w2.heap.size := Nat.lt_of_lt_of_le hbw HB2.out.size
    have hw3 : w.heap.size + 1 < w2.heap.size := (Array.getElem?_eq_some_iff.1 HP2.out).1
    have hw30 : w.heap.size < w2.heap.size := by omega
    have hnb : ¬ b = w.heap.size + 1 := by omega
    have hnb' : ¬ w.heap.size + 1 = b := by omega
    have hnd : ¬ bd = w.heap.size + 1 := by omega
    have hnd' : ¬ w.heap.size + 1 = bd := by omega
    clear g0 g1 g2 HE HBR HT1 HT2 HB1 HP1 HDR HR1
    go_wp2_with fail
    go_region_held3 (fun w' => w'.cell? ⟨w.heap.size, 2, none⟩ = some (.slice (some ⟨b, off, none⟩) t.items.length cap) ∧ w'.cell? ⟨bd, od, none⟩ = some (.int .u8 (c.toNat : Nat)) ∧ w'.cell? ⟨b, off + c.toNat * 3, none⟩ = some (.bool (Tr.kid t c.toNat).list) ∧ w'.cell? ⟨b, off + c.toNat * 3 + 1, none⟩ = some (.string ⟨(Tr.kid t c.toNat).bytes.toArray⟩) ∧ w'.cell? ⟨b, off + c.toNat * 3 + 2, none⟩ = some (.slice a1 (Tr.kid t c.toNat).items.length cap1)) (go_keep)
      ((go_at_call 107; refine (HRF.out w2.drew (rep_in HRX.out ((Below.refl _ _).drew)) HBX.out (HDX.out.frame ((Below.refl _ _).drew))).mono ?_; rintro e w4 ⟨ay, capy, rfl, hyd, b4⟩; have B24 : Hid (Below w2.heap.size w2 w4) := below_undrew b4; have HP4 : Hid (w4.heap[w.heap.size + 1]? = some (.cells #[.slice none 0 0, .bool false, .string ⟨#[]⟩, .bool false, .string ⟨#[]⟩] 117 (0, 0))) := (B24.out.block (w.heap.size + 1) hw3).trans HP2.out; obtain ⟨v0, v1, v2, v3, v4, z0, z1, z2, z3, z4⟩ := way_cells HP4.out; have HYD := hid hyd; obtain ⟨hcc, hff⟩ := bcell B24.out; have y2 := (hcc _ 2 hw30).trans x2; have mc := (hcc _ _ hbd3).trans kc; have m0 := (hcc _ _ hb3).trans k0; have m1 := (hcc _ _ hb3).trans k1; have m2 := (hcc _ _ hb3).trans k2; clear hyd b4 hcc hff))
    all_goals
      go_wp2_with fail
      have HFY := hid (HYD.out.frame (set5_below (Below.refl B w4) (Nat.le_trans HBB.out (Nat.le_succ _)) (.slice ay y.digits.length capy) (.bool y.branch) (.string ⟨y.value.toArray⟩) (.bool y.found) (.string ⟨y.need.toArray⟩)))
      obtain ⟨c0, c1, c2, c3, c4⟩ := set5_cells HP4.out (.slice ay y.digits.length capy) (.bool y.branch) (.string ⟨y.value.toArray⟩) (.bool y.found) (.string ⟨y.need.toArray⟩)
      have HF := hid (set5_below (bb_on HB2.out B24.out) (by omega : w.heap.size ≤ w.heap.size + 1) (.slice ay y.digits.length capy) (.bool y.branch) (.string ⟨y.value.toArray⟩) (.bool y.found) (.string ⟨y.need.toArray⟩))
      generalize hwF : set5 w4 (w.heap.size + 1) (.slice ay y.digits.length capy) (.bool y.branch) (.string ⟨y.value.toArray⟩) (.bool y.found) (.string ⟨y.need.toArray⟩) = wF at *
      unfold set5 at hwF
      rw [hwF]
      refine bodyPost_ret (v := .tuple #[.agg #[.slice ay y.digits.length capy, .bool y.branch, .string ⟨y.value.toArray⟩, .bool y.found, .string ⟨y.need.toArray⟩], .bool true]) (by simp [results, Tryz.results74, go_sem, c0, c1, c2, c3, c4]) rfl ?_
      exact goesPost_some HV.out HFY.out HF.out

set_option maxHeartbeats 3200000 in
theorem goes_es (hG : GoesAt n) (hr : Rep w.heap.size w (n + 1) (.agg #[.bool t.list, .string ⟨t.bytes.toArray⟩, .slice a t.items.length cap]) t) (hw : Itm.wt t ≤ 1000000) (hB : B ≤ w.heap.size) (c : UInt8) (r : List UInt8) (hkc : k = c :: r) (hd : BrdC B w (.slice ad k.length capd) k) (hk16 : ∀ c ∈ k, c.toNat < 16) (hk6 : k.length ≤ 1000000) (hb : Tr.isBranch t = true) (hs : Tr.sound t = true) (hcp : capd = 1) (y : Tr.Way) (hy : Tr.refers (Tr.kid t c.toNat) r false = some y) : Calls Tryz.prog 74 #[.agg #[.bool t.list, .string ⟨t.bytes.toArray⟩, .slice a t.items.length cap], .slice ad k.length capd, .bool br] w (GoesPost B (Tr.goes t k br) w) := by
  subst hkc
  have hc16 : c.toNat < 16 := hk16 c (by simp)
  obtain ⟨bd, od, hcapd, hbd, hcell, rfl⟩ : ∃ bd od, (c :: r).length ≤ capd ∧ bd < B ∧ w.cell? ⟨bd, od, none⟩ = some (.int .u8 (c.toNat : Nat)) ∧ ad = some ⟨bd, od, none⟩ := by
    rcases id hd with ⟨_, h0⟩ | ⟨b, off, cap', hv, hc, hlt, hcs⟩
    · cases h0
    · simp only [Value.slice.injEq, true_and] at hv
      exact ⟨b, off, by have := hv.2; omega, hlt, by have := hcs 0 (by simp); simpa using this, hv.1⟩
  subst hcp
  have he := Tr.branch_full hb
  have hl := Tr.branch_len hb
  have HV := hid ((Tr.goes_down c r br hb (by omega)).trans hy)
  have HBR := hid (fun w => isBranch_any t w a cap)
  have HE := hid (fun w => isEmpty_any t w a cap)
  obtain ⟨b, off, a1, cap1, rfl, hbb, g0, g1, g2, r1⟩ := rep_kid hr c.toNat (by omega)
  have w1' := kid_wt' t c.toNat (by omega)
  have HRF : Hid (∀ W, Rep W.heap.size W n (.agg #[.bool (Tr.kid t c.toNat).list, .string ⟨(Tr.kid t c.toNat).bytes.toArray⟩, .slice a1 (Tr.kid t c.toNat).items.length cap1]) (Tr.kid t c.toNat) → B ≤ W.heap.size → BrdC B W (.slice (some ⟨bd, od, none⟩) r.length 0) r →
      Calls Tryz.prog 107 #[.agg #[.bool (Tr.kid t c.toNat).list, .string ⟨(Tr.kid t c.toNat).bytes.toArray⟩, .slice a1 (Tr.kid t c.toNat).items.length cap1], .slice (some ⟨bd, od, none⟩) r.length 0, .bool false] W
        fun e w' => ∃ ay capy, e = .returned (.tuple #[.agg #[.slice ay y.digits.length capy, .bool y.branch, .string ⟨y.value.toArray⟩, .bool y.found, .string ⟨y.need.toArray⟩], .bool true]) ∧ BrdC B w' (.slice ay y.digits.length capy) y.digits ∧ Below W.heap.size W w') := by
    intro W hW hBW hdW
    have h := refers_any n hG _ (Tr.kid t c.toNat) W B _ r false hW (Tr.sound_down hs hb c.toNat hc16) (by omega) hBW hdW (fun x hx => hk16 x (by simp [hx])) (by simp at hk6; omega)
    refine h.mono ?_
    rintro e w' ⟨_, g2, g3⟩
    obtain ⟨ay, capy, q1, q2⟩ := g2 y hy
    exact ⟨ay, capy, q1, q2, g3⟩
  have HDR0 := hd.cutOff 1 (by simp)
  rw [if_pos rfl] at HDR0
  simp only [List.drop_succ_cons, List.drop_zero, Nat.sub_self] at HDR0
  have HDR := hid HDR0
  have HBB := hid hB
  have HR1 := hid r1
  have i1 : (0 : Int) ≤ (c.toNat : Int) := by omega
  have i2 : (c.toNat : Int) < (t.items.length : Int) := by omega
  have hcapd' : r.length + 1 ≤ (1 : Nat) := by simpa only [List.length_cons] using hcapd
  have i3 : (1 : Int) ≤ ((1 : Nat) : Int) := by omega
  have i4 : ((r.length : Int) + 1 == 0) = false := by simp; omega
  have i5 : (r.length : Int) + 1 ≤ ((1 : Nat) : Int) := by omega
  have i7 : (1 : Int) ≤ (r.length : Int) + 1 := by omega
  have i8 : (0 : Int) ≤ (r.length : Int) := by omega
  have i6 : (0 : Int) < (r.length : Int) + 1 := by omega
  have hbw : bd < w.heap.size := by omega
  rw [hb] at HBR
  rw [he] at HE
  clear hG hr hl hb he hw w1' hd r1 hcapd hcapd' hy hs hk16 hk6 hc16
  cases br
  · go_enter Tryz.func74, Tryz.ntmps74
    go_wp2_with fail
    refine (HBR.out _).mono ?_
    rintro e w1 ⟨rfl, b1⟩
    obtain ⟨p1, p2, p3⟩ := two_kept b1
    have x0 := cell_of_row _ _ 0 _ _ _ p1
    have x1 := cell_of_row _ _ 1 _ _ _ p1
    have x2 := cell_of_row _ _ 2 _ _ _ p1
    obtain ⟨v0, v1, v2, v3, v4, z0, z1, z2, z3, z4⟩ := way_cells p2
    have HP1 := hid p2
    have HB1 := hid p3
    have HT1 := hid b1
    clear b1 p1 p2 p3
    go_wp2_with fail
    refine (HE.out _).mono ?_
    rintro e w2 ⟨rfl, b2⟩
    have HT2 := hid (bb_on HT1.out b2)
    obtain ⟨p1, p2, p3⟩ := two_kept HT2.out
    have x0 := cell_of_row _ _ 0 _ _ _ p1
    have x1 := cell_of_row _ _ 1 _ _ _ p1
    have x2 := cell_of_row _ _ 2 _ _ _ p1
    obtain ⟨v0, v1, v2, v3, v4, z0, z1, z2, z3, z4⟩ := way_cells p2
    have HP2 := hid p2
    have HB2 := hid p3
    clear b2 p1 p2 p3
    have k0 := (HB2.out.cell (p := ⟨b, off + c.toNat * 3, none⟩) hbb).trans g0
    have k1 := (HB2.out.cell (p := ⟨b, off + c.toNat * 3 + 1, none⟩) hbb).trans g1
    have k2 := (HB2.out.cell (p := ⟨b, off + c.toNat * 3 + 2, none⟩) hbb).trans g2
    have kc := (HB2.out.cell (p := ⟨bd, od, none⟩) hbw).trans hcell
    have HRX := hid (rep_in HR1.out HB2.out)
    have HDX := hid (HDR.out.frame (HB2.out.mono HBB.out))
    have HBX : Hid (B ≤ w2.heap.size) := Nat.le_trans HBB.out HB2.out.size
    have hb3 : b < w2.heap.size := Nat.lt_of_lt_of_le hbb HB2.out.size
    have hbd3 : bd < w2.heap.size := Nat.lt_of_lt_of_le hbw HB2.out.size
    have hw3 : w.heap.size + 1 < w2.heap.size := (Array.getElem?_eq_some_iff.1 HP2.out).1
    have hw30 : w.heap.size < w2.heap.size := by omega
    have hnb : ¬ b = w.heap.size + 1 := by omega
    have hnb' : ¬ w.heap.size + 1 = b := by omega
    have hnd : ¬ bd = w.heap.size + 1 := by omega
    have hnd' : ¬ w.heap.size + 1 = bd := by omega
    clear g0 g1 g2 HE HBR HT1 HT2 HB1 HP1 HDR HR1
    go_wp2_with fail
    go_region_held3 (fun w' => w'.cell? ⟨w.heap.size, 2, none⟩ = some (.slice (some ⟨b, off, none⟩) t.items.length cap) ∧ w'.cell? ⟨bd, od, none⟩ = some (.int .u8 (c.toNat : Nat)) ∧ w'.cell? ⟨b, off + c.toNat * 3, none⟩ = some (.bool (Tr.kid t c.toNat).list) ∧ w'.cell? ⟨b, off + c.toNat * 3 + 1, none⟩ = some (.string ⟨(Tr.kid t c.toNat).bytes.toArray⟩) ∧ w'.cell? ⟨b, off + c.toNat * 3 + 2, none⟩ = some (.slice a1 (Tr.kid t c.toNat).items.length cap1)) (go_keep)
      ((go_at_call 107; refine (HRF.out w2.drew (rep_in HRX.out ((Below.refl _ _).drew)) HBX.out (HDX.out.frame ((Below.refl _ _).drew))).mono ?_; rintro e w4 ⟨ay, capy, rfl, hyd, b4⟩; have B24 : Hid (Below w2.heap.size w2 w4) := below_undrew b4; have HP4 : Hid (w4.heap[w.heap.size + 1]? = some (.cells #[.slice none 0 0, .bool false, .string ⟨#[]⟩, .bool false, .string ⟨#[]⟩] 117 (0, 0))) := (B24.out.block (w.heap.size + 1) hw3).trans HP2.out; obtain ⟨v0, v1, v2, v3, v4, z0, z1, z2, z3, z4⟩ := way_cells HP4.out; have HYD := hid hyd; obtain ⟨hcc, hff⟩ := bcell B24.out; have y2 := (hcc _ 2 hw30).trans x2; have mc := (hcc _ _ hbd3).trans kc; have m0 := (hcc _ _ hb3).trans k0; have m1 := (hcc _ _ hb3).trans k1; have m2 := (hcc _ _ hb3).trans k2; clear hyd b4 hcc hff))
    all_goals
      go_wp2_with fail
      have HFY := hid (HYD.out.frame (set5_below (Below.refl B w4) (Nat.le_trans HBB.out (Nat.le_succ _)) (.slice ay y.digits.length capy) (.bool y.branch) (.string ⟨y.value.toArray⟩) (.bool y.found) (.string ⟨y.need.toArray⟩)))
      obtain ⟨c0, c1, c2, c3, c4⟩ := set5_cells HP4.out (.slice ay y.digits.length capy) (.bool y.branch) (.string ⟨y.value.toArray⟩) (.bool y.found) (.string ⟨y.need.toArray⟩)
      have HF := hid (set5_below (bb_on HB2.out B24.out) (by omega : w.heap.size ≤ w.heap.size + 1) (.slice ay y.digits.length capy) (.bool y.branch) (.string ⟨y.value.toArray⟩) (.bool y.found) (.string ⟨y.need.toArray⟩))
      generalize hwF : set5 w4 (w.heap.size + 1) (.slice ay y.digits.length capy) (.bool y.branch) (.string ⟨y.value.toArray⟩) (.bool y.found) (.string ⟨y.need.toArray⟩) = wF at *
      unfold set5 at hwF
      rw [hwF]
      refine bodyPost_ret (v := .tuple #[.agg #[.slice ay y.digits.length capy, .bool y.branch, .string ⟨y.value.toArray⟩, .bool y.found, .string ⟨y.need.toArray⟩], .bool true]) (by simp [results, Tryz.results74, go_sem, c0, c1, c2, c3, c4]) rfl ?_
      exact goesPost_some HV.out HFY.out HF.out
  · go_enter Tryz.func74, Tryz.ntmps74
    go_wp2_with fail
    refine (HBR.out _).mono ?_
    rintro e w1 ⟨rfl, b1⟩
    obtain ⟨p1, p2, p3⟩ := two_kept b1
    have x0 := cell_of_row _ _ 0 _ _ _ p1
    have x1 := cell_of_row _ _ 1 _ _ _ p1
    have x2 := cell_of_row _ _ 2 _ _ _ p1
    obtain ⟨v0, v1, v2, v3, v4, z0, z1, z2, z3, z4⟩ := way_cells p2
    have HP1 := hid p2
    have HB1 := hid p3
    have HT1 := hid b1
    clear b1 p1 p2 p3
    go_wp2_with fail
    refine (HE.out _).mono ?_
    rintro e w2 ⟨rfl, b2⟩
    have HT2 := hid (bb_on HT1.out b2)
    obtain ⟨p1, p2, p3⟩ := two_kept HT2.out
    have x0 := cell_of_row _ _ 0 _ _ _ p1
    have x1 := cell_of_row _ _ 1 _ _ _ p1
    have x2 := cell_of_row _ _ 2 _ _ _ p1
    obtain ⟨v0, v1, v2, v3, v4, z0, z1, z2, z3, z4⟩ := way_cells p2
    have HP2 := hid p2
    have HB2 := hid p3
    clear b2 p1 p2 p3
    have k0 := (HB2.out.cell (p := ⟨b, off + c.toNat * 3, none⟩) hbb).trans g0
    have k1 := (HB2.out.cell (p := ⟨b, off + c.toNat * 3 + 1, none⟩) hbb).trans g1
    have k2 := (HB2.out.cell (p := ⟨b, off + c.toNat * 3 + 2, none⟩) hbb).trans g2
    have kc := (HB2.out.cell (p := ⟨bd, od, none⟩) hbw).trans hcell
    have HRX := hid (rep_in HR1.out HB2.out)
    have HDX := hid (HDR.out.frame (HB2.out.mono HBB.out))
    have HBX : Hid (B ≤ w2.heap.size) := Nat.le_trans HBB.out HB2.out.size
    have hb3 : b < w2.heap.size := Nat.lt_of_lt_of_le hbb HB2.out.size
    have hbd3 : bd < w2.heap.size := Nat.lt_of_lt_of_le hbw HB2.out.size
    have hw3 : w.heap.size + 1 < w2.heap.size := (Array.getElem?_eq_some_iff.1 HP2.out).1
    have hw30 : w.heap.size < w2.heap.size := by omega
    have hnb : ¬ b = w.heap.size + 1 := by omega
    have hnb' : ¬ w.heap.size + 1 = b := by omega
    have hnd : ¬ bd = w.heap.size + 1 := by omega
    have hnd' : ¬ w.heap.size + 1 = bd := by omega
    clear g0 g1 g2 HE HBR HT1 HT2 HB1 HP1 HDR HR1
    go_wp2_with fail
    go_region_held3 (fun w' => w'.cell? ⟨w.heap.size, 2, none⟩ = some (.slice (some ⟨b, off, none⟩) t.items.length cap) ∧ w'.cell? ⟨bd, od, none⟩ = some (.int .u8 (c.toNat : Nat)) ∧ w'.cell? ⟨b, off + c.toNat * 3, none⟩ = some (.bool (Tr.kid t c.toNat).list) ∧ w'.cell? ⟨b, off + c.toNat * 3 + 1, none⟩ = some (.string ⟨(Tr.kid t c.toNat).bytes.toArray⟩) ∧ w'.cell? ⟨b, off + c.toNat * 3 + 2, none⟩ = some (.slice a1 (Tr.kid t c.toNat).items.length cap1)) (go_keep)
      ((go_at_call 107; refine (HRF.out w2.drew (rep_in HRX.out ((Below.refl _ _).drew)) HBX.out (HDX.out.frame ((Below.refl _ _).drew))).mono ?_; rintro e w4 ⟨ay, capy, rfl, hyd, b4⟩; have B24 : Hid (Below w2.heap.size w2 w4) := below_undrew b4; have HP4 : Hid (w4.heap[w.heap.size + 1]? = some (.cells #[.slice none 0 0, .bool false, .string ⟨#[]⟩, .bool false, .string ⟨#[]⟩] 117 (0, 0))) := (B24.out.block (w.heap.size + 1) hw3).trans HP2.out; obtain ⟨v0, v1, v2, v3, v4, z0, z1, z2, z3, z4⟩ := way_cells HP4.out; have HYD := hid hyd; obtain ⟨hcc, hff⟩ := bcell B24.out; have y2 := (hcc _ 2 hw30).trans x2; have mc := (hcc _ _ hbd3).trans kc; have m0 := (hcc _ _ hb3).trans k0; have m1 := (hcc _ _ hb3).trans k1; have m2 := (hcc _ _ hb3).trans k2; clear hyd b4 hcc hff))
    all_goals
      go_wp2_with fail
      have HFY := hid (HYD.out.frame (set5_below (Below.refl B w4) (Nat.le_trans HBB.out (Nat.le_succ _)) (.slice ay y.digits.length capy) (.bool y.branch) (.string ⟨y.value.toArray⟩) (.bool y.found) (.string ⟨y.need.toArray⟩)))
      obtain ⟨c0, c1, c2, c3, c4⟩ := set5_cells HP4.out (.slice ay y.digits.length capy) (.bool y.branch) (.string ⟨y.value.toArray⟩) (.bool y.found) (.string ⟨y.need.toArray⟩)
      have HF := hid (set5_below (bb_on HB2.out B24.out) (by omega : w.heap.size ≤ w.heap.size + 1) (.slice ay y.digits.length capy) (.bool y.branch) (.string ⟨y.value.toArray⟩) (.bool y.found) (.string ⟨y.need.toArray⟩))
      generalize hwF : set5 w4 (w.heap.size + 1) (.slice ay y.digits.length capy) (.bool y.branch) (.string ⟨y.value.toArray⟩) (.bool y.found) (.string ⟨y.need.toArray⟩) = wF at *
      unfold set5 at hwF
      rw [hwF]
      refine bodyPost_ret (v := .tuple #[.agg #[.slice ay y.digits.length capy, .bool y.branch, .string ⟨y.value.toArray⟩, .bool y.found, .string ⟨y.need.toArray⟩], .bool true]) (by simp [results, Tryz.results74, go_sem, c0, c1, c2, c3, c4]) rfl ?_
      exact goesPost_some HV.out HFY.out HF.out
end

theorem goesR_any (n : Nat) : GoesAt n := by
  induction n with
  | zero => intro v t w B d k br h; exact h.elim
  | succ n ih =>
    intro v t w B d k br hr hs hw hB hd hk hl
    obtain ⟨a, cap, rfl, _⟩ := id hr
    obtain ⟨ad, capd, rfl⟩ := hd.shape
    by_cases hb : Tr.isBranch t = true
    · cases k with
      | nil => exact goes_c n t w a cap B ad capd [] br hr hb rfl
      | cons c r =>
        by_cases hcp : capd = 1
        · cases ho : Tr.refers (Tr.kid t c.toNat) r false with
          | none => exact goes_en n t w a cap B ad capd _ br ih hr hw hB c r rfl hd hk hl hb hs hcp ho
          | some y => exact goes_es n t w a cap B ad capd _ br ih hr hw hB c r rfl hd hk hl hb hs hcp y ho
        · cases ho : Tr.refers (Tr.kid t c.toNat) r false with
          | none => exact goes_dn n t w a cap B ad capd _ br ih hr hw hB c r rfl hd hk hl hb hs hcp ho
          | some y => exact goes_ds n t w a cap B ad capd _ br ih hr hw hB c r rfl hd hk hl hb hs hcp y ho
    · have hb' : Tr.isBranch t = false := by simpa using hb
      cases br with
      | true => exact goes_a t w a cap B ad capd k true hb' rfl
      | false =>
        by_cases he : Tr.isEmpty t = true
        · exact goes_b t w a cap B ad capd k false he hb' rfl
        · have he' : Tr.isEmpty t = false := by simpa using he
          obtain ⟨h2, hp⟩ := Tr.sound_two hs he' hb'
          cases hu : Tr.unpath (Tr.kid t 0) with
          | none => rw [hu] at hp; cases hp
          | some pl =>
            obtain ⟨p, leaf⟩ := pl
            rw [hu] at hp
            cases leaf with
            | false =>
              have hp' : 0 < p.length ∧ Tr.isSum (Tr.kid t 1) = true := by
                unfold Tr.pairOk at hp
                simp only [Bool.false_eq_true, if_false, Bool.and_eq_true, decide_eq_true_eq] at hp
                exact hp
              by_cases hm : k.length < p.length
              · exact goes_m n t w a cap B ad capd k false hr hw hB hd h2 hb' he' p hu hm rfl
              · by_cases hne : k.take p.length = p
                · by_cases hcp : capd = p.length
                  · exact goes_h0 n t w a cap B ad capd k false ih hr hw hB hd hk hl h2 hb' he' p hu hp'.2 hp'.1 (by omega) hne hcp rfl
                  · exact goes_h n t w a cap B ad capd k false ih hr hw hB hd hk hl h2 hb' he' p hu hp'.2 hp'.1 (by omega) hne hcp rfl
                · exact goes_x n t w a cap B ad capd k false hr hw hB hd h2 hb' he' p hu hp'.1 (by omega) hne rfl
            | true => exact goes_l n t w a cap B ad capd k false hr hw hB hd h2 hb' he' p hu rfl
end Go.Proofs.YtbmohenjphmlgaaGreat
