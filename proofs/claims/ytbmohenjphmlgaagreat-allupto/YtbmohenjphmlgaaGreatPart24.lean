/- Part 24 of a proof: what the last text needs. -/
import Derived.Test.YtbmohenjphmlgaaGreatPart23
/- The walk of goes (of the document's own answer). -/
namespace Go.Proofs.YtbmohenjphmlgaaGreat
open Go.RowKit
set_option maxRecDepth 100000

theorem below_drewN {B : Nat} {w w1 : World} (n : Nat) (h : Below B w w1) : Below B w (w1.drewN n) := ⟨h.os, h.tape, h.output, h.size, h.block⟩

theorem brd_drewN {B : Nat} {w : World} {v : Value} {l : List UInt8} (n : Nat) (h : Brd B w v l) : Brd B (w.drewN n) v l := brd_frame h (below_drewN n (Below.refl _ _))

theorem BrdC.cutOff {B : Nat} {w : World} {b off cap : Nat} {l : List UInt8} (h : BrdC B w (.slice (some ⟨b, off, none⟩) l.length cap) l) (i : Nat) (hi : i ≤ l.length) :
    BrdC B w (.slice (if cap = i then some ⟨b, off, none⟩ else some ⟨b, off + i, none⟩) (l.drop i).length (cap - i)) (l.drop i) := by
  by_cases hc : cap = i
  · rw [if_pos hc]
    rcases h with ⟨hv, _⟩ | ⟨b', off', cap', hv, hcap, hlt, _⟩
    · simp at hv
    · simp only [Value.slice.injEq, Option.some.injEq, Addr.mk.injEq, and_true, true_and] at hv
      obtain ⟨⟨rfl, rfl⟩, rfl⟩ := hv
      have h0 : l.drop i = [] := List.drop_eq_nil_of_le (by omega)
      rw [h0]
      exact .inr ⟨b, off, cap - i, rfl, by simp, hlt, fun j hj => by simp at hj⟩
  · rw [if_neg hc]; exact h.drop i hi

theorem BrdC.take {B : Nat} {w : World} {a : Option Addr} {cap : Nat} {l : List UInt8} (h : BrdC B w (.slice a l.length cap) l) (i : Nat) (hi : i ≤ l.length) : Brd B w (.slice a i cap) (l.take i) := by
  rcases h with ⟨hv, rfl⟩ | ⟨b, off, cap', hv, hcap, hlt, hc⟩
  · simp only [Value.slice.injEq] at hv
    simp at hi
    subst hi
    exact .inl ⟨by rw [hv.1, hv.2.2], rfl⟩
  · simp only [Value.slice.injEq, true_and] at hv
    obtain ⟨rfl, rfl⟩ := hv
    refine .inr ⟨b, off, cap, by simp; omega, hlt, fun j hj => ?_⟩
    simp at hj
    rw [hc j (by omega)]
    simp

section
variable (n : Nat) (t : Itm) (w : World) (a : Option Addr) (cap : Nat) (B : Nat) (ad : Option Addr) (capd : Nat) (k : List UInt8) (br : Bool)

theorem goes_a (hb : Tr.isBranch t = false) (hbr : br = true) : Calls Tryz.prog 74 #[.agg #[.bool t.list, .string ⟨t.bytes.toArray⟩, .slice a t.items.length cap], .slice ad k.length capd, .bool br] w (GoesPost B (Tr.goes t k br) w) := by
  subst hbr
  have HV := hid (Tr.goes_stop k hb)
  have HBR := hid (fun w => isBranch_any t w a cap)
  rw [hb] at HBR
  go_enter Tryz.func74, Tryz.ntmps74
  go_wp2_with fail
  refine (HBR.out _).mono ?_
  rintro e w1 ⟨rfl, b1⟩
  obtain ⟨p1, p2, p3⟩ := two_kept b1
  have x0 := cell_of_row _ _ 0 _ _ _ p1
  have x1 := cell_of_row _ _ 1 _ _ _ p1
  have x2 := cell_of_row _ _ 2 _ _ _ p1
  obtain ⟨v0, v1, v2, v3, v4, z0, z1, z2, z3, z4⟩ := way_cells p2
  have HP1 := hid p2
  have HB1 := hid p3
  have HT1 := hid b1
  clear b1 p1 p2 p3
  go_wp2_with fail
  obtain ⟨c0, c1, c2, c3, c4⟩ := set5_cells HP1.out (.slice none 0 0) (.bool false) (.string ⟨#[]⟩) (.bool false) (.string ⟨#[]⟩)
  have HF := hid (set5_below HB1.out (by omega : w.heap.size ≤ w.heap.size + 1) (.slice none 0 0) (.bool false) (.string ⟨#[]⟩) (.bool false) (.string ⟨#[]⟩))
  generalize hwF : set5 w1 (w.heap.size + 1) (.slice none 0 0) (.bool false) (.string ⟨#[]⟩) (.bool false) (.string ⟨#[]⟩) = wF at *
  unfold set5 at hwF
  rw [hwF]
  refine bodyPost_ret (v := .tuple #[.agg #[.slice none 0 0, .bool false, .string ⟨#[]⟩, .bool false, .string ⟨#[]⟩], .bool false]) (by simp [results, Tryz.results74, go_sem, c0, c1, c2, c3, c4]) rfl ?_
  exact goesPost_none HV.out HF.out

theorem goes_b (he : Tr.isEmpty t = true) (hb : Tr.isBranch t = false) (hbr : br = false) : Calls Tryz.prog 74 #[.agg #[.bool t.list, .string ⟨t.bytes.toArray⟩, .slice a t.items.length cap], .slice ad k.length capd, .bool br] w (GoesPost B (Tr.goes t k br) w) := by
  subst hbr
  have HV := hid (Tr.goes_empty k he)
  have HBR := hid (fun w => isBranch_any t w a cap)
  have HE := hid (fun w => isEmpty_any t w a cap)
  rw [hb] at HBR
  rw [he] at HE
  go_enter Tryz.func74, Tryz.ntmps74
  go_wp2_with fail
  refine (HBR.out _).mono ?_
  rintro e w1 ⟨rfl, b1⟩
  obtain ⟨p1, p2, p3⟩ := two_kept b1
  have x0 := cell_of_row _ _ 0 _ _ _ p1
  have x1 := cell_of_row _ _ 1 _ _ _ p1
  have x2 := cell_of_row _ _ 2 _ _ _ p1
  obtain ⟨v0, v1, v2, v3, v4, z0, z1, z2, z3, z4⟩ := way_cells p2
  have HP1 := hid p2
  have HB1 := hid p3
  have HT1 := hid b1
  clear b1 p1 p2 p3
  go_wp2_with fail
  refine (HE.out _).mono ?_
  rintro e w2 ⟨rfl, b2⟩
  have HT2 := hid (bb_on HT1.out b2)
  obtain ⟨p1, p2, p3⟩ := two_kept HT2.out
  have x0 := cell_of_row _ _ 0 _ _ _ p1
  have x1 := cell_of_row _ _ 1 _ _ _ p1
  have x2 := cell_of_row _ _ 2 _ _ _ p1
  obtain ⟨v0, v1, v2, v3, v4, z0, z1, z2, z3, z4⟩ := way_cells p2
  have HP2 := hid p2
  have HB2 := hid p3
  clear b2 p1 p2 p3
  go_wp2_with fail
  obtain ⟨c0, c1, c2, c3, c4⟩ := set5_cells HP2.out (.slice none 0 0) (.bool false) (.string ⟨#[]⟩) (.bool false) (.string ⟨#[]⟩)
  have HF := hid (set5_below HB2.out (by omega : w.heap.size ≤ w.heap.size + 1) (.slice none 0 0) (.bool false) (.string ⟨#[]⟩) (.bool false) (.string ⟨#[]⟩))
  generalize hwF : set5 w2 (w.heap.size + 1) (.slice none 0 0) (.bool false) (.string ⟨#[]⟩) (.bool false) (.string ⟨#[]⟩) = wF at *
  unfold set5 at hwF
  rw [hwF]
  refine bodyPost_ret (v := .tuple #[.agg #[.slice none 0 0, .bool false, .string ⟨#[]⟩, .bool false, .string ⟨#[]⟩], .bool true]) (by simp [results, Tryz.results74, go_sem, c0, c1, c2, c3, c4]) rfl ?_
  exact goesPost_some (y := Tr.Way.none) (a := none) (cap := 0) HV.out (.inl ⟨rfl, rfl⟩) HF.out

set_option maxHeartbeats 1600000 in
theorem goes_c (hr : Rep w.heap.size w (n + 1) (.agg #[.bool t.list, .string ⟨t.bytes.toArray⟩, .slice a t.items.length cap]) t) (hb : Tr.isBranch t = true) (hk : k = []) : Calls Tryz.prog 74 #[.agg #[.bool t.list, .string ⟨t.bytes.toArray⟩, .slice a t.items.length cap], .slice ad k.length capd, .bool br] w (GoesPost B (Tr.goes t k br) w) := by
  subst hk
  have he := Tr.branch_full hb
  have HV := hid (Tr.goes_end br hb)
  have HBR := hid (fun w => isBranch_any t w a cap)
  have HE := hid (fun w => isEmpty_any t w a cap)
  have hl := Tr.branch_len hb
  obtain ⟨b, off, a6, cap6, rfl, hbb, e0, e1, e2, _⟩ := rep_kid hr 16 (by omega)
  have i1 : (16 : Int) < (t.items.length : Int) := by omega
  rw [hb] at HBR
  rw [he] at HE
  clear hr hl hb he
  cases br
  · go_enter Tryz.func74, Tryz.ntmps74
    go_wp2_with fail
    refine (HBR.out _).mono ?_
    rintro e w1 ⟨rfl, b1⟩
    obtain ⟨p1, p2, p3⟩ := two_kept b1
    have x0 := cell_of_row _ _ 0 _ _ _ p1
    have x1 := cell_of_row _ _ 1 _ _ _ p1
    have x2 := cell_of_row _ _ 2 _ _ _ p1
    obtain ⟨v0, v1, v2, v3, v4, z0, z1, z2, z3, z4⟩ := way_cells p2
    have HP1 := hid p2
    have HB1 := hid p3
    have HT1 := hid b1
    clear b1 p1 p2 p3
    go_wp2_with fail
    refine (HE.out _).mono ?_
    rintro e w2 ⟨rfl, b2⟩
    have HT2 := hid (bb_on HT1.out b2)
    obtain ⟨p1, p2, p3⟩ := two_kept HT2.out
    have x0 := cell_of_row _ _ 0 _ _ _ p1
    have x1 := cell_of_row _ _ 1 _ _ _ p1
    have x2 := cell_of_row _ _ 2 _ _ _ p1
    obtain ⟨v0, v1, v2, v3, v4, z0, z1, z2, z3, z4⟩ := way_cells p2
    have HP2 := hid p2
    have HB2 := hid p3
    clear b2 p1 p2 p3
    have f1 := (HB2.out.cell (p := ⟨b, off + 16 * 3 + 1, none⟩) hbb).trans e1
    simp only [Nat.reduceMul] at f1
    go_wp2_with fail
    obtain ⟨c0, c1, c2, c3, c4⟩ := set5_cells HP2.out (.slice none 0 0) (.bool false) (.string ⟨(Tr.kid t 16).bytes.toArray⟩) (.bool (!(Tr.kid t 16).bytes.isEmpty)) (.string ⟨#[]⟩)
    have HF := hid (set5_below HB2.out (by omega : w.heap.size ≤ w.heap.size + 1) (.slice none 0 0) (.bool false) (.string ⟨(Tr.kid t 16).bytes.toArray⟩) (.bool (!(Tr.kid t 16).bytes.isEmpty)) (.string ⟨#[]⟩))
    generalize hwF : set5 w2 (w.heap.size + 1) (.slice none 0 0) (.bool false) (.string ⟨(Tr.kid t 16).bytes.toArray⟩) (.bool (!(Tr.kid t 16).bytes.isEmpty)) (.string ⟨#[]⟩) = wF at *
    unfold set5 at hwF
    rw [hwF]
    refine bodyPost_ret (v := .tuple #[.agg #[.slice none 0 0, .bool false, .string ⟨(Tr.kid t 16).bytes.toArray⟩, .bool (!(Tr.kid t 16).bytes.isEmpty), .string ⟨#[]⟩], .bool true]) (by simp [results, Tryz.results74, go_sem, c0, c1, c2, c3, c4]) rfl ?_
    exact goesPost_some (y := Tr.Way.tells (Tr.kid t 16).bytes (!(Tr.kid t 16).bytes.isEmpty)) (a := none) (cap := 0) HV.out (.inl ⟨rfl, rfl⟩) HF.out
  · go_enter Tryz.func74, Tryz.ntmps74
    go_wp2_with fail
    refine (HBR.out _).mono ?_
    rintro e w1 ⟨rfl, b1⟩
    obtain ⟨p1, p2, p3⟩ := two_kept b1
    have x0 := cell_of_row _ _ 0 _ _ _ p1
    have x1 := cell_of_row _ _ 1 _ _ _ p1
    have x2 := cell_of_row _ _ 2 _ _ _ p1
    obtain ⟨v0, v1, v2, v3, v4, z0, z1, z2, z3, z4⟩ := way_cells p2
    have HP1 := hid p2
    have HB1 := hid p3
    have HT1 := hid b1
    clear b1 p1 p2 p3
    go_wp2_with fail
    refine (HE.out _).mono ?_
    rintro e w2 ⟨rfl, b2⟩
    have HT2 := hid (bb_on HT1.out b2)
    obtain ⟨p1, p2, p3⟩ := two_kept HT2.out
    have x0 := cell_of_row _ _ 0 _ _ _ p1
    have x1 := cell_of_row _ _ 1 _ _ _ p1
    have x2 := cell_of_row _ _ 2 _ _ _ p1
    obtain ⟨v0, v1, v2, v3, v4, z0, z1, z2, z3, z4⟩ := way_cells p2
    have HP2 := hid p2
    have HB2 := hid p3
    clear b2 p1 p2 p3
    have f1 := (HB2.out.cell (p := ⟨b, off + 16 * 3 + 1, none⟩) hbb).trans e1
    simp only [Nat.reduceMul] at f1
    go_wp2_with fail
    obtain ⟨c0, c1, c2, c3, c4⟩ := set5_cells HP2.out (.slice none 0 0) (.bool false) (.string ⟨(Tr.kid t 16).bytes.toArray⟩) (.bool (!(Tr.kid t 16).bytes.isEmpty)) (.string ⟨#[]⟩)
    have HF := hid (set5_below HB2.out (by omega : w.heap.size ≤ w.heap.size + 1) (.slice none 0 0) (.bool false) (.string ⟨(Tr.kid t 16).bytes.toArray⟩) (.bool (!(Tr.kid t 16).bytes.isEmpty)) (.string ⟨#[]⟩))
    generalize hwF : set5 w2 (w.heap.size + 1) (.slice none 0 0) (.bool false) (.string ⟨(Tr.kid t 16).bytes.toArray⟩) (.bool (!(Tr.kid t 16).bytes.isEmpty)) (.string ⟨#[]⟩) = wF at *
    unfold set5 at hwF
    rw [hwF]
    refine bodyPost_ret (v := .tuple #[.agg #[.slice none 0 0, .bool false, .string ⟨(Tr.kid t 16).bytes.toArray⟩, .bool (!(Tr.kid t 16).bytes.isEmpty), .string ⟨#[]⟩], .bool true]) (by simp [results, Tryz.results74, go_sem, c0, c1, c2, c3, c4]) rfl ?_
    exact goesPost_some (y := Tr.Way.tells (Tr.kid t 16).bytes (!(Tr.kid t 16).bytes.isEmpty)) (a := none) (cap := 0) HV.out (.inl ⟨rfl, rfl⟩) HF.out

set_option maxHeartbeats 1600000 in
theorem goes_l (hr : Rep w.heap.size w (n + 1) (.agg #[.bool t.list, .string ⟨t.bytes.toArray⟩, .slice a t.items.length cap]) t) (hw : Itm.wt t ≤ 1000000) (hB : B ≤ w.heap.size) (hd : BrdC B w (.slice ad k.length capd) k) (h2 : t.items.length = 2) (hb : Tr.isBranch t = false) (he : Tr.isEmpty t = false) (p : List UInt8) (hu : Tr.unpath (Tr.kid t 0) = some (p, true)) (hbr : br = false) : Calls Tryz.prog 74 #[.agg #[.bool t.list, .string ⟨t.bytes.toArray⟩, .slice a t.items.length cap], .slice ad k.length capd, .bool br] w (GoesPost B (Tr.goes t k br) w) := by
  subst hbr
  have HV := hid (Tr.goes_leaf k p hb he hu)
  have HBR := hid (fun w => isBranch_any t w a cap)
  have HE := hid (fun w => isEmpty_any t w a cap)
  obtain ⟨b, off, a0, cap0, rfl, hbb, e0, e1, e2, _⟩ := rep_kid hr 0 (by omega)
  obtain ⟨b', off', a1, cap1, hab, _, g0, g1, g2, _⟩ := rep_kid hr 1 (by omega)
  simp only [Option.some.injEq, Addr.mk.injEq, and_true] at hab
  obtain ⟨rfl, rfl⟩ := hab
  simp only [Nat.zero_mul, Nat.add_zero, Nat.one_mul] at e0 e1 e2 g0 g1 g2
  have w0 := kid_wt' t 0 (by omega)
  have HU := hid (fun w => unpath_any (Tr.kid t 0) w a0 cap0 (by have := bytes_le_wt (Tr.kid t 0); omega))
  have HUE := hid hu
  have HD := hid hd
  have HBB := hid hB
  have i1 : (0 : Int) < (t.items.length : Int) := by omega
  have i2 : (1 : Int) < (t.items.length : Int) := by omega
  rw [hb] at HBR
  rw [he] at HE
  clear hr h2 hb he hw w0 hu hd hB
  go_enter Tryz.func74, Tryz.ntmps74
  go_wp2_with fail
  refine (HBR.out _).mono ?_
  rintro e w1 ⟨rfl, b1⟩
  obtain ⟨p1, p2, p3⟩ := two_kept b1
  have x0 := cell_of_row _ _ 0 _ _ _ p1
  have x1 := cell_of_row _ _ 1 _ _ _ p1
  have x2 := cell_of_row _ _ 2 _ _ _ p1
  obtain ⟨v0, v1, v2, v3, v4, z0, z1, z2, z3, z4⟩ := way_cells p2
  have HP1 := hid p2
  have HB1 := hid p3
  have HT1 := hid b1
  clear b1 p1 p2 p3
  go_wp2_with fail
  refine (HE.out _).mono ?_
  rintro e w2 ⟨rfl, b2⟩
  have HT2 := hid (bb_on HT1.out b2)
  obtain ⟨p1, p2, p3⟩ := two_kept HT2.out
  have x0 := cell_of_row _ _ 0 _ _ _ p1
  have x1 := cell_of_row _ _ 1 _ _ _ p1
  have x2 := cell_of_row _ _ 2 _ _ _ p1
  obtain ⟨v0, v1, v2, v3, v4, z0, z1, z2, z3, z4⟩ := way_cells p2
  have HP2 := hid p2
  have HB2 := hid p3
  clear b2 p1 p2 p3
  have f0 := (HB2.out.cell (p := ⟨b, off, none⟩) hbb).trans e0
  have f1 := (HB2.out.cell (p := ⟨b, off + 1, none⟩) hbb).trans e1
  have f2 := (HB2.out.cell (p := ⟨b, off + 2, none⟩) hbb).trans e2
  go_wp2_with fail
  refine (HU.out _).mono ?_
  rintro e w3 ⟨u1, u2, b3⟩
  obtain ⟨ap, capp, rfl, hop⟩ := u2 p true HUE.out
  have HT3 := hid (bb_on HT2.out b3)
  obtain ⟨p1, p2, p3⟩ := two_kept HT3.out
  have x0 := cell_of_row _ _ 0 _ _ _ p1
  have x1 := cell_of_row _ _ 1 _ _ _ p1
  have x2 := cell_of_row _ _ 2 _ _ _ p1
  obtain ⟨v0, v1, v2, v3, v4, z0, z1, z2, z3, z4⟩ := way_cells p2
  have HP3 := hid p2
  have HB3 := hid p3
  have k1 := (HB3.out.cell (p := ⟨b, off + 3 + 1, none⟩) hbb).trans g1
  have hcv1 := run_bytes_string (brd_of_bown hop)
  have hcv2 := run_bytes_string (HD.out.frame (HB3.out.mono HBB.out)).brd
  clear u1 u2 b3 p1 p2 p3 hop f0 f1 f2 e0 e1 e2 g0 g1 g2 HU HE HBR HT1 HT2 HT3 HB1 HB2 HP1 HP2
  by_cases hpk : p = k
  · subst hpk
    have HW : Hid (Tr.goes t p false = some (.tells (Tr.kid t 1).bytes true)) := by rw [Hid, HV.out, if_pos rfl]
    go_wp2_with fail
    obtain ⟨c0, c1, c2, c3, c4⟩ := set5_cells HP3.out (.slice none 0 0) (.bool false) (.string ⟨(Tr.kid t 1).bytes.toArray⟩) (.bool true) (.string ⟨#[]⟩)
    have HF := hid (set5_below HB3.out (by omega : w.heap.size ≤ w.heap.size + 1) (.slice none 0 0) (.bool false) (.string ⟨(Tr.kid t 1).bytes.toArray⟩) (.bool true) (.string ⟨#[]⟩))
    generalize hwF : set5 w3 (w.heap.size + 1) (.slice none 0 0) (.bool false) (.string ⟨(Tr.kid t 1).bytes.toArray⟩) (.bool true) (.string ⟨#[]⟩) = wF at *
    unfold set5 at hwF
    rw [hwF]
    refine bodyPost_ret (v := .tuple #[.agg #[.slice none 0 0, .bool false, .string ⟨(Tr.kid t 1).bytes.toArray⟩, .bool true, .string ⟨#[]⟩], .bool true]) (by simp [results, Tryz.results74, go_sem, c0, c1, c2, c3, c4]) rfl ?_
    exact goesPost_some (y := Tr.Way.tells (Tr.kid t 1).bytes true) (a := none) (cap := 0) HW.out (.inl ⟨rfl, rfl⟩) HF.out
  · have HW : Hid (Tr.goes t k false = some .none) := by rw [Hid, HV.out, if_neg hpk]
    have hne : (p == k) = false := beq_eq_false_iff_ne.2 hpk
    go_wp2_with fail
    obtain ⟨c0, c1, c2, c3, c4⟩ := set5_cells HP3.out (.slice none 0 0) (.bool false) (.string ⟨#[]⟩) (.bool false) (.string ⟨#[]⟩)
    have HF := hid (set5_below HB3.out (by omega : w.heap.size ≤ w.heap.size + 1) (.slice none 0 0) (.bool false) (.string ⟨#[]⟩) (.bool false) (.string ⟨#[]⟩))
    generalize hwF : set5 w3 (w.heap.size + 1) (.slice none 0 0) (.bool false) (.string ⟨#[]⟩) (.bool false) (.string ⟨#[]⟩) = wF at *
    unfold set5 at hwF
    rw [hwF]
    refine bodyPost_ret (v := .tuple #[.agg #[.slice none 0 0, .bool false, .string ⟨#[]⟩, .bool false, .string ⟨#[]⟩], .bool true]) (by simp [results, Tryz.results74, go_sem, c0, c1, c2, c3, c4]) rfl ?_
    exact goesPost_some (y := Tr.Way.none) (a := none) (cap := 0) HW.out (.inl ⟨rfl, rfl⟩) HF.out

set_option maxHeartbeats 1600000 in
theorem goes_m (hr : Rep w.heap.size w (n + 1) (.agg #[.bool t.list, .string ⟨t.bytes.toArray⟩, .slice a t.items.length cap]) t) (hw : Itm.wt t ≤ 1000000) (hB : B ≤ w.heap.size) (hd : BrdC B w (.slice ad k.length capd) k) (h2 : t.items.length = 2) (hb : Tr.isBranch t = false) (he : Tr.isEmpty t = false) (p : List UInt8) (hu : Tr.unpath (Tr.kid t 0) = some (p, false)) (hm : k.length < p.length) (hbr : br = false) : Calls Tryz.prog 74 #[.agg #[.bool t.list, .string ⟨t.bytes.toArray⟩, .slice a t.items.length cap], .slice ad k.length capd, .bool br] w (GoesPost B (Tr.goes t k br) w) := by
  subst hbr
  have HBR := hid (fun w => isBranch_any t w a cap)
  have HE := hid (fun w => isEmpty_any t w a cap)
  obtain ⟨b, off, a0, cap0, rfl, hbb, e0, e1, e2, _⟩ := rep_kid hr 0 (by omega)
  obtain ⟨b', off', a1, cap1, hab, _, g0, g1, g2, r1⟩ := rep_kid hr 1 (by omega)
  simp only [Option.some.injEq, Addr.mk.injEq, and_true] at hab
  obtain ⟨rfl, rfl⟩ := hab
  simp only [Nat.zero_mul, Nat.add_zero, Nat.one_mul] at e0 e1 e2 g0 g1 g2
  have w0 := kid_wt' t 0 (by omega)
  have w1' := kid_wt' t 1 (by omega)
  have HU := hid (fun w => unpath_any (Tr.kid t 0) w a0 cap0 (by have := bytes_le_wt (Tr.kid t 0); omega))
  have HUE := hid hu
  have HD := hid hd
  have HBB := hid hB
  have HR1 := hid r1
  have i1 : (0 : Int) < (t.items.length : Int) := by omega
  have i2 : (1 : Int) < (t.items.length : Int) := by omega
  have HV := hid (Tr.goes_miss k p hb he hu (.inl hm))
  have hm' : (k.length : Int) < (p.length : Int) := by omega
  rw [hb] at HBR
  rw [he] at HE
  clear hr h2 hb he hw w0 w1' hu hd hB hm r1
  go_enter Tryz.func74, Tryz.ntmps74
  go_wp2_with fail
  refine (HBR.out _).mono ?_
  rintro e w1 ⟨rfl, b1⟩
  obtain ⟨p1, p2, p3⟩ := two_kept b1
  have x0 := cell_of_row _ _ 0 _ _ _ p1
  have x1 := cell_of_row _ _ 1 _ _ _ p1
  have x2 := cell_of_row _ _ 2 _ _ _ p1
  obtain ⟨v0, v1, v2, v3, v4, z0, z1, z2, z3, z4⟩ := way_cells p2
  have HP1 := hid p2
  have HB1 := hid p3
  have HT1 := hid b1
  clear b1 p1 p2 p3
  go_wp2_with fail
  refine (HE.out _).mono ?_
  rintro e w2 ⟨rfl, b2⟩
  have HT2 := hid (bb_on HT1.out b2)
  obtain ⟨p1, p2, p3⟩ := two_kept HT2.out
  have x0 := cell_of_row _ _ 0 _ _ _ p1
  have x1 := cell_of_row _ _ 1 _ _ _ p1
  have x2 := cell_of_row _ _ 2 _ _ _ p1
  obtain ⟨v0, v1, v2, v3, v4, z0, z1, z2, z3, z4⟩ := way_cells p2
  have HP2 := hid p2
  have HB2 := hid p3
  clear b2 p1 p2 p3
  have f0 := (HB2.out.cell (p := ⟨b, off, none⟩) hbb).trans e0
  have f1 := (HB2.out.cell (p := ⟨b, off + 1, none⟩) hbb).trans e1
  have f2 := (HB2.out.cell (p := ⟨b, off + 2, none⟩) hbb).trans e2
  go_wp2_with fail
  refine (HU.out _).mono ?_
  rintro e w3 ⟨u1, u2, b3⟩
  obtain ⟨ap, capp, rfl, hop⟩ := u2 p false HUE.out
  have HT3 := hid (bb_on HT2.out b3)
  obtain ⟨p1, p2, p3⟩ := two_kept HT3.out
  have x0 := cell_of_row _ _ 0 _ _ _ p1
  have x1 := cell_of_row _ _ 1 _ _ _ p1
  have x2 := cell_of_row _ _ 2 _ _ _ p1
  obtain ⟨v0, v1, v2, v3, v4, z0, z1, z2, z3, z4⟩ := way_cells p2
  have HP3 := hid p2
  have HB3 := hid p3
  clear u1 u2 b3 p1 p2 p3 hop f0 f1 f2 e0 e1 e2 g0 g1 g2 HU HE HBR HT1 HT2 HT3 HB1 HB2 HP1 HP2
  go_wp2_with fail
  go_quiet (fail)
  go_wp2_with fail
  obtain ⟨c0, c1, c2, c3, c4⟩ := set5_cells (w1 := w3.drewN nq) HP3.out (.slice none 0 0) (.bool false) (.string ⟨#[]⟩) (.bool false) (.string ⟨#[]⟩)
  have HF := hid (set5_below (below_drewN nq HB3.out) (by omega : w.heap.size ≤ w.heap.size + 1) (.slice none 0 0) (.bool false) (.string ⟨#[]⟩) (.bool false) (.string ⟨#[]⟩))
  generalize hwF : set5 (w3.drewN nq) (w.heap.size + 1) (.slice none 0 0) (.bool false) (.string ⟨#[]⟩) (.bool false) (.string ⟨#[]⟩) = wF at *
  unfold set5 at hwF
  rw [hwF]
  refine bodyPost_ret (v := .tuple #[.agg #[.slice none 0 0, .bool false, .string ⟨#[]⟩, .bool false, .string ⟨#[]⟩], .bool true]) (by simp [results, Tryz.results74, go_sem, c0, c1, c2, c3, c4]) rfl ?_
  exact goesPost_some (y := Tr.Way.none) (a := none) (cap := 0) HV.out (.inl ⟨rfl, rfl⟩) HF.out

set_option maxHeartbeats 1600000 in
theorem goes_x (hr : Rep w.heap.size w (n + 1) (.agg #[.bool t.list, .string ⟨t.bytes.toArray⟩, .slice a t.items.length cap]) t) (hw : Itm.wt t ≤ 1000000) (hB : B ≤ w.heap.size) (hd : BrdC B w (.slice ad k.length capd) k) (h2 : t.items.length = 2) (hb : Tr.isBranch t = false) (he : Tr.isEmpty t = false) (p : List UInt8) (hu : Tr.unpath (Tr.kid t 0) = some (p, false)) (hp0 : 0 < p.length) (hm : p.length ≤ k.length) (hne : k.take p.length ≠ p) (hbr : br = false) : Calls Tryz.prog 74 #[.agg #[.bool t.list, .string ⟨t.bytes.toArray⟩, .slice a t.items.length cap], .slice ad k.length capd, .bool br] w (GoesPost B (Tr.goes t k br) w) := by
  have hkl : ¬ k.length < p.length := by omega
  have hdd := hd
  obtain ⟨bd, od, hcapd, hbd, rfl⟩ : ∃ bd od, k.length ≤ capd ∧ bd < B ∧ ad = some ⟨bd, od, none⟩ := by
    rcases hdd with ⟨_, h0⟩ | ⟨b, off, cap', hv, hc, hlt, _⟩
    · exfalso; rw [h0] at hm; simp only [List.length_nil] at hm; omega
    · simp only [Value.slice.injEq, true_and] at hv
      exact ⟨b, off, by have := hv.2; omega, hlt, hv.1⟩
  subst hbr
  have HBR := hid (fun w => isBranch_any t w a cap)
  have HE := hid (fun w => isEmpty_any t w a cap)
  obtain ⟨b, off, a0, cap0, rfl, hbb, e0, e1, e2, _⟩ := rep_kid hr 0 (by omega)
  obtain ⟨b', off', a1, cap1, hab, _, g0, g1, g2, r1⟩ := rep_kid hr 1 (by omega)
  simp only [Option.some.injEq, Addr.mk.injEq, and_true] at hab
  obtain ⟨rfl, rfl⟩ := hab
  simp only [Nat.zero_mul, Nat.add_zero, Nat.one_mul] at e0 e1 e2 g0 g1 g2
  have w0 := kid_wt' t 0 (by omega)
  have w1' := kid_wt' t 1 (by omega)
  have HU := hid (fun w => unpath_any (Tr.kid t 0) w a0 cap0 (by have := bytes_le_wt (Tr.kid t 0); omega))
  have HUE := hid hu
  have HD := hid hd
  have HBB := hid hB
  have HR1 := hid r1
  have i1 : (0 : Int) < (t.items.length : Int) := by omega
  have i2 : (1 : Int) < (t.items.length : Int) := by omega
  have HV := hid (Tr.goes_miss k p hb he hu (.inr hne))
  have hm' : ¬ (k.length : Int) < (p.length : Int) := by omega
  have hmd : decide (k.length < p.length) = false := decide_eq_false hkl
  have hmd2 : decide ((k.length : Int) < (p.length : Int)) = false := decide_eq_false hm'
  have j1 : (0 : Int) ≤ (p.length : Int) := by omega
  have j2 : (p.length : Int) ≤ (capd : Int) := by omega
  have HTK := hid (hd.take p.length hm)
  have hne' : (k.take p.length == p) = false := beq_eq_false_iff_ne.2 hne
  rw [hb] at HBR
  rw [he] at HE
  clear hr h2 hb he hw w0 w1' hu hd hB hm r1 hdd hkl hcapd hp0 hne
  go_enter Tryz.func74, Tryz.ntmps74
  go_wp2_with fail
  refine (HBR.out _).mono ?_
  rintro e w1 ⟨rfl, b1⟩
  obtain ⟨p1, p2, p3⟩ := two_kept b1
  have x0 := cell_of_row _ _ 0 _ _ _ p1
  have x1 := cell_of_row _ _ 1 _ _ _ p1
  have x2 := cell_of_row _ _ 2 _ _ _ p1
  obtain ⟨v0, v1, v2, v3, v4, z0, z1, z2, z3, z4⟩ := way_cells p2
  have HP1 := hid p2
  have HB1 := hid p3
  have HT1 := hid b1
  clear b1 p1 p2 p3
  go_wp2_with fail
  refine (HE.out _).mono ?_
  rintro e w2 ⟨rfl, b2⟩
  have HT2 := hid (bb_on HT1.out b2)
  obtain ⟨p1, p2, p3⟩ := two_kept HT2.out
  have x0 := cell_of_row _ _ 0 _ _ _ p1
  have x1 := cell_of_row _ _ 1 _ _ _ p1
  have x2 := cell_of_row _ _ 2 _ _ _ p1
  obtain ⟨v0, v1, v2, v3, v4, z0, z1, z2, z3, z4⟩ := way_cells p2
  have HP2 := hid p2
  have HB2 := hid p3
  clear b2 p1 p2 p3
  have f0 := (HB2.out.cell (p := ⟨b, off, none⟩) hbb).trans e0
  have f1 := (HB2.out.cell (p := ⟨b, off + 1, none⟩) hbb).trans e1
  have f2 := (HB2.out.cell (p := ⟨b, off + 2, none⟩) hbb).trans e2
  go_wp2_with fail
  refine (HU.out _).mono ?_
  rintro e w3 ⟨u1, u2, b3⟩
  obtain ⟨ap, capp, rfl, hop⟩ := u2 p false HUE.out
  have HT3 := hid (bb_on HT2.out b3)
  obtain ⟨p1, p2, p3⟩ := two_kept HT3.out
  have x0 := cell_of_row _ _ 0 _ _ _ p1
  have x1 := cell_of_row _ _ 1 _ _ _ p1
  have x2 := cell_of_row _ _ 2 _ _ _ p1
  obtain ⟨v0, v1, v2, v3, v4, z0, z1, z2, z3, z4⟩ := way_cells p2
  have HP3 := hid p2
  have HB3 := hid p3
  have hcv1 := fun q => run_bytes_string (brd_drewN q (brd_of_bown hop))
  have hcv2 := fun q => run_bytes_string (brd_drewN q (brd_frame HTK.out (HB3.out.mono HBB.out)))
  clear u1 u2 b3 p1 p2 p3 hop f0 f1 f2 e0 e1 e2 g0 g1 g2 HU HE HBR HT1 HT2 HT3 HB1 HB2 HP1 HP2
  go_wp2_with fail
  go_quiet (fail)
  go_wp2_with fail
  obtain ⟨c0, c1, c2, c3, c4⟩ := set5_cells (w1 := w3.drewN nq) HP3.out (.slice none 0 0) (.bool false) (.string ⟨#[]⟩) (.bool false) (.string ⟨#[]⟩)
  have HF := hid (set5_below (below_drewN nq HB3.out) (by omega : w.heap.size ≤ w.heap.size + 1) (.slice none 0 0) (.bool false) (.string ⟨#[]⟩) (.bool false) (.string ⟨#[]⟩))
  generalize hwF : set5 (w3.drewN nq) (w.heap.size + 1) (.slice none 0 0) (.bool false) (.string ⟨#[]⟩) (.bool false) (.string ⟨#[]⟩) = wF at *
  unfold set5 at hwF
  rw [hwF]
  refine bodyPost_ret (v := .tuple #[.agg #[.slice none 0 0, .bool false, .string ⟨#[]⟩, .bool false, .string ⟨#[]⟩], .bool true]) (by simp [results, Tryz.results74, go_sem, c0, c1, c2, c3, c4]) rfl ?_
  exact goesPost_some (y := Tr.Way.none) (a := none) (cap := 0) HV.out (.inl ⟨rfl, rfl⟩) HF.out

set_option maxHeartbeats 3200000 in
theorem goes_h (hG : GoesAt n) (hr : Rep w.heap.size w (n + 1) (.agg #[.bool t.list, .string ⟨t.bytes.toArray⟩, .slice a t.items.length cap]) t) (hw : Itm.wt t ≤ 1000000) (hB : B ≤ w.heap.size) (hd : BrdC B w (.slice ad k.length capd) k) (hk16 : ∀ c ∈ k, c.toNat < 16) (hk6 : k.length ≤ 1000000) (h2 : t.items.length = 2) (hb : Tr.isBranch t = false) (he : Tr.isEmpty t = false) (p : List UInt8) (hu : Tr.unpath (Tr.kid t 0) = some (p, false)) (hsum : Tr.isSum (Tr.kid t 1) = true) (hp0 : 0 < p.length) (hm : p.length ≤ k.length) (hne : k.take p.length = p) (hcp : ¬ capd = p.length) (hbr : br = false) : Calls Tryz.prog 74 #[.agg #[.bool t.list, .string ⟨t.bytes.toArray⟩, .slice a t.items.length cap], .slice ad k.length capd, .bool br] w (GoesPost B (Tr.goes t k br) w) := by
  have hkl : ¬ k.length < p.length := by omega
  have hdd := hd
  obtain ⟨bd, od, hcapd, hbd, rfl⟩ : ∃ bd od, k.length ≤ capd ∧ bd < B ∧ ad = some ⟨bd, od, none⟩ := by
    rcases hdd with ⟨_, h0⟩ | ⟨b, off, cap', hv, hc, hlt, _⟩
    · exfalso; rw [h0] at hm; simp only [List.length_nil] at hm; omega
    · simp only [Value.slice.injEq, true_and] at hv
      exact ⟨b, off, by have := hv.2; omega, hlt, hv.1⟩
  subst hbr
  have HBR := hid (fun w => isBranch_any t w a cap)
  have HE := hid (fun w => isEmpty_any t w a cap)
  obtain ⟨b, off, a0, cap0, rfl, hbb, e0, e1, e2, _⟩ := rep_kid hr 0 (by omega)
  obtain ⟨b', off', a1, cap1, hab, _, g0, g1, g2, r1⟩ := rep_kid hr 1 (by omega)
  simp only [Option.some.injEq, Addr.mk.injEq, and_true] at hab
  obtain ⟨rfl, rfl⟩ := hab
  simp only [Nat.zero_mul, Nat.add_zero, Nat.one_mul] at e0 e1 e2 g0 g1 g2
  have w0 := kid_wt' t 0 (by omega)
  have w1' := kid_wt' t 1 (by omega)
  have HU := hid (fun w => unpath_any (Tr.kid t 0) w a0 cap0 (by have := bytes_le_wt (Tr.kid t 0); omega))
  have HUE := hid hu
  have HD := hid hd
  have HBB := hid hB
  have HR1 := hid r1
  have i1 : (0 : Int) < (t.items.length : Int) := by omega
  have i2 : (1 : Int) < (t.items.length : Int) := by omega
  have HV0 := hid (Tr.goes_hit k p hb he h2 hu hkl hne)
  obtain ⟨y, hy⟩ : ∃ y, Tr.refers (Tr.kid t 1) (k.drop p.length) true = some y := by
    unfold Tr.refers Tr.refersOf; rw [hsum]; exact ⟨_, rfl⟩
  have HV := hid (HV0.out.trans hy)
  have HRF : Hid (∀ W, Rep W.heap.size W n (.agg #[.bool (Tr.kid t 1).list, .string ⟨(Tr.kid t 1).bytes.toArray⟩, .slice a1 (Tr.kid t 1).items.length cap1]) (Tr.kid t 1) → B ≤ W.heap.size → BrdC B W (.slice (some ⟨bd, od + p.length, none⟩) (k.drop p.length).length (capd - p.length)) (k.drop p.length) →
      Calls Tryz.prog 107 #[.agg #[.bool (Tr.kid t 1).list, .string ⟨(Tr.kid t 1).bytes.toArray⟩, .slice a1 (Tr.kid t 1).items.length cap1], .slice (some ⟨bd, od + p.length, none⟩) (k.length - p.length) (capd - p.length), .bool true] W
        fun e w' => ∃ ay capy, e = .returned (.tuple #[.agg #[.slice ay y.digits.length capy, .bool y.branch, .string ⟨y.value.toArray⟩, .bool y.found, .string ⟨y.need.toArray⟩], .bool true]) ∧ BrdC B w' (.slice ay y.digits.length capy) y.digits ∧ Below W.heap.size W w') := by
    intro W hW hBW hdW
    have h := refers_any n hG _ (Tr.kid t 1) W B _ (k.drop p.length) true hW (.inl hsum) (by omega) hBW hdW (fun c hc => hk16 c (List.mem_of_mem_drop hc)) (by simp; omega)
    rw [List.length_drop] at h
    refine h.mono ?_
    rintro e w' ⟨_, g2, g3⟩
    obtain ⟨ay, capy, q1, q2⟩ := g2 y hy
    exact ⟨ay, capy, q1, q2, g3⟩
  have HDR := hid (hd.drop p.length hm)
  have hm' : ¬ (k.length : Int) < (p.length : Int) := by omega
  have hmd : decide (k.length < p.length) = false := decide_eq_false hkl
  have hmd2 : decide ((k.length : Int) < (p.length : Int)) = false := decide_eq_false hm'
  have j1 : (0 : Int) ≤ (p.length : Int) := by omega
  have j2 : (p.length : Int) ≤ (capd : Int) := by omega
  have j3 : (p.length : Int) ≤ (k.length : Int) := by omega
  have j4 : (k.length : Int) ≤ (capd : Int) := by omega
  have HTK := hid (hd.take p.length hm)
  have hne' : (k.take p.length == p) = true := beq_iff_eq.2 hne
  rw [hb] at HBR
  rw [he] at HE
  clear hG hr h2 hb he hw w0 w1' hu hd hB hm r1 hdd hkl hcapd hp0 hne hy hsum hk16 hk6 HV0
  go_enter Tryz.func74, Tryz.ntmps74
  go_wp2_with fail
  refine (HBR.out _).mono ?_
  rintro e w1 ⟨rfl, b1⟩
  obtain ⟨p1, p2, p3⟩ := two_kept b1
  have x0 := cell_of_row _ _ 0 _ _ _ p1
  have x1 := cell_of_row _ _ 1 _ _ _ p1
  have x2 := cell_of_row _ _ 2 _ _ _ p1
  obtain ⟨v0, v1, v2, v3, v4, z0, z1, z2, z3, z4⟩ := way_cells p2
  have HP1 := hid p2
  have HB1 := hid p3
  have HT1 := hid b1
  clear b1 p1 p2 p3
  go_wp2_with fail
  refine (HE.out _).mono ?_
  rintro e w2 ⟨rfl, b2⟩
  have HT2 := hid (bb_on HT1.out b2)
  obtain ⟨p1, p2, p3⟩ := two_kept HT2.out
  have x0 := cell_of_row _ _ 0 _ _ _ p1
  have x1 := cell_of_row _ _ 1 _ _ _ p1
  have x2 := cell_of_row _ _ 2 _ _ _ p1
  obtain ⟨v0, v1, v2, v3, v4, z0, z1, z2, z3, z4⟩ := way_cells p2
  have HP2 := hid p2
  have HB2 := hid p3
  clear b2 p1 p2 p3
  have f0 := (HB2.out.cell (p := ⟨b, off, none⟩) hbb).trans e0
  have f1 := (HB2.out.cell (p := ⟨b, off + 1, none⟩) hbb).trans e1
  have f2 := (HB2.out.cell (p := ⟨b, off + 2, none⟩) hbb).trans e2
  go_wp2_with fail
  refine (HU.out _).mono ?_
  rintro e w3 ⟨u1, u2, b3⟩
  obtain ⟨ap, capp, rfl, hop⟩ := u2 p false HUE.out
  have HT3 := hid (bb_on HT2.out b3)
  obtain ⟨p1, p2, p3⟩ := two_kept HT3.out
  have x0 := cell_of_row _ _ 0 _ _ _ p1
  have x1 := cell_of_row _ _ 1 _ _ _ p1
  have x2 := cell_of_row _ _ 2 _ _ _ p1
  obtain ⟨v0, v1, v2, v3, v4, z0, z1, z2, z3, z4⟩ := way_cells p2
  have HP3 := hid p2
  have HB3 := hid p3
  have hcv1 := fun q => run_bytes_string (brd_drewN q (brd_of_bown hop))
  have hcv2 := fun q => run_bytes_string (brd_drewN q (brd_frame HTK.out (HB3.out.mono HBB.out)))
  have k0 := (HB3.out.cell (p := ⟨b, off + 3, none⟩) hbb).trans g0
  have k1 := (HB3.out.cell (p := ⟨b, off + 3 + 1, none⟩) hbb).trans g1
  have k2 := (HB3.out.cell (p := ⟨b, off + 3 + 2, none⟩) hbb).trans g2
  have HRX := hid (fun q => rep_in (rep_in HR1.out HB3.out) (below_drewN q (Below.refl w3.heap.size w3)))
  have HDX := hid (fun q => (HDR.out.frame (HB3.out.mono HBB.out)).frame (below_drewN q (Below.refl B w3)))
  have HBX : Hid (B ≤ w3.heap.size) := Nat.le_trans HBB.out HB3.out.size
  have hb3 : b < w3.heap.size := Nat.lt_of_lt_of_le hbb HB3.out.size
  have hw3 : w.heap.size + 1 < w3.heap.size := (Array.getElem?_eq_some_iff.1 HP3.out).1
  have hw30 : w.heap.size < w3.heap.size := by omega
  have hnb : ¬ b = w.heap.size + 1 := by omega
  have hnb' : ¬ w.heap.size + 1 = b := by omega
  clear u1 u2 b3 p1 p2 p3 hop f0 f1 f2 e0 e1 e2 g0 g1 g2 HU HE HBR HT1 HT2 HT3 HB1 HB2 HP1 HP2 HTK HDR HR1 HUE
  go_wp2_with fail
  go_quiet (fail)
  go_wp2_with fail
  go_region_held3 (fun w' => w'.cell? ⟨w.heap.size, 2, none⟩ = some (.slice (some ⟨b, off, none⟩) t.items.length cap) ∧ w'.cell? ⟨b, off + 3, none⟩ = some (.bool (Tr.kid t 1).list) ∧ w'.cell? ⟨b, off + 3 + 1, none⟩ = some (.string ⟨(Tr.kid t 1).bytes.toArray⟩) ∧ w'.cell? ⟨b, off + 3 + 2, none⟩ = some (.slice a1 (Tr.kid t 1).items.length cap1)) (go_keep)
    ((go_at_call 107; refine (HRF.out (w3.drewN (nq + 1)) (HRX.out (nq + 1)) HBX.out (HDX.out (nq + 1))).mono ?_; rintro e w4 ⟨ay, capy, rfl, hyd, b4⟩; have B34 : Hid (Below w3.heap.size w3 w4) := below_undrewN (nq + 1) b4; have HP4 : Hid (w4.heap[w.heap.size + 1]? = some (.cells #[.slice none 0 0, .bool false, .string ⟨#[]⟩, .bool false, .string ⟨#[]⟩] 117 (0, 0))) := (B34.out.block (w.heap.size + 1) hw3).trans HP3.out; obtain ⟨v0, v1, v2, v3, v4, z0, z1, z2, z3, z4⟩ := way_cells HP4.out; have HYD := hid hyd; obtain ⟨hcc, hff⟩ := bcell B34.out; have y2 := (hcc _ 2 hw30).trans x2; have m0 := (hcc _ _ hb3).trans k0; have m1 := (hcc _ _ hb3).trans k1; have m2 := (hcc _ _ hb3).trans k2; clear hyd b4 hcc hff))
  all_goals
    go_wp2_with fail
    have HFY := hid (HYD.out.frame (set5_below (Below.refl B w4) (Nat.le_trans HBB.out (Nat.le_succ _)) (.slice ay y.digits.length capy) (.bool y.branch) (.string ⟨y.value.toArray⟩) (.bool y.found) (.string ⟨y.need.toArray⟩)))
    obtain ⟨c0, c1, c2, c3, c4⟩ := set5_cells HP4.out (.slice ay y.digits.length capy) (.bool y.branch) (.string ⟨y.value.toArray⟩) (.bool y.found) (.string ⟨y.need.toArray⟩)
    have HF := hid (set5_below (bb_on HB3.out B34.out) (by omega : w.heap.size ≤ w.heap.size + 1) (.slice ay y.digits.length capy) (.bool y.branch) (.string ⟨y.value.toArray⟩) (.bool y.found) (.string ⟨y.need.toArray⟩))
    generalize hwF : set5 w4 (w.heap.size + 1) (.slice ay y.digits.length capy) (.bool y.branch) (.string ⟨y.value.toArray⟩) (.bool y.found) (.string ⟨y.need.toArray⟩) = wF at *
    unfold set5 at hwF
    rw [hwF]
    refine bodyPost_ret (v := .tuple #[.agg #[.slice ay y.digits.length capy, .bool y.branch, .string ⟨y.value.toArray⟩, .bool y.found, .string ⟨y.need.toArray⟩], .bool true]) (by simp [results, Tryz.results74, go_sem, c0, c1, c2, c3, c4]) rfl ?_
    exact goesPost_some HV.out HFY.out HF.out

set_option maxHeartbeats 3200000 in
theorem goes_h0 (hG : GoesAt n) (hr : Rep w.heap.size w (n + 1) (.agg #[.bool t.list, .string ⟨t.bytes.toArray⟩, .slice a t.items.length cap]) t) (hw : Itm.wt t ≤ 1000000) (hB : B ≤ w.heap.size) (hd : BrdC B w (.slice ad k.length capd) k) (hk16 : ∀ c ∈ k, c.toNat < 16) (hk6 : k.length ≤ 1000000) (h2 : t.items.length = 2) (hb : Tr.isBranch t = false) (he : Tr.isEmpty t = false) (p : List UInt8) (hu : Tr.unpath (Tr.kid t 0) = some (p, false)) (hsum : Tr.isSum (Tr.kid t 1) = true) (hp0 : 0 < p.length) (hm : p.length ≤ k.length) (hne : k.take p.length = p) (hcp : capd = p.length) (hbr : br = false) : Calls Tryz.prog 74 #[.agg #[.bool t.list, .string ⟨t.bytes.toArray⟩, .slice a t.items.length cap], .slice ad k.length capd, .bool br] w (GoesPost B (Tr.goes t k br) w) := by
  have hkl : ¬ k.length < p.length := by omega
  have hdd := hd
  obtain ⟨bd, od, hcapd, hbd, rfl⟩ : ∃ bd od, k.length ≤ capd ∧ bd < B ∧ ad = some ⟨bd, od, none⟩ := by
    rcases hdd with ⟨_, h0⟩ | ⟨b, off, cap', hv, hc, hlt, _⟩
    · exfalso; rw [h0] at hm; simp only [List.length_nil] at hm; omega
    · simp only [Value.slice.injEq, true_and] at hv
      exact ⟨b, off, by have := hv.2; omega, hlt, hv.1⟩
  subst hbr
  have HBR := hid (fun w => isBranch_any t w a cap)
  have HE := hid (fun w => isEmpty_any t w a cap)
  obtain ⟨b, off, a0, cap0, rfl, hbb, e0, e1, e2, _⟩ := rep_kid hr 0 (by omega)
  obtain ⟨b', off', a1, cap1, hab, _, g0, g1, g2, r1⟩ := rep_kid hr 1 (by omega)
  simp only [Option.some.injEq, Addr.mk.injEq, and_true] at hab
  obtain ⟨rfl, rfl⟩ := hab
  simp only [Nat.zero_mul, Nat.add_zero, Nat.one_mul] at e0 e1 e2 g0 g1 g2
  have w0 := kid_wt' t 0 (by omega)
  have w1' := kid_wt' t 1 (by omega)
  have HU := hid (fun w => unpath_any (Tr.kid t 0) w a0 cap0 (by have := bytes_le_wt (Tr.kid t 0); omega))
  have HUE := hid hu
  have HD := hid hd
  have HBB := hid hB
  have HR1 := hid r1
  have i1 : (0 : Int) < (t.items.length : Int) := by omega
  have i2 : (1 : Int) < (t.items.length : Int) := by omega
  subst hcp
  have HV0 := hid (Tr.goes_hit k p hb he h2 hu hkl hne)
  obtain ⟨y, hy⟩ : ∃ y, Tr.refers (Tr.kid t 1) (k.drop p.length) true = some y := by
    unfold Tr.refers Tr.refersOf; rw [hsum]; exact ⟨_, rfl⟩
  have HV := hid (HV0.out.trans hy)
  have HRF : Hid (∀ W, Rep W.heap.size W n (.agg #[.bool (Tr.kid t 1).list, .string ⟨(Tr.kid t 1).bytes.toArray⟩, .slice a1 (Tr.kid t 1).items.length cap1]) (Tr.kid t 1) → B ≤ W.heap.size → BrdC B W (.slice (some ⟨bd, od, none⟩) (k.drop p.length).length 0) (k.drop p.length) →
      Calls Tryz.prog 107 #[.agg #[.bool (Tr.kid t 1).list, .string ⟨(Tr.kid t 1).bytes.toArray⟩, .slice a1 (Tr.kid t 1).items.length cap1], .slice (some ⟨bd, od, none⟩) (k.length - p.length) 0, .bool true] W
        fun e w' => ∃ ay capy, e = .returned (.tuple #[.agg #[.slice ay y.digits.length capy, .bool y.branch, .string ⟨y.value.toArray⟩, .bool y.found, .string ⟨y.need.toArray⟩], .bool true]) ∧ BrdC B w' (.slice ay y.digits.length capy) y.digits ∧ Below W.heap.size W w') := by
    intro W hW hBW hdW
    have h := refers_any n hG _ (Tr.kid t 1) W B _ (k.drop p.length) true hW (.inl hsum) (by omega) hBW hdW (fun c hc => hk16 c (List.mem_of_mem_drop hc)) (by simp; omega)
    rw [List.length_drop] at h
    refine h.mono ?_
    rintro e w' ⟨_, g2, g3⟩
    obtain ⟨ay, capy, q1, q2⟩ := g2 y hy
    exact ⟨ay, capy, q1, q2, g3⟩
  have HDR0 := hd.cutOff p.length hm
  rw [if_pos rfl, Nat.sub_self] at HDR0
  have HDR := hid HDR0
  have hm' : ¬ (k.length : Int) < (p.length : Int) := by omega
  have hmd : decide (k.length < p.length) = false := decide_eq_false hkl
  have hmd2 : decide ((k.length : Int) < (p.length : Int)) = false := decide_eq_false hm'
  have j1 : (0 : Int) ≤ (p.length : Int) := by omega
  have j2 : (p.length : Int) ≤ (p.length : Int) := by omega
  have j3 : (p.length : Int) ≤ (k.length : Int) := by omega
  have j4 : (k.length : Int) ≤ (p.length : Int) := by omega
  have HTK := hid (hd.take p.length hm)
  have hne' : (k.take p.length == p) = true := beq_iff_eq.2 hne
  rw [hb] at HBR
  rw [he] at HE
  clear hG hr h2 hb he hw w0 w1' hu hd hB hm r1 hdd hkl hcapd hp0 hne hy hsum hk16 hk6 HV0
  go_enter Tryz.func74, Tryz.ntmps74
  go_wp2_with fail
  refine (HBR.out _).mono ?_
  rintro e w1 ⟨rfl, b1⟩
  obtain ⟨p1, p2, p3⟩ := two_kept b1
  have x0 := cell_of_row _ _ 0 _ _ _ p1
  have x1 := cell_of_row _ _ 1 _ _ _ p1
  have x2 := cell_of_row _ _ 2 _ _ _ p1
  obtain ⟨v0, v1, v2, v3, v4, z0, z1, z2, z3, z4⟩ := way_cells p2
  have HP1 := hid p2
  have HB1 := hid p3
  have HT1 := hid b1
  clear b1 p1 p2 p3
  go_wp2_with fail
  refine (HE.out _).mono ?_
  rintro e w2 ⟨rfl, b2⟩
  have HT2 := hid (bb_on HT1.out b2)
  obtain ⟨p1, p2, p3⟩ := two_kept HT2.out
  have x0 := cell_of_row _ _ 0 _ _ _ p1
  have x1 := cell_of_row _ _ 1 _ _ _ p1
  have x2 := cell_of_row _ _ 2 _ _ _ p1
  obtain ⟨v0, v1, v2, v3, v4, z0, z1, z2, z3, z4⟩ := way_cells p2
  have HP2 := hid p2
  have HB2 := hid p3
  clear b2 p1 p2 p3
  have f0 := (HB2.out.cell (p := ⟨b, off, none⟩) hbb).trans e0
  have f1 := (HB2.out.cell (p := ⟨b, off + 1, none⟩) hbb).trans e1
  have f2 := (HB2.out.cell (p := ⟨b, off + 2, none⟩) hbb).trans e2
  go_wp2_with fail
  refine (HU.out _).mono ?_
  rintro e w3 ⟨u1, u2, b3⟩
  obtain ⟨ap, capp, rfl, hop⟩ := u2 p false HUE.out
  have HT3 := hid (bb_on HT2.out b3)
  obtain ⟨p1, p2, p3⟩ := two_kept HT3.out
  have x0 := cell_of_row _ _ 0 _ _ _ p1
  have x1 := cell_of_row _ _ 1 _ _ _ p1
  have x2 := cell_of_row _ _ 2 _ _ _ p1
  obtain ⟨v0, v1, v2, v3, v4, z0, z1, z2, z3, z4⟩ := way_cells p2
  have HP3 := hid p2
  have HB3 := hid p3
  have hcv1 := fun q => run_bytes_string (brd_drewN q (brd_of_bown hop))
  have hcv2 := fun q => run_bytes_string (brd_drewN q (brd_frame HTK.out (HB3.out.mono HBB.out)))
  have k0 := (HB3.out.cell (p := ⟨b, off + 3, none⟩) hbb).trans g0
  have k1 := (HB3.out.cell (p := ⟨b, off + 3 + 1, none⟩) hbb).trans g1
  have k2 := (HB3.out.cell (p := ⟨b, off + 3 + 2, none⟩) hbb).trans g2
  have HRX := hid (fun q => rep_in (rep_in HR1.out HB3.out) (below_drewN q (Below.refl w3.heap.size w3)))
  have HDX := hid (fun q => (HDR.out.frame (HB3.out.mono HBB.out)).frame (below_drewN q (Below.refl B w3)))
  have HBX : Hid (B ≤ w3.heap.size) := Nat.le_trans HBB.out HB3.out.size
  have hb3 : b < w3.heap.size := Nat.lt_of_lt_of_le hbb HB3.out.size
  have hw3 : w.heap.size + 1 < w3.heap.size := (Array.getElem?_eq_some_iff.1 HP3.out).1
  have hw30 : w.heap.size < w3.heap.size := by omega
  have hnb : ¬ b = w.heap.size + 1 := by omega
  have hnb' : ¬ w.heap.size + 1 = b := by omega
  clear u1 u2 b3 p1 p2 p3 hop f0 f1 f2 e0 e1 e2 g0 g1 g2 HU HE HBR HT1 HT2 HT3 HB1 HB2 HP1 HP2 HTK HDR HR1 HUE
  go_wp2_with fail
  go_quiet (fail)
  go_wp2_with fail
  go_region_held3 (fun w' => w'.cell? ⟨w.heap.size, 2, none⟩ = some (.slice (some ⟨b, off, none⟩) t.items.length cap) ∧ w'.cell? ⟨b, off + 3, none⟩ = some (.bool (Tr.kid t 1).list) ∧ w'.cell? ⟨b, off + 3 + 1, none⟩ = some (.string ⟨(Tr.kid t 1).bytes.toArray⟩) ∧ w'.cell? ⟨b, off + 3 + 2, none⟩ = some (.slice a1 (Tr.kid t 1).items.length cap1)) (go_keep)
    ((go_at_call 107; refine (HRF.out (w3.drewN (nq + 1)) (HRX.out (nq + 1)) HBX.out (HDX.out (nq + 1))).mono ?_; rintro e w4 ⟨ay, capy, rfl, hyd, b4⟩; have B34 : Hid (Below w3.heap.size w3 w4) := below_undrewN (nq + 1) b4; have HP4 : Hid (w4.heap[w.heap.size + 1]? = some (.cells #[.slice none 0 0, .bool false, .string ⟨#[]⟩, .bool false, .string ⟨#[]⟩] 117 (0, 0))) := (B34.out.block (w.heap.size + 1) hw3).trans HP3.out; obtain ⟨v0, v1, v2, v3, v4, z0, z1, z2, z3, z4⟩ := way_cells HP4.out; have HYD := hid hyd; obtain ⟨hcc, hff⟩ := bcell B34.out; have y2 := (hcc _ 2 hw30).trans x2; have m0 := (hcc _ _ hb3).trans k0; have m1 := (hcc _ _ hb3).trans k1; have m2 := (hcc _ _ hb3).trans k2; clear hyd b4 hcc hff))
  all_goals
    go_wp2_with fail
    have HFY := hid (HYD.out.frame (set5_below (Below.refl B w4) (Nat.le_trans HBB.out (Nat.le_succ _)) (.slice ay y.digits.length capy) (.bool y.branch) (.string ⟨y.value.toArray⟩) (.bool y.found) (.string ⟨y.need.toArray⟩)))
    obtain ⟨c0, c1, c2, c3, c4⟩ := set5_cells HP4.out (.slice ay y.digits.length capy) (.bool y.branch) (.string ⟨y.value.toArray⟩) (.bool y.found) (.string ⟨y.need.toArray⟩)
    have HF := hid (set5_below (bb_on HB3.out B34.out) (by omega : w.heap.size ≤ w.heap.size + 1) (.slice ay y.digits.length capy) (.bool y.branch) (.string ⟨y.value.toArray⟩) (.bool y.found) (.string ⟨y.need.toArray⟩))
    generalize hwF : set5 w4 (w.heap.size + 1) (.slice ay y.digits.length capy) (.bool y.branch) (.string ⟨y.value.toArray⟩) (.bool y.found) (.string ⟨y.need.toArray⟩) = wF at *
    unfold set5 at hwF
    rw [hwF]
    refine bodyPost_ret (v := .tuple #[.agg #[.slice ay y.digits.length capy, .bool y.branch, .string ⟨y.value.toArray⟩, .bool y.found, .string ⟨y.need.toArray⟩], .bool true]) (by simp [results, Tryz.results74, go_sem, c0, c1, c2, c3, c4]) rfl ?_
    exact goesPost_some HV.out HFY.out HF.out
end
end Go.Proofs.YtbmohenjphmlgaaGreat
