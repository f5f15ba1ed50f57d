/- Part 23 of a proof: what the last text needs. -/
import Derived.Test.YtbmohenjphmlgaaGreatPart22
import Derived.BigQuiet
/- The walks of Sound and inside (of the document's own answer). -/
namespace Go.Proofs.YtbmohenjphmlgaaGreat
open Go.RowKit
set_option maxRecDepth 100000

theorem bb_on {B : Nat} {w w1 w2 : World} (h : Below B w w1) (h2 : Below w1.heap.size w1 w2) (hB : B ≤ w.heap.size := by exact Nat.le_refl _) : Below B w w2 := h.trans (h2.mono (Nat.le_trans hB h.size))

theorem bb_box {B : Nat} {w w1 : World} (h : Below B w w1) (O : Obj) (hB : B ≤ w.heap.size := by exact Nat.le_refl _) : Below B w (w1.alloc O) := h.alloc (Nat.le_trans hB h.size) O

theorem kid_eq (t : Itm) (i : Nat) (h : i < t.items.length) : Tr.kid t i = t.items[i] := by
  unfold Tr.kid
  rw [List.getD_eq_getElem?_getD, List.getElem?_eq_getElem h]; rfl

/-- The i-th item within an item that is read. -/
theorem rep_kid {B : Nat} {w : World} {n : Nat} {t : Itm} {a : Option Addr} {cap : Nat} (h : Rep B w (n + 1) (.agg #[.bool t.list, .string ⟨t.bytes.toArray⟩, .slice a t.items.length cap]) t) (i : Nat) (hi : i < t.items.length) :
    ∃ b off a' cap', a = some ⟨b, off, none⟩ ∧ b < B ∧ w.cell? ⟨b, off + i * 3, none⟩ = some (.bool (Tr.kid t i).list) ∧ w.cell? ⟨b, off + i * 3 + 1, none⟩ = some (.string ⟨(Tr.kid t i).bytes.toArray⟩) ∧ w.cell? ⟨b, off + i * 3 + 2, none⟩ = some (.slice a' (Tr.kid t i).items.length cap') ∧
      Rep B w n (.agg #[.bool (Tr.kid t i).list, .string ⟨(Tr.kid t i).bytes.toArray⟩, .slice a' (Tr.kid t i).items.length cap']) (Tr.kid t i) := by
  obtain ⟨a2, cap2, hv, _, hk⟩ := h
  simp only [Value.agg.injEq, Array.mk.injEq, List.cons.injEq, Value.slice.injEq, true_and, and_true] at hv
  obtain ⟨rfl, rfl⟩ := hv
  obtain ⟨b, off, c0, c1, c2, ha, hb, e0, e1, e2, hr⟩ := hk i hi
  obtain ⟨a', cap', rfl, rfl, rfl⟩ := rep_shape hr
  rw [← kid_eq t i hi] at e0 e1 e2 hr
  exact ⟨b, off, a', cap', ha, hb, e0, e1, e2, hr⟩

theorem kid_wt' (t : Itm) (i : Nat) (h : i < t.items.length) : Itm.wt (Tr.kid t i) < Itm.wt t := by rw [kid_eq t i h]; exact Itm.kid_wt t i h

theorem bytes_le_wt (t : Itm) : t.bytes.length ≤ Itm.wt t := by rw [Itm.wt_eq]; omega

/-- Sound's own contract, at so many levels. -/
def SoundAt (n : Nat) : Prop := ∀ (v : Value) (t : Itm) (w : World), Rep w.heap.size w n v t → Itm.wt t ≤ 1000000 →
    Calls Tryz.prog 128 #[v] w fun e w' => e = .returned (.bool (Tr.sound t)) ∧ Below w.heap.size w w'

set_option maxHeartbeats 800000 in
theorem inside_any (n : Nat) (hS : SoundAt n) (v : Value) (t : Itm) (w : World) (hr : Rep w.heap.size w n v t) (hw : Itm.wt t ≤ 1000000) :
    Calls Tryz.prog 140 #[v] w fun e w' => e = .returned (.bool (Tr.sound t && decide ((Itm.enc t).length < 8))) ∧ Below w.heap.size w w' := by
  cases n with
  | zero => exact hr.elim
  | succ n =>
  obtain ⟨a, cap, rfl, _⟩ := id hr
  have HR := hid hr
  have HS := hid (fun w h => hS (.agg #[.bool t.list, .string ⟨t.bytes.toArray⟩, .slice a t.items.length cap]) t w h hw)
  have HB := hid (fun w h => bytesR_any (n + 1) (.agg #[.bool t.list, .string ⟨t.bytes.toArray⟩, .slice a t.items.length cap]) t w h (by omega))
  generalize Tr.sound t = so at *
  clear hr hS
  go_enter Tryz.func140, Tryz.ntmps140
  go_wp2_with fail
  refine (HS.out _ (rep_in HR.out ((Below.refl _ _).alloc (Nat.le_refl _) _))).mono ?_
  rintro e w1 ⟨rfl, b1⟩
  obtain ⟨x0, x1, x2⟩ := box_third b1
  have HB1 := hid (below_of_box b1)
  clear b1
  cases so
  · go_wp2_with fail
    go_ret
    exact ⟨by simp, HB1.out⟩
  · by_cases hlt : (Itm.enc t).length < 8
    · have hl' : ((Itm.enc t).length : Int) < 8 := by omega
      have HX : Hid (decide ((Itm.enc t).length < 8) = true) := decide_eq_true hlt
      go_wp2_with fail
      refine (HB.out _ (rep_in HR.out HB1.out)).mono ?_
      rintro e w2 ⟨rfl, b2⟩
      have HB2 := hid (HB1.out.trans (b2.mono HB1.out.size))
      clear b2
      go_wp2_with fail
      go_ret
      exact ⟨by rw [HX.out]; rfl, HB2.out⟩
    · have hl' : ¬ ((Itm.enc t).length : Int) < 8 := by omega
      have HX : Hid (decide ((Itm.enc t).length < 8) = false) := decide_eq_false hlt
      have HXi : Hid (decide (((Itm.enc t).length : Int) < 8) = false) := decide_eq_false hl'
      go_wp2_with fail
      refine (HB.out _ (rep_in HR.out HB1.out)).mono ?_
      rintro e w2 ⟨rfl, b2⟩
      have HB2 := hid (HB1.out.trans (b2.mono HB1.out.size))
      clear b2
      go_wp2_with fail
      go_ret
      exact ⟨(congrArg (fun b => Ending.returned (Value.bool b)) HXi.out).trans (by rw [HX.out]; rfl), HB2.out⟩

section
variable (n : Nat) (t : Itm) (w : World) (a : Option Addr) (cap : Nat)

theorem sound_empty (he : Tr.isEmpty t = true) : Calls Tryz.prog 128 #[.agg #[.bool t.list, .string ⟨t.bytes.toArray⟩, .slice a t.items.length cap]] w fun e w' => e = .returned (.bool (Tr.sound t)) ∧ Below w.heap.size w w' := by
  have HV : Hid (Tr.sound t = true) := by rw [Hid, Tr.sound_eq]; simp [Tr.soundOf, he]
  have HE := hid (fun w => isEmpty_any t w a cap)
  rw [he] at HE
  go_enter Tryz.func128, Tryz.ntmps128
  go_wp2_with fail
  refine (HE.out _).mono ?_
  rintro e w1 ⟨rfl, b1⟩
  have HB1 := hid (below_of_box b1)
  clear b1
  go_wp2_with fail
  go_ret
  exact ⟨by rw [HV.out]; rfl, HB1.out⟩

set_option maxHeartbeats 800000 in
theorem sound_pair (hr : Rep w.heap.size w (n + 1) (.agg #[.bool t.list, .string ⟨t.bytes.toArray⟩, .slice a t.items.length cap]) t) (hw : Itm.wt t ≤ 1000000) (he : Tr.isEmpty t = false) (h2 : t.items.length = 2) : Calls Tryz.prog 128 #[.agg #[.bool t.list, .string ⟨t.bytes.toArray⟩, .slice a t.items.length cap]] w fun e w' => e = .returned (.bool (Tr.sound t)) ∧ Below w.heap.size w w' := by
  have HE := hid (fun w => isEmpty_any t w a cap)
  rw [he] at HE
  obtain ⟨b, off, a0, cap0, rfl, hb, e0, e1, e2, r0⟩ := rep_kid hr 0 (by omega)
  obtain ⟨b', off', a1, cap1, hbb, _, g0, g1, g2, r1⟩ := rep_kid hr 1 (by omega)
  simp only [Option.some.injEq, Addr.mk.injEq, and_true] at hbb
  obtain ⟨rfl, rfl⟩ := hbb
  simp only [Nat.zero_mul, Nat.add_zero, Nat.one_mul] at e0 e1 e2 g0 g1 g2
  have w0 := kid_wt' t 0 (by omega)
  have w1 := kid_wt' t 1 (by omega)
  have HU := hid (fun w => unpath_any (Tr.kid t 0) w a0 cap0 (by have := bytes_le_wt (Tr.kid t 0); omega))
  have HV := hid (fun w => isValue_any (Tr.kid t 1) w a1 cap1)
  have HM := hid (fun w => isSum_any (Tr.kid t 1) w a1 cap1)
  have HSO := hid (Tr.sound_eq t)
  have HSE : Hid (Tr.sound t = Tr.pairOk (Tr.unpath (Tr.kid t 0)) (Tr.kid t 1)) := by
    rw [Hid, HSO.out]; simp [Tr.soundOf, he, h2]
  have hlen : ((t.items.length : Int) == 2) = true := by simp; omega
  have i1 : (0 : Int) < (t.items.length : Int) := by omega
  have i2 : (1 : Int) < (t.items.length : Int) := by omega
  clear hr hw he r0 r1 w0 w1 HSO h2
  go_enter Tryz.func128, Tryz.ntmps128
  go_wp2_with fail
  refine (HE.out _).mono ?_
  rintro e wa ⟨rfl, b1⟩
  obtain ⟨x0, x1, x2⟩ := box_third b1
  have HB1 := hid (below_of_box b1)
  have f0 := (HB1.out.cell (p := ⟨b, off, none⟩) hb).trans e0
  have f1 := (HB1.out.cell (p := ⟨b, off + 1, none⟩) hb).trans e1
  have f2 := (HB1.out.cell (p := ⟨b, off + 2, none⟩) hb).trans e2
  have HBX := hid b1
  clear b1
  go_wp2_with fail
  refine (HU.out _).mono ?_
  rintro e wb ⟨u1, u2, b2⟩
  have HBY := hid (HBX.out.trans (b2.mono HBX.out.size))
  obtain ⟨x0, x1, x2⟩ := box_third HBY.out
  have HB2 := hid (below_of_box HBY.out)
  have k0 := (HB2.out.cell (p := ⟨b, off + 3, none⟩) hb).trans g0
  have k1 := (HB2.out.cell (p := ⟨b, off + 3 + 1, none⟩) hb).trans g1
  have k2 := (HB2.out.cell (p := ⟨b, off + 3 + 2, none⟩) hb).trans g2
  clear b2 f0 f1 f2 e0 e1 e2 g0 g1 g2 HU HE HBX HB1
  cases hu : Tr.unpath (Tr.kid t 0) with
  | none =>
    obtain rfl := u1 hu
    have HSV : Hid (Tr.sound t = false) := by rw [Hid, HSE.out, hu]; rfl
    clear u1 u2 hu HSE
    go_wp2_with fail
    go_ret
    exact ⟨by rw [HSV.out]; rfl, HB2.out⟩
  | some pl =>
    obtain ⟨p, leaf⟩ := pl
    obtain ⟨ap, capp, rfl, hop⟩ := u2 p leaf hu
    cases leaf
    · have HSV : Hid (Tr.sound t = (decide (0 < p.length) && Tr.isSum (Tr.kid t 1))) := by rw [Hid, HSE.out, hu]; rfl
      clear u1 u2 hu HSE hop
      go_wp2_with fail
      refine (HM.out _).mono ?_
      rintro e wd ⟨rfl, b3⟩
      have HB3 := hid (HB2.out.trans (b3.mono HB2.out.size))
      clear b3
      by_cases hp : 0 < p.length
      · have hp' : (0 : Int) < (p.length : Int) := by omega
        have HX : Hid (decide (0 < p.length) = true) := decide_eq_true hp
        go_wp2_with fail
        go_ret
        exact ⟨by rw [HSV.out, HX.out]; rfl, HB3.out⟩
      · have hp' : ¬ (0 : Int) < (p.length : Int) := by omega
        have HX : Hid (decide (0 < p.length) = false) := decide_eq_false hp
        go_wp2_with fail
        go_ret
        exact ⟨by rw [HSV.out, HX.out]; rfl, HB3.out⟩
    · have HSV : Hid (Tr.sound t = Tr.isValue (Tr.kid t 1)) := by rw [Hid, HSE.out, hu]; rfl
      clear u1 u2 hu HSE hop
      go_wp2_with fail
      refine (HV.out _).mono ?_
      rintro e wd ⟨rfl, b3⟩
      have HB3 := hid (HB2.out.trans (b3.mono HB2.out.size))
      clear b3
      go_wp2_with fail
      go_ret
      exact ⟨by rw [HSV.out]; rfl, HB3.out⟩

theorem sound_none (he : Tr.isEmpty t = false) (h2 : t.items.length ≠ 2) (hb : Tr.isBranch t = false) : Calls Tryz.prog 128 #[.agg #[.bool t.list, .string ⟨t.bytes.toArray⟩, .slice a t.items.length cap]] w fun e w' => e = .returned (.bool (Tr.sound t)) ∧ Below w.heap.size w w' := by
  have HV : Hid (Tr.sound t = false) := by rw [Hid, Tr.sound_eq]; simp [Tr.soundOf, he, h2, hb]
  have HE := hid (fun w => isEmpty_any t w a cap)
  have HBR := hid (fun w => isBranch_any t w a cap)
  rw [he] at HE
  rw [hb] at HBR
  have hlen : ((t.items.length : Int) == 2) = false := by simp; omega
  go_enter Tryz.func128, Tryz.ntmps128
  go_wp2_with fail
  refine (HE.out _).mono ?_
  rintro e w1 ⟨rfl, b1⟩
  obtain ⟨x0, x1, x2⟩ := box_third b1
  have HB1 := hid (below_of_box b1)
  clear b1
  go_wp2_with fail
  refine (HBR.out _).mono ?_
  rintro e w2 ⟨rfl, b2⟩
  have HB2 := hid (HB1.out.trans (b2.mono HB1.out.size))
  clear b2
  go_wp2_with fail
  go_ret
  exact ⟨by rw [HV.out]; rfl, HB2.out⟩

set_option maxHeartbeats 800000 in
theorem sound_many (hS : SoundAt n) (hr : Rep w.heap.size w (n + 1) (.agg #[.bool t.list, .string ⟨t.bytes.toArray⟩, .slice a t.items.length cap]) t) (hw : Itm.wt t ≤ 1000000) (he : Tr.isEmpty t = false) (hb : Tr.isBranch t = true) : Calls Tryz.prog 128 #[.agg #[.bool t.list, .string ⟨t.bytes.toArray⟩, .slice a t.items.length cap]] w fun e w' => e = .returned (.bool (Tr.sound t)) ∧ Below w.heap.size w w' := by
  have hl : t.items.length = 17 := by unfold Tr.isBranch at hb; simp at hb; exact hb.2
  have HBAD := hid (fun i hi h => Tr.sound_bad he hb i hi h)
  have HGOOD := hid (fun h => Tr.sound_good he hb h)
  have HE := hid (fun w => isEmpty_any t w a cap)
  have HBR := hid (fun w => isBranch_any t w a cap)
  rw [he] at HE
  rw [hb] at HBR
  have HR := hid hr
  have HW := hid hw
  have HS := hid hS
  have hlen : ((t.items.length : Int) == 2) = false := by simp; omega
  have HLE := hid hl
  clear hS hr hw he hb hl
  go_enter Tryz.func128, Tryz.ntmps128
  go_wp2_with fail
  refine (HE.out _).mono ?_
  rintro e w1 ⟨rfl, b1⟩
  obtain ⟨x0, x1, x2⟩ := box_third b1
  have HB1 := hid b1
  clear b1
  go_wp2_with fail
  refine (HBR.out _).mono ?_
  rintro e w2 ⟨rfl, b2⟩
  have HB2 := hid (HB1.out.trans (b2.mono HB1.out.size))
  clear b2 HB1 x0 x1 x2
  go_wp2_with fail
  go_loopw [9, 10] (fun f i wr => ∃ k : Nat, f = .int .i64 (Tr.full t k) ∧ i = .int .i64 k ∧ k ≤ 17 ∧ Hid (∀ j, j < k → Tr.slotOk j (Tr.kid t j) (Tr.sound (Tr.kid t j)) = true) ∧ Hid (Below (w.alloc (.cells #[.bool t.list, .string ⟨t.bytes.toArray⟩, .slice a t.items.length cap] 119)).heap.size (w.alloc (.cells #[.bool t.list, .string ⟨t.bytes.toArray⟩, .slice a t.items.length cap] 119)) wr)) (fun _ i _ => 17 - (intOf i).toNat)
  case atStart => exact ⟨0, by rw [Tr.full_zero]; rfl, rfl, by omega, fun j hj => by omega, HB2.out⟩
  case round =>
    obtain ⟨k, rfl, rfl, hk, HOK, HB⟩ := hrel
    obtain ⟨x0, x1, x2⟩ := box_third HB.out
    have HB0 := hid (below_of_box HB.out)
    by_cases hlt : k < 17
    · obtain ⟨b, off, a1, cap1, rfl, hbb, e0, e1, e2, r1⟩ := rep_kid HR.out k (by have := HLE.out; omega)
      have f0 := (HB0.out.cell (p := ⟨b, off + k * 3, none⟩) hbb).trans e0
      have f1 := (HB0.out.cell (p := ⟨b, off + k * 3 + 1, none⟩) hbb).trans e1
      have f2 := (HB0.out.cell (p := ⟨b, off + k * 3 + 2, none⟩) hbb).trans e2
      have hkw := kid_wt' t k (by have := HLE.out; omega)
      have R1 := hid (rep_in r1 HB0.out)
      have HKE := hid (fun w => isEmpty_any (Tr.kid t k) w a1 cap1)
      have HKV := hid (fun w => isValue_any (Tr.kid t k) w a1 cap1)
      have HKS := hid (fun w => isSum_any (Tr.kid t k) w a1 cap1)
      have HKI := hid (fun w h => inside_any n HS.out (.agg #[.bool (Tr.kid t k).list, .string ⟨(Tr.kid t k).bytes.toArray⟩, .slice a1 (Tr.kid t k).items.length cap1]) (Tr.kid t k) w h (by have := HW.out; omega))
      have HSL : Hid (Tr.slotOk k (Tr.kid t k) (Tr.sound (Tr.kid t k)) = (Tr.isEmpty (Tr.kid t k) || (if k = 16 then Tr.isValue (Tr.kid t k) else Tr.isSum (Tr.kid t k) || ((Tr.kid t k).list && Tr.sound (Tr.kid t k) && decide ((Itm.enc (Tr.kid t k)).length < 8))))) := Tr.slotOk_eq _ _ _
      have HFS := hid (Tr.full_succ t k)
      have HFL := hid (Tr.full_le t k)
      have HBADk := hid (HBAD.out k hlt)
      have hfl : Tr.full t k ≤ 17 := by have := Tr.full_le t k; omega
      clear e0 e1 e2 r1 HBAD
      have i1 : (0 : Int) ≤ (k : Int) := by omega
      have i2 : (k : Int) < (t.items.length : Int) := by have := HLE.out; omega
      have i3 : (k : Int) < 17 := by omega
      generalize Tr.isEmpty (Tr.kid t k) = E at *
      generalize Tr.isValue (Tr.kid t k) = V at *
      generalize Tr.isSum (Tr.kid t k) = S at *
      go_wp2_with fail
      refine (HKE.out _).mono ?_
      rintro e w3 ⟨rfl, b3⟩
      have HB3 := hid b3
      obtain ⟨y0, y1, y2⟩ := box_third b3
      clear b3
      have HW0 := hid (bb_on (bb_box HB.out _) HB3.out)
      have HNX : Hid (Tr.slotOk k (Tr.kid t k) (Tr.sound (Tr.kid t k)) = true → ∀ j, j < k + 1 → Tr.slotOk j (Tr.kid t j) (Tr.sound (Tr.kid t j)) = true) := by
        intro h j hj
        by_cases hjk : j = k
        · subst hjk; exact h
        · exact HOK.out j (by omega)
      cases E
      · go_wp2_with fail
        refine (HKV.out _).mono ?_
        rintro e w4 ⟨rfl, b4⟩
        have HB4 := hid (bb_on HB3.out b4)
        obtain ⟨y0, y1, y2⟩ := box_third HB4.out
        clear b4 HW0 HB3
        go_wp2_with fail
        refine (HKS.out _).mono ?_
        rintro e w5 ⟨rfl, b5⟩
        have HB5 := hid (bb_on HB4.out b5)
        obtain ⟨y0, y1, y2⟩ := box_third HB5.out
        have HR5 := hid (rep_in R1.out (below_of_box HB5.out))
        clear b5 HB4 R1
        cases hl : (Tr.kid t k).list
        · have HW0 := hid (bb_on (bb_box HB.out _) HB5.out)
          rw [hl] at HSL y0
          clear HKE HKV HKS HKI HR5 f0 f1 f2 hl HB5
          by_cases h16 : k = 16
          · have c1 : ((k : Int) == 16) = true := by simp; omega
            have c2 : ¬ (k : Int) < 16 := by omega
            have H16 := hid h16
            clear h16
            cases V
            · go_wp2_with fail
              go_ret
              exact ⟨by rw [HBADk.out (by rw [HSL.out]; rw [if_pos H16.out]; rfl)]; rfl, below_of_box HW0.out⟩
            · go_wp2_with fail
              exact ⟨⟨k + 1, by rw [HFS.out]; simp, by go_num, by omega, HNX.out (by rw [HSL.out]; rw [if_pos H16.out]; rfl), HW0.out⟩, by simp [intOf]; omega⟩
          · have c1 : ((k : Int) == 16) = false := by simp; omega
            have c2 : (k : Int) < 16 := by omega
            have H16 := hid h16
            clear h16
            cases S
            · go_wp2_with fail
              go_ret
              exact ⟨by rw [HBADk.out (by rw [HSL.out]; rw [if_neg H16.out]; rfl)]; rfl, below_of_box HW0.out⟩
            · go_wp2_with fail
              exact ⟨⟨k + 1, by rw [HFS.out]; simp, by go_num, by omega, HNX.out (by rw [HSL.out]; rw [if_neg H16.out]; rfl), HW0.out⟩, by simp [intOf]; omega⟩
        · rw [hl] at HSL y0 HKI HR5
          clear HKE HKV HKS f0 f1 f2
          simp only [Bool.true_and] at HSL
          generalize hIN : (Tr.sound (Tr.kid t k) && decide ((Itm.enc (Tr.kid t k)).length < 8)) = IN at HKI HSL
          go_wp2_with fail
          refine (HKI.out _ HR5.out).mono ?_
          rintro e w6 ⟨rfl, b6⟩
          have HW0 := hid (bb_on (bb_box HB.out _) (bb_on HB5.out b6))
          clear b6 hIN hl HKI HR5 HB5
          by_cases h16 : k = 16
          · have c1 : ((k : Int) == 16) = true := by simp; omega
            have c2 : ¬ (k : Int) < 16 := by omega
            have H16 := hid h16
            clear h16
            cases V
            · go_wp2_with fail
              go_ret
              exact ⟨by rw [HBADk.out (by rw [HSL.out]; rw [if_pos H16.out]; rfl)]; rfl, below_of_box HW0.out⟩
            · go_wp2_with fail
              exact ⟨⟨k + 1, by rw [HFS.out]; simp, by go_num, by omega, HNX.out (by rw [HSL.out]; rw [if_pos H16.out]; rfl), HW0.out⟩, by simp [intOf]; omega⟩
          · have c1 : ((k : Int) == 16) = false := by simp; omega
            have c2 : (k : Int) < 16 := by omega
            have H16 := hid h16
            clear h16
            cases S
            · cases IN
              · go_wp2_with fail
                go_ret
                exact ⟨by rw [HBADk.out (by rw [HSL.out]; rw [if_neg H16.out]; rfl)]; rfl, below_of_box HW0.out⟩
              · go_wp2_with fail
                exact ⟨⟨k + 1, by rw [HFS.out]; simp, by go_num, by omega, HNX.out (by rw [HSL.out]; rw [if_neg H16.out]; rfl), HW0.out⟩, by simp [intOf]; omega⟩
            · go_wp2_with fail
              exact ⟨⟨k + 1, by rw [HFS.out]; simp, by go_num, by omega, HNX.out (by rw [HSL.out]; rw [if_neg H16.out]; rfl), HW0.out⟩, by simp [intOf]; omega⟩
      · go_wp2_with fail
        exact ⟨⟨k + 1, by rw [HFS.out]; simp, by go_num, by omega, HNX.out (by rw [HSL.out]; rfl), HW0.out⟩, by simp [intOf]; omega⟩
    · have hke : k = 17 := by omega
      have HGO : Hid (Tr.sound t = decide (2 ≤ Tr.full t k)) := by
        rw [Hid, hke]; exact HGOOD.out (fun j hj => HOK.out j (by omega))
      have i3 : ¬ (k : Int) < 17 := by omega
      clear hke hlt
      by_cases hf : 2 ≤ Tr.full t k
      · have hf' : (2 : Int) ≤ (Tr.full t k : Int) := by omega
        have HX : Hid (decide (2 ≤ Tr.full t k) = true) := decide_eq_true hf
        go_wp2_with fail
        go_ret
        exact ⟨by rw [HGO.out, HX.out]; rfl, HB0.out⟩
      · have hf' : ¬ (2 : Int) ≤ (Tr.full t k : Int) := by omega
        have HX : Hid (decide (2 ≤ Tr.full t k) = false) := decide_eq_false hf
        go_wp2_with fail
        go_ret
        exact ⟨by rw [HGO.out, HX.out]; rfl, HB0.out⟩
end

theorem soundR_any (n : Nat) : SoundAt n := by
  induction n with
  | zero => intro v t w h; exact h.elim
  | succ n ih =>
    intro v t w hr hw
    obtain ⟨a, cap, rfl, _⟩ := id hr
    by_cases he : Tr.isEmpty t = true
    · exact sound_empty t w a cap he
    · have he' : Tr.isEmpty t = false := by simpa using he
      by_cases h2 : t.items.length = 2
      · exact sound_pair n t w a cap hr hw he' h2
      · by_cases hb : Tr.isBranch t = true
        · exact sound_many n t w a cap ih hr hw he' hb
        · exact sound_none t w a cap he' h2 (by simpa using hb)
end Go.Proofs.YtbmohenjphmlgaaGreat

/- The walks of goes and refers (of the document's own answer). -/
namespace Go.Proofs.YtbmohenjphmlgaaGreat
open Go.RowKit
set_option maxRecDepth 100000

/-- Bytes that can be read, and the room that they have. -/
def BrdC (B : Nat) (w : World) (v : Value) (l : List UInt8) : Prop :=
  (v = .slice none 0 0 ∧ l = []) ∨ ∃ b off cap, v = .slice (some ⟨b, off, none⟩) l.length cap ∧ l.length ≤ cap ∧ b < B ∧ ∀ j (h : j < l.length), w.cell? ⟨b, off + j, none⟩ = some (.int .u8 (l[j].toNat : Nat))

theorem BrdC.brd {B : Nat} {w : World} {v : Value} {l : List UInt8} (h : BrdC B w v l) : Brd B w v l := by
  rcases h with h | ⟨b, off, cap, hv, _, hlt, hc⟩
  · exact .inl h
  · exact .inr ⟨b, off, cap, hv, hlt, hc⟩

theorem brdC_of_bown {w : World} {b : Nat} {v : Value} {l : List UInt8} (h : Bown w b v l) : BrdC w.heap.size w v l := by
  rcases h.2 with ⟨rfl, h0⟩ | ⟨g, cap, cur, rfl, hb, hg, hnc, _, _, _⟩
  · exact .inl ⟨rfl, List.eq_nil_of_length_eq_zero h0⟩
  · refine .inr ⟨g, 0, cap, rfl, hnc, (Array.getElem?_eq_some_iff.1 hg).1, ?_⟩
    intro j hj
    rw [Nat.zero_add, World.ownsRow.cellAt h j (by omega)]
    simp [Lib.byteCells, hj]

theorem BrdC.later {w w' : World} {v : Value} {l : List UInt8} (h : BrdC w.heap.size w v l) (hb : Below w.heap.size w w') : BrdC w'.heap.size w' v l := by
  have := hb.size
  rcases h with h | ⟨b, off, cap, hv, hcap, hlt, hc⟩
  · exact .inl h
  · exact .inr ⟨b, off, cap, hv, hcap, by omega, fun j hj => by rw [hb.cell hlt]; exact hc j hj⟩

theorem BrdC.frame {B : Nat} {w w' : World} {v : Value} {l : List UInt8} (h : BrdC B w v l) (hb : Below B w w') : BrdC B w' v l := by
  rcases h with h | ⟨b, off, cap, hv, hcap, hlt, hc⟩
  · exact .inl h
  · exact .inr ⟨b, off, cap, hv, hcap, hlt, fun j hj => by rw [hb.cell hlt]; exact hc j hj⟩

theorem BrdC.shape {B : Nat} {w : World} {v : Value} {l : List UInt8} (h : BrdC B w v l) : ∃ a cap, v = .slice a l.length cap := brd_shape h.brd

theorem BrdC.drop {B : Nat} {w : World} {b off cap : Nat} {l : List UInt8} (h : BrdC B w (.slice (some ⟨b, off, none⟩) l.length cap) l) (i : Nat) (hi : i ≤ l.length) : BrdC B w (.slice (some ⟨b, off + i, none⟩) (l.drop i).length (cap - i)) (l.drop i) := by
  rcases h with ⟨hv, _⟩ | ⟨b', off', cap', hv, hcap, hlt, hc⟩
  · simp at hv
  · simp only [Value.slice.injEq, Option.some.injEq, Addr.mk.injEq, and_true, true_and] at hv
    obtain ⟨⟨rfl, rfl⟩, rfl⟩ := hv
    refine .inr ⟨b, off + i, cap - i, rfl, by simp; omega, hlt, fun j hj => ?_⟩
    have := hc (i + j) (by simp at hj; omega)
    rw [← Nat.add_assoc] at this
    rw [this]
    simp

/-- What goes and refers answer. -/
def GoesPost (B : Nat) (o : Option Tr.Way) (w : World) (e : Ending) (w' : World) : Prop :=
  (o = none → e = .returned (.tuple #[.agg #[.slice none 0 0, .bool false, .string ⟨#[]⟩, .bool false, .string ⟨#[]⟩], .bool false])) ∧
  (∀ y, o = some y → ∃ a cap, e = .returned (.tuple #[.agg #[.slice a y.digits.length cap, .bool y.branch, .string ⟨y.value.toArray⟩, .bool y.found, .string ⟨y.need.toArray⟩], .bool true]) ∧ BrdC B w' (.slice a y.digits.length cap) y.digits) ∧ Below w.heap.size w w'

theorem goesPost_none {B : Nat} {o : Option Tr.Way} {w w' : World} (h : o = none) (hb : Below w.heap.size w w') : GoesPost B o w (.returned (.tuple #[.agg #[.slice none 0 0, .bool false, .string ⟨#[]⟩, .bool false, .string ⟨#[]⟩], .bool false])) w' :=
  ⟨fun _ => rfl, fun y hy => (by rw [h] at hy; cases hy), hb⟩

theorem goesPost_some {B : Nat} {o : Option Tr.Way} {w w' : World} {y : Tr.Way} {a : Option Addr} {cap : Nat} (h : o = some y) (hd : BrdC B w' (.slice a y.digits.length cap) y.digits) (hb : Below w.heap.size w w') :
    GoesPost B o w (.returned (.tuple #[.agg #[.slice a y.digits.length cap, .bool y.branch, .string ⟨y.value.toArray⟩, .bool y.found, .string ⟨y.need.toArray⟩], .bool true])) w' :=
  ⟨fun hn => (by rw [h] at hn; cases hn), fun y' hy => (by rw [h] at hy; cases hy; exact ⟨a, cap, rfl, hd⟩), hb⟩

/-- The contract of goes, at so many levels. -/
def GoesAt (n : Nat) : Prop := ∀ (v : Value) (t : Itm) (w : World) (B : Nat) (d : Value) (k : List UInt8) (br : Bool), Rep w.heap.size w n v t → Tr.sound t = true → Itm.wt t ≤ 1000000 → B ≤ w.heap.size → BrdC B w d k → (∀ c ∈ k, c.toNat < 16) → k.length ≤ 1000000 →
    Calls Tryz.prog 74 #[v, d, .bool br] w (GoesPost B (Tr.goes t k br) w)

/-- A result's cells, and a box's. -/
theorem two_kept {w w1 : World} {x y z : Value} {E F : TypeId} {cs : Array Value} (hb : Below ((w.alloc (.cells #[x, y, z] E)).alloc (.cells cs F)).heap.size ((w.alloc (.cells #[x, y, z] E)).alloc (.cells cs F)) w1) :
    w1.heap[w.heap.size]? = some (.cells #[x, y, z] E (0, 0)) ∧ w1.heap[w.heap.size + 1]? = some (.cells cs F (0, 0)) ∧ Below w.heap.size w w1 := by
  refine ⟨?_, ?_, ?_⟩
  · rw [hb.block _ (by simp; omega), Below.heap_alloc _ _ _ (by simp)]; exact heap_alloc_new _ _
  · rw [hb.block _ (by simp)]
    have := heap_alloc_new (w.alloc (.cells #[x, y, z] E)) (.cells cs F)
    simpa using this
  · exact ((((Below.refl w.heap.size w).alloc (Nat.le_refl _) _).alloc (by simp) _)).trans (hb.mono (by simp; omega))

/-- The five cells of a way that has just been made. -/
theorem way_cells {w1 : World} {X : Nat} (h : w1.heap[X]? = some (.cells #[.slice none 0 0, .bool false, .string ⟨#[]⟩, .bool false, .string ⟨#[]⟩] 117 (0, 0))) :
    w1.cell? ⟨X, 0, none⟩ = some (.slice none 0 0) ∧ w1.cell? ⟨X, 1, none⟩ = some (.bool false) ∧ w1.cell? ⟨X, 2, none⟩ = some (.string ⟨#[]⟩) ∧ w1.cell? ⟨X, 3, none⟩ = some (.bool false) ∧ w1.cell? ⟨X, 4, none⟩ = some (.string ⟨#[]⟩) ∧
    w1.frozen? ⟨X, 0, none⟩ = false ∧ w1.frozen? ⟨X, 1, none⟩ = false ∧ w1.frozen? ⟨X, 2, none⟩ = false ∧ w1.frozen? ⟨X, 3, none⟩ = false ∧ w1.frozen? ⟨X, 4, none⟩ = false :=
  ⟨by rw [cell_of_row _ _ 0 _ _ _ h]; rfl, by rw [cell_of_row _ _ 1 _ _ _ h]; rfl, by rw [cell_of_row _ _ 2 _ _ _ h]; rfl, by rw [cell_of_row _ _ 3 _ _ _ h]; rfl, by rw [cell_of_row _ _ 4 _ _ _ h]; rfl,
    frozen_of_row _ _ 0 _ _ h, frozen_of_row _ _ 1 _ _ h, frozen_of_row _ _ 2 _ _ h, frozen_of_row _ _ 3 _ _ h, frozen_of_row _ _ 4 _ _ h⟩

/-- A way is stored. -/
def set5 (w1 : World) (X : Nat) (d0 d1 d2 d3 d4 : Value) : World :=
  ((((w1.setCell ⟨X, 0, none⟩ d0).setCell ⟨X, 1, none⟩ d1).setCell ⟨X, 2, none⟩ d2).setCell ⟨X, 3, none⟩ d3).setCell ⟨X, 4, none⟩ d4

theorem set5_below {B : Nat} {a w1 : World} {X : Nat} (h : Below B a w1) (hX : B ≤ X) (d0 d1 d2 d3 d4 : Value) : Below B a (set5 w1 X d0 d1 d2 d3 d4) :=
  ((((h.setCell (p := ⟨X, 0, none⟩) hX d0).setCell (p := ⟨X, 1, none⟩) hX d1).setCell (p := ⟨X, 2, none⟩) hX d2).setCell (p := ⟨X, 3, none⟩) hX d3).setCell (p := ⟨X, 4, none⟩) hX d4

theorem set5_size (w1 : World) (X : Nat) (d0 d1 d2 d3 d4 : Value) : (set5 w1 X d0 d1 d2 d3 d4).heap.size = w1.heap.size := by simp [set5, World.setCell]

theorem set5_row {w1 : World} {X : Nat} {e0 e1 e2 e3 e4 : Value} (h : w1.heap[X]? = some (.cells #[e0, e1, e2, e3, e4] 117 (0, 0))) (d0 d1 d2 d3 d4 : Value) : (set5 w1 X d0 d1 d2 d3 d4).heap[X]? = some (.cells #[d0, d1, d2, d3, d4] 117 (0, 0)) := by
  have s0 := heap_setCell_same w1 X 0 _ 117 d0 h
  have s1 := heap_setCell_same _ X 1 _ 117 d1 s0
  have s2 := heap_setCell_same _ X 2 _ 117 d2 s1
  have s3 := heap_setCell_same _ X 3 _ 117 d3 s2
  have s4 := heap_setCell_same _ X 4 _ 117 d4 s3
  exact s4

theorem set5_cells {w1 : World} {X : Nat} {e0 e1 e2 e3 e4 : Value} (h : w1.heap[X]? = some (.cells #[e0, e1, e2, e3, e4] 117 (0, 0))) (d0 d1 d2 d3 d4 : Value) :
    (set5 w1 X d0 d1 d2 d3 d4).cell? ⟨X, 0, none⟩ = some d0 ∧ (set5 w1 X d0 d1 d2 d3 d4).cell? ⟨X, 1, none⟩ = some d1 ∧ (set5 w1 X d0 d1 d2 d3 d4).cell? ⟨X, 2, none⟩ = some d2 ∧ (set5 w1 X d0 d1 d2 d3 d4).cell? ⟨X, 3, none⟩ = some d3 ∧ (set5 w1 X d0 d1 d2 d3 d4).cell? ⟨X, 4, none⟩ = some d4 := by
  have h5 := set5_row h d0 d1 d2 d3 d4
  exact ⟨by rw [cell_of_row _ _ 0 _ _ _ h5]; rfl, by rw [cell_of_row _ _ 1 _ _ _ h5]; rfl, by rw [cell_of_row _ _ 2 _ _ _ h5]; rfl, by rw [cell_of_row _ _ 3 _ _ _ h5]; rfl, by rw [cell_of_row _ _ 4 _ _ _ h5]; rfl⟩

set_option maxHeartbeats 1600000 in
theorem refers_any (n : Nat) (hG : GoesAt n) (v : Value) (t : Itm) (w : World) (B : Nat) (d : Value) (k : List UInt8) (br : Bool) (hr : Rep w.heap.size w n v t) (hs : Tr.isSum t = true ∨ Tr.sound t = true) (hw : Itm.wt t ≤ 1000000) (hB : B ≤ w.heap.size) (hd : BrdC B w d k) (hk : ∀ c ∈ k, c.toNat < 16) (hl : k.length ≤ 1000000) :
    Calls Tryz.prog 107 #[v, d, .bool br] w (GoesPost B (Tr.refers t k br) w) := by
  cases n with
  | zero => exact hr.elim
  | succ n =>
  obtain ⟨a, cap, rfl, _⟩ := id hr
  obtain ⟨ad, capd, rfl⟩ := hd.shape
  have HI := hid (fun w => isSum_any t w a cap)
  cases hsum : Tr.isSum t
  · have HV : Hid (Tr.refers t k br = Tr.goes t k br) := by rw [Hid]; unfold Tr.refers Tr.refersOf; rw [hsum]; rfl
    rw [hsum] at HI hs
    have HG := hid (fun w h1 hB h2 => hG (.agg #[.bool t.list, .string ⟨t.bytes.toArray⟩, .slice a t.items.length cap]) t w B (.slice ad k.length capd) k br h1 (hs.resolve_left (by simp)) hw hB h2 hk hl)
    have HR := hid hr
    have HD := hid hd
    clear hG hr hd hsum hs
    go_enter Tryz.func107, Tryz.ntmps107
    go_wp2_with fail
    refine (HI.out _).mono ?_
    rintro e w1 ⟨rfl, b1⟩
    obtain ⟨p1, p2, p3⟩ := two_kept b1
    have x0 := cell_of_row _ _ 0 _ _ _ p1
    have x1 := cell_of_row _ _ 1 _ _ _ p1
    have x2 := cell_of_row _ _ 2 _ _ _ p1
    have HP2 := hid p2
    have HB1 := hid p3
    clear b1 p1 p2 p3
    go_wp2_with fail
    refine (HG.out _ (rep_in HR.out HB1.out) (Nat.le_trans hB HB1.out.size) (HD.out.frame (HB1.out.mono hB))).mono ?_
    rintro e w2 ⟨g1, g2, b2⟩
    have HB2 := hid (bb_on HB1.out b2)
    have HP2' : Hid (w2.heap[w.heap.size + 1]? = some (.cells #[.slice none 0 0, .bool false, .string ⟨#[]⟩, .bool false, .string ⟨#[]⟩] 117 (0, 0))) := (b2.block _ (Array.getElem?_eq_some_iff.1 HP2.out).1).trans HP2.out
    obtain ⟨v0, v1, v2, v3, v4, z0, z1, z2, z3, z4⟩ := way_cells HP2'.out
    clear b2 x0 x1 x2 HP2 HB1
    cases ho : Tr.goes t k br with
    | none =>
      obtain rfl := g1 ho
      have HO := hid (HV.out.trans ho)
      clear g1 g2 ho
      go_wp2_with fail
      obtain ⟨c0, c1, c2, c3, c4⟩ := set5_cells HP2'.out (.slice none 0 0) (.bool false) (.string ⟨#[]⟩) (.bool false) (.string ⟨#[]⟩)
      have HF := hid (set5_below HB2.out (by omega : w.heap.size ≤ w.heap.size + 1) (.slice none 0 0) (.bool false) (.string ⟨#[]⟩) (.bool false) (.string ⟨#[]⟩))
      generalize hwF : set5 w2 (w.heap.size + 1) (.slice none 0 0) (.bool false) (.string ⟨#[]⟩) (.bool false) (.string ⟨#[]⟩) = wF at *
      unfold set5 at hwF
      rw [hwF]
      refine bodyPost_ret (v := .tuple #[.agg #[.slice none 0 0, .bool false, .string ⟨#[]⟩, .bool false, .string ⟨#[]⟩], .bool false]) (by simp [results, Tryz.results107, go_sem, c0, c1, c2, c3, c4]) rfl ?_
      exact goesPost_none HO.out HF.out
    | some y =>
      obtain ⟨ay, capy, rfl, hy⟩ := g2 y ho
      have HO := hid (HV.out.trans ho)
      have HY := hid hy
      clear g1 g2 ho hy
      go_wp2_with fail
      have HFY := hid (HY.out.frame (set5_below (Below.refl B w2) (by omega : B ≤ w.heap.size + 1) (.slice ay y.digits.length capy) (.bool y.branch) (.string ⟨y.value.toArray⟩) (.bool y.found) (.string ⟨y.need.toArray⟩)))
      obtain ⟨c0, c1, c2, c3, c4⟩ := set5_cells HP2'.out (.slice ay y.digits.length capy) (.bool y.branch) (.string ⟨y.value.toArray⟩) (.bool y.found) (.string ⟨y.need.toArray⟩)
      have HF := hid (set5_below HB2.out (by omega : w.heap.size ≤ w.heap.size + 1) (.slice ay y.digits.length capy) (.bool y.branch) (.string ⟨y.value.toArray⟩) (.bool y.found) (.string ⟨y.need.toArray⟩))
      generalize hwF : set5 w2 (w.heap.size + 1) (.slice ay y.digits.length capy) (.bool y.branch) (.string ⟨y.value.toArray⟩) (.bool y.found) (.string ⟨y.need.toArray⟩) = wF at *
      unfold set5 at hwF
      rw [hwF]
      refine bodyPost_ret (v := .tuple #[.agg #[.slice ay y.digits.length capy, .bool y.branch, .string ⟨y.value.toArray⟩, .bool y.found, .string ⟨y.need.toArray⟩], .bool true]) (by simp [results, Tryz.results107, go_sem, c0, c1, c2, c3, c4]) rfl ?_
      exact goesPost_some HO.out HFY.out HF.out
  · have HV : Hid (Tr.refers t k br = some ⟨k, br, [], false, t.bytes⟩) := by rw [Hid]; unfold Tr.refers Tr.refersOf; rw [hsum]; rfl
    rw [hsum] at HI
    have HD := hid hd
    clear hG hr hd hsum hs
    go_enter Tryz.func107, Tryz.ntmps107
    go_wp2_with fail
    refine (HI.out _).mono ?_
    rintro e w1 ⟨rfl, b1⟩
    obtain ⟨p1, p2, p3⟩ := two_kept b1
    have x0 := cell_of_row _ _ 0 _ _ _ p1
    have x1 := cell_of_row _ _ 1 _ _ _ p1
    have x2 := cell_of_row _ _ 2 _ _ _ p1
    have HP2 := hid p2
    have HB1 := hid p3
    obtain ⟨v0, v1, v2, v3, v4, z0, z1, z2, z3, z4⟩ := way_cells p2
    clear b1 p1 p2 p3
    go_wp2_with fail
    obtain ⟨c0, c1, c2, c3, c4⟩ := set5_cells HP2.out (.slice ad k.length capd) (.bool br) (.string ⟨#[]⟩) (.bool false) (.string ⟨t.bytes.toArray⟩)
    have HF := hid (set5_below HB1.out (by omega : w.heap.size ≤ w.heap.size + 1) (.slice ad k.length capd) (.bool br) (.string ⟨#[]⟩) (.bool false) (.string ⟨t.bytes.toArray⟩))
    have HFD := hid (HD.out.frame (HF.out.mono hB))
    generalize hwF : set5 w1 (w.heap.size + 1) (.slice ad k.length capd) (.bool br) (.string ⟨#[]⟩) (.bool false) (.string ⟨t.bytes.toArray⟩) = wF at *
    unfold set5 at hwF
    rw [hwF]
    refine bodyPost_ret (v := .tuple #[.agg #[.slice ad k.length capd, .bool br, .string ⟨#[]⟩, .bool false, .string ⟨t.bytes.toArray⟩], .bool true]) (by simp [results, Tryz.results107, go_sem, c0, c1, c2, c3, c4]) rfl ?_
    exact goesPost_some (y := ⟨k, br, [], false, t.bytes⟩) HV.out HFD.out HF.out
end Go.Proofs.YtbmohenjphmlgaaGreat
