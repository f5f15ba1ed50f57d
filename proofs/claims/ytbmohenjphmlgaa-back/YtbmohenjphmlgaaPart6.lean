/- Part 6 of a proof: what the last text needs. -/
import Derived.Test.YtbmohenjphmlgaaPart5
/- The walks of the statement Back's own helpers: sameItem, of two items that are the same; short. -/
namespace Go.Proofs.Ytbmohenjphmlgaa
open Go.RowKit
set_option maxRecDepth 100000

set_option maxHeartbeats 1600000 in
theorem same_any (n : Nat) : ∀ (v v2 : Value) (t : Itm) (w : World), Rep w.heap.size w n v t → Rep w.heap.size w n v2 t →
    Calls Try.prog 37 #[v, v2] w fun e w' => e = .returned (.bool true) ∧ Below w.heap.size w w' := by
  induction n with
  | zero => intro v v2 t w h; exact h.elim
  | succ n ih =>
    intro v v2 t w hrep hrep2
    obtain ⟨a, cap, rfl, hm, hk1⟩ := hrep
    obtain ⟨a', cap', rfl, _, hk2⟩ := hrep2
    have H1 := hid hk1
    have H2 := hid hk2
    have IH := hid ih
    clear hk1 hk2 ih
    unfold maxLen at hm
    go_enter Try.func37, Try.ntmps37
    go_wp2_with fail
    go_loopw [5] (fun i wr => ∃ k : Nat, k ≤ t.items.length ∧ i = .int .i64 k ∧ Hid (Below (w.heap.size + 2) ((w.alloc (.cells #[.bool t.list, .string ⟨t.bytes.toArray⟩, .slice a t.items.length cap] 24)).alloc (.cells #[.bool t.list, .string ⟨t.bytes.toArray⟩, .slice a' t.items.length cap'] 24)) wr)) (fun i _ => t.items.length - (intOf i).toNat)
    case atStart => exact ⟨0, Nat.zero_le _, rfl, Below.refl _ _⟩
    case round =>
      obtain ⟨k, hk, rfl, HB⟩ := hrel
      have x2 : wr.cell? ⟨w.heap.size, 2, none⟩ = some (.slice a t.items.length cap) := by
        rw [HB.out.cell (p := ⟨w.heap.size, 2, none⟩) (by simp)]; simp
      have y2 : wr.cell? ⟨w.heap.size + 1, 2, none⟩ = some (.slice a' t.items.length cap') := by
        rw [HB.out.cell (p := ⟨w.heap.size + 1, 2, none⟩) (by simp)]; simp
      by_cases hlt : k < t.items.length
      · obtain ⟨b, off, c0, c1, c2, rfl, hbl, e0, e1, e2, hr⟩ := H1.out k hlt
        obtain ⟨b', off', d0, d1, d2, rfl, hbl', g0, g1, g2, hr'⟩ := H2.out k hlt
        obtain ⟨a2, cap2, rfl, rfl, rfl⟩ := rep_shape hr
        obtain ⟨a3, cap3, rfl, rfl, rfl⟩ := rep_shape hr'
        have hB0 : Below w.heap.size w wr := (((Below.refl _ _).alloc (Nat.le_refl _) _).alloc (by simp) _).trans (HB.out.mono (by omega))
        have f0 := (hB0.cell (p := ⟨b, off + k * 3, none⟩) hbl).trans e0
        have f1 := (hB0.cell (p := ⟨b, off + k * 3 + 1, none⟩) hbl).trans e1
        have f2 := (hB0.cell (p := ⟨b, off + k * 3 + 2, none⟩) hbl).trans e2
        have f0' := (hB0.cell (p := ⟨b', off' + k * 3, none⟩) hbl').trans g0
        have f1' := (hB0.cell (p := ⟨b', off' + k * 3 + 1, none⟩) hbl').trans g1
        have f2' := (hB0.cell (p := ⟨b', off' + k * 3 + 2, none⟩) hbl').trans g2
        have HR := hid hr
        have HR' := hid hr'
        have HB0 := hid hB0
        clear e0 e1 e2 g0 g1 g2 hr hr' hB0
        have HC : Hid (Calls Try.prog 37 #[.agg #[.bool t.items[k].list, .string ⟨t.items[k].bytes.toArray⟩, .slice a2 t.items[k].items.length cap2], .agg #[.bool t.items[k].list, .string ⟨t.items[k].bytes.toArray⟩, .slice a3 t.items[k].items.length cap3]] wr.drew fun e w' => e = .returned (.bool true) ∧ Below wr.heap.size wr w') :=
          (IH.out _ _ t.items[k] wr.drew (rep_in HR.out HB0.out.drew) (rep_in HR'.out HB0.out.drew)).mono fun e w' h => ⟨h.1, below_undrew h.2⟩
        go_wp2_with fail
        go_region_with (go_at_call 37; refine HC.out.mono ?_; rintro e w2 ⟨rfl, hbel⟩)
        all_goals (go_wp2_with fail; refine ⟨⟨k + 1, by omega, by go_num, HB.out.trans (hbel.mono (by have := HB.out.size; simp at this; omega))⟩, by simp [intOf]; omega⟩)
      · go_wp2_with fail
        go_ret
        exact ⟨rfl, (((Below.refl _ _).alloc (Nat.le_refl _) _).alloc (by simp) _).trans (HB.out.mono (by omega))⟩

set_option maxHeartbeats 400000 in
theorem short_any (s : ByteArray) (w : World) (hs : s.size ≤ maxLen) :
    Calls Try.prog 36 #[.string s, .int .i64 12] w fun e w' => ∃ r : ByteArray, e = .returned (.string r) ∧ r.size ≤ 12 ∧ w' = w := by
  unfold maxLen at hs
  by_cases h : 12 < s.size
  · have h' : (12 : Int) < (s.size : Int) := by omega
    go_enter Try.func36, Try.ntmps36
    go_wp2_with fail
    go_ret
    exact ⟨_, rfl, by simp; omega, rfl⟩
  · have h' : ¬ (12 : Int) < (s.size : Int) := by omega
    go_enter Try.func36, Try.ntmps36
    go_wp2_with fail
    go_ret
    exact ⟨_, rfl, by omega, rfl⟩

theorem rep_lift {B : Nat} {w : World} {v : Value} {t : Itm} {n : Nat} (m : Nat) (h : Rep B w n v t) : Rep B w (n + m) v t := by
  induction m with
  | zero => exact h
  | succ m ih => exact rep_more _ _ _ ih

/-- Two items that are the same, whatever levels each was read at. -/
theorem same_two (n m : Nat) (v v2 : Value) (t : Itm) (w : World) (h1 : Rep w.heap.size w n v t) (h2 : Rep w.heap.size w m v2 t) :
    Calls Try.prog 37 #[v, v2] w fun e w' => e = .returned (.bool true) ∧ Below w.heap.size w w' := by
  have k1 := rep_lift m h1
  have k2 := rep_lift n h2
  rw [Nat.add_comm] at k2
  exact same_any (n + m) v v2 t w k1 k2


end Go.Proofs.Ytbmohenjphmlgaa

/- The walk of the statement Back: whatever its two texts, it returns true, and of what was there nothing has turned. -/
namespace Go.Proofs.Ytbmohenjphmlgaa
open Go.RowKit
set_option maxRecDepth 100000

theorem ba_mk_size (l : List UInt8) : (⟨l.toArray⟩ : ByteArray).size = l.length := by show l.toArray.size = _; simp

/-- A box of three cells that was laid lies there still. -/
theorem box_kept {w1 w3 : World} {x y z : Value} {E : TypeId} (hb : Below (w1.alloc (.cells #[x, y, z] E)).heap.size (w1.alloc (.cells #[x, y, z] E)) w3) :
    w3.cell? ⟨w1.heap.size, 0, none⟩ = some x ∧ w3.cell? ⟨w1.heap.size, 1, none⟩ = some y ∧ w3.cell? ⟨w1.heap.size, 2, none⟩ = some z ∧ w1.heap.size < w3.heap.size := by
  have h := old_block hb
  refine ⟨?_, ?_, ?_, ?_⟩
  · rw [cell_of_row _ _ 0 _ _ _ h]; rfl
  · rw [cell_of_row _ _ 1 _ _ _ h]; rfl
  · rw [cell_of_row _ _ 2 _ _ _ h]; rfl
  · have := hb.size; simp at this; omega

theorem below_on {w w1 w2 : World} (h : Below w.heap.size w w1) (h2 : Below w1.heap.size w1 w2) : Below w.heap.size w w2 := h.trans (h2.mono h.size)

theorem below_box {w w1 : World} (h : Below w.heap.size w w1) (O : Obj) : Below w.heap.size w (w1.alloc O) := h.alloc h.size O

set_option maxHeartbeats 1600000 in
theorem back_ok (raw any : ByteArray) (w : World) (hs1 : raw.size ≤ maxLen) (z : Itm) (hz : Itm.dec any.data.toList = .ok z) :
    Calls Try.prog 8 #[.string raw, .string any] w fun e w' => e = .returned (.bool true) ∧ Below w.heap.size w w' := by
  have HZ := hid hz
  have HS := hid (fun w => short_any raw w hs1)
  clear hz hs1
  go_enter Try.func8, Try.ntmps8
  go_wp2_with fail
  refine (HS.out _).mono ?_
  rintro e w0 ⟨r, rfl, hr, rfl⟩
  go_wp2_with fail
  refine (item_any 4 r _ (by omega) hr).mono ?_
  rintro e w1 ⟨v, t, r2, rfl, p1, p2, p3, p4, p5, p6⟩
  obtain ⟨a2, cap2, rfl⟩ := ow_shape p5
  have hlen : (Itm.enc t).length ≤ 1000 := by omega
  have hpos : 0 < (Itm.enc t).length := List.length_pos_iff.2 (Itm.enc_ne t)
  have hcnt : Itm.cnt t ≤ 1000000000 := by have := Itm.cnt_le_enc t p2; omega
  have HR := hid (rep_of_own _ _ _ _ _ (Nat.le_refl _) p5)
  have HEA := hid (Itm.encA_ok p2 ⟨by omega, hlen⟩)
  have HDA := hid (Itm.dec_enc p2 (by omega) hlen)
  have HDM := hid (Itm.dec_more p2 hlen 0)
  have HDL := hid (Itm.dec_less p2 hlen)
  have HB1 := hid p6
  clear p1 p2 p3 p4 p5 p6
  go_wp2_with fail
  refine (encode_any 4 t _ _ hcnt (rep_in HR.out ((Below.refl _ _).alloc (Nat.le_refl _) _))).mono ?_
  rintro e w2 ⟨rfl, b2⟩
  rw [HEA.out]
  have HB2 := hid b2
  clear b2
  go_wp2_with fail
  refine (decode_any ⟨(Itm.enc t).toArray⟩ w2).mono ?_
  rintro e w3 ⟨_, hy, b3⟩
  obtain ⟨v3, rfl, o3⟩ := hy t HDA.out
  obtain ⟨a3, cap3, rfl⟩ := ow_shape o3
  have HR3 := hid (rep_of_own _ _ _ _ _ (Nat.le_refl _) o3)
  have HB3 := hid (below_on HB2.out b3)
  clear hy b3 o3
  obtain ⟨x0, x1, x2, hx⟩ := box_kept HB3.out
  go_wp2_with fail
  have HW3 := hid (below_on (below_box HB1.out _) HB3.out)
  refine (same_two _ _ _ _ t _ (rep_in (rep_in HR.out (below_box (Below.refl _ _) _)) (below_box HB3.out _)) (rep_in HR3.out (below_box (Below.refl _ _) _))).mono ?_
  rintro e w4 ⟨rfl, b4⟩
  have HW4 := hid (below_on (below_box HW3.out _) b4)
  clear b4
  go_wp2_with fail
  refine (decode_any any w4).mono ?_
  rintro e w5 ⟨_, hy, b5⟩
  obtain ⟨v5, rfl, o5⟩ := hy z HZ.out
  obtain ⟨a5, cap5, rfl⟩ := ow_shape o5
  obtain ⟨z1, z2, z3, z4⟩ := Itm.dec_ok HZ.out
  have HR5 := hid (rep_of_own _ _ _ _ _ (Nat.le_refl _) o5)
  have HW5 := hid (below_on HW4.out b5)
  have HEZ := hid (Itm.encA_ok z2 ⟨z3, by rw [← z1]; exact z4⟩)
  have hczt : Itm.cnt z ≤ 1000000000 := by have := Itm.cnt_le_enc z z2; rw [← z1] at this; omega
  have HZ1 := hid z1
  have HZS : Hid ((⟨(Itm.enc z).toArray⟩ : ByteArray) = any) := by
    show _ = _
    rw [← z1]
  clear hy b5 o5 z1 z2 z3 z4
  go_wp2_with fail
  refine (encode_any any.size z _ _ hczt (rep_in (rep_lift 1 HR5.out) (below_box (Below.refl _ _) _))).mono ?_
  rintro e w6 ⟨rfl, b6⟩
  rw [HEZ.out]
  simp only
  rw [HZS.out]
  have HW6 := hid (below_on (below_box HW5.out _) b6)
  clear b6
  have hap : (({ data := (Itm.enc t).toArray } : ByteArray) ++ { data := #[0] }).data.toList = Itm.enc t ++ [0] := by simp
  obtain ⟨n7, hd7⟩ := HDM.out
  have h7 : ((n7 : Int) == 0) = false := by rcases Itm.dec_err hd7 with rfl | rfl <;> rfl
  have HD7 : Hid (Itm.dec (({ data := (Itm.enc t).toArray } : ByteArray) ++ { data := #[0] }).data.toList = .error n7) := by show _ = _; rw [hap]; exact hd7
  clear hap hd7
  go_wp2_with fail
  refine (decode_any _ w6).mono ?_
  rintro e w7 ⟨hy, _, b7⟩
  obtain rfl := hy n7 HD7.out
  have HW7 := hid (below_on HW6.out b7)
  clear hy b7
  have hs0 : (0 : Int) < ((Itm.enc t).length : Int) := by omega
  have hs1 : ¬ ((Itm.enc t).length : Int) < 1 := by omega
  have HL : Hid (Itm.dec (({ data := (Itm.enc t).toArray } : ByteArray).extract 0 ((Itm.enc t).length - 1)).data.toList = .error 1) := by
    show _ = _
    rw [Lib.extract_data]
    exact HDL.out
  go_wp2_with fail
  refine (decode_any _ _).mono ?_
  rintro e w8 ⟨hy, _, b8⟩
  obtain rfl := hy 1 HL.out
  have HW8 := hid (below_on (below_box HW7.out _) b8)
  clear hy b8
  go_wp2_with fail
  go_ret
  exact ⟨rfl, below_box HW8.out _⟩

theorem rep_zero (B : Nat) (w : World) (n : Nat) : Rep B w (n + 1) (.agg #[.bool false, .string ⟨#[]⟩, .slice none 0 0]) ⟨false, [], []⟩ :=
  ⟨none, 0, rfl, Nat.zero_le _, fun i h => by simp at h⟩

set_option maxHeartbeats 1600000 in
theorem back_err (raw any : ByteArray) (w : World) (hs1 : raw.size ≤ maxLen) (n : Nat) (hz : Itm.dec any.data.toList = .error n) :
    Calls Try.prog 8 #[.string raw, .string any] w fun e w' => e = .returned (.bool true) ∧ Below w.heap.size w w' := by
  have HZ := hid hz
  have HS := hid (fun w => short_any raw w hs1)
  clear hz hs1
  go_enter Try.func8, Try.ntmps8
  go_wp2_with fail
  refine (HS.out _).mono ?_
  rintro e w0 ⟨r, rfl, hr, rfl⟩
  go_wp2_with fail
  refine (item_any 4 r _ (by omega) hr).mono ?_
  rintro e w1 ⟨v, t, r2, rfl, p1, p2, p3, p4, p5, p6⟩
  obtain ⟨a2, cap2, rfl⟩ := ow_shape p5
  have hlen : (Itm.enc t).length ≤ 1000 := by omega
  have hpos : 0 < (Itm.enc t).length := List.length_pos_iff.2 (Itm.enc_ne t)
  have hcnt : Itm.cnt t ≤ 1000000000 := by have := Itm.cnt_le_enc t p2; omega
  have HR := hid (rep_of_own _ _ _ _ _ (Nat.le_refl _) p5)
  have HEA := hid (Itm.encA_ok p2 ⟨by omega, hlen⟩)
  have HDA := hid (Itm.dec_enc p2 (by omega) hlen)
  have HDM := hid (Itm.dec_more p2 hlen 0)
  have HDL := hid (Itm.dec_less p2 hlen)
  have HB1 := hid p6
  clear p1 p2 p3 p4 p5 p6
  go_wp2_with fail
  refine (encode_any 4 t _ _ hcnt (rep_in HR.out ((Below.refl _ _).alloc (Nat.le_refl _) _))).mono ?_
  rintro e w2 ⟨rfl, b2⟩
  rw [HEA.out]
  have HB2 := hid b2
  clear b2
  go_wp2_with fail
  refine (decode_any ⟨(Itm.enc t).toArray⟩ w2).mono ?_
  rintro e w3 ⟨_, hy, b3⟩
  obtain ⟨v3, rfl, o3⟩ := hy t HDA.out
  obtain ⟨a3, cap3, rfl⟩ := ow_shape o3
  have HR3 := hid (rep_of_own _ _ _ _ _ (Nat.le_refl _) o3)
  have HB3 := hid (below_on HB2.out b3)
  clear hy b3 o3
  obtain ⟨x0, x1, x2, hx⟩ := box_kept HB3.out
  go_wp2_with fail
  have HW3 := hid (below_on (below_box HB1.out _) HB3.out)
  refine (same_two _ _ _ _ t _ (rep_in (rep_in HR.out (below_box (Below.refl _ _) _)) (below_box HB3.out _)) (rep_in HR3.out (below_box (Below.refl _ _) _))).mono ?_
  rintro e w4 ⟨rfl, b4⟩
  have HW4 := hid (below_on (below_box HW3.out _) b4)
  clear b4
  go_wp2_with fail
  refine (decode_any any w4).mono ?_
  rintro e w5 ⟨hy, _, b5⟩
  obtain rfl := hy n HZ.out
  have HW5 := hid (below_on HW4.out b5)
  have hn0 : ((n : Int) == 0) = false := by rcases Itm.dec_err HZ.out with rfl | rfl <;> rfl
  clear hy b5
  go_wp2_with fail
  refine (encode_any 0 ⟨false, [], []⟩ _ _ (by rw [Itm.cnt_eq]; simp) (rep_zero _ _ _)).mono ?_
  rintro e w6 ⟨rfl, b6⟩
  generalize Itm.encA ⟨false, [], []⟩ = E0
  have HW6 := hid (below_on (below_box HW5.out _) b6)
  clear b6
  have hap : (({ data := (Itm.enc t).toArray } : ByteArray) ++ { data := #[0] }).data.toList = Itm.enc t ++ [0] := by simp
  obtain ⟨n7, hd7⟩ := HDM.out
  have h7 : ((n7 : Int) == 0) = false := by rcases Itm.dec_err hd7 with rfl | rfl <;> rfl
  have HD7 : Hid (Itm.dec (({ data := (Itm.enc t).toArray } : ByteArray) ++ { data := #[0] }).data.toList = .error n7) := by show _ = _; rw [hap]; exact hd7
  clear hap hd7
  go_wp2_with fail
  refine (decode_any _ w6).mono ?_
  rintro e w7 ⟨hy, _, b7⟩
  obtain rfl := hy n7 HD7.out
  have HW7 := hid (below_on HW6.out b7)
  clear hy b7
  have hs0 : (0 : Int) < ((Itm.enc t).length : Int) := by omega
  have hs1 : ¬ ((Itm.enc t).length : Int) < 1 := by omega
  have HL : Hid (Itm.dec (({ data := (Itm.enc t).toArray } : ByteArray).extract 0 ((Itm.enc t).length - 1)).data.toList = .error 1) := by
    show _ = _
    rw [Lib.extract_data]
    exact HDL.out
  go_wp2_with fail
  refine (decode_any _ _).mono ?_
  rintro e w8 ⟨hy, _, b8⟩
  obtain rfl := hy 1 HL.out
  have HW8 := hid (below_on (below_box HW7.out _) b8)
  clear hy b8
  go_wp2_with fail
  go_ret
  exact ⟨rfl, below_box HW8.out _⟩

theorem back_any (raw any : ByteArray) (w : World) (hs1 : raw.size ≤ maxLen) :
    Calls Try.prog 8 #[.string raw, .string any] w fun e w' => e = .returned (.bool true) ∧ Below w.heap.size w w' := by
  cases h : Itm.dec any.data.toList with
  | error n => exact back_err raw any w hs1 n h
  | ok z => exact back_ok raw any w hs1 z h
end Go.Proofs.Ytbmohenjphmlgaa
