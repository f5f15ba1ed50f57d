/- The walk of the statement Back: whatever its two texts, it returns true, and of what was there nothing has turned. -/
import Derived.Test.YtplfjengfhijhaaSame
namespace Go.Proofs.Ytplfjengfhijhaa
open Go.RowKit

theorem ba_mk_size (l : List UInt8) : (⟨l.toArray⟩ : ByteArray).size = l.length := by show l.toArray.size = _; simp

/-- A box of three cells that was laid lies there still. -/
theorem box_kept {w1 w3 : World} {x y z : Value} {E : TypeId} (hb : Below (w1.alloc (.cells #[x, y, z] E)).heap.size (w1.alloc (.cells #[x, y, z] E)) w3) :
    w3.cell? ⟨w1.heap.size, 0, none⟩ = some x ∧ w3.cell? ⟨w1.heap.size, 1, none⟩ = some y ∧ w3.cell? ⟨w1.heap.size, 2, none⟩ = some z ∧ w1.heap.size < w3.heap.size := by
  have h := old_block hb
  refine ⟨?_, ?_, ?_, ?_⟩
  · rw [cell_of_row _ _ 0 _ _ _ h]; rfl
  · rw [cell_of_row _ _ 1 _ _ _ h]; rfl
  · rw [cell_of_row _ _ 2 _ _ _ h]; rfl
  · have := hb.size; simp at this; omega

theorem below_on {w w1 w2 : World} (h : Below w.heap.size w w1) (h2 : Below w1.heap.size w1 w2) : Below w.heap.size w w2 := h.trans (h2.mono h.size)

theorem below_box {w w1 : World} (h : Below w.heap.size w w1) (O : Obj) : Below w.heap.size w (w1.alloc O) := h.alloc h.size O

set_option maxRecDepth 100000 in
set_option maxHeartbeats 1600000 in
theorem back_ok (raw any : ByteArray) (w : World) (hs1 : raw.size ≤ maxLen) (z : Itm) (hz : Itm.dec any.data.toList = .ok z) :
    Calls Try.prog 5 #[.string raw, .string any] w fun e w' => e = .returned (.bool true) ∧ Below w.heap.size w w' := by
  have HZ := hid hz
  have HS := hid (fun w => short_any raw w hs1)
  clear hz hs1
  go_enter Try.func5, Try.ntmps5
  go_wp2_with fail
  refine (HS.out _).mono ?_
  rintro e w0 ⟨r, rfl, hr, rfl⟩
  go_wp2_with fail
  refine (item_any 4 r _ (by omega) hr).mono ?_
  rintro e w1 ⟨v, t, r2, rfl, p1, p2, p3, p4, p5, p6⟩
  obtain ⟨a2, cap2, rfl⟩ := ow_shape p5
  have hlen : (Itm.enc t).length ≤ 1000 := by omega
  have hpos : 0 < (Itm.enc t).length := List.length_pos_iff.2 (Itm.enc_ne t)
  have hcnt : Itm.cnt t ≤ 1000000000 := by have := Itm.cnt_le_enc t p2; omega
  have HR := hid (rep_of_own _ _ _ _ _ (Nat.le_refl _) p5)
  have HEA := hid (Itm.encA_ok p2 ⟨by omega, hlen⟩)
  have HDA := hid (Itm.dec_enc p2 (by omega) hlen)
  have HDM := hid (Itm.dec_more p2 hlen 0)
  have HDL := hid (Itm.dec_less p2 hlen)
  have HB1 := hid p6
  clear p1 p2 p3 p4 p5 p6
  go_wp2_with fail
  refine (encode_any 4 t _ _ hcnt (rep_in HR.out ((Below.refl _ _).alloc (Nat.le_refl _) _))).mono ?_
  rintro e w2 ⟨rfl, b2⟩
  rw [HEA.out]
  have HB2 := hid b2
  clear b2
  go_wp2_with fail
  refine (decode_any ⟨(Itm.enc t).toArray⟩ w2).mono ?_
  rintro e w3 ⟨_, hy, b3⟩
  obtain ⟨v3, rfl, o3⟩ := hy t HDA.out
  obtain ⟨a3, cap3, rfl⟩ := ow_shape o3
  have HR3 := hid (rep_of_own _ _ _ _ _ (Nat.le_refl _) o3)
  have HB3 := hid (below_on HB2.out b3)
  clear hy b3 o3
  obtain ⟨x0, x1, x2, hx⟩ := box_kept HB3.out
  go_wp2_with fail
  have HW3 := hid (below_on (below_box HB1.out _) HB3.out)
  refine (same_two _ _ _ _ t _ (rep_in (rep_in HR.out (below_box (Below.refl _ _) _)) (below_box HB3.out _)) (rep_in HR3.out (below_box (Below.refl _ _) _))).mono ?_
  rintro e w4 ⟨rfl, b4⟩
  have HW4 := hid (below_on (below_box HW3.out _) b4)
  clear b4
  go_wp2_with fail
  refine (decode_any any w4).mono ?_
  rintro e w5 ⟨_, hy, b5⟩
  obtain ⟨v5, rfl, o5⟩ := hy z HZ.out
  obtain ⟨a5, cap5, rfl⟩ := ow_shape o5
  obtain ⟨z1, z2, z3, z4⟩ := Itm.dec_ok HZ.out
  have HR5 := hid (rep_of_own _ _ _ _ _ (Nat.le_refl _) o5)
  have HW5 := hid (below_on HW4.out b5)
  have HEZ := hid (Itm.encA_ok z2 ⟨z3, by rw [← z1]; exact z4⟩)
  have hczt : Itm.cnt z ≤ 1000000000 := by have := Itm.cnt_le_enc z z2; rw [← z1] at this; omega
  have HZ1 := hid z1
  have HZS : Hid ((⟨(Itm.enc z).toArray⟩ : ByteArray) = any) := by
    show _ = _
    rw [← z1]
  clear hy b5 o5 z1 z2 z3 z4
  go_wp2_with fail
  refine (encode_any any.size z _ _ hczt (rep_in (rep_lift 1 HR5.out) (below_box (Below.refl _ _) _))).mono ?_
  rintro e w6 ⟨rfl, b6⟩
  rw [HEZ.out]
  simp only
  rw [HZS.out]
  have HW6 := hid (below_on (below_box HW5.out _) b6)
  clear b6
  have hap : (({ data := (Itm.enc t).toArray } : ByteArray) ++ { data := #[0] }).data.toList = Itm.enc t ++ [0] := by simp
  obtain ⟨n7, hd7⟩ := HDM.out
  have h7 : ((n7 : Int) == 0) = false := by rcases Itm.dec_err hd7 with rfl | rfl <;> rfl
  have HD7 : Hid (Itm.dec (({ data := (Itm.enc t).toArray } : ByteArray) ++ { data := #[0] }).data.toList = .error n7) := by show _ = _; rw [hap]; exact hd7
  clear hap hd7
  go_wp2_with fail
  refine (decode_any _ w6).mono ?_
  rintro e w7 ⟨hy, _, b7⟩
  obtain rfl := hy n7 HD7.out
  have HW7 := hid (below_on HW6.out b7)
  clear hy b7
  have hs0 : (0 : Int) < ((Itm.enc t).length : Int) := by omega
  have hs1 : ¬ ((Itm.enc t).length : Int) < 1 := by omega
  have HL : Hid (Itm.dec (({ data := (Itm.enc t).toArray } : ByteArray).extract 0 ((Itm.enc t).length - 1)).data.toList = .error 1) := by
    show _ = _
    rw [Lib.extract_data]
    exact HDL.out
  go_wp2_with fail
  refine (decode_any _ _).mono ?_
  rintro e w8 ⟨hy, _, b8⟩
  obtain rfl := hy 1 HL.out
  have HW8 := hid (below_on (below_box HW7.out _) b8)
  clear hy b8
  go_wp2_with fail
  go_ret
  exact ⟨rfl, below_box HW8.out _⟩

theorem rep_zero (B : Nat) (w : World) (n : Nat) : Rep B w (n + 1) (.agg #[.bool false, .string ⟨#[]⟩, .slice none 0 0]) ⟨false, [], []⟩ :=
  ⟨none, 0, rfl, Nat.zero_le _, fun i h => by simp at h⟩

set_option maxRecDepth 100000 in
set_option maxHeartbeats 1600000 in
theorem back_err (raw any : ByteArray) (w : World) (hs1 : raw.size ≤ maxLen) (n : Nat) (hz : Itm.dec any.data.toList = .error n) :
    Calls Try.prog 5 #[.string raw, .string any] w fun e w' => e = .returned (.bool true) ∧ Below w.heap.size w w' := by
  have HZ := hid hz
  have HS := hid (fun w => short_any raw w hs1)
  clear hz hs1
  go_enter Try.func5, Try.ntmps5
  go_wp2_with fail
  refine (HS.out _).mono ?_
  rintro e w0 ⟨r, rfl, hr, rfl⟩
  go_wp2_with fail
  refine (item_any 4 r _ (by omega) hr).mono ?_
  rintro e w1 ⟨v, t, r2, rfl, p1, p2, p3, p4, p5, p6⟩
  obtain ⟨a2, cap2, rfl⟩ := ow_shape p5
  have hlen : (Itm.enc t).length ≤ 1000 := by omega
  have hpos : 0 < (Itm.enc t).length := List.length_pos_iff.2 (Itm.enc_ne t)
  have hcnt : Itm.cnt t ≤ 1000000000 := by have := Itm.cnt_le_enc t p2; omega
  have HR := hid (rep_of_own _ _ _ _ _ (Nat.le_refl _) p5)
  have HEA := hid (Itm.encA_ok p2 ⟨by omega, hlen⟩)
  have HDA := hid (Itm.dec_enc p2 (by omega) hlen)
  have HDM := hid (Itm.dec_more p2 hlen 0)
  have HDL := hid (Itm.dec_less p2 hlen)
  have HB1 := hid p6
  clear p1 p2 p3 p4 p5 p6
  go_wp2_with fail
  refine (encode_any 4 t _ _ hcnt (rep_in HR.out ((Below.refl _ _).alloc (Nat.le_refl _) _))).mono ?_
  rintro e w2 ⟨rfl, b2⟩
  rw [HEA.out]
  have HB2 := hid b2
  clear b2
  go_wp2_with fail
  refine (decode_any ⟨(Itm.enc t).toArray⟩ w2).mono ?_
  rintro e w3 ⟨_, hy, b3⟩
  obtain ⟨v3, rfl, o3⟩ := hy t HDA.out
  obtain ⟨a3, cap3, rfl⟩ := ow_shape o3
  have HR3 := hid (rep_of_own _ _ _ _ _ (Nat.le_refl _) o3)
  have HB3 := hid (below_on HB2.out b3)
  clear hy b3 o3
  obtain ⟨x0, x1, x2, hx⟩ := box_kept HB3.out
  go_wp2_with fail
  have HW3 := hid (below_on (below_box HB1.out _) HB3.out)
  refine (same_two _ _ _ _ t _ (rep_in (rep_in HR.out (below_box (Below.refl _ _) _)) (below_box HB3.out _)) (rep_in HR3.out (below_box (Below.refl _ _) _))).mono ?_
  rintro e w4 ⟨rfl, b4⟩
  have HW4 := hid (below_on (below_box HW3.out _) b4)
  clear b4
  go_wp2_with fail
  refine (decode_any any w4).mono ?_
  rintro e w5 ⟨hy, _, b5⟩
  obtain rfl := hy n HZ.out
  have HW5 := hid (below_on HW4.out b5)
  have hn0 : ((n : Int) == 0) = false := by rcases Itm.dec_err HZ.out with rfl | rfl <;> rfl
  clear hy b5
  go_wp2_with fail
  refine (encode_any 0 ⟨false, [], []⟩ _ _ (by rw [Itm.cnt_eq]; simp) (rep_zero _ _ _)).mono ?_
  rintro e w6 ⟨rfl, b6⟩
  generalize Itm.encA ⟨false, [], []⟩ = E0
  have HW6 := hid (below_on (below_box HW5.out _) b6)
  clear b6
  have hap : (({ data := (Itm.enc t).toArray } : ByteArray) ++ { data := #[0] }).data.toList = Itm.enc t ++ [0] := by simp
  obtain ⟨n7, hd7⟩ := HDM.out
  have h7 : ((n7 : Int) == 0) = false := by rcases Itm.dec_err hd7 with rfl | rfl <;> rfl
  have HD7 : Hid (Itm.dec (({ data := (Itm.enc t).toArray } : ByteArray) ++ { data := #[0] }).data.toList = .error n7) := by show _ = _; rw [hap]; exact hd7
  clear hap hd7
  go_wp2_with fail
  refine (decode_any _ w6).mono ?_
  rintro e w7 ⟨hy, _, b7⟩
  obtain rfl := hy n7 HD7.out
  have HW7 := hid (below_on HW6.out b7)
  clear hy b7
  have hs0 : (0 : Int) < ((Itm.enc t).length : Int) := by omega
  have hs1 : ¬ ((Itm.enc t).length : Int) < 1 := by omega
  have HL : Hid (Itm.dec (({ data := (Itm.enc t).toArray } : ByteArray).extract 0 ((Itm.enc t).length - 1)).data.toList = .error 1) := by
    show _ = _
    rw [Lib.extract_data]
    exact HDL.out
  go_wp2_with fail
  refine (decode_any _ _).mono ?_
  rintro e w8 ⟨hy, _, b8⟩
  obtain rfl := hy 1 HL.out
  have HW8 := hid (below_on (below_box HW7.out _) b8)
  clear hy b8
  go_wp2_with fail
  go_ret
  exact ⟨rfl, below_box HW8.out _⟩

theorem back_any (raw any : ByteArray) (w : World) (hs1 : raw.size ≤ maxLen) :
    Calls Try.prog 5 #[.string raw, .string any] w fun e w' => e = .returned (.bool true) ∧ Below w.heap.size w w' := by
  cases h : Itm.dec any.data.toList with
  | error n => exact back_err raw any w hs1 n h
  | ok z => exact back_ok raw any w hs1 z h
end Go.Proofs.Ytplfjengfhijhaa
