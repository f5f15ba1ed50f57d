/- Part 15 of a proof: what the last text needs. -/
import Derived.Test.YtbmohenjphmlgaaPart14
import Derived.Test.YtbmohenjphmlgaaPart12
import Derived.Test.YtbmohenjphmlgaaPart8
/- The walk of looks of Book (of the statements own): what waits reads as it came, or is settled. -/
namespace Go.Proofs.Ytbmohenjphmlgaa
open Go.RowKit
set_option maxRecDepth 100000

/-- A look at what waits and at what is marked. -/
def LooksPost (c : Nat → Nat) (B Q : Nat) (l : List Itm) (w : World) (e : Ending) (w' : World) : Prop :=
  e = .returned (.bool true) ∧ ∃ c' it' wi' we' Q' l', BookSt w' c' B it' wi' we' Q' ∧ WaitRow w' c' 3 wi' l' ∧ WaitRow w' c' 4 we' l' ∧ Calm c c' w w' ∧ ((Q' = Q ∧ l' = l ∧ l.length ≤ 3) ∨ (Q' = Q + Itm.cntL l ∧ l' = []))

set_option maxHeartbeats 1600000 in
theorem looks_any (w : World) (c : Nat → Nat) (B : Nat) (it wi we : Value) (Q : Nat) (l : List Itm) (hB : BookSt w c B it wi we Q) (h3 : WaitRow w c 3 wi l) (h4 : WaitRow w c 4 we l) (hl : l.length ≤ 1000) (hQ : Q + Itm.cntL l ≤ 100000000000) (hcnt : ∀ x ∈ l, Itm.cnt x ≤ 100000) :
    Calls Try.prog 21 #[.pointer (some ⟨B, 0, none⟩)] w (LooksPost c B Q l w) := by
  obtain ⟨a3, cap3, rfl⟩ := h3.shape
  obtain ⟨a4, cap4, rfl⟩ := h4.shape
  obtain ⟨_, b7, _, _⟩ := hB.cells
  obtain ⟨_, _, b3, _, b5, _, _⟩ := hB.nils
  have HB := hid hB
  have H3 := hid h3
  have H4 := hid h4
  have HL := hid hl
  have HQ := hid hQ
  have HC := hid hcnt
  have e0 : IntKind.i64.wrap 0 = 0 := by decide
  have e1 : IntKind.i64.wrap (l.length : Int) = (l.length : Int) := wrap_small _ (by omega) (by omega)
  clear hB h3 h4 hl hQ hcnt
  go_enter Try.func21, Try.ntmps21
  by_cases hlt : (3 : Int) < (l.length : Int)
  · go_wp2_with fail
    go_region_held3 (fun w' => w'.cell? ⟨B, 3, none⟩ = some (.slice none 0 0) ∧ w'.cell? ⟨B, 5, none⟩ = some (.slice none 0 0) ∧ w'.cell? ⟨B, 7, none⟩ = some (.slice a3 l.length cap3)) (go_keep) (fail)
    go_wp2_with fail
    refine (settles_any _ c B it _ _ Q l (HB.out.below ((Below.refl _ _).drew)) (H3.out.later (by omega) ((Below.refl _ _).drew) (fun _ _ => rfl)) (H4.out.later (by omega) ((Below.refl _ _).drew) (fun _ _ => rfl)) HL.out HQ.out HC.out).mono ?_
    rintro e w' ⟨rfl, c', it', hb, hcalm⟩
    have HP : Hid (LooksPost c B Q l w (.returned (.bool true)) w') := ⟨rfl, c', it', _, _, _, [], hb, waitRow_nil _ _ _, waitRow_nil _ _ _, ⟨hcalm.os, hcalm.tape, hcalm.output, hcalm.size, hcalm.keep⟩, .inr ⟨rfl, rfl⟩⟩
    clear hb hcalm
    go_wp2_with fail
    go_ret
    exact HP.out
  · go_wp2_with fail
    go_region_held3 (fun w' => w'.cell? ⟨B, 3, none⟩ = some (.slice none 0 0) ∧ w'.cell? ⟨B, 5, none⟩ = some (.slice none 0 0) ∧ w'.cell? ⟨B, 7, none⟩ = some (.slice a3 l.length cap3)) (go_keep) (fail)
    go_wp2_with fail
    refine (waits_any _ c B it _ _ Q l (HB.out.below ((Below.refl _ _).drew)) (H3.out.later (by omega) ((Below.refl _ _).drew) (fun _ _ => rfl)) (H4.out.later (by omega) ((Below.refl _ _).drew) (fun _ _ => rfl)) HL.out).mono ?_
    rintro e w1 ⟨rfl, hb1⟩
    have HB1 : Hid (Below w.heap.size w w1) := below_undrew hb1
    clear hb1
    go_wp2_with fail
    refine (reads_any _ c B it _ _ Q (HB.out.below HB1.out) (by have := HQ.out; omega)).mono ?_
    rintro e w2 ⟨rfl, hb2⟩
    have HB2 : Hid (Below w.heap.size w w2) := HB1.out.trans (hb2.mono HB1.out.size)
    clear hb2
    go_wp2_with fail
    go_ret
    exact ⟨rfl, c, it, _, _, Q, l, HB.out.below HB2.out, H3.out.later (by omega) HB2.out (fun _ _ => rfl), H4.out.later (by omega) HB2.out (fun _ _ => rfl), Calm.of_below HB2.out, .inl ⟨rfl, rfl, by omega⟩⟩
end Go.Proofs.Ytbmohenjphmlgaa

/- The walk of the statement Back: whatever its two texts, it returns true, and of what was there nothing has turned. -/
namespace Go.Proofs.Ytbmohenjphmlgaa
open Go.RowKit
set_option maxRecDepth 100000

theorem ba_mk_size (l : List UInt8) : (⟨l.toArray⟩ : ByteArray).size = l.length := by show l.toArray.size = _; simp

/-- A box of three cells that was laid lies there still. -/
theorem box_kept {w1 w3 : World} {x y z : Value} {E : TypeId} (hb : Below (w1.alloc (.cells #[x, y, z] E)).heap.size (w1.alloc (.cells #[x, y, z] E)) w3) :
    w3.cell? ⟨w1.heap.size, 0, none⟩ = some x ∧ w3.cell? ⟨w1.heap.size, 1, none⟩ = some y ∧ w3.cell? ⟨w1.heap.size, 2, none⟩ = some z ∧ w1.heap.size < w3.heap.size := by
  have h := old_block hb
  refine ⟨?_, ?_, ?_, ?_⟩
  · rw [cell_of_row _ _ 0 _ _ _ h]; rfl
  · rw [cell_of_row _ _ 1 _ _ _ h]; rfl
  · rw [cell_of_row _ _ 2 _ _ _ h]; rfl
  · have := hb.size; simp at this; omega

theorem below_on {w w1 w2 : World} (h : Below w.heap.size w w1) (h2 : Below w1.heap.size w1 w2) : Below w.heap.size w w2 := h.trans (h2.mono h.size)

theorem below_box {w w1 : World} (h : Below w.heap.size w w1) (O : Obj) : Below w.heap.size w (w1.alloc O) := h.alloc h.size O

set_option maxHeartbeats 1600000 in
theorem back_ok (raw any : ByteArray) (w : World) (hs1 : raw.size ≤ maxLen) (z : Itm) (hz : Itm.dec any.data.toList = .ok z) :
    Calls Try.prog 8 #[.string raw, .string any] w fun e w' => e = .returned (.bool true) ∧ Below w.heap.size w w' := by
  have HZ := hid hz
  have HS := hid (fun w => short_any raw w hs1)
  clear hz hs1
  go_enter Try.func8, Try.ntmps8
  go_wp2_with fail
  refine (HS.out _).mono ?_
  rintro e w0 ⟨r, rfl, hr, rfl⟩
  go_wp2_with fail
  refine (item_any 4 r _ (by omega) hr).mono ?_
  rintro e w1 ⟨v, t, r2, rfl, p1, p2, p3, p4, p5, p6⟩
  obtain ⟨a2, cap2, rfl⟩ := ow_shape p5
  have hlen : (Itm.enc t).length ≤ 1000 := by omega
  have hpos : 0 < (Itm.enc t).length := List.length_pos_iff.2 (Itm.enc_ne t)
  have hcnt : Itm.cnt t ≤ 1000000000 := by have := Itm.cnt_le_enc t p2; omega
  have HR := hid (rep_of_own _ _ _ _ _ (Nat.le_refl _) p5)
  have HEA := hid (Itm.encA_ok p2 ⟨by omega, hlen⟩)
  have HDA := hid (Itm.dec_enc p2 (by omega) hlen)
  have HDM := hid (Itm.dec_more p2 hlen 0)
  have HDL := hid (Itm.dec_less p2 hlen)
  have HB1 := hid p6
  clear p1 p2 p3 p4 p5 p6
  go_wp2_with fail
  refine (encode_any 4 t _ _ hcnt (rep_in HR.out ((Below.refl _ _).alloc (Nat.le_refl _) _))).mono ?_
  rintro e w2 ⟨rfl, b2⟩
  rw [HEA.out]
  have HB2 := hid b2
  clear b2
  go_wp2_with fail
  refine (decode_any ⟨(Itm.enc t).toArray⟩ w2).mono ?_
  rintro e w3 ⟨_, hy, b3⟩
  obtain ⟨v3, rfl, o3⟩ := hy t HDA.out
  obtain ⟨a3, cap3, rfl⟩ := ow_shape o3
  have HR3 := hid (rep_of_own _ _ _ _ _ (Nat.le_refl _) o3)
  have HB3 := hid (below_on HB2.out b3)
  clear hy b3 o3
  obtain ⟨x0, x1, x2, hx⟩ := box_kept HB3.out
  go_wp2_with fail
  have HW3 := hid (below_on (below_box HB1.out _) HB3.out)
  refine (same_two _ _ _ _ t _ (rep_in (rep_in HR.out (below_box (Below.refl _ _) _)) (below_box HB3.out _)) (rep_in HR3.out (below_box (Below.refl _ _) _))).mono ?_
  rintro e w4 ⟨rfl, b4⟩
  have HW4 := hid (below_on (below_box HW3.out _) b4)
  clear b4
  go_wp2_with fail
  refine (decode_any any w4).mono ?_
  rintro e w5 ⟨_, hy, b5⟩
  obtain ⟨v5, rfl, o5⟩ := hy z HZ.out
  obtain ⟨a5, cap5, rfl⟩ := ow_shape o5
  obtain ⟨z1, z2, z3, z4⟩ := Itm.dec_ok HZ.out
  have HR5 := hid (rep_of_own _ _ _ _ _ (Nat.le_refl _) o5)
  have HW5 := hid (below_on HW4.out b5)
  have HEZ := hid (Itm.encA_ok z2 ⟨z3, by rw [← z1]; exact z4⟩)
  have hczt : Itm.cnt z ≤ 1000000000 := by have := Itm.cnt_le_enc z z2; rw [← z1] at this; omega
  have HZ1 := hid z1
  have HZS : Hid ((⟨(Itm.enc z).toArray⟩ : ByteArray) = any) := by
    show _ = _
    rw [← z1]
  clear hy b5 o5 z1 z2 z3 z4
  go_wp2_with fail
  refine (encode_any any.size z _ _ hczt (rep_in (rep_lift 1 HR5.out) (below_box (Below.refl _ _) _))).mono ?_
  rintro e w6 ⟨rfl, b6⟩
  rw [HEZ.out]
  simp only
  rw [HZS.out]
  have HW6 := hid (below_on (below_box HW5.out _) b6)
  clear b6
  have hap : (({ data := (Itm.enc t).toArray } : ByteArray) ++ { data := #[0] }).data.toList = Itm.enc t ++ [0] := by simp
  obtain ⟨n7, hd7⟩ := HDM.out
  have h7 : ((n7 : Int) == 0) = false := by rcases Itm.dec_err hd7 with rfl | rfl <;> rfl
  have HD7 : Hid (Itm.dec (({ data := (Itm.enc t).toArray } : ByteArray) ++ { data := #[0] }).data.toList = .error n7) := by show _ = _; rw [hap]; exact hd7
  clear hap hd7
  go_wp2_with fail
  refine (decode_any _ w6).mono ?_
  rintro e w7 ⟨hy, _, b7⟩
  obtain rfl := hy n7 HD7.out
  have HW7 := hid (below_on HW6.out b7)
  clear hy b7
  have hs0 : (0 : Int) < ((Itm.enc t).length : Int) := by omega
  have hs1 : ¬ ((Itm.enc t).length : Int) < 1 := by omega
  have HL : Hid (Itm.dec (({ data := (Itm.enc t).toArray } : ByteArray).extract 0 ((Itm.enc t).length - 1)).data.toList = .error 1) := by
    show _ = _
    rw [Lib.extract_data]
    exact HDL.out
  go_wp2_with fail
  refine (decode_any _ _).mono ?_
  rintro e w8 ⟨hy, _, b8⟩
  obtain rfl := hy 1 HL.out
  have HW8 := hid (below_on (below_box HW7.out _) b8)
  clear hy b8
  go_wp2_with fail
  go_ret
  exact ⟨rfl, below_box HW8.out _⟩

theorem rep_zero (B : Nat) (w : World) (n : Nat) : Rep B w (n + 1) (.agg #[.bool false, .string ⟨#[]⟩, .slice none 0 0]) ⟨false, [], []⟩ :=
  ⟨none, 0, rfl, Nat.zero_le _, fun i h => by simp at h⟩

set_option maxHeartbeats 1600000 in
theorem back_err (raw any : ByteArray) (w : World) (hs1 : raw.size ≤ maxLen) (n : Nat) (hz : Itm.dec any.data.toList = .error n) :
    Calls Try.prog 8 #[.string raw, .string any] w fun e w' => e = .returned (.bool true) ∧ Below w.heap.size w w' := by
  have HZ := hid hz
  have HS := hid (fun w => short_any raw w hs1)
  clear hz hs1
  go_enter Try.func8, Try.ntmps8
  go_wp2_with fail
  refine (HS.out _).mono ?_
  rintro e w0 ⟨r, rfl, hr, rfl⟩
  go_wp2_with fail
  refine (item_any 4 r _ (by omega) hr).mono ?_
  rintro e w1 ⟨v, t, r2, rfl, p1, p2, p3, p4, p5, p6⟩
  obtain ⟨a2, cap2, rfl⟩ := ow_shape p5
  have hlen : (Itm.enc t).length ≤ 1000 := by omega
  have hpos : 0 < (Itm.enc t).length := List.length_pos_iff.2 (Itm.enc_ne t)
  have hcnt : Itm.cnt t ≤ 1000000000 := by have := Itm.cnt_le_enc t p2; omega
  have HR := hid (rep_of_own _ _ _ _ _ (Nat.le_refl _) p5)
  have HEA := hid (Itm.encA_ok p2 ⟨by omega, hlen⟩)
  have HDA := hid (Itm.dec_enc p2 (by omega) hlen)
  have HDM := hid (Itm.dec_more p2 hlen 0)
  have HDL := hid (Itm.dec_less p2 hlen)
  have HB1 := hid p6
  clear p1 p2 p3 p4 p5 p6
  go_wp2_with fail
  refine (encode_any 4 t _ _ hcnt (rep_in HR.out ((Below.refl _ _).alloc (Nat.le_refl _) _))).mono ?_
  rintro e w2 ⟨rfl, b2⟩
  rw [HEA.out]
  have HB2 := hid b2
  clear b2
  go_wp2_with fail
  refine (decode_any ⟨(Itm.enc t).toArray⟩ w2).mono ?_
  rintro e w3 ⟨_, hy, b3⟩
  obtain ⟨v3, rfl, o3⟩ := hy t HDA.out
  obtain ⟨a3, cap3, rfl⟩ := ow_shape o3
  have HR3 := hid (rep_of_own _ _ _ _ _ (Nat.le_refl _) o3)
  have HB3 := hid (below_on HB2.out b3)
  clear hy b3 o3
  obtain ⟨x0, x1, x2, hx⟩ := box_kept HB3.out
  go_wp2_with fail
  have HW3 := hid (below_on (below_box HB1.out _) HB3.out)
  refine (same_two _ _ _ _ t _ (rep_in (rep_in HR.out (below_box (Below.refl _ _) _)) (below_box HB3.out _)) (rep_in HR3.out (below_box (Below.refl _ _) _))).mono ?_
  rintro e w4 ⟨rfl, b4⟩
  have HW4 := hid (below_on (below_box HW3.out _) b4)
  clear b4
  go_wp2_with fail
  refine (decode_any any w4).mono ?_
  rintro e w5 ⟨hy, _, b5⟩
  obtain rfl := hy n HZ.out
  have HW5 := hid (below_on HW4.out b5)
  have hn0 : ((n : Int) == 0) = false := by rcases Itm.dec_err HZ.out with rfl | rfl <;> rfl
  clear hy b5
  go_wp2_with fail
  refine (encode_any 0 ⟨false, [], []⟩ _ _ (by rw [Itm.cnt_eq]; simp) (rep_zero _ _ _)).mono ?_
  rintro e w6 ⟨rfl, b6⟩
  generalize Itm.encA ⟨false, [], []⟩ = E0
  have HW6 := hid (below_on (below_box HW5.out _) b6)
  clear b6
  have hap : (({ data := (Itm.enc t).toArray } : ByteArray) ++ { data := #[0] }).data.toList = Itm.enc t ++ [0] := by simp
  obtain ⟨n7, hd7⟩ := HDM.out
  have h7 : ((n7 : Int) == 0) = false := by rcases Itm.dec_err hd7 with rfl | rfl <;> rfl
  have HD7 : Hid (Itm.dec (({ data := (Itm.enc t).toArray } : ByteArray) ++ { data := #[0] }).data.toList = .error n7) := by show _ = _; rw [hap]; exact hd7
  clear hap hd7
  go_wp2_with fail
  refine (decode_any _ w6).mono ?_
  rintro e w7 ⟨hy, _, b7⟩
  obtain rfl := hy n7 HD7.out
  have HW7 := hid (below_on HW6.out b7)
  clear hy b7
  have hs0 : (0 : Int) < ((Itm.enc t).length : Int) := by omega
  have hs1 : ¬ ((Itm.enc t).length : Int) < 1 := by omega
  have HL : Hid (Itm.dec (({ data := (Itm.enc t).toArray } : ByteArray).extract 0 ((Itm.enc t).length - 1)).data.toList = .error 1) := by
    show _ = _
    rw [Lib.extract_data]
    exact HDL.out
  go_wp2_with fail
  refine (decode_any _ _).mono ?_
  rintro e w8 ⟨hy, _, b8⟩
  obtain rfl := hy 1 HL.out
  have HW8 := hid (below_on (below_box HW7.out _) b8)
  clear hy b8
  go_wp2_with fail
  go_ret
  exact ⟨rfl, below_box HW8.out _⟩

theorem back_any (raw any : ByteArray) (w : World) (hs1 : raw.size ≤ maxLen) :
    Calls Try.prog 8 #[.string raw, .string any] w fun e w' => e = .returned (.bool true) ∧ Below w.heap.size w w' := by
  cases h : Itm.dec any.data.toList with
  | error n => exact back_err raw any w hs1 n h
  | ok z => exact back_ok raw any w hs1 z h
end Go.Proofs.Ytbmohenjphmlgaa

/- A round of the statement Decodes: what is read, kept and looked at. -/
namespace Go.Proofs.Ytbmohenjphmlgaa
open Go.RowKit
set_option maxRecDepth 100000

/-- What a text is read as: an item and a number. -/
def dpair (s : ByteArray) : Itm × Nat := match Itm.dec s.data.toList with | .ok t => (t, 0) | .error n => (⟨false, [], []⟩, n)

theorem cnt_zero : Itm.cnt ⟨false, [], []⟩ = 1 := by rw [Itm.cnt_eq]; simp

theorem dpair_cnt (s : ByteArray) : Itm.cnt (dpair s).1 ≤ 1000 := by
  unfold dpair
  cases h : Itm.dec s.data.toList with
  | ok t =>
    obtain ⟨h1, h2, _, h4⟩ := Itm.dec_ok h
    have := Itm.cnt_le_enc t h2
    rw [h1] at h4
    show Itm.cnt t ≤ 1000
    omega
  | error n =>
    show Itm.cnt ⟨false, [], []⟩ ≤ 1000
    rw [cnt_zero]; omega

theorem own_lift {E : TypeId} {w : World} {n lo hi : Nat} {v : Value} {t : Itm} (k : Nat) (h : Own E w n lo hi v t) : Own E w (n + k) lo hi v t := by
  induction k with
  | zero => exact h
  | succ k ih => exact own_more _ _ _ _ _ ih

/-- Both ways to read a text. -/
def DecPost (t : Itm) (n : Nat) (w : World) (e : Ending) (w' : World) : Prop :=
  ∃ a cap, e = .returned (.tuple #[.agg #[.bool t.list, .string ⟨t.bytes.toArray⟩, .slice a t.items.length cap], .int .i64 n]) ∧
    Own 24 w' 1001 w.heap.size w'.heap.size (.agg #[.bool t.list, .string ⟨t.bytes.toArray⟩, .slice a t.items.length cap]) t ∧ Below w.heap.size w w'

theorem decPost_of {s : ByteArray} {w : World} {e : Ending} {w' : World} (h : DecodeOk s w e w') : DecPost (dpair s).1 (dpair s).2 w e w' := by
  obtain ⟨h1, h2, h3⟩ := h
  unfold DecPost dpair
  cases hd : Itm.dec s.data.toList with
  | ok t =>
    obtain ⟨v, rfl, ho⟩ := h2 t hd
    obtain ⟨_, _, _, h4⟩ := Itm.dec_ok hd
    have hsz : s.size ≤ 1000 := by rw [← ba_mk_size s.data.toList] at h4; simpa using h4
    have ho' : Own 24 w' 1001 w.heap.size w'.heap.size v t := by
      have := own_lift (1001 - s.size) ho
      rwa [show s.size + (1001 - s.size) = 1001 by omega] at this
    obtain ⟨a, cap, rfl⟩ := own_shape ho'
    exact ⟨a, cap, rfl, ho', h3⟩
  | error n =>
    obtain rfl := h1 n hd
    exact ⟨none, 0, rfl, ow_bytes w' 1000 _ _ ⟨#[]⟩ [] rfl, h3⟩

theorem decode_both (s : ByteArray) : ∃ t n, Itm.cnt t ≤ 1000 ∧ (∀ w, Calls Try.prog 17 #[.string s] w (DecPost t n w)) ∧ (∀ w, Calls Try.prog 18 #[.string s] w (DecPost t n w)) :=
  ⟨(dpair s).1, (dpair s).2, dpair_cnt s, fun w => (decode_any s w).mono fun _ _ h => decPost_of h, fun w => (decodeR_any s w).mono fun _ _ h => decPost_of h⟩

/-- Texts in a row, below the world's end. -/
def StrRow (W : World) (a : Option Addr) (ss : List ByteArray) : Prop :=
  ∀ i (h : i < ss.length), ∃ b off, a = some ⟨b, off, none⟩ ∧ b < W.heap.size ∧ W.cell? ⟨b, off + i, none⟩ = some (.string ss[i])

/-- Between two texts. -/
structure RoundSt (W : World) (B j : Nat) (wr : World) (c : Nat → Nat) (it wi we : Value) (Q : Nat) (lw : List Itm) : Prop where
  book : BookSt wr c B it wi we Q
  row3 : WaitRow wr c 3 wi lw
  row4 : WaitRow wr c 4 we lw
  len : lw.length ≤ 3
  cnts : ∀ x ∈ lw, Itm.cnt x ≤ 1000
  bound : Q + Itm.cntL lw ≤ 2002 * j
  old : Below W.heap.size W wr
  cold : ∀ k, k < W.heap.size → c k = 0

/-- The colours once a text has been read twice: the items' blocks. -/
def readcol (c : Nat → Nat) (n a1 a2 a3 k1 k2 : Nat) : Nat → Nat := fun k => if k < n then c k else if k < a1 then k1 else if a2 ≤ k ∧ k < a3 then k2 else 0

/-- Both items are to be kept. -/
structure RoundMid (W : World) (B j : Nat) (w5 : World) (c5 : Nat → Nat) (it wi we : Value) (Q : Nat) (lw : List Itm) (t : Itm) (vx vz : Value) (Z p0 p1 p2 p3 : Nat) : Prop where
  book : BookSt w5 c5 B it wi we Q
  row3 : WaitRow w5 c5 3 wi lw
  row4 : WaitRow w5 c5 4 we lw
  len : lw.length ≤ 3
  cnts : ∀ x ∈ lw, Itm.cnt x ≤ 1000
  bound : Q + Itm.cntL lw ≤ 2002 * j
  old : Below W.heap.size W w5
  cold : ∀ k, k < W.heap.size → c5 k = 0
  ox : Own 24 w5 1001 p0 p1 vx t
  hx : p1 ≤ w5.heap.size
  cx : ∀ k, p0 ≤ k → k < p1 → c5 k = 3 + 10 * (lw.length + 1)
  oz : Own 24 w5 1001 p2 p3 vz t
  hz : p3 ≤ w5.heap.size
  cz : ∀ k, p2 ≤ k → k < p3 → c5 k = 3 + 10 * (lw.length + 2)
  cZ : c5 Z = 0
  hZ : Z < w5.heap.size

theorem round_mid {W wr w1 w2 w5 : World} {B j : Nat} {c : Nat → Nat} {it wi we : Value} {Q : Nat} {lw : List Itm} {t : Itm} {vx vz : Value} {O1 : Obj} (h : RoundSt W B j wr c it wi we Q lw)
    (b1 : Below wr.heap.size wr w1) (o1 : Own 24 w1 1001 wr.heap.size w1.heap.size vx t) (b2 : Below (w1.alloc O1).heap.size (w1.alloc O1) w2) (o2 : Own 24 w2 1001 (w1.alloc O1).heap.size w2.heap.size vz t)
    (b5 : Below w2.heap.size w2 w5) (hlt : w2.heap.size < w5.heap.size) :
    RoundMid W B j w5 (readcol c wr.heap.size w1.heap.size (w1.alloc O1).heap.size w2.heap.size (3 + 10 * (lw.length + 1)) (3 + 10 * (lw.length + 2))) it wi we Q lw t vx vz w2.heap.size wr.heap.size w1.heap.size (w1.alloc O1).heap.size w2.heap.size := by
  have e1 : (w1.alloc O1).heap.size = w1.heap.size + 1 := by simp
  have s1 := b1.size
  have s2 := b2.size
  have s5 := b5.size
  have s0 := h.old.size
  have hb : Below wr.heap.size wr w5 := below_on (below_on (below_box b1 O1) b2) b5
  have h15 : Below w1.heap.size w1 w5 := below_on (below_on ((Below.refl _ _).alloc (Nat.le_refl _) O1) b2) b5
  have hold : ∀ k, k < wr.heap.size → readcol c wr.heap.size w1.heap.size (w1.alloc O1).heap.size w2.heap.size (3 + 10 * (lw.length + 1)) (3 + 10 * (lw.length + 2)) k = c k := fun k hk => by unfold readcol; rw [if_pos hk]
  refine ⟨h.book.frame hb.size (fun k hk _ => ⟨hb.block k hk, hold k hk⟩), h.row3.later (by omega) hb hold, h.row4.later (by omega) hb hold, h.len, h.cnts, h.bound, h.old.trans (hb.mono s0), fun k hk => by rw [hold k (by omega)]; exact h.cold k hk, ?_, by omega, ?_, ?_, by omega, ?_, ?_, hlt⟩
  · exact own_frame _ _ _ _ _ (fun k _ h2 => h15.block k h2) o1
  · intro k h1 h2
    unfold readcol
    rw [if_neg (by omega), if_pos h2]
  · exact own_frame _ _ _ _ _ (fun k _ h2 => b5.block k h2) o2
  · intro k h1 h2
    unfold readcol
    rw [if_neg (by omega), if_neg (by omega), if_pos ⟨h1, h2⟩]
  · unfold readcol
    rw [if_neg (by omega), if_neg (by omega), if_neg (by omega)]

theorem RoundMid.keepX {W : World} {B j : Nat} {w5 : World} {c5 : Nat → Nat} {it wi we : Value} {Q : Nat} {lw : List Itm} {t : Itm} {vx vz : Value} {Z p0 p1 p2 p3 : Nat} (h : RoundMid W B j w5 c5 it wi we Q lw t vx vz Z p0 p1 p2 p3) (hc : Itm.cnt t ≤ 1000) :
    Calls Try.prog 20 #[.pointer (some ⟨B, 0, none⟩), vx] w5 (KeepPost c5 B it Q lw t w5) :=
  keep_any w5 c5 B it wi we Q lw vx t p0 p1 h.book h.row3 h.row4 h.ox h.hx h.cx (by have := h.len; omega) (by omega)

theorem RoundMid.keepZ {W : World} {B j : Nat} {w5 w6 : World} {c5 : Nat → Nat} {it wi we : Value} {Q : Nat} {lw : List Itm} {t : Itm} {vx vz : Value} {Z p0 p1 p2 p3 : Nat} (h : RoundMid W B j w5 c5 it wi we Q lw t vx vz Z p0 p1 p2 p3) (hc : Itm.cnt t ≤ 1000) {e : Ending}
    (hk : KeepPost c5 B it Q lw t w5 e w6) : e = .returned (.tuple #[]) ∧ w6.heap[Z]? = w5.heap[Z]? ∧ ∃ c6, KeepT c5 c6 w5 w6 ∧
      Calls Try.prog 20 #[.pointer (some ⟨B, 0, none⟩), vz] w6 (KeepPost c6 B it Q (lw ++ [t]) t w6) := by
  obtain ⟨rfl, c6, wi6, we6, k1, k2, k3, k4⟩ := hk
  refine ⟨rfl, k4.block _ h.hZ (by rw [h.cZ]; omega) (by rw [h.cZ]; omega) (by rw [h.cZ]; omega), c6, k4, ?_⟩
  have hsz := k4.size
  have hpz := h.hz
  refine keep_any w6 c6 B it wi6 we6 Q (lw ++ [t]) vz t p2 p3 k1 k2 k3 ?_ (by omega) ?_ (by have := h.len; simp; omega) (by omega)
  · exact own_frame _ _ _ _ _ (fun k h1 h2 => k4.block k (by omega) (by rw [h.cz k h1 h2]; omega) (by rw [h.cz k h1 h2]; omega) (by rw [h.cz k h1 h2]; omega)) h.oz
  · intro k h1 h2
    rw [k4.color k (by omega), h.cz k h1 h2]
    simp

theorem cntL_two (l : List Itm) (t : Itm) : Itm.cntL (l ++ [t] ++ [t]) = Itm.cntL l + 2 * Itm.cnt t := by
  unfold Itm.cntL
  simp only [List.map_append, List.sum_append, List.map_cons, List.map_nil, List.sum_cons, List.sum_nil]
  omega

theorem RoundMid.looks {W : World} {B j : Nat} {w5 w6 w7 : World} {c5 c6 : Nat → Nat} {it wi we : Value} {Q : Nat} {lw : List Itm} {t : Itm} {vx vz : Value} {Z p0 p1 p2 p3 : Nat} (h : RoundMid W B j w5 c5 it wi we Q lw t vx vz Z p0 p1 p2 p3) (hc : Itm.cnt t ≤ 1000) (hj : j ≤ 2000000)
    {e : Ending} (k4 : KeepT c5 c6 w5 w6) (hk : KeepPost c6 B it Q (lw ++ [t]) t w6 e w7) :
    e = .returned (.tuple #[]) ∧ Calls Try.prog 21 #[.pointer (some ⟨B, 0, none⟩)] w7 fun e w8 => e = .returned (.bool true) ∧ ∃ c8 it8 wi8 we8 Q8 l8, RoundSt W B (j + 1) w8 c8 it8 wi8 we8 Q8 l8 := by
  obtain ⟨rfl, c7, wi7, we7, q1, q2, q3, q4⟩ := hk
  have hlen := h.len
  have hbd := h.bound
  have hcl := cntL_two lw t
  have hcnts : ∀ x ∈ lw ++ [t] ++ [t], Itm.cnt x ≤ 1000 := by
    intro x hx
    simp only [List.mem_append, List.mem_cons, List.not_mem_nil, or_false] at hx
    rcases hx with (hx | rfl) | rfl
    · exact h.cnts x hx
    · exact hc
    · exact hc
  refine ⟨rfl, (looks_any w7 c7 B it wi7 we7 Q _ q1 q2 q3 (by simp; omega) (by omega) (fun x hx => by have := hcnts x hx; omega)).mono ?_⟩
  rintro e w8 ⟨rfl, c8, it8, wi8, we8, Q8, l8, r1, r2, r3, r4, r5⟩
  have kt : KeepT c5 c7 w5 w7 := k4.trans q4
  have s5 := h.old.size
  have hcold7 : ∀ k, k < W.heap.size → c7 k = 0 := fun k hk => by rw [kt.color k (by omega)]; exact h.cold k hk
  have hold7 : Below W.heap.size W w7 := ⟨kt.os.trans h.old.os, kt.tape.trans h.old.tape, kt.output.trans h.old.output, Nat.le_trans s5 kt.size, fun k hk => by
    have hk0 := h.cold k hk
    rw [kt.block k (by omega) (by omega) (by omega) (by omega)]; exact h.old.block k hk⟩
  have s7 := hold7.size
  have hold8 : Below W.heap.size W w8 := ⟨r4.os.trans hold7.os, r4.tape.trans hold7.tape, r4.output.trans hold7.output, Nat.le_trans s7 r4.size, fun k hk => by
    rw [(r4.keep k (by omega) (hcold7 k hk)).1]; exact hold7.block k hk⟩
  refine ⟨rfl, c8, it8, wi8, we8, Q8, l8, r1, r2, r3, ?_, ?_, ?_, hold8, fun k hk => (r4.keep k (by omega) (hcold7 k hk)).2⟩
  · rcases r5 with ⟨_, rfl, hl⟩ | ⟨_, rfl⟩
    · exact hl
    · simp
  · rcases r5 with ⟨_, rfl, _⟩ | ⟨_, rfl⟩
    · exact hcnts
    · simp
  · rcases r5 with ⟨rfl, rfl, _⟩ | ⟨rfl, rfl⟩
    · omega
    · simp [Itm.cntL] at *; omega

theorem RoundSt.ends {W : World} {B j : Nat} {wr : World} {c : Nat → Nat} {it wi we : Value} {Q : Nat} {lw : List Itm} (h : RoundSt W B j wr c it wi we Q lw) (hj : j ≤ 2000000) :
    Calls Try.prog 22 #[.pointer (some ⟨B, 0, none⟩)] wr fun e w' => e = .returned (.bool true) ∧ Below W.heap.size W w' := by
  have hbd := h.bound
  refine (settles_any wr c B it wi we Q lw h.book h.row3 h.row4 (by have := h.len; omega) (by omega) (fun x hx => by have := h.cnts x hx; omega)).mono ?_
  rintro e w' ⟨rfl, c', it', _, r4⟩
  have s5 := h.old.size
  exact ⟨rfl, r4.os.trans h.old.os, r4.tape.trans h.old.tape, r4.output.trans h.old.output, Nat.le_trans s5 r4.size, fun k hk => by rw [(r4.keep k (by omega) (h.cold k hk)).1]; exact h.old.block k hk⟩

/-- An empty book. -/
theorem round_start (W : World) : RoundSt W W.heap.size 0 (W.alloc (.cells #[.slice none 0 0, .slice none 0 0, .slice none 0 0, .slice none 0 0, .slice none 0 0, .slice none 0 0, .slice none 0 0, .slice none 0 0, .slice none 0 0] 39)) (fun k => if k = W.heap.size then 1 else 0) (.slice none 0 0) (.slice none 0 0) (.slice none 0 0) 0 [] := by
  refine ⟨⟨heap_alloc_new _ _, by simp, by simp [Value.ownBlock], [], World.ownsRow_nil _ _ _ _, rfl, fun k h => by simp at h⟩, waitRow_nil _ _ _, waitRow_nil _ _ _, by simp, by simp, by simp [Itm.cntL], (Below.refl _ _).alloc (Nat.le_refl _) _, fun k hk => by simp; omega⟩
end Go.Proofs.Ytbmohenjphmlgaa

/- The walk of the statement Decodes: of whatever texts it returns true, and of what was there nothing has turned. -/
namespace Go.Proofs.Ytbmohenjphmlgaa
open Go.RowKit
set_option maxRecDepth 100000

set_option maxHeartbeats 3200000 in
theorem decodes_any (W : World) (a : Option Addr) (cap : Nat) (ss : List ByteArray) (hr : StrRow W a ss) (hn : ss.length ≤ 2000000) :
    Calls Try.prog 4 #[.slice a ss.length cap] W fun e w' => e = .returned (.bool true) ∧ Below W.heap.size W w' := by
  have HR := hid hr
  have HN := hid hn
  clear hr
  go_enter Try.func4, Try.ntmps4
  go_wp2_with fail
  go_loopw [4] (fun i wr => ∃ (j : Nat) (c : Nat → Nat) (it wi we : Value) (Q : Nat) (lw : List Itm), i = .int .i64 j ∧ j ≤ ss.length ∧ Hid (RoundSt W W.heap.size j wr c it wi we Q lw)) (fun i _ => ss.length - (intOf i).toNat)
  case atStart => exact ⟨0, _, _, _, _, _, _, rfl, Nat.zero_le _, round_start W⟩
  case round =>
    obtain ⟨j, c, it, wi, we, Q, lw, rfl, hj, HS⟩ := hrel
    by_cases hlt : j < ss.length
    · obtain ⟨b, off, rfl, hb, hcell⟩ := HR.out j hlt
      have hx1 := (HS.out.old.cell (p := ⟨b, off + j, none⟩) hb).trans hcell
      have i1 : (0 : Int) ≤ (j : Int) := by omega
      have i2 : (j : Int) < (ss.length : Int) := by omega
      generalize ss[j] = s at hcell hx1
      obtain ⟨t, n, hc, hd, hdr⟩ := decode_both s
      have HC := hid hc
      have HD := hid hd
      have HDR := hid hdr
      have hbr : b < wr.heap.size := Nat.lt_of_lt_of_le hb HS.out.old.size
      clear hcell hc hd hdr
      go_wp2_with fail
      refine (HD.out _).mono ?_
      rintro e w1 ⟨ax, axc, rfl, ox, b1⟩
      have O1 := hid ox
      have B1 := hid b1
      have hb1 : b < w1.heap.size := Nat.lt_of_lt_of_le hbr b1.size
      have y1 := (b1.cell (p := ⟨b, off + j, none⟩) hbr).trans hx1
      clear ox b1
      go_wp2_with fail
      refine (HD.out _).mono ?_
      rintro e w2 ⟨az, azc, rfl, oz, b2⟩
      have O2 := hid oz
      have B2 := hid b2
      have BR2 := hid (below_on (below_box B1.out _) b2)
      have hb2 : b < w2.heap.size := Nat.lt_of_lt_of_le hbr BR2.out.size
      have y2 := (BR2.out.cell (p := ⟨b, off + j, none⟩) hbr).trans hx1
      clear oz b2 y1
      go_wp2_with fail
      refine (HDR.out _).mono ?_
      rintro e w3 ⟨ay, ayc, rfl, oy, b3⟩
      have O3 := hid oy
      have B3 := hid b3
      obtain ⟨z0, z1, z2, hZ3⟩ := box_kept b3
      obtain ⟨x0, x1, x2, hX3⟩ := box_kept (below_on (below_box B2.out _) b3)
      clear oy b3 y2
      go_wp2_with fail
      have BX2 := hid (below_on ((Below.refl w1.heap.size w1).alloc (Nat.le_refl _) _) B2.out)
      have BX3 := hid (below_box (below_on (below_box BX2.out _) B3.out) (.cells #[.bool t.list, .string ⟨t.bytes.toArray⟩, .slice ay t.items.length ayc] 24))
      have BZ3 := hid (below_box (below_on ((Below.refl w2.heap.size w2).alloc (Nat.le_refl _) _) B3.out) (.cells #[.bool t.list, .string ⟨t.bytes.toArray⟩, .slice ay t.items.length ayc] 24))
      have BY3 := hid ((Below.refl w3.heap.size w3).alloc (Nat.le_refl _) (.cells #[.bool t.list, .string ⟨t.bytes.toArray⟩, .slice ay t.items.length ayc] 24))
      have RX := hid (rep_in (rep_of_own _ _ _ _ _ (Nat.le_refl _) O1.out) BX3.out)
      have RZ := hid (rep_in (rep_of_own _ _ _ _ _ (Nat.le_refl _) O2.out) BZ3.out)
      have RY := hid (rep_in (rep_of_own _ _ _ _ _ (Nat.le_refl _) O3.out) BY3.out)
      refine (sameL_two 1001 1001 _ _ t _ RX.out RY.out).mono ?_
      rintro e w4 ⟨rfl, b4⟩
      have B4 := hid b4
      obtain ⟨yy0, yy1, yy2, hY4⟩ := box_kept b4
      obtain ⟨zz0, zz1, zz2, hZ4⟩ := box_kept (below_on (below_box B3.out _) b4)
      clear b4 x0 x1 x2 hX3 z0 z1 z2 hZ3
      go_wp2_with fail
      refine (sameL_two 1001 1001 _ _ t _ (rep_in RZ.out B4.out) (rep_in RY.out B4.out)).mono ?_
      rintro e w5 ⟨rfl, b5⟩
      have B45 := hid (below_on B4.out b5)
      have BW5 := hid (below_on BZ3.out B45.out)
      obtain ⟨xx0, xx1, xx2, hX5⟩ := box_kept (below_on (below_box (below_on (below_box B2.out _) B3.out) _) B45.out)
      have HZ5 := hid (old_block (below_on (below_box B3.out _) B45.out))
      clear b5 yy0 yy1 yy2 hY4 zz0 zz1 zz2 hZ4
      have hlt5 : w2.heap.size < w5.heap.size := (Array.getElem?_eq_some_iff.1 HZ5.out).1
      have RM := hid (round_mid HS.out B1.out O1.out B2.out O2.out BW5.out hlt5)
      clear HS B1 O1 B2 O2 BW5 B45 B4 B3 BX2 BX3 BZ3 BY3 RX RZ RY O3 BR2
      go_wp2_with fail
      refine (RM.out.keepX HC.out).mono ?_
      rintro e w6 hk
      obtain ⟨rfl, hz6, c6, k4, hcall⟩ := RM.out.keepZ HC.out hk
      have HZ6 := hz6.trans HZ5.out
      have v0 := cell_of_row _ _ 0 _ _ _ HZ6
      have v1 := cell_of_row _ _ 1 _ _ _ HZ6
      have v2 := cell_of_row _ _ 2 _ _ _ HZ6
      have HK4 := hid k4
      have HCALL := hid hcall
      clear hk hz6 k4 hcall HZ6 xx0 xx1 xx2 hX5 HZ5
      go_wp2_with fail
      refine HCALL.out.mono ?_
      rintro e w7 hk2
      obtain ⟨rfl, hlook⟩ := RM.out.looks HC.out (by have := HN.out; omega) HK4.out hk2
      have HLK := hid hlook
      clear hk2 hlook HCALL v0 v1 v2
      go_wp2_with fail
      refine HLK.out.mono ?_
      rintro e w8 ⟨rfl, c8, it8, wi8, we8, Q8, l8, hR⟩
      have HR8 := hid hR
      clear hR HLK RM HK4
      have HNUM := hid (fun w => num_any (n : Int) w)
      go_wp2_with fail
      refine (HNUM.out _).mono ?_
      rintro e w9 ⟨rfl, rfl⟩
      go_wp2_with fail
      refine (HNUM.out _).mono ?_
      rintro e w10 ⟨rfl, rfl⟩
      go_wp2_with fail
      exact ⟨⟨j + 1, c8, it8, wi8, we8, Q8, l8, by go_num, by omega, HR8.out⟩, by simp [intOf]; omega⟩
    · have hlt' : ¬ (j : Int) < (ss.length : Int) := by omega
      have HE := hid (HS.out.ends (by have := HN.out; omega))
      clear HS
      go_wp2_with fail
      refine HE.out.mono ?_
      rintro e w' ⟨rfl, hbel⟩
      go_wp2_with fail
      go_ret
      exact ⟨rfl, hbel⟩
end Go.Proofs.Ytbmohenjphmlgaa
