/- The walk of bytesOf: the bytes of an item, where it has at most so many levels and at most MaxBytes bytes. -/
import Derived.Test.YtbmohenjphmlgaaHeads
import Derived.Test.YtbmohenjphmlgaaDeep
namespace Go.Proofs.Ytbmohenjphmlgaa
open Go.RowKit
set_option maxRecDepth 100000

/-- Has it at most L levels and at most 1000 bytes? -/
def fits (t : Itm) (L : Nat) : Prop := Itm.deep t ≤ L ∧ (Itm.enc t).length ≤ 1000

def BytesOk (t : Itm) (L : Nat) (w : World) (e : Ending) (w' : World) : Prop :=
  Below w.heap.size w w' ∧ (fits t L → ∃ v, e = .returned (.tuple #[v, .bool true]) ∧ Brd w'.heap.size w' v (Itm.enc t)) ∧ (¬ fits t L → ∃ a n c, e = .returned (.tuple #[.slice a n c, .bool false]))

theorem bytesOk_no {t : Itm} {L : Nat} {w w' : World} (h : ¬ fits t L) (hb : Below w.heap.size w w') (a : Option Addr) (n c : Nat) : BytesOk t L w (.returned (.tuple #[.slice a n c, .bool false])) w' :=
  ⟨hb, fun hf => absurd hf h, fun _ => ⟨a, n, c, rfl⟩⟩

/-- The bytes of the first k items. -/
def encTo (t : Itm) (k : Nat) : List UInt8 := (t.items.take k).flatMap Itm.enc

theorem encTo_zero (t : Itm) : encTo t 0 = [] := by simp [encTo]

theorem encTo_succ (t : Itm) (k : Nat) (h : k < t.items.length) : encTo t (k + 1) = encTo t k ++ Itm.enc t.items[k] := by
  unfold encTo
  rw [List.take_succ_eq_append_getElem h, List.flatMap_append]
  simp

theorem encTo_all (t : Itm) (h : t.list = true) : Itm.enc t = Itm.headed 192 (encTo t t.items.length) := by
  rw [Itm.enc_eq, if_pos h]; simp [encTo]

theorem encTo_le (t : Itm) (k : Nat) (h : t.list = true) : (encTo t k).length < (Itm.enc t).length := by
  rw [Itm.enc_eq, if_pos h]
  have h1 := Itm.headed_len 192 (t.items.flatMap Itm.enc)
  have h2 : (encTo t k).length ≤ (t.items.flatMap Itm.enc).length := by
    have : t.items.flatMap Itm.enc = encTo t k ++ (t.items.drop k).flatMap Itm.enc := by
      unfold encTo
      rw [← List.flatMap_append, List.take_append_drop]
    rw [this]; simp
  omega

theorem encB_big (b : List UInt8) (h : 1000 < b.length) : 1000 < (Itm.encB b).length := by
  unfold Itm.encB
  split
  · exact h
  · have := Itm.headed_len 128 b; omega

set_option maxHeartbeats 800000 in
theorem bytesOf_leaf (t : Itm) (L : Nat) (w : World) (a : Option Addr) (cap : Nat) (hl : t.list = false) :
    Calls Try.prog 65 #[.agg #[.bool t.list, .string ⟨t.bytes.toArray⟩, .slice a t.items.length cap], .int .i64 L] w (BytesOk t L w) := by
  have he : Itm.enc t = Itm.encB t.bytes := by rw [Itm.enc_eq, hl]; rfl
  have hd : Itm.deep t = 0 := by rw [Itm.deep_eq, hl]; rfl
  have hsz : (⟨t.bytes.toArray⟩ : ByteArray).size = t.bytes.length := by show t.bytes.toArray.size = _; simp
  rw [hl]
  by_cases hbig : 1000 < t.bytes.length
  · have HB := hid (fun w => bytesOfBytes_big ⟨t.bytes.toArray⟩ w (by rw [hsz]; exact hbig))
    have HN : Hid (¬ fits t L) := by intro hf; have h1 := hf.2; rw [he] at h1; have := encB_big _ hbig; omega
    clear he hd hsz hl
    go_enter Try.func65, Try.ntmps65
    go_wp2_with fail
    refine (HB.out _).mono ?_
    rintro e w1 ⟨rfl, hbel⟩
    go_wp2_with fail
    go_ret2
    exact bytesOk_no HN.out (((Below.refl _ _).alloc (Nat.le_refl _) _).trans (hbel.mono (by simp))) _ _ _
  · have HB := hid (fun w => bytesOfBytes_any ⟨t.bytes.toArray⟩ w (by rw [hsz]; omega))
    simp only at HB
    rw [← he] at HB
    clear hsz hl he
    have HD := hid hd
    clear hd
    go_enter Try.func65, Try.ntmps65
    go_wp2_with fail
    refine (HB.out _).mono ?_
    rintro e w1 ⟨v, rfl, hbr, hbel⟩
    have HR := hid hbr
    obtain ⟨a1, c1, rfl⟩ := brd_shape hbr
    clear hbr
    go_wp2_with fail
    go_ret2
    have hb2 : Below w.heap.size w w1 := ((Below.refl _ _).alloc (Nat.le_refl _) _).trans (hbel.mono (by simp))
    by_cases hf : (Itm.enc t).length ≤ 1000
    · refine ⟨hb2, fun _ => ⟨_, ret2 rfl (by rw [decide_eq_true hf]; rfl), HR.out⟩, fun hn => absurd ⟨by rw [HD.out]; omega, hf⟩ hn⟩
    · refine ⟨hb2, fun hn => absurd hn.2 hf, fun _ => ⟨_, _, _, ret2 rfl (by rw [decide_eq_false hf]; rfl)⟩⟩

set_option maxHeartbeats 800000 in
theorem bytesOf_flat (t : Itm) (w : World) (a : Option Addr) (cap : Nat) (hl : t.list = true) :
    Calls Try.prog 65 #[.agg #[.bool t.list, .string ⟨t.bytes.toArray⟩, .slice a t.items.length cap], .int .i64 0] w (BytesOk t 0 w) := by
  have HN : Hid (¬ fits t 0) := by
    intro hf; have h1 := hf.1; rw [topTo_all t hl] at h1; omega
  rw [hl]
  clear hl
  go_enter Try.func65, Try.ntmps65
  go_wp2_with fail
  go_ret2
  exact bytesOk_no HN.out ((Below.refl _ _).alloc (Nat.le_refl _) _) _ _ _

theorem fits_kid {t : Itm} {L k : Nat} (hl : t.list = true) (hk : k < t.items.length) (h : fits t (L + 1)) : fits t.items[k] L := by
  have h1 := deep_kid t k hk hl
  have h2 := encTo_le t (k + 1) hl
  rw [encTo_succ t k hk] at h2
  have h3 := h.1
  have h4 := h.2
  rw [List.length_append] at h2
  exact ⟨by omega, by omega⟩

set_option maxHeartbeats 1600000 in
theorem bytesOf_list (n : Nat) (ih : ∀ (v : Value) (t : Itm) (w : World) (L : Nat), Rep w.heap.size w n v t → L ≤ 8 → Calls Try.prog 65 #[v, .int .i64 L] w (BytesOk t L w))
    (t : Itm) (L : Nat) (w : World) (a : Option Addr) (cap : Nat) (hl : t.list = true) (hm : t.items.length ≤ maxLen) (hL : L + 1 ≤ 8)
    (hkids : ∀ i (h : i < t.items.length), ∃ b off c0 c1 c2, a = some ⟨b, off, none⟩ ∧ b < w.heap.size ∧ w.cell? ⟨b, off + i * 3, none⟩ = some c0 ∧ w.cell? ⟨b, off + i * 3 + 1, none⟩ = some c1 ∧ w.cell? ⟨b, off + i * 3 + 2, none⟩ = some c2 ∧
        Rep w.heap.size w n (.agg #[c0, c1, c2]) t.items[i]) :
    Calls Try.prog 65 #[.agg #[.bool t.list, .string ⟨t.bytes.toArray⟩, .slice a t.items.length cap], .int .i64 ((L : Int) + 1)] w (BytesOk t (L + 1) w) := by
  have HK := hid hkids
  have IH := hid ih
  have HL := hid hl
  have HW := hid (fun (v : Value) (l : List UInt8) (w : World) h1 h2 => withHead_any 192 v l w (by omega) h1 h2)
  rw [hl]
  clear hkids ih hl
  unfold maxLen at hm
  have hne : ((L : Int) + 1 == 0) = false := by simp; omega
  go_enter Try.func65, Try.ntmps65
  go_wp2_with fail
  go_loopw [6, 24] (fun v i wr => ∃ k : Nat, k ≤ t.items.length ∧ i = .int .i64 k ∧ Hid (topTo t k ≤ L ∧ (encTo t k).length ≤ 1000 ∧ Bown wr w.heap.size v (encTo t k) ∧ Below w.heap.size w wr)) (fun _ i _ => t.items.length - (intOf i).toNat)
  case atStart => exact ⟨0, Nat.zero_le _, rfl, by rw [topTo_zero]; exact Nat.zero_le _, by rw [encTo_zero]; simp, by rw [encTo_zero]; exact bown_nil _ _, (Below.refl _ _).alloc (Nat.le_refl _) _⟩
  case round =>
    obtain ⟨k, hk, rfl, HH⟩ := hrel
    by_cases hlt : k < t.items.length
    · obtain ⟨b, off, c0, c1, c2, rfl, hbl, e0, e1, e2, hr⟩ := HK.out k hlt
      obtain ⟨a2, cap2, rfl, rfl, rfl⟩ := rep_shape hr
      obtain ⟨q1, q2, q3, q4⟩ := HH.out
      have f0 := (q4.cell (p := ⟨b, off + k * 3, none⟩) hbl).trans e0
      have f1 := (q4.cell (p := ⟨b, off + k * 3 + 1, none⟩) hbl).trans e1
      have f2 := (q4.cell (p := ⟨b, off + k * 3 + 2, none⟩) hbl).trans e2
      have HR := hid hr
      have HT := hid (topTo_succ t k hlt)
      have HE := hid (encTo_succ t k hlt)
      obtain ⟨a6, cap6, rfl⟩ := bown_shape q3
      clear e0 e1 e2 hr q1 q2 q3 q4
      go_wp2_with fail
      have hbw := HH.out.2.2.2.alloc HH.out.2.2.2.size (Obj.cells #[Value.bool t.items[k].list, Value.string { data := t.items[k].bytes.toArray }, Value.slice a2 t.items[k].items.length cap2] 24)
      have HBW := hid hbw
      clear hbw
      refine (IH.out _ t.items[k] _ L (rep_in HR.out HBW.out) (by omega)).mono ?_
      rintro e w1 ⟨hbel, hyes, hno⟩
      have HB1 := hid (HBW.out.trans (hbel.mono HBW.out.size))
      by_cases hf : fits t.items[k] L
      · obtain ⟨v1, rfl, hbr⟩ := hyes hf
        obtain ⟨a7, cap7, rfl⟩ := brd_shape hbr
        have HBR := hid hbr
        have HF := hid hf
        have HO : Hid (Bown w1 w.heap.size (.slice a6 (encTo t k).length cap6) (encTo t k)) := by
          refine bown_frame HH.out.2.2.1 ?_
          intro g hg
          have := (bown_lt HH.out.2.2.1 g hg).2
          rw [hbel.block g (by simp; omega)]
          exact Below.heap_alloc _ _ _ this
        clear hyes hno hbel hbr hf
        have hel : (encTo t k).length ≤ 1000 := HH.out.2.1
        have hfl : (Itm.enc t.items[k]).length ≤ 1000 := HF.out.2
        by_cases hbig : 1000 < (encTo t k).length + (Itm.enc t.items[k]).length
        · have hbig' : (1000 : Int) < ((encTo t k).length : Int) + ((Itm.enc t.items[k]).length : Int) := by omega
          go_wp2_with fail
          go_ret2
          refine bytesOk_no ?_ HB1.out _ _ _
          intro hff
          have h2 := encTo_le t (k + 1) HL.out
          rw [HE.out, List.length_append] at h2
          have := hff.2
          omega
        · have hbig' : ¬ (1000 : Int) < ((encTo t k).length : Int) + ((Itm.enc t.items[k]).length : Int) := by omega
          have hlen : (encTo t k).length + (Itm.enc t.items[k]).length ≤ 1000000000 := by omega
          have hbase := HB1.out.size
          go_wp2_with (at_builtin; refine wpList_append_bytes _ rfl (.tmp 45) (.tmp 46) rfl _ _ (.slice a6 (encTo t k).length cap6) _ _ _ rfl rfl HO.out HBR.out hlen hbase ?_; intro v' w' ho hg hn)
          go_roundw
          case rel =>
            refine ⟨k + 1, by omega, by go_num, ?_, ?_, ?_, ?_⟩
            · have h1 := HH.out.1
              have h2 := HF.out.1
              rw [HT.out]; omega
            · rw [HE.out, List.length_append]; omega
            · rw [HE.out]; exact ho
            · exact HB1.out.grown hg hbase (fun g hgg => (bown_lt HO.out g hgg).1)
          case measure => simp [intOf]; omega
      · obtain ⟨a7, n7, c7, rfl⟩ := hno hf
        have HF := hid hf
        clear hyes hno hbel hf
        go_wp2_with fail
        go_ret2
        exact bytesOk_no (fun hff => HF.out (fits_kid HL.out hlt hff)) HB1.out _ _ _
    · have HKE := hid (show k = t.items.length by omega)
      obtain ⟨q1, q2, q3, q4⟩ := HH.out
      have HBR := hid (brd_of_bown q3)
      have HQ := hid q4
      have HQ1 := hid q1
      clear q1 q2 q3 q4
      go_wp2_with fail
      refine (HW.out _ _ _ HBR.out (by have := HH.out.2.1; omega)).mono ?_
      rintro e w1 ⟨v1, rfl, ho, hbel⟩
      obtain ⟨a7, cap7, rfl⟩ := bown_shape ho
      have HO := hid ho
      have HB1 := hid (HQ.out.trans (hbel.mono HQ.out.size))
      clear ho hbel
      have HX : Hid (Itm.headed 192 (encTo t k) = Itm.enc t) := by rw [HKE.out]; exact (encTo_all t HL.out).symm
      go_wp2_with fail
      go_ret2
      have hdp : Itm.deep t ≤ L + 1 := by rw [topTo_all t HL.out, ← HKE.out]; have := HQ1.out; omega
      by_cases hf : (Itm.enc t).length ≤ 1000
      · refine ⟨HB1.out, fun _ => ⟨_, ret2 rfl (by rw [HX.out, decide_eq_true hf]; rfl), ?_⟩, fun hn => absurd ⟨hdp, hf⟩ hn⟩
        have := brd_of_bown HO.out
        rw [HX.out] at this ⊢
        exact this
      · exact ⟨HB1.out, fun hn => absurd hn.2 hf, fun _ => ⟨_, _, _, ret2 rfl (by rw [HX.out, decide_eq_false hf]; rfl)⟩⟩

theorem bytesOf_any (n : Nat) : ∀ (v : Value) (t : Itm) (w : World) (L : Nat), Rep w.heap.size w n v t → L ≤ 8 → Calls Try.prog 65 #[v, .int .i64 L] w (BytesOk t L w) := by
  induction n with
  | zero => intro v t w L h; exact h.elim
  | succ n ih =>
    intro v t w L hrep hL
    obtain ⟨a, cap, rfl, hm, hkids⟩ := hrep
    by_cases hl : t.list
    · cases L with
      | zero => exact bytesOf_flat t w a cap hl
      | succ L =>
        rw [show (((L + 1 : Nat) : Int)) = (L : Int) + 1 by omega]
        exact bytesOf_list n ih t L w a cap hl hm hL hkids
    · exact bytesOf_leaf t L w a cap (by simpa using hl)
end Go.Proofs.Ytbmohenjphmlgaa
