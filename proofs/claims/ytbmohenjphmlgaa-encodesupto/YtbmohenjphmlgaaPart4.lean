/- Part 4 of a proof: what the last text needs. -/
import Derived.Test.YtbmohenjphmlgaaPart3
/- The walks of highestFirst, head, withHead, bytesOfBytes: the bytes that stand ahead of a body. -/
namespace Go.Proofs.Ytbmohenjphmlgaa
open Go.RowKit
set_option maxRecDepth 100000
namespace Itm
/-- The bytes of a number, none for 0. -/
def beZ (n : Nat) : List UInt8 := if n = 0 then [] else be n

theorem beZ_step (n : Nat) (h : 0 < n) : beZ n = beZ (n / 256) ++ [UInt8.ofNat (n % 256)] := by
  unfold beZ
  rw [if_neg (by omega)]
  by_cases h2 : n < 256
  · rw [be_small h2, if_pos (by omega), Nat.mod_eq_of_lt h2]
    rfl
  · rw [be_large h2, if_neg (by omega)]

theorem head_len (base n : Nat) (h : n ≤ 1000000000) : (head base n).length ≤ 9 := by
  unfold head
  split
  · simp
  · have := be_len_le n 8 (by omega) (by omega)
    simp; omega
end Itm

theorem ret2 {a b a' b' : Value} (h1 : a = a') (h2 : b = b') : Ending.returned (.tuple #[a, b]) = .returned (.tuple #[a', b']) := by
  subst h1 h2; rfl

theorem below_row {wr w w' : World} {O : Obj} (hb : Below w.heap.size w wr) (hg : (wr.alloc O).grownBy w' (some wr.heap.size)) : Below w.heap.size w w' := by
  have := hb.size
  exact (hb.alloc hb.size O).grown hg (by simp; omega) (fun k hk => by cases hk; exact hb.size)

set_option maxHeartbeats 400000 in
theorem highest_any (n : Nat) (w : World) (hn : n ≤ 1000000000) :
    Calls Try.prog 125 #[.int .i64 n] w fun e w' => ∃ v, e = .returned v ∧ Bown w' w.heap.size v (Itm.beZ n) ∧ Below w.heap.size w w' := by
  go_enter Try.func125, Try.ntmps125
  go_wp2_with fail
  go_loopw [0, 3] (fun a v wr => ∃ (m : Nat) (l : List UInt8), a = .int .i64 m ∧ m ≤ n ∧ Hid (Itm.beZ n = Itm.beZ m ++ l ∧ l.length + m ≤ 1000000000 ∧ Bown wr w.heap.size v l ∧ Below w.heap.size w wr)) (fun a _ _ => (intOf a).toNat)
  case atStart => exact ⟨n, [], rfl, Nat.le_refl _, by simp, by simpa using hn, bown_nil _ _, Below.refl _ _⟩
  case round =>
    obtain ⟨m, l, rfl, hm, HH⟩ := hrel
    by_cases h0 : 0 < m
    · have h0' : (0 : Int) < (m : Int) := by omega
      obtain ⟨q1, q2, q3, q4⟩ := HH.out
      have H1 : Hid (Bown (wr.alloc (.cells #[.int .u8 ((m : Int) % 256)] 5)) w.heap.size (.slice (some ⟨wr.heap.size, 0, none⟩) 1 1) [UInt8.ofNat (m % 256)]) := by
        have h := bown_one wr w.heap.size (UInt8.ofNat (m % 256)) q4.size
        have e : (((UInt8.ofNat (m % 256)).toNat : Nat) : Int) = (m : Int) % 256 := by simp
        rw [e] at h
        exact h
      have H2 := hid (brd_in (brd_of_bown q3) ((Below.refl _ _).alloc (Nat.le_refl _) (.cells #[.int .u8 ((m : Int) % 256)] 5)))
      have hlen : [UInt8.ofNat (m % 256)].length + l.length ≤ 1000000000 := by simp; omega
      have hbase : w.heap.size ≤ (wr.alloc (.cells #[.int .u8 ((m : Int) % 256)] 5)).heap.size := by have := q4.size; simp; omega
      clear q1 q2 q3 q4
      go_wp2_with (at_builtin; refine wpList_append_bytes _ rfl (.tmp 10) (.tmp 11) rfl _ _ (.slice (some ⟨wr.heap.size, 0, none⟩) 1 1) _ _ _ rfl rfl H1.out H2.out hlen hbase ?_; intro v' w' ho hg hn)
      obtain ⟨q1, q2, q3, q4⟩ := HH.out
      refine ⟨⟨m / 256, UInt8.ofNat (m % 256) :: l, congrArg (Value.int .i64) (by omega), by omega, ?_, ?_, ho, below_row q4 hg⟩, by simp [intOf]; omega⟩
      · rw [q1, Itm.beZ_step m h0]; simp
      · simp; omega
    · have h0' : ¬ (0 : Int) < (m : Int) := by omega
      go_wp2_with fail
      go_ret
      obtain ⟨q1, q2, q3, q4⟩ := HH.out
      refine ⟨_, rfl, ?_, q4⟩
      rw [q1]
      have : m = 0 := by omega
      subst this
      exact q3

theorem u8_add (base n : Nat) (h : base + n < 256) : ((UInt8.ofNat (base + n)).toNat : Int) = (base : Int) + (n : Int) := by
  simp; omega

set_option maxHeartbeats 400000 in
theorem head_short (base n : Nat) (w : World) (hb : base + 63 < 256) (hn : n ≤ 55) :
    Calls Try.prog 109 #[.int .u8 base, .int .i64 n] w fun e w' => ∃ v, e = .returned v ∧ Bown w' w.heap.size v (Itm.head base n) ∧ Below w.heap.size w w' := by
  have hh : Itm.head base n = [UInt8.ofNat (base + n)] := by unfold Itm.head; rw [if_pos hn]
  have H := hid (bown_one w w.heap.size (UInt8.ofNat (base + n)) (Nat.le_refl _))
  have HU := hid (u8_add base n (by omega))
  rw [hh]
  clear hh
  go_enter Try.func109, Try.ntmps109
  go_wp2_with fail
  go_ret
  refine ⟨_, rfl, ?_, (Below.refl _ _).alloc (Nat.le_refl _) _⟩
  have := H.out
  rw [HU.out] at this
  simpa using this

set_option maxHeartbeats 400000 in
theorem head_long (base n : Nat) (w : World) (hb : base + 63 < 256) (hn : 55 < n) (hn2 : n ≤ 1000000000) :
    Calls Try.prog 109 #[.int .u8 base, .int .i64 n] w fun e w' => ∃ v, e = .returned v ∧ Bown w' w.heap.size v (Itm.head base n) ∧ Below w.heap.size w w' := by
  have hz : Itm.beZ n = Itm.be n := by unfold Itm.beZ; rw [if_neg (by omega)]
  have hh : Itm.head base n = UInt8.ofNat (base + 55 + (Itm.be n).length) :: Itm.be n := by unfold Itm.head; rw [if_neg (by omega)]
  have hbl := Itm.be_len_le n 8 (by omega) (by omega)
  have HC := hid (fun w => highest_any n w hn2)
  have HU := hid (u8_add (base + 55) (Itm.be n).length (by omega))
  rw [hh]
  rw [hz] at HC
  clear hh hz
  have hn' : ¬ (n : Int) ≤ 55 := by omega
  generalize Itm.be n = bl at *
  go_enter Try.func109, Try.ntmps109
  go_wp2_with fail
  refine (HC.out _).mono ?_
  rintro e w1 ⟨v, rfl, hown, hbel⟩
  obtain ⟨a1, cap1, rfl⟩ := bown_shape hown
  have HO := hid hown
  have HB := hid hbel
  clear hown hbel
  have HA := hid HB.out.size
  have H1 := hid (bown_one w1 w.heap.size (UInt8.ofNat (base + 55 + bl.length)) HA.out)
  have H2 := hid (brd_in (brd_of_bown HO.out) ((Below.refl _ _).alloc (Nat.le_refl _) (.cells #[.int .u8 ((UInt8.ofNat (base + 55 + bl.length)).toNat : Nat)] 5)))
  have HH2 : Hid (Bown (w1.alloc (.cells #[.int .u8 ((base : Int) + 55 + (bl.length : Int))] 5)) w.heap.size (.slice (some ⟨w1.heap.size, 0, none⟩) 1 1) [UInt8.ofNat (base + 55 + bl.length)]) := by
    have := H1.out
    rw [HU.out] at this
    exact hid (by simpa using this)
  have HH3 : Hid (Brd (w1.alloc (.cells #[.int .u8 ((base : Int) + 55 + (bl.length : Int))] 5)).heap.size (w1.alloc (.cells #[.int .u8 ((base : Int) + 55 + (bl.length : Int))] 5)) (.slice a1 bl.length cap1) bl) := by
    have := H2.out
    rw [HU.out] at this
    exact hid (by simpa using this)
  have hlen : [UInt8.ofNat (base + 55 + bl.length)].length + bl.length ≤ 1000000000 := by simp; omega
  have hbase : w.heap.size ≤ (w1.alloc (.cells #[.int .u8 ((base : Int) + 55 + (bl.length : Int))] 5)).heap.size := by have := HA.out; simp; omega
  clear H1 H2 HU
  go_wp2_with (at_builtin; refine wpList_append_bytes _ rfl (.tmp 23) (.tmp 24) rfl _ _ (.slice (some ⟨w1.heap.size, 0, none⟩) 1 1) _ _ _ rfl rfl HH2.out HH3.out hlen hbase ?_; intro v' w' ho hg hn)
  go_ret
  exact ⟨_, rfl, ho, below_row HB.out hg⟩

theorem head_any (base n : Nat) (w : World) (hb : base + 63 < 256) (hn2 : n ≤ 1000000000) :
    Calls Try.prog 109 #[.int .u8 base, .int .i64 n] w fun e w' => ∃ v, e = .returned v ∧ Bown w' w.heap.size v (Itm.head base n) ∧ Below w.heap.size w w' := by
  by_cases h : n ≤ 55
  · exact head_short base n w hb h
  · exact head_long base n w hb (by omega) hn2

set_option maxHeartbeats 400000 in
theorem withHead_any (base : Nat) (v : Value) (l : List UInt8) (w : World) (hb : base + 63 < 256) (hv : Brd w.heap.size w v l) (hl : l.length ≤ 1000000) :
    Calls Try.prog 88 #[.int .u8 base, v] w fun e w' => ∃ v', e = .returned (.tuple #[v', .bool (decide ((Itm.headed base l).length ≤ 1000))]) ∧ Bown w' w.heap.size v' (Itm.headed base l) ∧ Below w.heap.size w w' := by
  have hhl := Itm.head_len base l.length (by omega)
  have HC := hid (fun w => head_any base l.length w hb (by omega))
  obtain ⟨a0, cap0, rfl⟩ := brd_shape hv
  have HV := hid hv
  clear hv
  unfold Itm.headed
  generalize Itm.head base l.length = hd at *
  go_enter Try.func88, Try.ntmps88
  go_wp2_with fail
  refine (HC.out _).mono ?_
  rintro e w1 ⟨v1, rfl, hown, hbel⟩
  obtain ⟨a1, cap1, rfl⟩ := bown_shape hown
  have HO := hid hown
  have HB := hid hbel
  have HR := hid (brd_in HV.out hbel)
  have hlen : hd.length + l.length ≤ 1000000000 := by omega
  have hbase : w.heap.size ≤ w1.heap.size := hbel.size
  clear hown hbel
  go_wp2_with (at_builtin; refine wpList_append_bytes _ rfl (.tmp 10) (.tmp 11) rfl _ _ (.slice a1 hd.length cap1) _ _ _ rfl rfl HO.out HR.out hlen hbase ?_; intro v' w' ho hg hn; obtain ⟨a2, cap2, rfl⟩ := bown_shape ho)
  go_ret2
  refine ⟨_, ret2 (by rw [List.length_append]; rfl) (congrArg Value.bool (decide_eq_decide.2 (by rw [List.length_append]; omega))), ho, ?_⟩
  exact HB.out.grown hg hbase (fun k hk => (bown_lt HO.out k hk).1)

set_option maxHeartbeats 400000 in
theorem bytesOfBytes_big (s : ByteArray) (w : World) (h : 1000 < s.size) :
    Calls Try.prog 87 #[.string s] w fun e w' => e = .returned (.tuple #[.slice none 0 0, .bool false]) ∧ Below w.heap.size w w' := by
  have h' : (1000 : Int) < (s.size : Int) := by omega
  go_enter Try.func87, Try.ntmps87
  go_wp2_with fail
  go_ret2
  exact ⟨rfl, Below.refl _ _⟩

set_option maxHeartbeats 400000 in
theorem bytesOfBytes_any (s : ByteArray) (w : World) (h : s.size ≤ 1000) :
    Calls Try.prog 87 #[.string s] w fun e w' => ∃ v, e = .returned (.tuple #[v, .bool (decide ((Itm.encB s.data.toList).length ≤ 1000))]) ∧ Brd w'.heap.size w' v (Itm.encB s.data.toList) ∧ Below w.heap.size w w' := by
  have h' : ¬ (1000 : Int) < (s.size : Int) := by omega
  have HS := hid (fun w => stands_any s w)
  have HV := hid (fun w => run_string_bytes w s)
  unfold Itm.encB
  by_cases hst : Itm.stands s.data.toList = true
  · rw [if_pos hst]
    rw [hst] at HS
    clear hst
    have hlen : s.data.toList.length ≤ 1000 := by rw [ba_len]; exact h
    go_enter Try.func87, Try.ntmps87
    go_wp2_with fail
    refine (HS.out _).mono ?_
    rintro e w1 ⟨rfl, rfl⟩
    have hv := HV.out
    go_wp2_with fail
    go_ret2
    exact ⟨_, ret2 rfl (by rw [decide_eq_true hlen]; rfl), brd_bytesWorld _ _ _, below_bytesWorld _ _⟩
  · have hst' : Itm.stands s.data.toList = false := by simpa using hst
    rw [if_neg hst]
    rw [hst'] at HS
    clear hst hst'
    have HW := hid (fun (w : World) (cap : Nat) => withHead_any 128 _ _ _ (by omega) (brd_bytesWorld w s cap) (by rw [ba_len]; omega))
    go_enter Try.func87, Try.ntmps87
    go_wp2_with fail
    refine (HS.out _).mono ?_
    rintro e w1 ⟨rfl, rfl⟩
    have hv := HV.out
    go_wp2_with fail
    refine (HW.out _ _).mono ?_
    rintro e w1 ⟨v, rfl, ho, hbel⟩
    have HO := hid ho
    have HB := hid hbel
    clear ho hbel
    go_wp2_with fail
    go_ret2
    refine ⟨_, rfl, brd_of_bown HO.out, ?_⟩
    exact (below_bytesWorld _ _).trans (HB.out.mono (below_bytesWorld _ _).size)
end Go.Proofs.Ytbmohenjphmlgaa

/- The walk of bytesOf: the bytes of an item, where it has at most so many levels and at most MaxBytes bytes. -/
namespace Go.Proofs.Ytbmohenjphmlgaa
open Go.RowKit
set_option maxRecDepth 100000

/-- Has it at most L levels and at most 1000 bytes? -/
def fits (t : Itm) (L : Nat) : Prop := Itm.deep t ≤ L ∧ (Itm.enc t).length ≤ 1000

def BytesOk (t : Itm) (L : Nat) (w : World) (e : Ending) (w' : World) : Prop :=
  Below w.heap.size w w' ∧ (fits t L → ∃ v, e = .returned (.tuple #[v, .bool true]) ∧ Brd w'.heap.size w' v (Itm.enc t)) ∧ (¬ fits t L → ∃ a n c, e = .returned (.tuple #[.slice a n c, .bool false]))

theorem bytesOk_no {t : Itm} {L : Nat} {w w' : World} (h : ¬ fits t L) (hb : Below w.heap.size w w') (a : Option Addr) (n c : Nat) : BytesOk t L w (.returned (.tuple #[.slice a n c, .bool false])) w' :=
  ⟨hb, fun hf => absurd hf h, fun _ => ⟨a, n, c, rfl⟩⟩

/-- The bytes of the first k items. -/
def encTo (t : Itm) (k : Nat) : List UInt8 := (t.items.take k).flatMap Itm.enc

theorem encTo_zero (t : Itm) : encTo t 0 = [] := by simp [encTo]

theorem encTo_succ (t : Itm) (k : Nat) (h : k < t.items.length) : encTo t (k + 1) = encTo t k ++ Itm.enc t.items[k] := by
  unfold encTo
  rw [List.take_succ_eq_append_getElem h, List.flatMap_append]
  simp

theorem encTo_all (t : Itm) (h : t.list = true) : Itm.enc t = Itm.headed 192 (encTo t t.items.length) := by
  rw [Itm.enc_eq, if_pos h]; simp [encTo]

theorem encTo_le (t : Itm) (k : Nat) (h : t.list = true) : (encTo t k).length < (Itm.enc t).length := by
  rw [Itm.enc_eq, if_pos h]
  have h1 := Itm.headed_len 192 (t.items.flatMap Itm.enc)
  have h2 : (encTo t k).length ≤ (t.items.flatMap Itm.enc).length := by
    have : t.items.flatMap Itm.enc = encTo t k ++ (t.items.drop k).flatMap Itm.enc := by
      unfold encTo
      rw [← List.flatMap_append, List.take_append_drop]
    rw [this]; simp
  omega

theorem encB_big (b : List UInt8) (h : 1000 < b.length) : 1000 < (Itm.encB b).length := by
  unfold Itm.encB
  split
  · exact h
  · have := Itm.headed_len 128 b; omega

set_option maxHeartbeats 800000 in
theorem bytesOf_leaf (t : Itm) (L : Nat) (w : World) (a : Option Addr) (cap : Nat) (hl : t.list = false) :
    Calls Try.prog 65 #[.agg #[.bool t.list, .string ⟨t.bytes.toArray⟩, .slice a t.items.length cap], .int .i64 L] w (BytesOk t L w) := by
  have he : Itm.enc t = Itm.encB t.bytes := by rw [Itm.enc_eq, hl]; rfl
  have hd : Itm.deep t = 0 := by rw [Itm.deep_eq, hl]; rfl
  have hsz : (⟨t.bytes.toArray⟩ : ByteArray).size = t.bytes.length := by show t.bytes.toArray.size = _; simp
  rw [hl]
  by_cases hbig : 1000 < t.bytes.length
  · have HB := hid (fun w => bytesOfBytes_big ⟨t.bytes.toArray⟩ w (by rw [hsz]; exact hbig))
    have HN : Hid (¬ fits t L) := by intro hf; have h1 := hf.2; rw [he] at h1; have := encB_big _ hbig; omega
    clear he hd hsz hl
    go_enter Try.func65, Try.ntmps65
    go_wp2_with fail
    refine (HB.out _).mono ?_
    rintro e w1 ⟨rfl, hbel⟩
    go_wp2_with fail
    go_ret2
    exact bytesOk_no HN.out (((Below.refl _ _).alloc (Nat.le_refl _) _).trans (hbel.mono (by simp))) _ _ _
  · have HB := hid (fun w => bytesOfBytes_any ⟨t.bytes.toArray⟩ w (by rw [hsz]; omega))
    simp only at HB
    rw [← he] at HB
    clear hsz hl he
    have HD := hid hd
    clear hd
    go_enter Try.func65, Try.ntmps65
    go_wp2_with fail
    refine (HB.out _).mono ?_
    rintro e w1 ⟨v, rfl, hbr, hbel⟩
    have HR := hid hbr
    obtain ⟨a1, c1, rfl⟩ := brd_shape hbr
    clear hbr
    go_wp2_with fail
    go_ret2
    have hb2 : Below w.heap.size w w1 := ((Below.refl _ _).alloc (Nat.le_refl _) _).trans (hbel.mono (by simp))
    by_cases hf : (Itm.enc t).length ≤ 1000
    · refine ⟨hb2, fun _ => ⟨_, ret2 rfl (by rw [decide_eq_true hf]; rfl), HR.out⟩, fun hn => absurd ⟨by rw [HD.out]; omega, hf⟩ hn⟩
    · refine ⟨hb2, fun hn => absurd hn.2 hf, fun _ => ⟨_, _, _, ret2 rfl (by rw [decide_eq_false hf]; rfl)⟩⟩

set_option maxHeartbeats 800000 in
theorem bytesOf_flat (t : Itm) (w : World) (a : Option Addr) (cap : Nat) (hl : t.list = true) :
    Calls Try.prog 65 #[.agg #[.bool t.list, .string ⟨t.bytes.toArray⟩, .slice a t.items.length cap], .int .i64 0] w (BytesOk t 0 w) := by
  have HN : Hid (¬ fits t 0) := by
    intro hf; have h1 := hf.1; rw [topTo_all t hl] at h1; omega
  rw [hl]
  clear hl
  go_enter Try.func65, Try.ntmps65
  go_wp2_with fail
  go_ret2
  exact bytesOk_no HN.out ((Below.refl _ _).alloc (Nat.le_refl _) _) _ _ _

theorem fits_kid {t : Itm} {L k : Nat} (hl : t.list = true) (hk : k < t.items.length) (h : fits t (L + 1)) : fits t.items[k] L := by
  have h1 := deep_kid t k hk hl
  have h2 := encTo_le t (k + 1) hl
  rw [encTo_succ t k hk] at h2
  have h3 := h.1
  have h4 := h.2
  rw [List.length_append] at h2
  exact ⟨by omega, by omega⟩

set_option maxHeartbeats 1600000 in
theorem bytesOf_list (n : Nat) (ih : ∀ (v : Value) (t : Itm) (w : World) (L : Nat), Rep w.heap.size w n v t → L ≤ 8 → Calls Try.prog 65 #[v, .int .i64 L] w (BytesOk t L w))
    (t : Itm) (L : Nat) (w : World) (a : Option Addr) (cap : Nat) (hl : t.list = true) (hm : t.items.length ≤ maxLen) (hL : L + 1 ≤ 8)
    (hkids : ∀ i (h : i < t.items.length), ∃ b off c0 c1 c2, a = some ⟨b, off, none⟩ ∧ b < w.heap.size ∧ w.cell? ⟨b, off + i * 3, none⟩ = some c0 ∧ w.cell? ⟨b, off + i * 3 + 1, none⟩ = some c1 ∧ w.cell? ⟨b, off + i * 3 + 2, none⟩ = some c2 ∧
        Rep w.heap.size w n (.agg #[c0, c1, c2]) t.items[i]) :
    Calls Try.prog 65 #[.agg #[.bool t.list, .string ⟨t.bytes.toArray⟩, .slice a t.items.length cap], .int .i64 ((L : Int) + 1)] w (BytesOk t (L + 1) w) := by
  have HK := hid hkids
  have IH := hid ih
  have HL := hid hl
  have HW := hid (fun (v : Value) (l : List UInt8) (w : World) h1 h2 => withHead_any 192 v l w (by omega) h1 h2)
  rw [hl]
  clear hkids ih hl
  unfold maxLen at hm
  have hne : ((L : Int) + 1 == 0) = false := by simp; omega
  go_enter Try.func65, Try.ntmps65
  go_wp2_with fail
  go_loopw [6, 24] (fun v i wr => ∃ k : Nat, k ≤ t.items.length ∧ i = .int .i64 k ∧ Hid (topTo t k ≤ L ∧ (encTo t k).length ≤ 1000 ∧ Bown wr w.heap.size v (encTo t k) ∧ Below w.heap.size w wr)) (fun _ i _ => t.items.length - (intOf i).toNat)
  case atStart => exact ⟨0, Nat.zero_le _, rfl, by rw [topTo_zero]; exact Nat.zero_le _, by rw [encTo_zero]; simp, by rw [encTo_zero]; exact bown_nil _ _, (Below.refl _ _).alloc (Nat.le_refl _) _⟩
  case round =>
    obtain ⟨k, hk, rfl, HH⟩ := hrel
    by_cases hlt : k < t.items.length
    · obtain ⟨b, off, c0, c1, c2, rfl, hbl, e0, e1, e2, hr⟩ := HK.out k hlt
      obtain ⟨a2, cap2, rfl, rfl, rfl⟩ := rep_shape hr
      obtain ⟨q1, q2, q3, q4⟩ := HH.out
      have f0 := (q4.cell (p := ⟨b, off + k * 3, none⟩) hbl).trans e0
      have f1 := (q4.cell (p := ⟨b, off + k * 3 + 1, none⟩) hbl).trans e1
      have f2 := (q4.cell (p := ⟨b, off + k * 3 + 2, none⟩) hbl).trans e2
      have HR := hid hr
      have HT := hid (topTo_succ t k hlt)
      have HE := hid (encTo_succ t k hlt)
      obtain ⟨a6, cap6, rfl⟩ := bown_shape q3
      clear e0 e1 e2 hr q1 q2 q3 q4
      go_wp2_with fail
      have hbw := HH.out.2.2.2.alloc HH.out.2.2.2.size (Obj.cells #[Value.bool t.items[k].list, Value.string { data := t.items[k].bytes.toArray }, Value.slice a2 t.items[k].items.length cap2] 24)
      have HBW := hid hbw
      clear hbw
      refine (IH.out _ t.items[k] _ L (rep_in HR.out HBW.out) (by omega)).mono ?_
      rintro e w1 ⟨hbel, hyes, hno⟩
      have HB1 := hid (HBW.out.trans (hbel.mono HBW.out.size))
      by_cases hf : fits t.items[k] L
      · obtain ⟨v1, rfl, hbr⟩ := hyes hf
        obtain ⟨a7, cap7, rfl⟩ := brd_shape hbr
        have HBR := hid hbr
        have HF := hid hf
        have HO : Hid (Bown w1 w.heap.size (.slice a6 (encTo t k).length cap6) (encTo t k)) := by
          refine bown_frame HH.out.2.2.1 ?_
          intro g hg
          have := (bown_lt HH.out.2.2.1 g hg).2
          rw [hbel.block g (by simp; omega)]
          exact Below.heap_alloc _ _ _ this
        clear hyes hno hbel hbr hf
        have hel : (encTo t k).length ≤ 1000 := HH.out.2.1
        have hfl : (Itm.enc t.items[k]).length ≤ 1000 := HF.out.2
        by_cases hbig : 1000 < (encTo t k).length + (Itm.enc t.items[k]).length
        · have hbig' : (1000 : Int) < ((encTo t k).length : Int) + ((Itm.enc t.items[k]).length : Int) := by omega
          go_wp2_with fail
          go_ret2
          refine bytesOk_no ?_ HB1.out _ _ _
          intro hff
          have h2 := encTo_le t (k + 1) HL.out
          rw [HE.out, List.length_append] at h2
          have := hff.2
          omega
        · have hbig' : ¬ (1000 : Int) < ((encTo t k).length : Int) + ((Itm.enc t.items[k]).length : Int) := by omega
          have hlen : (encTo t k).length + (Itm.enc t.items[k]).length ≤ 1000000000 := by omega
          have hbase := HB1.out.size
          go_wp2_with (at_builtin; refine wpList_append_bytes _ rfl (.tmp 45) (.tmp 46) rfl _ _ (.slice a6 (encTo t k).length cap6) _ _ _ rfl rfl HO.out HBR.out hlen hbase ?_; intro v' w' ho hg hn)
          go_roundw
          case rel =>
            refine ⟨k + 1, by omega, by go_num, ?_, ?_, ?_, ?_⟩
            · have h1 := HH.out.1
              have h2 := HF.out.1
              rw [HT.out]; omega
            · rw [HE.out, List.length_append]; omega
            · rw [HE.out]; exact ho
            · exact HB1.out.grown hg hbase (fun g hgg => (bown_lt HO.out g hgg).1)
          case measure => simp [intOf]; omega
      · obtain ⟨a7, n7, c7, rfl⟩ := hno hf
        have HF := hid hf
        clear hyes hno hbel hf
        go_wp2_with fail
        go_ret2
        exact bytesOk_no (fun hff => HF.out (fits_kid HL.out hlt hff)) HB1.out _ _ _
    · have HKE := hid (show k = t.items.length by omega)
      obtain ⟨q1, q2, q3, q4⟩ := HH.out
      have HBR := hid (brd_of_bown q3)
      have HQ := hid q4
      have HQ1 := hid q1
      clear q1 q2 q3 q4
      go_wp2_with fail
      refine (HW.out _ _ _ HBR.out (by have := HH.out.2.1; omega)).mono ?_
      rintro e w1 ⟨v1, rfl, ho, hbel⟩
      obtain ⟨a7, cap7, rfl⟩ := bown_shape ho
      have HO := hid ho
      have HB1 := hid (HQ.out.trans (hbel.mono HQ.out.size))
      clear ho hbel
      have HX : Hid (Itm.headed 192 (encTo t k) = Itm.enc t) := by rw [HKE.out]; exact (encTo_all t HL.out).symm
      go_wp2_with fail
      go_ret2
      have hdp : Itm.deep t ≤ L + 1 := by rw [topTo_all t HL.out, ← HKE.out]; have := HQ1.out; omega
      by_cases hf : (Itm.enc t).length ≤ 1000
      · refine ⟨HB1.out, fun _ => ⟨_, ret2 rfl (by rw [HX.out, decide_eq_true hf]; rfl), ?_⟩, fun hn => absurd ⟨hdp, hf⟩ hn⟩
        have := brd_of_bown HO.out
        rw [HX.out] at this ⊢
        exact this
      · exact ⟨HB1.out, fun hn => absurd hn.2 hf, fun _ => ⟨_, _, _, ret2 rfl (by rw [HX.out, decide_eq_false hf]; rfl)⟩⟩

theorem bytesOf_any (n : Nat) : ∀ (v : Value) (t : Itm) (w : World) (L : Nat), Rep w.heap.size w n v t → L ≤ 8 → Calls Try.prog 65 #[v, .int .i64 L] w (BytesOk t L w) := by
  induction n with
  | zero => intro v t w L h; exact h.elim
  | succ n ih =>
    intro v t w L hrep hL
    obtain ⟨a, cap, rfl, hm, hkids⟩ := hrep
    by_cases hl : t.list
    · cases L with
      | zero => exact bytesOf_flat t w a cap hl
      | succ L =>
        rw [show (((L + 1 : Nat) : Int)) = (L : Int) + 1 by omega]
        exact bytesOf_list n ih t L w a cap hl hm hL hkids
    · exact bytesOf_leaf t L w a cap (by simpa using hl)
end Go.Proofs.Ytbmohenjphmlgaa

/- The walks of Encode: the bytes of an item, or the error. -/
namespace Go.Proofs.Ytbmohenjphmlgaa
open Go.RowKit
set_option maxRecDepth 100000

namespace Itm
/-- What Encode answers: the bytes, and the error's number. -/
def encA (t : Itm) : List UInt8 × Nat := if pure t then (if deep t ≤ 8 ∧ (enc t).length ≤ 1000 then (enc t, 0) else ([], 2)) else ([], 1)

theorem encA_impure {t : Itm} (h : pure t = false) : encA t = ([], 1) := by unfold encA; rw [h]; rfl
theorem encA_big {t : Itm} (h : pure t = true) (h2 : ¬ (deep t ≤ 8 ∧ (enc t).length ≤ 1000)) : encA t = ([], 2) := by unfold encA; rw [if_pos h, if_neg h2]
theorem encA_ok {t : Itm} (h : pure t = true) (h2 : deep t ≤ 8 ∧ (enc t).length ≤ 1000) : encA t = (enc t, 0) := by unfold encA; rw [if_pos h, if_pos h2]
end Itm

set_option maxHeartbeats 800000 in
theorem itemsEncode_any (n : Nat) (t : Itm) (w : World) (v : Value) (hc : Itm.cnt t ≤ 1000000000) (hrep : Rep w.heap.size w (n + 1) v t) :
    Calls Try.prog 41 #[v] w fun e w' => e = .returned (.tuple #[.string ⟨(Itm.encA t).1.toArray⟩, .int .i64 ((Itm.encA t).2 : Nat)]) ∧ Below w.heap.size w w' := by
  obtain ⟨a, cap, rfl, _⟩ := id hrep
  have HR := hid hrep
  have HW := hid (fun w h => well_any n t w a cap hc h)
  have HBO := hid (fun w h => bytesOf_any (n + 1) (.agg #[.bool t.list, .string ⟨t.bytes.toArray⟩, .slice a t.items.length cap]) t w 8 h (by omega))
  clear hrep
  cases hp : Itm.pure t with
  | false =>
    rw [Itm.encA_impure hp]
    rw [hp] at HW
    clear hp HBO
    go_enter Try.func41, Try.ntmps41
    go_wp2_with fail
    refine (HW.out _ (rep_in HR.out ((Below.refl _ _).alloc (Nat.le_refl _) _))).mono ?_
    rintro e w1 ⟨rfl, hbel⟩
    go_wp2_with fail
    go_ret2
    exact ⟨rfl, ((Below.refl _ _).alloc (Nat.le_refl _) _).trans (hbel.mono (by simp))⟩
  | true =>
    have HP := hid hp
    rw [hp] at HW
    clear hp
    go_enter Try.func41, Try.ntmps41
    go_wp2_with fail
    refine (HW.out _ (rep_in HR.out ((Below.refl _ _).alloc (Nat.le_refl _) _))).mono ?_
    rintro e w1 ⟨rfl, hbel⟩
    have HB1 : Hid (Below w.heap.size w w1) := ((Below.refl _ _).alloc (Nat.le_refl _) _).trans (hbel.mono (by simp))
    obtain ⟨hcc, hff⟩ := bcell hbel
    go_wp2_with fail
    refine (HBO.out _ (rep_in HR.out HB1.out)).mono ?_
    rintro e w2 ⟨hbel2, hyes, hno⟩
    have HB2 := hid (HB1.out.trans (hbel2.mono HB1.out.size))
    by_cases hf : fits t 8
    · obtain ⟨v2, rfl, hbr⟩ := hyes hf
      have HBR := hid hbr
      have hcv := run_bytes_string hbr
      obtain ⟨a2, c2, rfl⟩ := brd_shape hbr
      have HE := hid (Itm.encA_ok HP.out hf)
      clear hyes hno hbel2 hbr hf hbel hcc hff
      go_wp2_with fail
      go_ret2
      exact ⟨by rw [HE.out]; rfl, HB2.out⟩
    · obtain ⟨a2, n2, c2, rfl⟩ := hno hf
      have HE := hid (Itm.encA_big HP.out hf)
      clear hyes hno hbel2 hf hbel hcc hff
      go_wp2_with fail
      go_ret2
      exact ⟨by rw [HE.out]; rfl, HB2.out⟩

set_option maxHeartbeats 800000 in
theorem encode_any (n : Nat) (t : Itm) (w : World) (v : Value) (hc : Itm.cnt t ≤ 1000000000) (hrep : Rep w.heap.size w (n + 1) v t) :
    Calls Try.prog 13 #[v] w fun e w' => e = .returned (.tuple #[.string ⟨(Itm.encA t).1.toArray⟩, .int .i64 ((Itm.encA t).2 : Nat)]) ∧ Below w.heap.size w w' := by
  obtain ⟨a, cap, rfl, _⟩ := id hrep
  have HR := hid hrep
  have HW := hid (fun w h => itemsEncode_any n t w (.agg #[.bool t.list, .string ⟨t.bytes.toArray⟩, .slice a t.items.length cap]) hc h)
  clear hrep
  generalize Itm.encA t = E at *
  go_enter Try.func13, Try.ntmps13
  go_wp2_with fail
  refine (HW.out _ (rep_in HR.out ((Below.refl _ _).alloc (Nat.le_refl _) _))).mono ?_
  rintro e w1 ⟨rfl, hbel⟩
  go_wp2_with fail
  go_ret2
  exact ⟨rfl, ((Below.refl _ _).alloc (Nat.le_refl _) _).trans (hbel.mono (by simp))⟩
end Go.Proofs.Ytbmohenjphmlgaa

/- The walks of the document's own Bytes, headed, high: an item's bytes as 'enc' says. -/
namespace Go.Proofs.Ytbmohenjphmlgaa
open Go.RowKit
set_option maxRecDepth 100000

theorem u8_mod (n : Nat) : (((UInt8.ofNat (n % 256)).toNat : Nat) : Int) = (n : Int) % 256 := by simp

/-- A slice of one byte, made into a string. -/
theorem run_one_byte (w : World) (z : Int) (c : UInt8) (h : ((c.toNat : Nat) : Int) = z) : (convert 76 9 (.slice (some ⟨w.heap.size, 0, none⟩) 1 1)).run Try.prog (w.alloc (.cells #[.int .u8 z] 5)) = .ok (.string ⟨#[c]⟩) (w.alloc (.cells #[.int .u8 z] 5)) := by
  subst h
  have := run_bytes_string (brd_of_bown (bown_one w w.heap.size c (Nat.le_refl _)))
  exact this

theorem u8_tmod (n : Nat) : (((UInt8.ofNat (n % 256)).toNat : Nat) : Int) = IntKind.u8.wrap ((n : Int).tmod 256) := by
  have h1 : (n : Int).tmod 256 = (n : Int) % 256 := Int.tmod_eq_emod_of_nonneg (by omega)
  rw [h1, u8_mod]
  simp [IntKind.wrap, IntKind.bits, IntKind.signed]

theorem run_one_later (w w1 : World) (z : Int) (c : UInt8) (h : ((c.toNat : Nat) : Int) = z) (hb : Below (w.alloc (.cells #[.int .u8 z] 5)).drew.heap.size (w.alloc (.cells #[.int .u8 z] 5)).drew w1) :
    (convert 76 9 (.slice (some ⟨w.heap.size, 0, none⟩) 1 1)).run Try.prog w1 = .ok (.string ⟨#[c]⟩) w1 := by
  subst h
  have h1 := brd_of_bown (bown_one w w.heap.size c (Nat.le_refl _))
  exact run_bytes_string (brd_in h1 (below_undrew hb))

set_option maxHeartbeats 800000 in
theorem high_any (n : Nat) : ∀ (w : World), n ≤ 1000000000 → Calls Try.prog 89 #[.int .i64 n] w fun e w' => e = .returned (.string ⟨(Itm.be n).toArray⟩) ∧ Below w.heap.size w w' := by
  induction n using Nat.strongRecOn with
  | _ n ih =>
    intro w hn
    by_cases h : n < 256
    · have HB := hid (Itm.be_small h)
      have h' : (n : Int) < 256 := by omega
      have hcv := fun w => run_one_byte w (n : Int) (UInt8.ofNat n) (by simp; omega)
      go_enter Try.func89, Try.ntmps89
      go_wp2_with fail
      go_ret
      exact ⟨by rw [HB.out]; rfl, (Below.refl _ _).alloc (Nat.le_refl _) _⟩
    · have HB := hid (Itm.be_large h)
      have h' : ¬ (n : Int) < 256 := by omega
      have hcv := fun w => run_one_byte w (IntKind.u8.wrap ((n : Int).tmod 256)) (UInt8.ofNat (n % 256)) (u8_tmod n)
      have hcv2 := fun w w1 hb => run_one_later w w1 (IntKind.u8.wrap ((n : Int).tmod 256)) (UInt8.ofNat (n % 256)) (u8_tmod n) hb
      have HCV2 := hid hcv2
      have hcv4 := fun w => run_one_later w _ (IntKind.u8.wrap ((n : Int).tmod 256)) (UInt8.ofNat (n % 256)) (u8_tmod n) (Below.refl _ _)
      clear hcv2
      have HC : Hid (∀ w, Calls Try.prog 89 #[.int .i64 (IntKind.i64.wrap ((n : Int) / 256))] w fun e w' => e = .returned (.string ⟨(Itm.be (n / 256)).toArray⟩) ∧ Below w.heap.size w w') := fun w => by
        have := ih (n / 256) (by omega) w (by omega)
        rwa [show ((n / 256 : Nat) : Int) = IntKind.i64.wrap ((n : Int) / 256) by rw [show IntKind.i64.wrap ((n : Int) / 256) = (n : Int) / 256 from wrap_small _ (by omega) (by omega)]; omega] at this
      have hbl := Itm.be_len_le (n / 256) 8 (by omega) (by omega)
      generalize Itm.be (n / 256) = bl at *
      clear ih
      go_enter Try.func89, Try.ntmps89
      go_wp2_with fail
      go_region_with (go_at_call 89; refine (HC.out _).mono ?_; rintro e w1 ⟨rfl, hbel⟩; try have hcv3 := HCV2.out _ _ hbel)
      all_goals
        go_wp2_with fail
        go_ret
        refine ⟨?_, ?_⟩
        · rw [HB.out]
          exact congrArg (fun x => Ending.returned (.string x)) (by apply ByteArray.ext; simp)
        · first
            | exact (below_undrew hbel).alloc (below_undrew hbel).size _
            | exact ((Below.refl _ _).alloc (Nat.le_refl _) _).trans ((below_undrew hbel).mono (by simp))

theorem ba_append (a b : List UInt8) : (({ data := a.toArray } : ByteArray) ++ { data := b.toArray }) = ⟨(a ++ b).toArray⟩ := by apply ByteArray.ext; simp

set_option maxHeartbeats 800000 in
theorem headedR_any (l : List UInt8) (base : Nat) (w : World) (hb : base + 63 < 256) (hl : l.length ≤ 1000000000) :
    Calls Try.prog 66 #[.string ⟨l.toArray⟩, .int .i64 base] w fun e w' => e = .returned (.string ⟨(Itm.headed base l).toArray⟩) ∧ Below w.heap.size w w' := by
  by_cases h : l.length ≤ 55
  · have h' : (l.length : Int) ≤ 55 := by omega
    have HB : Hid (Itm.headed base l = UInt8.ofNat (base + l.length) :: l) := by unfold Itm.headed Itm.head; rw [if_pos h]; rfl
    have hcv := fun w => run_one_byte w ((base : Int) + (l.length : Int)) (UInt8.ofNat (base + l.length)) (u8_add base l.length (by omega))
    go_enter Try.func66, Try.ntmps66
    go_wp2_with fail
    go_ret
    refine ⟨?_, (Below.refl _ _).alloc (Nat.le_refl _) _⟩
    rw [HB.out]
    exact congrArg (fun x => Ending.returned (.string x)) (by apply ByteArray.ext; simp)
  · have h' : ¬ (l.length : Int) ≤ 55 := by omega
    have HB : Hid (Itm.headed base l = UInt8.ofNat (base + 55 + (Itm.be l.length).length) :: (Itm.be l.length ++ l)) := by unfold Itm.headed Itm.head; rw [if_neg h]; rfl
    have hbl := Itm.be_len_le l.length 8 (by omega) (by omega)
    have HC := hid (fun w => high_any l.length w hl)
    have hcv := fun w => run_one_byte w ((base : Int) + 55 + ((Itm.be l.length).length : Int)) (UInt8.ofNat (base + 55 + (Itm.be l.length).length)) (u8_add (base + 55) (Itm.be l.length).length (by omega))
    generalize Itm.be l.length = bl at *
    go_enter Try.func66, Try.ntmps66
    go_wp2_with fail
    refine (HC.out _).mono ?_
    rintro e w1 ⟨rfl, hbel⟩
    go_wp2_with fail
    go_ret
    refine ⟨?_, hbel.alloc hbel.size _⟩
    rw [HB.out]
    exact congrArg (fun x => Ending.returned (.string x)) (by apply ByteArray.ext; simp)

namespace Itm
/-- A measure of an item: its bytes, and ten for each item in it. -/
def wt : Itm → Nat
  | ⟨_, b, is⟩ => b.length + 10 + (is.attach.map fun ⟨x, _⟩ => wt x).sum

theorem wt_eq (t : Itm) : wt t = t.bytes.length + 10 + (t.items.map wt).sum := by
  obtain ⟨l, b, is⟩ := t
  simp [wt]

theorem mem_wt {x : Itm} {l : List Itm} (h : x ∈ l) : wt x ≤ (l.map wt).sum := by
  induction l with
  | nil => simp at h
  | cons y l ih =>
    simp only [List.map_cons, List.sum_cons]
    rcases List.mem_cons.1 h with rfl | h
    · omega
    · have := ih h; omega

theorem kid_wt (t : Itm) (k : Nat) (h : k < t.items.length) : wt t.items[k] < wt t := by
  have := mem_wt (List.getElem_mem h)
  rw [wt_eq t]; omega

theorem cnt_le_wt (t : Itm) : cnt t ≤ wt t := by
  refine ind (p := fun t => cnt t ≤ wt t) ?_ t
  intro t ih
  rw [cnt_eq, wt_eq]
  have : ∀ l : List Itm, (∀ x ∈ l, cnt x ≤ wt x) → (l.map cnt).sum ≤ (l.map wt).sum := by
    intro l
    induction l with
    | nil => intro _; simp
    | cons x l ihl =>
      intro hx
      have a1 := hx x (by simp)
      have a2 := ihl (fun y hy => hx y (by simp [hy]))
      simp only [List.map_cons, List.sum_cons]; omega
  have := this t.items ih
  omega

theorem enc_le_wt (t : Itm) : wt t ≤ 1000000000 → (enc t).length ≤ wt t := by
  refine ind (p := fun t => wt t ≤ 1000000000 → (enc t).length ≤ wt t) ?_ t
  intro t ih hw
  rw [wt_eq] at hw ⊢
  rw [enc_eq]
  by_cases hl : t.list
  · rw [if_pos hl]
    have : ∀ l : List Itm, (l.map wt).sum ≤ 1000000000 → (∀ x ∈ l, wt x ≤ 1000000000 → (enc x).length ≤ wt x) → (l.flatMap enc).length ≤ (l.map wt).sum := by
      intro l
      induction l with
      | nil => intro _ _; simp
      | cons x l ihl =>
        intro hs hx
        simp only [List.map_cons, List.sum_cons] at hs
        have a1 := hx x (by simp) (by omega)
        have a2 := ihl (by omega) (fun y hy => hx y (by simp [hy]))
        simp only [List.map_cons, List.sum_cons, List.flatMap_cons, List.length_append]; omega
    have h1 := this t.items (by omega) ih
    unfold headed
    have h2 := head_len 192 (t.items.flatMap enc).length (by omega)
    rw [List.length_append]; omega
  · rw [if_neg hl]
    unfold encB
    split
    · omega
    · unfold headed
      have h2 := head_len 128 t.bytes.length (by omega)
      rw [List.length_append]; omega
end Itm

theorem stands_list (l : List UInt8) (h : l.length = 1) : Itm.stands l = decide ((l.getD 0 0).toNat < 128) := by
  unfold Itm.stands; rw [h]; simp

set_option maxHeartbeats 800000 in
theorem bytesR_leaf (t : Itm) (w : World) (a : Option Addr) (cap : Nat) (hl : t.list = false) (hw : t.bytes.length ≤ 1000000000) :
    Calls Try.prog 44 #[.agg #[.bool t.list, .string ⟨t.bytes.toArray⟩, .slice a t.items.length cap]] w fun e w' => e = .returned (.string ⟨(Itm.enc t).toArray⟩) ∧ Below w.heap.size w w' := by
  have he : Itm.enc t = Itm.encB t.bytes := by rw [Itm.enc_eq, hl]; rfl
  rw [hl, he]
  clear he hl
  unfold Itm.encB
  generalize t.items.length = m
  have HC := hid (fun w => headedR_any t.bytes 128 w (by omega) hw)
  obtain ⟨s, hs⟩ : ∃ s : ByteArray, s = ⟨t.bytes.toArray⟩ := ⟨_, rfl⟩
  have hl : t.bytes = s.data.toList := by rw [hs]
  rw [← hs] at HC ⊢
  rw [hl] at HC ⊢
  clear hl hs hw
  by_cases h1 : s.size = 1
  · have hlt : 0 < s.size := by omega
    have hb : ((s.size : Int) == 1) = true := by simp; omega
    have hst := stands_eq s
    rw [ba_getD s hlt, decide_eq_true h1, Bool.true_and] at hst
    clear h1
    by_cases h2 : s[0].toNat < 128
    · rw [decide_eq_true h2] at hst
      rw [if_pos hst]
      have h2' : (s[0].toNat : Int) < 128 := by omega
      clear hst
      go_enter Try.func44, Try.ntmps44
      go_wp2_with fail
      go_ret
      exact ⟨rfl, (Below.refl _ _).alloc (Nat.le_refl _) _⟩
    · rw [decide_eq_false h2] at hst
      rw [if_neg (by rw [hst]; simp)]
      have h2' : ¬ (s[0].toNat : Int) < 128 := by omega
      clear hst
      go_enter Try.func44, Try.ntmps44
      go_wp2_with fail
      refine (HC.out _).mono ?_
      rintro e w1 ⟨rfl, hbel⟩
      go_wp2_with fail
      go_ret
      exact ⟨rfl, ((Below.refl _ _).alloc (Nat.le_refl _) _).trans (hbel.mono (by simp))⟩
  · have hst : Itm.stands s.data.toList = false := by rw [stands_eq]; simp [h1]
    rw [if_neg (by rw [hst]; simp)]
    have h1' : ((s.size : Int) == 1) = false := by simp; omega
    clear hst
    go_enter Try.func44, Try.ntmps44
    go_wp2_with fail
    refine (HC.out _).mono ?_
    rintro e w1 ⟨rfl, hbel⟩
    go_wp2_with fail
    go_ret
    exact ⟨rfl, ((Below.refl _ _).alloc (Nat.le_refl _) _).trans (hbel.mono (by simp))⟩

/-- The box of a parameter, kept while nothing below it is written. -/
theorem box_third {w wr : World} {x y z : Value} (hb : Below (w.alloc (.cells #[x, y, z] 24)).heap.size (w.alloc (.cells #[x, y, z] 24)) wr) :
    wr.cell? ⟨w.heap.size, 0, none⟩ = some x ∧ wr.cell? ⟨w.heap.size, 1, none⟩ = some y ∧ wr.cell? ⟨w.heap.size, 2, none⟩ = some z := by
  have h := old_block hb
  exact ⟨by rw [cell_of_row _ _ 0 _ _ _ h]; rfl, by rw [cell_of_row _ _ 1 _ _ _ h]; rfl, by rw [cell_of_row _ _ 2 _ _ _ h]; rfl⟩

theorem below_of_box {w wr : World} {O : Obj} (hb : Below (w.alloc O).heap.size (w.alloc O) wr) : Below w.heap.size w wr :=
  ((Below.refl _ _).alloc (Nat.le_refl _) _).trans (hb.mono (by simp))

set_option maxHeartbeats 800000 in
theorem bytesR_any (n : Nat) : ∀ (v : Value) (t : Itm) (w : World), Rep w.heap.size w n v t → Itm.wt t ≤ 1000000000 →
    Calls Try.prog 44 #[v] w fun e w' => e = .returned (.string ⟨(Itm.enc t).toArray⟩) ∧ Below w.heap.size w w' := by
  induction n with
  | zero => intro v t w h; exact h.elim
  | succ n ih =>
    intro v t w hrep hwt
    obtain ⟨a, cap, rfl, hm, hkids⟩ := hrep
    by_cases hl : t.list
    · have hl' : t.list = true := hl
      have HK := hid hkids
      have IH := hid ih
      have HWT := hid hwt
      have HL := hid hl'
      have HW := hid (fun (l : List UInt8) (w : World) h => headedR_any l 192 w (by omega) h)
      clear hkids ih hwt hl
      unfold maxLen at hm
      rw [hl']
      clear hl'
      go_enter Try.func44, Try.ntmps44
      go_wp2_with fail
      go_loopw [3, 4] (fun s i wr => ∃ k : Nat, k ≤ t.items.length ∧ i = .int .i64 k ∧ s = .string ⟨(encTo t k).toArray⟩ ∧ Hid (Below (w.alloc (.cells #[.bool true, .string ⟨t.bytes.toArray⟩, .slice a t.items.length cap] 24)).heap.size (w.alloc (.cells #[.bool true, .string ⟨t.bytes.toArray⟩, .slice a t.items.length cap] 24)) wr)) (fun _ i _ => t.items.length - (intOf i).toNat)
      case atStart => exact ⟨0, Nat.zero_le _, rfl, by rw [encTo_zero], Below.refl _ _⟩
      case round =>
        obtain ⟨k, hk, rfl, rfl, HB⟩ := hrel
        obtain ⟨x0, x1, x2⟩ := box_third HB.out
        have HB0 := hid (below_of_box HB.out)
        by_cases hlt : k < t.items.length
        · obtain ⟨b, off, c0, c1, c2, rfl, hbl, e0, e1, e2, hr⟩ := HK.out k hlt
          obtain ⟨a2, cap2, rfl, rfl, rfl⟩ := rep_shape hr
          have f0 := (HB0.out.cell (p := ⟨b, off + k * 3, none⟩) hbl).trans e0
          have f1 := (HB0.out.cell (p := ⟨b, off + k * 3 + 1, none⟩) hbl).trans e1
          have f2 := (HB0.out.cell (p := ⟨b, off + k * 3 + 2, none⟩) hbl).trans e2
          have HR := hid hr
          have HE := hid (encTo_succ t k hlt)
          have hkw : Itm.wt t.items[k] ≤ 1000000000 := by have := Itm.kid_wt t k hlt; have := HWT.out; omega
          have hsum : (encTo t k).length + (Itm.enc t.items[k]).length ≤ 1000000000 := by
            have h1 := encTo_le t (k + 1) HL.out
            rw [HE.out, List.length_append] at h1
            have h2 := Itm.enc_le_wt t HWT.out
            have h3 := HWT.out
            omega
          clear e0 e1 e2 hr
          go_wp2_with fail
          refine (IH.out _ t.items[k] _ (rep_in HR.out HB0.out) hkw).mono ?_
          rintro e w1 ⟨rfl, hbel⟩
          have HB1 := hid (HB.out.trans (hbel.mono HB.out.size))
          clear hbel
          go_wp2_with fail
          refine ⟨⟨k + 1, by omega, by go_num, by rw [HE.out, ba_append], HB1.out⟩, by simp [intOf]; omega⟩
        · have HKE := hid (show k = t.items.length by omega)
          have hel : (encTo t k).length ≤ 1000000000 := by
            have h1 := encTo_le t k HL.out
            have h2 := Itm.enc_le_wt t HWT.out
            have h3 := HWT.out
            omega
          go_wp2_with fail
          refine (HW.out _ _ hel).mono ?_
          rintro e w1 ⟨rfl, hbel⟩
          go_wp2_with fail
          go_ret
          refine ⟨?_, HB0.out.trans (hbel.mono HB0.out.size)⟩
          rw [encTo_all t HL.out, ← HKE.out]
          rfl
    · exact bytesR_leaf t w a cap (by simpa using hl) (by rw [Itm.wt_eq] at hwt; omega)
end Go.Proofs.Ytbmohenjphmlgaa
