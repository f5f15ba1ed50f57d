/- The walks of highestFirst, head, withHead, bytesOfBytes: the bytes that stand ahead of a body. -/
import Derived.Test.YtbmohenjphmlgaaBytes
namespace Go.Proofs.Ytbmohenjphmlgaa
open Go.RowKit
set_option maxRecDepth 100000
namespace Itm
/-- The bytes of a number, none for 0. -/
def beZ (n : Nat) : List UInt8 := if n = 0 then [] else be n

theorem beZ_step (n : Nat) (h : 0 < n) : beZ n = beZ (n / 256) ++ [UInt8.ofNat (n % 256)] := by
  unfold beZ
  rw [if_neg (by omega)]
  by_cases h2 : n < 256
  · rw [be_small h2, if_pos (by omega), Nat.mod_eq_of_lt h2]
    rfl
  · rw [be_large h2, if_neg (by omega)]

theorem head_len (base n : Nat) (h : n ≤ 1000000000) : (head base n).length ≤ 9 := by
  unfold head
  split
  · simp
  · have := be_len_le n 8 (by omega) (by omega)
    simp; omega
end Itm

theorem ret2 {a b a' b' : Value} (h1 : a = a') (h2 : b = b') : Ending.returned (.tuple #[a, b]) = .returned (.tuple #[a', b']) := by
  subst h1 h2; rfl

theorem below_row {wr w w' : World} {O : Obj} (hb : Below w.heap.size w wr) (hg : (wr.alloc O).grownBy w' (some wr.heap.size)) : Below w.heap.size w w' := by
  have := hb.size
  exact (hb.alloc hb.size O).grown hg (by simp; omega) (fun k hk => by cases hk; exact hb.size)

set_option maxHeartbeats 400000 in
theorem highest_any (n : Nat) (w : World) (hn : n ≤ 1000000000) :
    Calls Try.prog 125 #[.int .i64 n] w fun e w' => ∃ v, e = .returned v ∧ Bown w' w.heap.size v (Itm.beZ n) ∧ Below w.heap.size w w' := by
  go_enter Try.func125, Try.ntmps125
  go_wp2_with fail
  go_loopw [0, 3] (fun a v wr => ∃ (m : Nat) (l : List UInt8), a = .int .i64 m ∧ m ≤ n ∧ Hid (Itm.beZ n = Itm.beZ m ++ l ∧ l.length + m ≤ 1000000000 ∧ Bown wr w.heap.size v l ∧ Below w.heap.size w wr)) (fun a _ _ => (intOf a).toNat)
  case atStart => exact ⟨n, [], rfl, Nat.le_refl _, by simp, by simpa using hn, bown_nil _ _, Below.refl _ _⟩
  case round =>
    obtain ⟨m, l, rfl, hm, HH⟩ := hrel
    by_cases h0 : 0 < m
    · have h0' : (0 : Int) < (m : Int) := by omega
      obtain ⟨q1, q2, q3, q4⟩ := HH.out
      have H1 : Hid (Bown (wr.alloc (.cells #[.int .u8 ((m : Int) % 256)] 5)) w.heap.size (.slice (some ⟨wr.heap.size, 0, none⟩) 1 1) [UInt8.ofNat (m % 256)]) := by
        have h := bown_one wr w.heap.size (UInt8.ofNat (m % 256)) q4.size
        have e : (((UInt8.ofNat (m % 256)).toNat : Nat) : Int) = (m : Int) % 256 := by simp
        rw [e] at h
        exact h
      have H2 := hid (brd_in (brd_of_bown q3) ((Below.refl _ _).alloc (Nat.le_refl _) (.cells #[.int .u8 ((m : Int) % 256)] 5)))
      have hlen : [UInt8.ofNat (m % 256)].length + l.length ≤ 1000000000 := by simp; omega
      have hbase : w.heap.size ≤ (wr.alloc (.cells #[.int .u8 ((m : Int) % 256)] 5)).heap.size := by have := q4.size; simp; omega
      clear q1 q2 q3 q4
      go_wp2_with (at_builtin; refine wpList_append_bytes _ rfl (.tmp 10) (.tmp 11) rfl _ _ (.slice (some ⟨wr.heap.size, 0, none⟩) 1 1) _ _ _ rfl rfl H1.out H2.out hlen hbase ?_; intro v' w' ho hg hn)
      obtain ⟨q1, q2, q3, q4⟩ := HH.out
      refine ⟨⟨m / 256, UInt8.ofNat (m % 256) :: l, congrArg (Value.int .i64) (by omega), by omega, ?_, ?_, ho, below_row q4 hg⟩, by simp [intOf]; omega⟩
      · rw [q1, Itm.beZ_step m h0]; simp
      · simp; omega
    · have h0' : ¬ (0 : Int) < (m : Int) := by omega
      go_wp2_with fail
      go_ret
      obtain ⟨q1, q2, q3, q4⟩ := HH.out
      refine ⟨_, rfl, ?_, q4⟩
      rw [q1]
      have : m = 0 := by omega
      subst this
      exact q3

theorem u8_add (base n : Nat) (h : base + n < 256) : ((UInt8.ofNat (base + n)).toNat : Int) = (base : Int) + (n : Int) := by
  simp; omega

set_option maxHeartbeats 400000 in
theorem head_short (base n : Nat) (w : World) (hb : base + 63 < 256) (hn : n ≤ 55) :
    Calls Try.prog 109 #[.int .u8 base, .int .i64 n] w fun e w' => ∃ v, e = .returned v ∧ Bown w' w.heap.size v (Itm.head base n) ∧ Below w.heap.size w w' := by
  have hh : Itm.head base n = [UInt8.ofNat (base + n)] := by unfold Itm.head; rw [if_pos hn]
  have H := hid (bown_one w w.heap.size (UInt8.ofNat (base + n)) (Nat.le_refl _))
  have HU := hid (u8_add base n (by omega))
  rw [hh]
  clear hh
  go_enter Try.func109, Try.ntmps109
  go_wp2_with fail
  go_ret
  refine ⟨_, rfl, ?_, (Below.refl _ _).alloc (Nat.le_refl _) _⟩
  have := H.out
  rw [HU.out] at this
  simpa using this

set_option maxHeartbeats 400000 in
theorem head_long (base n : Nat) (w : World) (hb : base + 63 < 256) (hn : 55 < n) (hn2 : n ≤ 1000000000) :
    Calls Try.prog 109 #[.int .u8 base, .int .i64 n] w fun e w' => ∃ v, e = .returned v ∧ Bown w' w.heap.size v (Itm.head base n) ∧ Below w.heap.size w w' := by
  have hz : Itm.beZ n = Itm.be n := by unfold Itm.beZ; rw [if_neg (by omega)]
  have hh : Itm.head base n = UInt8.ofNat (base + 55 + (Itm.be n).length) :: Itm.be n := by unfold Itm.head; rw [if_neg (by omega)]
  have hbl := Itm.be_len_le n 8 (by omega) (by omega)
  have HC := hid (fun w => highest_any n w hn2)
  have HU := hid (u8_add (base + 55) (Itm.be n).length (by omega))
  rw [hh]
  rw [hz] at HC
  clear hh hz
  have hn' : ¬ (n : Int) ≤ 55 := by omega
  generalize Itm.be n = bl at *
  go_enter Try.func109, Try.ntmps109
  go_wp2_with fail
  refine (HC.out _).mono ?_
  rintro e w1 ⟨v, rfl, hown, hbel⟩
  obtain ⟨a1, cap1, rfl⟩ := bown_shape hown
  have HO := hid hown
  have HB := hid hbel
  clear hown hbel
  have HA := hid HB.out.size
  have H1 := hid (bown_one w1 w.heap.size (UInt8.ofNat (base + 55 + bl.length)) HA.out)
  have H2 := hid (brd_in (brd_of_bown HO.out) ((Below.refl _ _).alloc (Nat.le_refl _) (.cells #[.int .u8 ((UInt8.ofNat (base + 55 + bl.length)).toNat : Nat)] 5)))
  have HH2 : Hid (Bown (w1.alloc (.cells #[.int .u8 ((base : Int) + 55 + (bl.length : Int))] 5)) w.heap.size (.slice (some ⟨w1.heap.size, 0, none⟩) 1 1) [UInt8.ofNat (base + 55 + bl.length)]) := by
    have := H1.out
    rw [HU.out] at this
    exact hid (by simpa using this)
  have HH3 : Hid (Brd (w1.alloc (.cells #[.int .u8 ((base : Int) + 55 + (bl.length : Int))] 5)).heap.size (w1.alloc (.cells #[.int .u8 ((base : Int) + 55 + (bl.length : Int))] 5)) (.slice a1 bl.length cap1) bl) := by
    have := H2.out
    rw [HU.out] at this
    exact hid (by simpa using this)
  have hlen : [UInt8.ofNat (base + 55 + bl.length)].length + bl.length ≤ 1000000000 := by simp; omega
  have hbase : w.heap.size ≤ (w1.alloc (.cells #[.int .u8 ((base : Int) + 55 + (bl.length : Int))] 5)).heap.size := by have := HA.out; simp; omega
  clear H1 H2 HU
  go_wp2_with (at_builtin; refine wpList_append_bytes _ rfl (.tmp 23) (.tmp 24) rfl _ _ (.slice (some ⟨w1.heap.size, 0, none⟩) 1 1) _ _ _ rfl rfl HH2.out HH3.out hlen hbase ?_; intro v' w' ho hg hn)
  go_ret
  exact ⟨_, rfl, ho, below_row HB.out hg⟩

theorem head_any (base n : Nat) (w : World) (hb : base + 63 < 256) (hn2 : n ≤ 1000000000) :
    Calls Try.prog 109 #[.int .u8 base, .int .i64 n] w fun e w' => ∃ v, e = .returned v ∧ Bown w' w.heap.size v (Itm.head base n) ∧ Below w.heap.size w w' := by
  by_cases h : n ≤ 55
  · exact head_short base n w hb h
  · exact head_long base n w hb (by omega) hn2

set_option maxHeartbeats 400000 in
theorem withHead_any (base : Nat) (v : Value) (l : List UInt8) (w : World) (hb : base + 63 < 256) (hv : Brd w.heap.size w v l) (hl : l.length ≤ 1000000) :
    Calls Try.prog 88 #[.int .u8 base, v] w fun e w' => ∃ v', e = .returned (.tuple #[v', .bool (decide ((Itm.headed base l).length ≤ 1000))]) ∧ Bown w' w.heap.size v' (Itm.headed base l) ∧ Below w.heap.size w w' := by
  have hhl := Itm.head_len base l.length (by omega)
  have HC := hid (fun w => head_any base l.length w hb (by omega))
  obtain ⟨a0, cap0, rfl⟩ := brd_shape hv
  have HV := hid hv
  clear hv
  unfold Itm.headed
  generalize Itm.head base l.length = hd at *
  go_enter Try.func88, Try.ntmps88
  go_wp2_with fail
  refine (HC.out _).mono ?_
  rintro e w1 ⟨v1, rfl, hown, hbel⟩
  obtain ⟨a1, cap1, rfl⟩ := bown_shape hown
  have HO := hid hown
  have HB := hid hbel
  have HR := hid (brd_in HV.out hbel)
  have hlen : hd.length + l.length ≤ 1000000000 := by omega
  have hbase : w.heap.size ≤ w1.heap.size := hbel.size
  clear hown hbel
  go_wp2_with (at_builtin; refine wpList_append_bytes _ rfl (.tmp 10) (.tmp 11) rfl _ _ (.slice a1 hd.length cap1) _ _ _ rfl rfl HO.out HR.out hlen hbase ?_; intro v' w' ho hg hn; obtain ⟨a2, cap2, rfl⟩ := bown_shape ho)
  go_ret2
  refine ⟨_, ret2 (by rw [List.length_append]; rfl) (congrArg Value.bool (decide_eq_decide.2 (by rw [List.length_append]; omega))), ho, ?_⟩
  exact HB.out.grown hg hbase (fun k hk => (bown_lt HO.out k hk).1)

set_option maxHeartbeats 400000 in
theorem bytesOfBytes_big (s : ByteArray) (w : World) (h : 1000 < s.size) :
    Calls Try.prog 87 #[.string s] w fun e w' => e = .returned (.tuple #[.slice none 0 0, .bool false]) ∧ Below w.heap.size w w' := by
  have h' : (1000 : Int) < (s.size : Int) := by omega
  go_enter Try.func87, Try.ntmps87
  go_wp2_with fail
  go_ret2
  exact ⟨rfl, Below.refl _ _⟩

set_option maxHeartbeats 400000 in
theorem bytesOfBytes_any (s : ByteArray) (w : World) (h : s.size ≤ 1000) :
    Calls Try.prog 87 #[.string s] w fun e w' => ∃ v, e = .returned (.tuple #[v, .bool (decide ((Itm.encB s.data.toList).length ≤ 1000))]) ∧ Brd w'.heap.size w' v (Itm.encB s.data.toList) ∧ Below w.heap.size w w' := by
  have h' : ¬ (1000 : Int) < (s.size : Int) := by omega
  have HS := hid (fun w => stands_any s w)
  have HV := hid (fun w => run_string_bytes w s)
  unfold Itm.encB
  by_cases hst : Itm.stands s.data.toList = true
  · rw [if_pos hst]
    rw [hst] at HS
    clear hst
    have hlen : s.data.toList.length ≤ 1000 := by rw [ba_len]; exact h
    go_enter Try.func87, Try.ntmps87
    go_wp2_with fail
    refine (HS.out _).mono ?_
    rintro e w1 ⟨rfl, rfl⟩
    have hv := HV.out
    go_wp2_with fail
    go_ret2
    exact ⟨_, ret2 rfl (by rw [decide_eq_true hlen]; rfl), brd_bytesWorld _ _ _, below_bytesWorld _ _⟩
  · have hst' : Itm.stands s.data.toList = false := by simpa using hst
    rw [if_neg hst]
    rw [hst'] at HS
    clear hst hst'
    have HW := hid (fun (w : World) (cap : Nat) => withHead_any 128 _ _ _ (by omega) (brd_bytesWorld w s cap) (by rw [ba_len]; omega))
    go_enter Try.func87, Try.ntmps87
    go_wp2_with fail
    refine (HS.out _).mono ?_
    rintro e w1 ⟨rfl, rfl⟩
    have hv := HV.out
    go_wp2_with fail
    refine (HW.out _ _).mono ?_
    rintro e w1 ⟨v, rfl, ho, hbel⟩
    have HO := hid ho
    have HB := hid hbel
    clear ho hbel
    go_wp2_with fail
    go_ret2
    refine ⟨_, rfl, brd_of_bown HO.out, ?_⟩
    exact (below_bytesWorld _ _).trans (HB.out.mono (below_bytesWorld _ _).size)
end Go.Proofs.Ytbmohenjphmlgaa
