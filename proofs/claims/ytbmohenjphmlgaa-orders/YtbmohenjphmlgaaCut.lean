/- Walks of 'cut': the head of some bytes, what follows parted into the body and the rest, as 'cutP' says. -/
import Derived.Test.YtbmohenjphmlgaaLeaf
import Derived.Lib.Strings
import Derived.Lib.IndexBytes
namespace Go.Proofs.Ytbmohenjphmlgaa
open Go.RowKit
set_option maxRecDepth 100000

theorem hid {p : Prop} (h : p) : Hid p := h

theorem str_eq {a : ByteArray} {l : List UInt8} (h : a.data.toList = l) : Value.string a = Value.string ⟨l.toArray⟩ := by
  subst h; simp

theorem ret3 {a b c a' b' c' : Value} (h1 : a = a') (h2 : b = b') (h3 : c = c') : Ending.returned (.tuple #[a, b, c]) = .returned (.tuple #[a', b', c']) := by
  subst h1 h2 h3; rfl

theorem empty_str : (Value.string ⟨#[]⟩) = .string ByteArray.empty := rfl

section
variable (s : ByteArray) (base n : Nat) (w : World)

set_option maxHeartbeats 400000 in
theorem cut_short_yes (hs : s.size ≤ maxLen) (h1 : 0 < s.size) (hb : base ≤ s[0].toNat) (hb2 : Hid (s[0].toNat - base = n)) (hsh : n ≤ 55) (hn : n ≤ s.size - 1) :
    Calls Try.prog 91 #[.string s, .int .u8 base] w fun e w' =>
      e = .returned (.tuple #[.string ⟨((s.data.toList.drop 1).take n).toArray⟩, .string ⟨((s.data.toList.drop 1).drop n).toArray⟩, .bool true]) ∧ ∃ nq, w' = w.drewN nq := by
  unfold maxLen at hs
  have hb8 := s[0].toNat_lt
  have E : Hid (((s[0].toNat : Int) - (base : Int)) = (n : Int)) := by have := hb2.out; show _ = _; omega
  have c1 : ((s[0].toNat : Int) - (base : Int)) ≤ 55 := by rw [E.out]; omega
  have c2 : (0 : Int) ≤ ((s[0].toNat : Int) - (base : Int)) := by rw [E.out]; omega
  have c3 : ((s[0].toNat : Int) - (base : Int)) ≤ ((s.size - 1 : Nat) : Int) := by rw [E.out]; omega
  go_enter Try.func91, Try.ntmps91
  go_wp2_with fail
  rw [E.out]
  go_quiet (fail)
  go_wp2
  go_ret3
  refine ⟨ret3 (str_eq ?_) (str_eq ?_) rfl, _, rfl⟩
  · rw [Lib.extract_data, Lib.extract_to_end]; simp
  · rw [Lib.extract_data, Lib.extract_to_end, List.take_of_length_le]; simp; omega

set_option maxHeartbeats 400000 in
theorem cut_short_no (hs : s.size ≤ maxLen) (h1 : 0 < s.size) (hb : base ≤ s[0].toNat) (hb2 : Hid (s[0].toNat - base = n)) (hsh : n ≤ 55) (hn : s.size - 1 < n) :
    Calls Try.prog 91 #[.string s, .int .u8 base] w fun e w' =>
      e = .returned (.tuple #[.string ⟨#[]⟩, .string ⟨#[]⟩, .bool false]) ∧ ∃ nq, w' = w.drewN nq := by
  unfold maxLen at hs
  have hb8 := s[0].toNat_lt
  have E : Hid (((s[0].toNat : Int) - (base : Int)) = (n : Int)) := by have := hb2.out; show _ = _; omega
  have c1 : ((s[0].toNat : Int) - (base : Int)) ≤ 55 := by rw [E.out]; omega
  have c2 : (0 : Int) ≤ ((s[0].toNat : Int) - (base : Int)) := by rw [E.out]; omega
  have c3 : ((s.size - 1 : Nat) : Int) < ((s[0].toNat : Int) - (base : Int)) := by rw [E.out]; omega
  go_enter Try.func91, Try.ntmps91
  go_wp2_with fail
  go_ret3
  exact ⟨rfl, 0, rfl⟩

/-- What 'longLength' says of a length that is none. -/
theorem long_no (t : ByteArray) (k : Nat) (h8 : 1 ≤ k) (h : t.size < k ∨ (t.data.toList.getD 0 0).toNat = 0) :
    Calls Try.prog 111 #[.string t, .int .i64 k] w fun e w' => e = .returned (.tuple #[.int .u64 0, .bool false]) ∧ w' = w := by
  by_cases hk : t.size < k
  · exact long_short t k w hk
  · have h0 : 0 < t.size := by omega
    refine long_zero t k w (by omega) h0 ?_
    have hz : (t.data.toList.getD 0 0).toNat = 0 := by omega
    rw [ba_getD t h0] at hz
    rw [hz]; rfl

set_option maxHeartbeats 400000 in
theorem cut_long_none (hs : s.size ≤ maxLen) (h1 : 0 < s.size) (hb : base ≤ s[0].toNat) (hb2 : Hid (s[0].toNat - base = n + 55)) (hsh : 1 ≤ n) (hn8 : n ≤ 8)
    (hn : s.size - 1 < n ∨ ((s.data.toList.drop 1).getD 0 0).toNat = 0) :
    Calls Try.prog 91 #[.string s, .int .u8 base] w fun e w' =>
      e = .returned (.tuple #[.string ⟨#[]⟩, .string ⟨#[]⟩, .bool false]) ∧ ∃ nq, w' = w.drewN nq := by
  have hl := long_no w (s.extract 1 s.size) n hsh (by rw [Lib.extract_to_end]; simpa using hn)
  unfold maxLen at hs
  have hb8 := s[0].toNat_lt
  have E : Hid (((s[0].toNat : Int) - (base : Int) - 55) = (n : Int)) := by have := hb2.out; show _ = _; omega
  have c1 : 55 < ((s[0].toNat : Int) - (base : Int)) := by have := hb2.out; omega
  have c2 : ((s[0].toNat : Int) - (base : Int)) ≤ 63 := by have := hb2.out; omega
  clear hn
  have HL := hid hl
  clear hl
  go_enter Try.func91, Try.ntmps91
  go_wp2_with fail
  rw [E.out]
  refine HL.out.mono ?_
  rintro e w' ⟨rfl, rfl⟩
  go_wp2_with fail
  go_ret3
  exact ⟨rfl, 0, rfl⟩

/-- What 'longLength' says of a length that is one. -/
theorem long_ok (t : ByteArray) (k : Nat) (hs : t.size ≤ maxLen) (h8 : 1 ≤ k) (hk8 : k ≤ 8) (h : k ≤ t.size) (h' : (t.data.toList.getD 0 0).toNat ≠ 0) :
    Calls Try.prog 111 #[.string t, .int .i64 k] w fun e w' => e = .returned (.tuple #[.int .u64 (Itm.val (t.data.toList.take k)), .bool (decide (55 < Itm.val (t.data.toList.take k)))]) ∧ w' = w := by
  have h0 : 0 < t.size := by omega
  refine long_yes t k w hs h8 hk8 h h0 ?_
  rw [ba_getD t h0] at h'
  simpa using h'

set_option maxHeartbeats 400000 in
theorem cut_long_few (hs : s.size ≤ maxLen) (h1 : 0 < s.size) (hb : base ≤ s[0].toNat) (hb2 : Hid (s[0].toNat - base = n + 55)) (hsh : 1 ≤ n) (hn8 : n ≤ 8)
    (hn : n ≤ s.size - 1) (hz : ((s.data.toList.drop 1).getD 0 0).toNat ≠ 0) (hv : Itm.val ((s.data.toList.drop 1).take n) ≤ 55) :
    Calls Try.prog 91 #[.string s, .int .u8 base] w fun e w' =>
      e = .returned (.tuple #[.string ⟨#[]⟩, .string ⟨#[]⟩, .bool false]) ∧ ∃ nq, w' = w.drewN nq := by
  have hl := long_ok w (s.extract 1 s.size) n (by unfold maxLen at *; simp; omega) hsh hn8 (by simpa using hn) (by rw [Lib.extract_to_end]; exact hz)
  rw [Lib.extract_to_end, show decide (55 < Itm.val ((s.data.toList.drop 1).take n)) = false from decide_eq_false (by omega)] at hl
  unfold maxLen at hs
  have hb8 := s[0].toNat_lt
  have E : Hid (((s[0].toNat : Int) - (base : Int) - 55) = (n : Int)) := by have := hb2.out; show _ = _; omega
  have c1 : 55 < ((s[0].toNat : Int) - (base : Int)) := by have := hb2.out; omega
  have c2 : ((s[0].toNat : Int) - (base : Int)) ≤ 63 := by have := hb2.out; omega
  clear hn hz
  have HL := hid hl
  clear hl
  go_enter Try.func91, Try.ntmps91
  go_wp2_with fail
  rw [E.out]
  refine HL.out.mono ?_
  rintro e w' ⟨rfl, rfl⟩
  go_wp2_with fail
  go_ret3
  exact ⟨rfl, 0, rfl⟩

set_option maxHeartbeats 400000 in
theorem cut_long_much (hs : s.size ≤ maxLen) (h1 : 0 < s.size) (hb : base ≤ s[0].toNat) (hb2 : Hid (s[0].toNat - base = n + 55)) (hsh : 1 ≤ n) (hn8 : n ≤ 8)
    (hn : n ≤ s.size - 1) (hz : ((s.data.toList.drop 1).getD 0 0).toNat ≠ 0) (hv : 55 < Itm.val ((s.data.toList.drop 1).take n)) (hv2 : s.size - 1 - n < Itm.val ((s.data.toList.drop 1).take n)) :
    Calls Try.prog 91 #[.string s, .int .u8 base] w fun e w' =>
      e = .returned (.tuple #[.string ⟨#[]⟩, .string ⟨#[]⟩, .bool false]) ∧ ∃ nq, w' = w.drewN nq := by
  have hl := long_ok w (s.extract 1 s.size) n (by unfold maxLen at *; simp; omega) hsh hn8 (by simpa using hn) (by rw [Lib.extract_to_end]; exact hz)
  rw [Lib.extract_to_end, show decide (55 < Itm.val ((s.data.toList.drop 1).take n)) = true from decide_eq_true (by omega)] at hl
  have hlt : Itm.val ((s.data.toList.drop 1).take n) < 256 ^ 8 := by
    have h := Itm.val_lt ((s.data.toList.drop 1).take n)
    exact Nat.lt_of_lt_of_le h (Nat.pow_le_pow_right (by omega) (by simp; omega))
  generalize Itm.val ((s.data.toList.drop 1).take n) = V at *
  unfold maxLen at hs
  have hb8 := s[0].toNat_lt
  have E : Hid (((s[0].toNat : Int) - (base : Int) - 55) = (n : Int)) := by have := hb2.out; show _ = _; omega
  have c1 : 55 < ((s[0].toNat : Int) - (base : Int)) := by have := hb2.out; omega
  have c2 : ((s[0].toNat : Int) - (base : Int)) ≤ 63 := by have := hb2.out; omega
  clear hz
  have HL := hid hl
  clear hl
  go_enter Try.func91, Try.ntmps91
  go_wp2_with fail
  rw [E.out]
  refine HL.out.mono ?_
  rintro e w' ⟨rfl, rfl⟩
  go_wp2_with fail
  go_ret3
  exact ⟨rfl, 0, rfl⟩

set_option maxHeartbeats 400000 in
theorem cut_long_yes (hs : s.size ≤ maxLen) (h1 : 0 < s.size) (hb : base ≤ s[0].toNat) (hb2 : Hid (s[0].toNat - base = n + 55)) (hsh : 1 ≤ n) (hn8 : n ≤ 8)
    (hn : n ≤ s.size - 1) (hz : ((s.data.toList.drop 1).getD 0 0).toNat ≠ 0) (hv : 55 < Itm.val ((s.data.toList.drop 1).take n)) (hv2 : Itm.val ((s.data.toList.drop 1).take n) ≤ s.size - 1 - n) :
    Calls Try.prog 91 #[.string s, .int .u8 base] w fun e w' =>
      e = .returned (.tuple #[.string ⟨(((s.data.toList.drop 1).drop n).take (Itm.val ((s.data.toList.drop 1).take n))).toArray⟩,
        .string ⟨(((s.data.toList.drop 1).drop n).drop (Itm.val ((s.data.toList.drop 1).take n))).toArray⟩, .bool true]) ∧ ∃ nq, w' = w.drewN nq := by
  have hl := long_ok w (s.extract 1 s.size) n (by unfold maxLen at *; simp; omega) hsh hn8 (by simpa using hn) (by rw [Lib.extract_to_end]; exact hz)
  rw [Lib.extract_to_end, show decide (55 < Itm.val ((s.data.toList.drop 1).take n)) = true from decide_eq_true (by omega)] at hl
  generalize Itm.val ((s.data.toList.drop 1).take n) = V at *
  unfold maxLen at hs
  have hb8 := s[0].toNat_lt
  have E : Hid (((s[0].toNat : Int) - (base : Int) - 55) = (n : Int)) := by have := hb2.out; show _ = _; omega
  have c1 : 55 < ((s[0].toNat : Int) - (base : Int)) := by have := hb2.out; omega
  have c2 : ((s[0].toNat : Int) - (base : Int)) ≤ 63 := by have := hb2.out; omega
  clear hz
  have HL := hid hl
  clear hl
  go_enter Try.func91, Try.ntmps91
  go_wp2_with fail
  rw [E.out]
  refine HL.out.mono ?_
  rintro e w' ⟨rfl, rfl⟩
  go_wp2_with fail
  go_quiet (fail)
  go_wp2
  go_ret3
  refine ⟨ret3 (str_eq ?_) (str_eq ?_) rfl, _, rfl⟩
  · rw [Lib.extract_data, Lib.extract_data, Lib.extract_to_end, Nat.sub_zero, List.drop_zero, List.take_take]
    congr 1
    omega
  · rw [Lib.extract_data, Lib.extract_data, Lib.extract_to_end, List.take_of_length_le, List.take_of_length_le]
    · simp; omega
    · simp; omega

theorem hid_mk (a b : Nat) (h : a = b) : Hid (a = b) := h

/-- What 'cut' gives where there is a body and a rest. -/
theorem cut_yes (hs : s.size ≤ maxLen) (h1 : 0 < s.size) (hb : base ≤ s[0].toNat) (hb2 : s[0].toNat - base < 64) (body rest : List UInt8) (h : Itm.cutP base s.data.toList = some (body, rest)) :
    Calls Try.prog 91 #[.string s, .int .u8 base] w fun e w' => e = .returned (.tuple #[.string ⟨body.toArray⟩, .string ⟨rest.toArray⟩, .bool true]) ∧ ∃ nq, w' = w.drewN nq := by
  unfold Itm.cutP at h
  rw [ba_getD s h1] at h
  have hl : (s.data.toList.drop 1).length = s.size - 1 := by simp
  generalize hn : s[0].toNat - base = n at *
  by_cases h3 : n ≤ 55
  · rw [if_pos h3] at h
    by_cases h4 : n ≤ (s.data.toList.drop 1).length
    · rw [if_pos h4] at h
      simp only [Option.some.injEq, Prod.mk.injEq] at h
      obtain ⟨rfl, rfl⟩ := h
      exact cut_short_yes s base n w hs h1 hb (hid_mk _ _ hn) h3 (by omega)
    · rw [if_neg h4] at h; cases h
  · rw [if_neg h3] at h
    obtain ⟨k, rfl⟩ : ∃ k, n = k + 55 := ⟨n - 55, by omega⟩
    rw [Nat.add_sub_cancel] at h
    by_cases h4 : (s.data.toList.drop 1).length < k ∨ ((s.data.toList.drop 1).getD 0 0).toNat = 0
    · rw [if_pos h4] at h; cases h
    · rw [if_neg h4] at h
      have hl2 : ((s.data.toList.drop 1).drop k).length = s.size - 1 - k := by rw [List.length_drop, hl]
      by_cases h5 : Itm.val ((s.data.toList.drop 1).take k) ≤ 55 ∨ ((s.data.toList.drop 1).drop k).length < Itm.val ((s.data.toList.drop 1).take k)
      · rw [if_pos h5] at h; cases h
      · rw [if_neg h5] at h
        simp only [Option.some.injEq, Prod.mk.injEq] at h
        obtain ⟨rfl, rfl⟩ := h
        exact cut_long_yes s base k w hs h1 hb (hid_mk _ _ hn) (by omega) (by omega) (by omega) (by omega) (by omega) (by omega)

/-- What 'cut' gives where there are none. -/
theorem cut_no (hs : s.size ≤ maxLen) (h1 : 0 < s.size) (hb : base ≤ s[0].toNat) (hb2 : s[0].toNat - base < 64) (h : Itm.cutP base s.data.toList = none) :
    Calls Try.prog 91 #[.string s, .int .u8 base] w fun e w' => e = .returned (.tuple #[.string ⟨#[]⟩, .string ⟨#[]⟩, .bool false]) ∧ ∃ nq, w' = w.drewN nq := by
  unfold Itm.cutP at h
  rw [ba_getD s h1] at h
  have hl : (s.data.toList.drop 1).length = s.size - 1 := by simp
  generalize hn : s[0].toNat - base = n at *
  by_cases h3 : n ≤ 55
  · rw [if_pos h3] at h
    by_cases h4 : n ≤ (s.data.toList.drop 1).length
    · rw [if_pos h4] at h; cases h
    · exact cut_short_no s base n w hs h1 hb (hid_mk _ _ hn) h3 (by omega)
  · rw [if_neg h3] at h
    obtain ⟨k, rfl⟩ : ∃ k, n = k + 55 := ⟨n - 55, by omega⟩
    rw [Nat.add_sub_cancel] at h
    by_cases h4 : (s.data.toList.drop 1).length < k ∨ ((s.data.toList.drop 1).getD 0 0).toNat = 0
    · exact cut_long_none s base k w hs h1 hb (hid_mk _ _ hn) (by omega) (by omega) (by rw [hl] at h4; exact h4)
    · rw [if_neg h4] at h
      have hl2 : ((s.data.toList.drop 1).drop k).length = s.size - 1 - k := by rw [List.length_drop, hl]
      by_cases h5 : Itm.val ((s.data.toList.drop 1).take k) ≤ 55 ∨ ((s.data.toList.drop 1).drop k).length < Itm.val ((s.data.toList.drop 1).take k)
      · by_cases h6 : Itm.val ((s.data.toList.drop 1).take k) ≤ 55
        · exact cut_long_few s base k w hs h1 hb (hid_mk _ _ hn) (by omega) (by omega) (by omega) (by omega) h6
        · exact cut_long_much s base k w hs h1 hb (hid_mk _ _ hn) (by omega) (by omega) (by omega) (by omega) (by omega) (by omega)
      · rw [if_neg h5] at h; cases h
end
end Go.Proofs.Ytbmohenjphmlgaa
