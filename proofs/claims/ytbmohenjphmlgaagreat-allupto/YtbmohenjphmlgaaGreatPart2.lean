/- Part 2 of a proof: what the last text needs. -/
import Derived.Test.YtbmohenjphmlgaaGreatPart1
import Derived.Lib.Strings
import Derived.Lib.IndexBytes
import Derived.Shelf.LaysM
import Derived.Shelf.Strconv.Clone
import Derived.Test.YtbmohenjphmlgaaGreatProg
import Derived.WalkKit
/- Walks of 'cut': the head of some bytes, what follows parted into the body and the rest, as 'cutP' says. -/
namespace Go.Proofs.YtbmohenjphmlgaaGreat
open Go.RowKit
set_option maxRecDepth 100000

theorem hid {p : Prop} (h : p) : Hid p := h

theorem str_eq {a : ByteArray} {l : List UInt8} (h : a.data.toList = l) : Value.string a = Value.string ⟨l.toArray⟩ := by
  subst h; simp

theorem ret3 {a b c a' b' c' : Value} (h1 : a = a') (h2 : b = b') (h3 : c = c') : Ending.returned (.tuple #[a, b, c]) = .returned (.tuple #[a', b', c']) := by
  subst h1 h2 h3; rfl

section
variable (s : ByteArray) (base n : Nat) (w : World)

set_option maxHeartbeats 400000 in
theorem cut_short_yes (hs : s.size ≤ maxLen) (h1 : 0 < s.size) (hb : base ≤ s[0].toNat) (hb2 : Hid (s[0].toNat - base = n)) (hsh : n ≤ 55) (hn : n ≤ s.size - 1) :
    Calls Tryz.prog 157 #[.string s, .int .u8 base] w fun e w' =>
      e = .returned (.tuple #[.string ⟨((s.data.toList.drop 1).take n).toArray⟩, .string ⟨((s.data.toList.drop 1).drop n).toArray⟩, .bool true]) ∧ ∃ nq, w' = w.drewN nq := by
  unfold maxLen at hs
  have hb8 := s[0].toNat_lt
  have E : Hid (((s[0].toNat : Int) - (base : Int)) = (n : Int)) := by have := hb2.out; show _ = _; omega
  have c1 : ((s[0].toNat : Int) - (base : Int)) ≤ 55 := by rw [E.out]; omega
  have c2 : (0 : Int) ≤ ((s[0].toNat : Int) - (base : Int)) := by rw [E.out]; omega
  have c3 : ((s[0].toNat : Int) - (base : Int)) ≤ ((s.size - 1 : Nat) : Int) := by rw [E.out]; omega
  go_enter Tryz.func157, Tryz.ntmps157
  go_wp2_with fail
  rw [E.out]
  go_quiet (fail)
  go_wp2
  go_ret3
  refine ⟨ret3 (str_eq ?_) (str_eq ?_) rfl, _, rfl⟩
  · rw [Lib.extract_data, Lib.extract_to_end]; simp
  · rw [Lib.extract_data, Lib.extract_to_end, List.take_of_length_le]; simp; omega

set_option maxHeartbeats 400000 in
theorem cut_short_no (hs : s.size ≤ maxLen) (h1 : 0 < s.size) (hb : base ≤ s[0].toNat) (hb2 : Hid (s[0].toNat - base = n)) (hsh : n ≤ 55) (hn : s.size - 1 < n) :
    Calls Tryz.prog 157 #[.string s, .int .u8 base] w fun e w' =>
      e = .returned (.tuple #[.string ⟨#[]⟩, .string ⟨#[]⟩, .bool false]) ∧ ∃ nq, w' = w.drewN nq := by
  unfold maxLen at hs
  have hb8 := s[0].toNat_lt
  have E : Hid (((s[0].toNat : Int) - (base : Int)) = (n : Int)) := by have := hb2.out; show _ = _; omega
  have c1 : ((s[0].toNat : Int) - (base : Int)) ≤ 55 := by rw [E.out]; omega
  have c2 : (0 : Int) ≤ ((s[0].toNat : Int) - (base : Int)) := by rw [E.out]; omega
  have c3 : ((s.size - 1 : Nat) : Int) < ((s[0].toNat : Int) - (base : Int)) := by rw [E.out]; omega
  go_enter Tryz.func157, Tryz.ntmps157
  go_wp2_with fail
  go_ret3
  exact ⟨rfl, 0, rfl⟩

/-- What 'longLength' says of a length that is none. -/
theorem long_no (t : ByteArray) (k : Nat) (h8 : 1 ≤ k) (h : t.size < k ∨ (t.data.toList.getD 0 0).toNat = 0) :
    Calls Tryz.prog 166 #[.string t, .int .i64 k] w fun e w' => e = .returned (.tuple #[.int .u64 0, .bool false]) ∧ w' = w := by
  by_cases hk : t.size < k
  · exact long_short t k w hk
  · have h0 : 0 < t.size := by omega
    refine long_zero t k w (by omega) h0 ?_
    have hz : (t.data.toList.getD 0 0).toNat = 0 := by omega
    rw [ba_getD t h0] at hz
    rw [hz]; rfl

set_option maxHeartbeats 400000 in
theorem cut_long_none (hs : s.size ≤ maxLen) (h1 : 0 < s.size) (hb : base ≤ s[0].toNat) (hb2 : Hid (s[0].toNat - base = n + 55)) (hsh : 1 ≤ n) (hn8 : n ≤ 8)
    (hn : s.size - 1 < n ∨ ((s.data.toList.drop 1).getD 0 0).toNat = 0) :
    Calls Tryz.prog 157 #[.string s, .int .u8 base] w fun e w' =>
      e = .returned (.tuple #[.string ⟨#[]⟩, .string ⟨#[]⟩, .bool false]) ∧ ∃ nq, w' = w.drewN nq := by
  have hl := long_no w (s.extract 1 s.size) n hsh (by rw [Lib.extract_to_end]; simpa using hn)
  unfold maxLen at hs
  have hb8 := s[0].toNat_lt
  have E : Hid (((s[0].toNat : Int) - (base : Int) - 55) = (n : Int)) := by have := hb2.out; show _ = _; omega
  have c1 : 55 < ((s[0].toNat : Int) - (base : Int)) := by have := hb2.out; omega
  have c2 : ((s[0].toNat : Int) - (base : Int)) ≤ 63 := by have := hb2.out; omega
  clear hn
  have HL := hid hl
  clear hl
  go_enter Tryz.func157, Tryz.ntmps157
  go_wp2_with fail
  rw [E.out]
  refine HL.out.mono ?_
  rintro e w' ⟨rfl, rfl⟩
  go_wp2_with fail
  go_ret3
  exact ⟨rfl, 0, rfl⟩

/-- What 'longLength' says of a length that is one. -/
theorem long_ok (t : ByteArray) (k : Nat) (hs : t.size ≤ maxLen) (h8 : 1 ≤ k) (hk8 : k ≤ 8) (h : k ≤ t.size) (h' : (t.data.toList.getD 0 0).toNat ≠ 0) :
    Calls Tryz.prog 166 #[.string t, .int .i64 k] w fun e w' => e = .returned (.tuple #[.int .u64 (Itm.val (t.data.toList.take k)), .bool (decide (55 < Itm.val (t.data.toList.take k)))]) ∧ w' = w := by
  have h0 : 0 < t.size := by omega
  refine long_yes t k w hs h8 hk8 h h0 ?_
  rw [ba_getD t h0] at h'
  simpa using h'

set_option maxHeartbeats 400000 in
theorem cut_long_few (hs : s.size ≤ maxLen) (h1 : 0 < s.size) (hb : base ≤ s[0].toNat) (hb2 : Hid (s[0].toNat - base = n + 55)) (hsh : 1 ≤ n) (hn8 : n ≤ 8)
    (hn : n ≤ s.size - 1) (hz : ((s.data.toList.drop 1).getD 0 0).toNat ≠ 0) (hv : Itm.val ((s.data.toList.drop 1).take n) ≤ 55) :
    Calls Tryz.prog 157 #[.string s, .int .u8 base] w fun e w' =>
      e = .returned (.tuple #[.string ⟨#[]⟩, .string ⟨#[]⟩, .bool false]) ∧ ∃ nq, w' = w.drewN nq := by
  have hl := long_ok w (s.extract 1 s.size) n (by unfold maxLen at *; simp; omega) hsh hn8 (by simpa using hn) (by rw [Lib.extract_to_end]; exact hz)
  rw [Lib.extract_to_end, show decide (55 < Itm.val ((s.data.toList.drop 1).take n)) = false from decide_eq_false (by omega)] at hl
  unfold maxLen at hs
  have hb8 := s[0].toNat_lt
  have E : Hid (((s[0].toNat : Int) - (base : Int) - 55) = (n : Int)) := by have := hb2.out; show _ = _; omega
  have c1 : 55 < ((s[0].toNat : Int) - (base : Int)) := by have := hb2.out; omega
  have c2 : ((s[0].toNat : Int) - (base : Int)) ≤ 63 := by have := hb2.out; omega
  clear hn hz
  have HL := hid hl
  clear hl
  go_enter Tryz.func157, Tryz.ntmps157
  go_wp2_with fail
  rw [E.out]
  refine HL.out.mono ?_
  rintro e w' ⟨rfl, rfl⟩
  go_wp2_with fail
  go_ret3
  exact ⟨rfl, 0, rfl⟩

set_option maxHeartbeats 400000 in
theorem cut_long_much (hs : s.size ≤ maxLen) (h1 : 0 < s.size) (hb : base ≤ s[0].toNat) (hb2 : Hid (s[0].toNat - base = n + 55)) (hsh : 1 ≤ n) (hn8 : n ≤ 8)
    (hn : n ≤ s.size - 1) (hz : ((s.data.toList.drop 1).getD 0 0).toNat ≠ 0) (hv : 55 < Itm.val ((s.data.toList.drop 1).take n)) (hv2 : s.size - 1 - n < Itm.val ((s.data.toList.drop 1).take n)) :
    Calls Tryz.prog 157 #[.string s, .int .u8 base] w fun e w' =>
      e = .returned (.tuple #[.string ⟨#[]⟩, .string ⟨#[]⟩, .bool false]) ∧ ∃ nq, w' = w.drewN nq := by
  have hl := long_ok w (s.extract 1 s.size) n (by unfold maxLen at *; simp; omega) hsh hn8 (by simpa using hn) (by rw [Lib.extract_to_end]; exact hz)
  rw [Lib.extract_to_end, show decide (55 < Itm.val ((s.data.toList.drop 1).take n)) = true from decide_eq_true (by omega)] at hl
  have hlt : Itm.val ((s.data.toList.drop 1).take n) < 256 ^ 8 := by
    have h := Itm.val_lt ((s.data.toList.drop 1).take n)
    exact Nat.lt_of_lt_of_le h (Nat.pow_le_pow_right (by omega) (by simp; omega))
  generalize Itm.val ((s.data.toList.drop 1).take n) = V at *
  unfold maxLen at hs
  have hb8 := s[0].toNat_lt
  have E : Hid (((s[0].toNat : Int) - (base : Int) - 55) = (n : Int)) := by have := hb2.out; show _ = _; omega
  have c1 : 55 < ((s[0].toNat : Int) - (base : Int)) := by have := hb2.out; omega
  have c2 : ((s[0].toNat : Int) - (base : Int)) ≤ 63 := by have := hb2.out; omega
  clear hz
  have HL := hid hl
  clear hl
  go_enter Tryz.func157, Tryz.ntmps157
  go_wp2_with fail
  rw [E.out]
  refine HL.out.mono ?_
  rintro e w' ⟨rfl, rfl⟩
  go_wp2_with fail
  go_ret3
  exact ⟨rfl, 0, rfl⟩

set_option maxHeartbeats 400000 in
theorem cut_long_yes (hs : s.size ≤ maxLen) (h1 : 0 < s.size) (hb : base ≤ s[0].toNat) (hb2 : Hid (s[0].toNat - base = n + 55)) (hsh : 1 ≤ n) (hn8 : n ≤ 8)
    (hn : n ≤ s.size - 1) (hz : ((s.data.toList.drop 1).getD 0 0).toNat ≠ 0) (hv : 55 < Itm.val ((s.data.toList.drop 1).take n)) (hv2 : Itm.val ((s.data.toList.drop 1).take n) ≤ s.size - 1 - n) :
    Calls Tryz.prog 157 #[.string s, .int .u8 base] w fun e w' =>
      e = .returned (.tuple #[.string ⟨(((s.data.toList.drop 1).drop n).take (Itm.val ((s.data.toList.drop 1).take n))).toArray⟩,
        .string ⟨(((s.data.toList.drop 1).drop n).drop (Itm.val ((s.data.toList.drop 1).take n))).toArray⟩, .bool true]) ∧ ∃ nq, w' = w.drewN nq := by
  have hl := long_ok w (s.extract 1 s.size) n (by unfold maxLen at *; simp; omega) hsh hn8 (by simpa using hn) (by rw [Lib.extract_to_end]; exact hz)
  rw [Lib.extract_to_end, show decide (55 < Itm.val ((s.data.toList.drop 1).take n)) = true from decide_eq_true (by omega)] at hl
  generalize Itm.val ((s.data.toList.drop 1).take n) = V at *
  unfold maxLen at hs
  have hb8 := s[0].toNat_lt
  have E : Hid (((s[0].toNat : Int) - (base : Int) - 55) = (n : Int)) := by have := hb2.out; show _ = _; omega
  have c1 : 55 < ((s[0].toNat : Int) - (base : Int)) := by have := hb2.out; omega
  have c2 : ((s[0].toNat : Int) - (base : Int)) ≤ 63 := by have := hb2.out; omega
  clear hz
  have HL := hid hl
  clear hl
  go_enter Tryz.func157, Tryz.ntmps157
  go_wp2_with fail
  rw [E.out]
  refine HL.out.mono ?_
  rintro e w' ⟨rfl, rfl⟩
  go_wp2_with fail
  go_quiet (fail)
  go_wp2
  go_ret3
  refine ⟨ret3 (str_eq ?_) (str_eq ?_) rfl, _, rfl⟩
  · rw [Lib.extract_data, Lib.extract_data, Lib.extract_to_end, Nat.sub_zero, List.drop_zero, List.take_take]
    congr 1
    omega
  · rw [Lib.extract_data, Lib.extract_data, Lib.extract_to_end, List.take_of_length_le, List.take_of_length_le]
    · simp; omega
    · simp; omega

theorem hid_mk (a b : Nat) (h : a = b) : Hid (a = b) := h

/-- What 'cut' gives where there is a body and a rest. -/
theorem cut_yes (hs : s.size ≤ maxLen) (h1 : 0 < s.size) (hb : base ≤ s[0].toNat) (hb2 : s[0].toNat - base < 64) (body rest : List UInt8) (h : Itm.cutP base s.data.toList = some (body, rest)) :
    Calls Tryz.prog 157 #[.string s, .int .u8 base] w fun e w' => e = .returned (.tuple #[.string ⟨body.toArray⟩, .string ⟨rest.toArray⟩, .bool true]) ∧ ∃ nq, w' = w.drewN nq := by
  unfold Itm.cutP at h
  rw [ba_getD s h1] at h
  have hl : (s.data.toList.drop 1).length = s.size - 1 := by simp
  generalize hn : s[0].toNat - base = n at *
  by_cases h3 : n ≤ 55
  · rw [if_pos h3] at h
    by_cases h4 : n ≤ (s.data.toList.drop 1).length
    · rw [if_pos h4] at h
      simp only [Option.some.injEq, Prod.mk.injEq] at h
      obtain ⟨rfl, rfl⟩ := h
      exact cut_short_yes s base n w hs h1 hb (hid_mk _ _ hn) h3 (by omega)
    · rw [if_neg h4] at h; cases h
  · rw [if_neg h3] at h
    obtain ⟨k, rfl⟩ : ∃ k, n = k + 55 := ⟨n - 55, by omega⟩
    rw [Nat.add_sub_cancel] at h
    by_cases h4 : (s.data.toList.drop 1).length < k ∨ ((s.data.toList.drop 1).getD 0 0).toNat = 0
    · rw [if_pos h4] at h; cases h
    · rw [if_neg h4] at h
      have hl2 : ((s.data.toList.drop 1).drop k).length = s.size - 1 - k := by rw [List.length_drop, hl]
      by_cases h5 : Itm.val ((s.data.toList.drop 1).take k) ≤ 55 ∨ ((s.data.toList.drop 1).drop k).length < Itm.val ((s.data.toList.drop 1).take k)
      · rw [if_pos h5] at h; cases h
      · rw [if_neg h5] at h
        simp only [Option.some.injEq, Prod.mk.injEq] at h
        obtain ⟨rfl, rfl⟩ := h
        exact cut_long_yes s base k w hs h1 hb (hid_mk _ _ hn) (by omega) (by omega) (by omega) (by omega) (by omega) (by omega)

/-- What 'cut' gives where there are none. -/
theorem cut_no (hs : s.size ≤ maxLen) (h1 : 0 < s.size) (hb : base ≤ s[0].toNat) (hb2 : s[0].toNat - base < 64) (h : Itm.cutP base s.data.toList = none) :
    Calls Tryz.prog 157 #[.string s, .int .u8 base] w fun e w' => e = .returned (.tuple #[.string ⟨#[]⟩, .string ⟨#[]⟩, .bool false]) ∧ ∃ nq, w' = w.drewN nq := by
  unfold Itm.cutP at h
  rw [ba_getD s h1] at h
  have hl : (s.data.toList.drop 1).length = s.size - 1 := by simp
  generalize hn : s[0].toNat - base = n at *
  by_cases h3 : n ≤ 55
  · rw [if_pos h3] at h
    by_cases h4 : n ≤ (s.data.toList.drop 1).length
    · rw [if_pos h4] at h; cases h
    · exact cut_short_no s base n w hs h1 hb (hid_mk _ _ hn) h3 (by omega)
  · rw [if_neg h3] at h
    obtain ⟨k, rfl⟩ : ∃ k, n = k + 55 := ⟨n - 55, by omega⟩
    rw [Nat.add_sub_cancel] at h
    by_cases h4 : (s.data.toList.drop 1).length < k ∨ ((s.data.toList.drop 1).getD 0 0).toNat = 0
    · exact cut_long_none s base k w hs h1 hb (hid_mk _ _ hn) (by omega) (by omega) (by rw [hl] at h4; exact h4)
    · rw [if_neg h4] at h
      have hl2 : ((s.data.toList.drop 1).drop k).length = s.size - 1 - k := by rw [List.length_drop, hl]
      by_cases h5 : Itm.val ((s.data.toList.drop 1).take k) ≤ 55 ∨ ((s.data.toList.drop 1).drop k).length < Itm.val ((s.data.toList.drop 1).take k)
      · by_cases h6 : Itm.val ((s.data.toList.drop 1).take k) ≤ 55
        · exact cut_long_few s base k w hs h1 hb (hid_mk _ _ hn) (by omega) (by omega) (by omega) (by omega) h6
        · exact cut_long_much s base k w hs h1 hb (hid_mk _ _ hn) (by omega) (by omega) (by omega) (by omega) (by omega) (by omega)
      · rw [if_neg h5] at h; cases h
end
end Go.Proofs.YtbmohenjphmlgaaGreat

/- The library's contract of strings.Clone at this program: the same bytes; of what was there nothing has turned. -/
namespace Go.Proofs
open Go.Shelf
def Tryz.laysM316_ren : Go.Shelf.Ren := ⟨fun | 316 => 93 | n => n, fun | 9 => 9 | 3 => 3 | 4 => 4 | 37 => 114 | 0 => 0 | 127 => 181 | 5 => 5 | n => n, fun | n => n⟩
theorem Tryz.laysM316 : Go.Proofs.LaysM.n316 Tryz.prog Tryz.laysM316_ren := {
  mixed := by kernel_rfl
  f316 := Tryz.func93.trans (congrArg some (by kernel_rfl))
  t0 := Tryz.underlying0
  a0 := Tryz.isAgg0
  z0 := Tryz.sizeOf0
  v0 := Tryz.zeroValue0
  t3 := Tryz.underlying3
  a3 := Tryz.isAgg3
  z3 := Tryz.sizeOf3
  v3 := Tryz.zeroValue3
  t4 := Tryz.underlying4
  a4 := Tryz.isAgg4
  z4 := Tryz.sizeOf4
  v4 := Tryz.zeroValue4
  t9 := Tryz.underlying9
  a9 := Tryz.isAgg9
  z9 := Tryz.sizeOf9
  v9 := Tryz.zeroValue9
  t37 := Tryz.underlying114
  a37 := Tryz.isAgg114
  z37 := Tryz.sizeOf114
  v37 := Tryz.zeroValue114
  t127 := Tryz.underlying181
  a127 := Tryz.isAgg181
  z127 := Tryz.sizeOf181
  v127 := Tryz.zeroValue181
  t5 := Tryz.underlying5
  a5 := Tryz.isAgg5
  z5 := Tryz.sizeOf5
  v5 := Tryz.zeroValue5
  i0 := by kernel_rfl
  i3 := by kernel_rfl
  i4 := by kernel_rfl
  i5 := by kernel_rfl
  i9 := by kernel_rfl
  i37 := by kernel_rfl
  i127 := by kernel_rfl }
namespace YtbmohenjphmlgaaGreat
open Go.RowKit
theorem lite_any (s : ByteArray) (w : World) (hlim : s.size ≤ 281474976710656) :
    Calls Tryz.prog 93 #[.string s] w fun e w' => e = .returned (.string s) ∧ Below w.heap.size w w' := Any.stringslite_Clone Tryz.laysM316 s w hlim

set_option maxRecDepth 100000 in
set_option maxHeartbeats 400000 in
theorem clone_any (s : ByteArray) (w : World) (hlim : s.size ≤ 281474976710656) :
    Calls Tryz.prog 53 #[.string s] w fun e w' => e = .returned (.string s) ∧ Below w.heap.size w w' := by
  go_enter Tryz.func53, Tryz.ntmps53
  go_wp2_with fail
  refine (lite_any s w hlim).mono ?_
  rintro e w' ⟨rfl, hb⟩
  go_wp2_with fail
  go_ret
  exact ⟨rfl, hb⟩
end YtbmohenjphmlgaaGreat
end Go.Proofs

/- Memory that a call has made: a row that grows by append; items in lists of their own. -/
namespace Go.Proofs.YtbmohenjphmlgaaGreat
open Go.RowKit
set_option maxRecDepth 100000

theorem alloc_size (w : World) (o : Obj) : (w.alloc o).heap.size = w.heap.size + 1 := Array.size_push _

/-- A block of a grown row is the old one, or new. -/
def Newer (w : World) (v v' : Value) : Prop := v'.ownBlock = v.ownBlock ∨ ∃ g, v'.ownBlock = some g ∧ w.heap.size ≤ g

theorem owns_base {w : World} {b b' : Nat} {e : TypeId} {size : Nat} {v : Value} {n : Nat} {xs : List Value} (h : w.ownsRow b e size v n xs) (hb : b' ≤ b) : w.ownsRow b' e size v n xs := by
  refine ⟨h.1, ?_⟩
  rcases h.2 with h2 | ⟨g, cap, cur, hv, hg, r⟩
  · exact .inl h2
  · exact .inr ⟨g, cap, cur, hv, Nat.le_trans hb hg, r⟩

theorem owns_newer {w w' : World} {e : TypeId} {size : Nat} {v v' : Value} {n : Nat} {xs : List Value} (h : w'.ownsRow w.heap.size e size v' n xs) (hn : v'.ownBlock = none → v.ownBlock = none) : Newer w v v' := by
  cases hb : v'.ownBlock with
  | none => exact .inl (by rw [hn hb]; exact hb)
  | some g => exact .inr ⟨g, hb, (h.lt g hb).1⟩

section
variable {P : Program} (w : World)

/-- append onto a row of the call's own: the law of the library, and which block it lies in then. -/
theorem run_append_mine (base : Nat) (t ty e : TypeId) (i : TypeInfo) (z : Value) (size bytes : Nat) (ht : P.underlying t = some (.slice e)) (hi : P.info? e = some i) (hz : i.zero = some z)
    (hsize : i.size = size) (hby : i.bytes = bytes) (hzs : z.cells.size = size) (hsz : 0 < size)
    (v : Value) (n : Nat) (xs : List Value) (hown : w.ownsRow base e size v n xs)
    (a : Addr) (m c : Nat) (news : List Value) (hl : news.length = m * size) (hnews : ∀ j u, news[j]? = some u → w.cell? (a.add j) = some u) (h1 : ∀ u ∈ news, u.oneCell' = true)
    (h63 : n + m ≤ maxLen) (hbytes : (n + m) * bytes ≤ 140737488355328) (hbase : base ≤ w.heap.size) :
    ∃ v' w', (Builtin.append_ #[t, t] ty #[v, .slice (some a) m c]).run P w = .ok v' w' ∧ w'.ownsRow base e size v' (n + m) (xs ++ news) ∧ w.grownBy w' v.ownBlock ∧ Newer w v v' := by
  rcases hown.2 with ⟨rfl, rfl⟩ | ⟨g, cap, cur, rfl, hbg, hg, hnc, hcm, hcs, htake⟩
  · have hx : xs = [] := List.eq_nil_of_length_eq_zero (by simpa using hown.1)
    subst hx
    obtain ⟨v', w', hr, ho, hgr, _⟩ := run_append_own (P := P) w w.heap.size t ty e i z size bytes ht hi hz hsize hby hzs hsz (.slice none 0 0) 0 [] (World.ownsRow_nil w _ e size) a m c news hl hnews h1 h63 hbytes (Nat.le_refl _)
    exact ⟨v', w', hr, owns_base ho hbase, hgr, owns_newer ho (fun _ => rfl)⟩
  · by_cases hroom : n + m ≤ cap
    · have hlen : (xs ++ news).length = (n + m) * size := by rw [List.length_append, hown.1, hl, Nat.add_mul]
      subst hsize
      have hfit : n * i.size + news.length ≤ cur.size := by rw [hl, hcs, ← Nat.add_mul]; exact Nat.mul_le_mul_right _ hroom
      have hr := run_append_room (P := P) w t ty e i ht hi g n cap cur hg a m c news hl hnews h1 hroom hfit
      refine ⟨_, _, hr, ⟨hlen, .inr ⟨g, cap, _, rfl, hbg, setRow_heap w g cur _ e _ hg, hroom, hcm, ?_, ?_⟩⟩, ⟨rfl, rfl, rfl, by simp, fun k _ hk => setRow_other w g k _ (fun e => hk (by simp [Value.ownBlock, e]))⟩, .inl rfl⟩
      · simp only [List.size_toArray, List.length_append, List.length_take, List.length_drop, Array.length_toList]
        omega
      · rw [htake, ← hlen]
        exact List.take_left
    · have holds : ∀ j u, xs[j]? = some u → w.cell? ((⟨g, 0, none⟩ : Addr).add j) = some u := hown.cells (g := g) rfl
      obtain ⟨v', w', hr, ho, hgr⟩ := run_append_arg_grows (P := P) w t ty e i z size bytes ht hi hz hsize hby hzs hsz ⟨g, 0, none⟩ n cap xs hown.1 holds a m c news hl hnews (by omega) h63 hbytes
      refine ⟨v', w', hr, owns_base ho hbase, ⟨hgr.os, hgr.tape, hgr.output, hgr.size, fun k hk _ => hgr.block k hk (by simp)⟩, owns_newer ho ?_⟩
      intro hno
      rcases ho.2 with ⟨rfl, h0⟩ | ⟨g', cap', cur', rfl, _⟩
      · omega
      · simp [Value.ownBlock] at hno

theorem wpList_append_mine {ops : Array Oper} {rest : List Oper} {o : Oper} {a : Act} {Q : Exit → Act → World → Prop} (hgd : o.guard = none) (s x : Operand) (t : TypeId)
    (ho : o.op = .call { callee := .builtin .append, args := #[s, x], argTypes := #[t, t] })
    (base : Nat) (e : TypeId) (i : TypeInfo) (z : Value) (size bytes : Nat) (ht : P.underlying t = some (.slice e)) (hi : P.info? e = some i) (hz : i.zero = some z)
    (hsize : i.size = size) (hby : i.bytes = bytes) (hzs : z.cells.size = size) (hsz : 0 < size)
    (v : Value) (n : Nat) (xs : List Value) (hs : a.eval s = v) (hown : w.ownsRow base e size v n xs)
    (ad : Addr) (m c : Nat) (news : List Value) (hx : a.eval x = .slice (some ad) m c) (hl : news.length = m * size) (hnews : ∀ j u, news[j]? = some u → w.cell? (ad.add j) = some u) (h1 : ∀ u ∈ news, u.oneCell' = true)
    (h63 : n + m ≤ maxLen) (hbytes : (n + m) * bytes ≤ 140737488355328) (hbase : base ≤ w.heap.size)
    (h : ∀ v' w', w'.ownsRow base e size v' (n + m) (xs ++ news) → w.grownBy w' v.ownBlock → Newer w v v' → wpList P ops Q rest (a.put o.dst v') w') : wpList P ops Q (o :: rest) a w := by
  refine wpList_plain hgd fun K hK => ?_
  obtain ⟨v', w', hr, h2, h3, h4⟩ := run_append_mine (P := P) w base t o.type e i z size bytes ht hi hz hsize hby hzs hsz v n xs hown ad m c news hl hnews h1 h63 hbytes hbase
  unfold Oper.wp execOp
  simp only [ho, resolve, invoke, builtin, Sem.run_bind, Sem.run_pure, Result.andThen_ok, List.map_toArray, List.map_cons, List.map_nil, hs, hx, hr]
  exact hK _ _ (h v' w' h2 h3 h4)
end

/-- The i-th three cells of a row. -/
def tri (xs : List Value) (i : Nat) : Value := .agg #[xs.getD (3 * i) default, xs.getD (3 * i + 1) default, xs.getD (3 * i + 2) default]

theorem tri_left (xs ys : List Value) (i n : Nat) (h : xs.length = n * 3) (hi : i < n) : tri (xs ++ ys) i = tri xs i := by
  unfold tri
  simp only [List.getD_eq_getElem?_getD]
  rw [List.getElem?_append_left (by omega), List.getElem?_append_left (by omega), List.getElem?_append_left (by omega)]

theorem tri_new (xs : List Value) (a b c : Value) (n : Nat) (h : xs.length = n * 3) : tri (xs ++ [a, b, c]) n = .agg #[a, b, c] := by
  unfold tri
  simp only [List.getD_eq_getElem?_getD]
  rw [List.getElem?_append_right (by omega), List.getElem?_append_right (by omega), List.getElem?_append_right (by omega)]
  have e0 : 3 * n - xs.length = 0 := by omega
  have e1 : 3 * n + 1 - xs.length = 1 := by omega
  have e2 : 3 * n + 2 - xs.length = 2 := by omega
  rw [e0, e1, e2]
  simp

/-- A list of items in a row of its own, among the blocks from lo on and below hi; what is within each of them lies in blocks of its own. E: the items' type. -/
def OwnL (E : TypeId) (w : World) (p : Nat → Nat → Value → Itm → Prop) (lo hi : Nat) (sl : Value) (l : List Itm) : Prop :=
  ∃ xs : List Value, w.ownsRow lo E 3 sl l.length xs ∧ (∀ g, sl.ownBlock = some g → g < hi) ∧ ∃ L H : Nat → Nat,
    (∀ i (h : i < l.length), lo ≤ L i ∧ H i ≤ hi ∧ (∀ g, sl.ownBlock = some g → g < L i ∨ H i ≤ g) ∧ p (L i) (H i) (tri xs i) l[i]) ∧
    (∀ i j, i < j → j < l.length → H i ≤ L j)

def Own (E : TypeId) (w : World) : Nat → Nat → Nat → Value → Itm → Prop
  | 0 => fun _ _ _ _ => False
  | n + 1 => fun lo hi v t => ∃ sl, v = .agg #[.bool t.list, .string ⟨t.bytes.toArray⟩, sl] ∧ OwnL E w (Own E w n) lo hi sl t.items

theorem ownL_nil (E : TypeId) (w : World) (p : Nat → Nat → Value → Itm → Prop) (lo hi : Nat) : OwnL E w p lo hi (.slice none 0 0) [] :=
  ⟨[], World.ownsRow_nil _ _ _ _, by simp [Value.ownBlock], fun _ => 0, fun _ => 0, by simp, by simp⟩

theorem owns_frame {w w' : World} {b : Nat} {e : TypeId} {size : Nat} {v : Value} {n : Nat} {xs : List Value} (h : w.ownsRow b e size v n xs)
    (hg : ∀ g, v.ownBlock = some g → w'.heap[g]? = w.heap[g]?) : w'.ownsRow b e size v n xs := by
  refine ⟨h.1, ?_⟩
  rcases h.2 with h2 | ⟨g, cap, cur, hv, hb, hh, r⟩
  · exact .inl h2
  · refine .inr ⟨g, cap, cur, hv, hb, ?_, r⟩
    rw [hg g (by rw [hv]; rfl)]; exact hh

theorem ownL_mono {E : TypeId} {w w' : World} {p p' : Nat → Nat → Value → Itm → Prop} {lo hi : Nat} {sl : Value} {l : List Itm} (h : OwnL E w p lo hi sl l)
    (hw : ∀ g, sl.ownBlock = some g → w'.heap[g]? = w.heap[g]?) (hp : ∀ a b v t, lo ≤ a → b ≤ hi → (∀ g, sl.ownBlock = some g → g < a ∨ b ≤ g) → p a b v t → p' a b v t) : OwnL E w' p' lo hi sl l := by
  obtain ⟨xs, ho, hg, L, H, h1, h2⟩ := h
  exact ⟨xs, owns_frame ho hw, hg, L, H, fun i hi => ⟨(h1 i hi).1, (h1 i hi).2.1, (h1 i hi).2.2.1, hp _ _ _ _ (h1 i hi).1 (h1 i hi).2.1 (h1 i hi).2.2.1 (h1 i hi).2.2.2⟩, h2⟩

/-- What is owned stays, where its blocks stay. -/
theorem own_frame {E : TypeId} {w w' : World} : ∀ (n lo hi : Nat) (v : Value) (t : Itm), (∀ k, lo ≤ k → k < hi → w'.heap[k]? = w.heap[k]?) → Own E w n lo hi v t → Own E w' n lo hi v t := by
  intro n
  induction n with
  | zero => intro lo hi v t _ h; exact h
  | succ n ih =>
    intro lo hi v t hk h
    obtain ⟨sl, hv, hl⟩ := h
    refine ⟨sl, hv, ownL_mono hl ?_ ?_⟩
    · intro g hg
      obtain ⟨xs, ho, hg2, _⟩ := hl
      exact hk g (ho.lt g hg).1 (hg2 g hg)
    · intro a b v' t' ha hb _ h'
      exact ih a b v' t' (fun k h1 h2 => hk k (by omega) (by omega)) h'

theorem ownL_widen {E : TypeId} {w : World} {p : Nat → Nat → Value → Itm → Prop} {lo hi lo' hi' : Nat} {sl : Value} {l : List Itm} (h : OwnL E w p lo hi sl l) (h1 : lo' ≤ lo) (h2 : hi ≤ hi') : OwnL E w p lo' hi' sl l := by
  obtain ⟨xs, ho, hg, L, H, h3, h4⟩ := h
  exact ⟨xs, owns_base ho h1, fun g hgg => Nat.lt_of_lt_of_le (hg g hgg) h2, L, H, fun i hi => ⟨by have := (h3 i hi).1; omega, by have := (h3 i hi).2.1; omega, (h3 i hi).2.2⟩, h4⟩

theorem own_widen {E : TypeId} {w : World} {n lo hi lo' hi' : Nat} {v : Value} {t : Itm} (h : Own E w n lo hi v t) (h1 : lo' ≤ lo) (h2 : hi ≤ hi') : Own E w n lo' hi' v t := by
  cases n with
  | zero => exact h
  | succ n =>
    obtain ⟨sl, hv, hl⟩ := h
    exact ⟨sl, hv, ownL_widen hl h1 h2⟩

theorem own_more {E : TypeId} {w : World} : ∀ (n lo hi : Nat) (v : Value) (t : Itm), Own E w n lo hi v t → Own E w (n + 1) lo hi v t := by
  intro n
  induction n with
  | zero => intro lo hi v t h; exact h.elim
  | succ n ih =>
    intro lo hi v t h
    obtain ⟨sl, hv, hl⟩ := h
    exact ⟨sl, hv, ownL_mono hl (fun _ _ => rfl) (fun a b v' t' _ _ _ h' => ih a b v' t' h')⟩

theorem ownL_len {E : TypeId} {w : World} {p : Nat → Nat → Value → Itm → Prop} {lo hi : Nat} {sl : Value} {l : List Itm} (h : OwnL E w p lo hi sl l) : ∃ a cap, sl = .slice a l.length cap := by
  obtain ⟨xs, ho, _⟩ := h
  rcases ho.2 with ⟨rfl, h0⟩ | ⟨g, cap, cur, hv, _⟩
  · exact ⟨none, 0, by rw [h0]⟩
  · exact ⟨_, _, hv⟩

/-- One item more, behind an append: w1: as the item has been made; w2: as it has been appended. -/
theorem ownL_push {E : TypeId} {w w1 w2 : World} {n lo hi lo1 hi1 : Nat} {sl sl' : Value} {l : List Itm} {t : Itm} {xs : List Value} {a b c : Value}
    (ho : w.ownsRow lo E 3 sl l.length xs) (hg : ∀ g, sl.ownBlock = some g → g < hi) (L H : Nat → Nat)
    (hL : ∀ i (h : i < l.length), lo ≤ L i ∧ H i ≤ hi ∧ (∀ g, sl.ownBlock = some g → g < L i ∨ H i ≤ g) ∧ Own E w n (L i) (H i) (tri xs i) l[i])
    (hLH : ∀ i j, i < j → j < l.length → H i ≤ L j)
    (hb : Below hi w w1) (ht : Own E w1 n lo1 hi1 (.agg #[a, b, c]) t) (h1 : hi ≤ lo1) (h2 : lo ≤ lo1) (h3 : hi1 ≤ w1.heap.size)
    (ho' : w2.ownsRow lo E 3 sl' (l.length + 1) (xs ++ [a, b, c])) (hgr : w1.grownBy w2 sl.ownBlock) (hnew : Newer w1 sl sl') (hhi : hi ≤ w1.heap.size) :
    OwnL E w2 (Own E w2 n) lo w2.heap.size sl' (l ++ [t]) := by
  have hx := ho.1
  refine ⟨xs ++ [a, b, c], by simpa using ho', ?_, fun i => if i = l.length then lo1 else L i, fun i => if i = l.length then hi1 else H i, ?_, ?_⟩
  · intro g hgg; exact (ho'.lt g hgg).2
  · intro i hi'
    by_cases he : i = l.length
    · subst he
      simp only [if_pos]
      refine ⟨h2, Nat.le_trans h3 hgr.size, ?_, ?_⟩
      · intro g hgg
        rcases hnew with hn | ⟨g', hn, hlt⟩
        · rw [hn] at hgg
          have := hg g hgg
          omega
        · rw [hn] at hgg
          simp at hgg; omega
      · rw [tri_new xs a b c l.length hx]
        simp only [List.getElem_append_right (Nat.le_refl _), Nat.sub_self, List.getElem_cons_zero]
        refine own_frame n lo1 hi1 _ t ?_ ht
        intro k hk1 hk2
        refine hgr.block k (by omega) ?_
        intro e
        have := hg k e.symm
        omega
    · have hlt : i < l.length := by simp at hi'; omega
      obtain ⟨q1, q2, q3, q4⟩ := hL i hlt
      simp only [if_neg he]
      refine ⟨q1, Nat.le_trans (Nat.le_trans q2 hhi) hgr.size, ?_, ?_⟩
      · intro g hgg
        rcases hnew with hn | ⟨g', hn, hlt'⟩
        · rw [hn] at hgg
          exact q3 g hgg
        · rw [hn] at hgg
          simp at hgg
          omega
      · rw [tri_left xs _ i l.length hx hlt, List.getElem_append_left hlt]
        refine own_frame n (L i) (H i) _ _ ?_ q4
        intro k hk1 hk2
        rw [hgr.block k (by omega) ?_, hb.block k (by omega)]
        intro e
        have := q3 k e.symm
        omega
  · intro i j hij hj
    simp only [List.length_append, List.length_singleton] at hj
    by_cases he : j = l.length
    · subst he
      have hlt : i ≠ l.length := by omega
      simp only [if_neg hlt, if_pos]
      have := (hL i (by omega)).2.1
      omega
    · simp only [if_neg he, if_neg (show i ≠ l.length by omega)]
      exact hLH i j hij (by omega)

end Go.Proofs.YtbmohenjphmlgaaGreat

/- The walk of 'all': items one behind the other, as 'loopP' says, in a list of their own; by what 'first' does. -/
namespace Go.Proofs.YtbmohenjphmlgaaGreat
open Go.RowKit
set_option maxRecDepth 100000

theorem infoItem : (Tryz.prog.info? 119).map (fun i => (i.zero, i.size, i.bytes)) = some (some (.agg #[.bool false, .string ⟨#[]⟩, .slice none 0 0]), 3, 48) := by kernel_rfl

/-- Owned items of this program. -/
def Ow (w : World) (n lo hi : Nat) (v : Value) (t : Itm) : Prop := Own 119 w n lo hi v t
def OwL (w : World) (n lo hi : Nat) (v : Value) (l : List Itm) : Prop := OwnL 119 w (Own 119 w n) lo hi v l

/-- What 'first' does, of at most f bytes. -/
structure FirstOk (f : Nat) : Prop where
  no : ∀ (s : ByteArray) (w : World), s.size ≤ f → s.size ≤ 1000000 → Itm.parse f s.data.toList = none →
    Calls Tryz.prog 147 #[.string s] w fun e w' => (∃ b r, e = .returned (.tuple #[.agg #[.bool b, .string ⟨#[]⟩, .slice none 0 0], .string r, .bool false])) ∧ Below w.heap.size w w'
  yes : ∀ (s : ByteArray) (w : World) (t : Itm) (rest : List UInt8), s.size ≤ f → s.size ≤ 1000000 → Itm.parse f s.data.toList = some (t, rest) →
    Calls Tryz.prog 147 #[.string s] w fun e w' => ∃ v, e = .returned (.tuple #[v, .string ⟨rest.toArray⟩, .bool true]) ∧ Ow w' f w.heap.size w'.heap.size v t ∧ Below w.heap.size w w'

def strLen : Value → Nat | .string r => r.size | _ => 0

theorem toList_isEmpty (r : ByteArray) : r.toList.isEmpty = r.data.toList.isEmpty := by rw [Lib.toList_data]

theorem two_alloc (w : World) (a b : Obj) (k : Nat) (h : k < w.heap.size) : ((w.alloc a).alloc b).heap[k]? = w.heap[k]? := by
  rw [Below.heap_alloc _ _ _ (by simp; omega), Below.heap_alloc _ _ _ h]

theorem cells_three (w : World) (a b c : Value) (e : TypeId) : ∀ j u, [a, b, c][j]? = some u → (w.alloc (.cells #[a, b, c] e)).cell? ((⟨w.heap.size, 0, none⟩ : Addr).add j) = some u := by
  intro j u hu
  have hadd : (⟨w.heap.size, 0, none⟩ : Addr).add j = ⟨w.heap.size, j, none⟩ := by unfold Addr.add; split <;> simp_all
  rw [hadd, cell_of_row _ _ j #[a, b, c] e (0, 0) (heap_alloc_new w _)]
  simpa using hu

/-- One item more in the list. -/
theorem all_push {w0 wr w1 w2 : World} {f : Nat} {u4 v' a b c : Value} {X Y : Obj} {done : List Itm} {x : Itm} (hown : OwL wr f w0.heap.size wr.heap.size u4 done) (hb : Below wr.heap.size wr w1)
    (hx : Ow w1 f wr.heap.size w1.heap.size (.agg #[a, b, c]) x) (h0 : w0.heap.size ≤ wr.heap.size) (xs : List Value) (hrow : wr.ownsRow w0.heap.size 119 3 u4 done.length xs)
    (ho2 : w2.ownsRow w0.heap.size 119 3 v' (done.length + 1) (xs ++ [a, b, c])) (hgr : ((w1.alloc X).alloc Y).grownBy w2 u4.ownBlock) (hnew : Newer ((w1.alloc X).alloc Y) u4 v') :
    OwL w2 f w0.heap.size w2.heap.size v' (done ++ [x]) := by
  obtain ⟨xs', ho, hg, L, H, hL, hLH⟩ := hown
  have hxx : xs' = xs := by
    rcases ho.2 with ⟨e1, e2⟩ | ⟨g, cap, cur, e1, _, e3, _, _, _, e4⟩
    · have h1 := ho.1
      have h2 := hrow.1
      rw [e2] at h1 h2
      have n1 : xs' = [] := List.eq_nil_of_length_eq_zero (by simpa using h1)
      have n2 : xs = [] := List.eq_nil_of_length_eq_zero (by simpa using h2)
      rw [n1, n2]
    · rcases hrow.2 with ⟨e1', e2'⟩ | ⟨g', cap', cur', e1', _, e3', _, _, _, e4'⟩
      · rw [e1] at e1'; simp at e1'
      · rw [e1] at e1'
        simp only [Value.slice.injEq, Option.some.injEq, Addr.mk.injEq, true_and, and_true] at e1'
        obtain ⟨rfl, _⟩ := e1'
        rw [e3] at e3'
        simp only [Option.some.injEq, Obj.cells.injEq, and_true] at e3'
        obtain rfl := e3'
        rw [← e4, ← e4']
  subst hxx
  have hsz := hb.size
  have hbel : Below wr.heap.size wr ((w1.alloc X).alloc Y) := (hb.alloc hsz X).alloc (by simp; omega) Y
  refine ownL_push ho hg L H hL hLH hbel (lo1 := wr.heap.size) (hi1 := w1.heap.size) (own_frame _ _ _ _ _ ?_ hx) (Nat.le_refl _) h0 (by simp; omega) ho2 hgr hnew (by simp; omega)
  intro k _ hk
  exact two_alloc w1 X Y k hk

/-- An append of one item that has just been made, to a list of the call's own: for a walk. -/
theorem wpList_append_item {ops : Array Oper} {rest : List Oper} {o : Oper} {act : Act} {Q : Exit → Act → World → Prop} (hgd : o.guard = none) (s x : Operand)
    (hop : o.op = .call { callee := .builtin .append, args := #[s, x], argTypes := #[57, 57] })
    {w0 wr w1 : World} {f : Nat} {u4 a b c : Value} {X : Obj} {done : List Itm} {y : Itm} (hs : act.eval s = u4) (hx : act.eval x = .slice (some ⟨w1.heap.size + 1, 0, none⟩) 1 1)
    (hown : OwL wr f w0.heap.size wr.heap.size u4 done) (hb : Below wr.heap.size wr w1) (h0 : w0.heap.size ≤ wr.heap.size) (hy : Ow w1 f wr.heap.size w1.heap.size (.agg #[a, b, c]) y)
    (hone : a.oneCell' = true ∧ b.oneCell' = true ∧ c.oneCell' = true) (hn : done.length ≤ 1000000)
    (h : ∀ v' w', OwL w' f w0.heap.size w'.heap.size v' (done ++ [y]) → Below w0.heap.size wr w' → wpList Tryz.prog ops Q rest (act.put o.dst v') w') :
    wpList Tryz.prog ops Q (o :: rest) act ((w1.alloc X).alloc (.cells #[a, b, c] 119)) := by
  obtain ⟨i0, hi, hz0, hz1, hz2⟩ := info_parts infoItem
  have hown' := hown
  obtain ⟨xs, ho, _⟩ := hown'
  have hsz := hb.size
  refine wpList_append_mine _ hgd s x 57 hop w0.heap.size 119 i0 _ 3 48 Tryz.underlying57 hi hz0 hz1 hz2 rfl (by decide) u4 done.length xs hs ?_ ⟨w1.heap.size + 1, 0, none⟩ 1 1 [a, b, c] hx rfl ?_ ?_ ?_ ?_ ?_ ?_
  · refine owns_frame ho ?_
    intro g hg
    have hlt := (ho.lt g hg).2
    rw [two_alloc _ _ _ _ (by omega)]
    exact hb.block g hlt
  · have := cells_three (w1.alloc X) a b c 119
    simpa using this
  · intro u hu
    simp only [List.mem_cons, List.not_mem_nil, or_false] at hu
    rcases hu with rfl | rfl | rfl
    · exact hone.1
    · exact hone.2.1
    · exact hone.2.2
  · unfold maxLen; omega
  · omega
  · simp; omega
  · intro v' w' ho2 hgr hnew
    refine h v' w' (all_push hown hb hy h0 xs ho ho2 hgr hnew) ?_
    refine (((hb.mono h0).alloc (by omega) _).alloc (by simp; omega) _).grown hgr (by simp; omega) ?_
    intro k hk
    exact (ho.lt k hk).1

set_option maxHeartbeats 800000 in
theorem all_any (f : Nat) (hF : FirstOk f) (s : ByteArray) (w : World) (o : Option (List Itm)) (h1 : s.size ≤ f) (h2 : s.size ≤ 1000000) (hl : Hid (o = Itm.loopP (Itm.parse f) s.size s.data.toList)) :
    Calls Tryz.prog 159 #[.string s] w fun e w' => (∀ l, o = some l → ∃ sl, e = .returned (.tuple #[sl, .bool true]) ∧ OwL w' f w.heap.size w'.heap.size sl l) ∧ (o = none → e = .returned (.tuple #[.slice none 0 0, .bool false])) ∧ Below w.heap.size w w' := by
  obtain ⟨i0, hi, hz0, hz1, hz2⟩ := info_parts infoItem
  go_enter Tryz.func159, Tryz.ntmps159
  go_wp2_with fail
  go_loopw [0, 4] (fun b v wr => ∃ (r : ByteArray) (done : List Itm) (m : Nat), b = .string r ∧ r.size ≤ s.size ∧ Hid (o = (Itm.loopP (Itm.parse f) m r.data.toList).map (done ++ ·) ∧ r.size ≤ m ∧ r.size + done.length ≤ s.size ∧ OwL wr f w.heap.size wr.heap.size v done ∧ Below w.heap.size w wr)) (fun b _ _ => strLen b)
  case atStart => exact ⟨s, [], s.size, rfl, Nat.le_refl _, by rw [hl.out]; simp, Nat.le_refl _, by simp, ownL_nil _ _ _ _ _, Below.refl _ _⟩
  case round =>
    obtain ⟨r, done, m, rfl, hr, HH⟩ := hrel
    by_cases hne : r.data.toList = []
    · have hb : r.toList.isEmpty = true := by rw [toList_isEmpty, hne]; rfl
      go_wp2_with fail
      go_ret2
      obtain ⟨q1, _, q3, q4, q5⟩ := HH.out
      have q1' : o = some done := by
        rw [q1, hne]
        cases m <;> simp [Itm.loopP]
      subst q1'
      refine ⟨?_, ?_, q5⟩
      · rintro l hl'
        cases hl'
        exact ⟨_, rfl, q4⟩
      · intro hn; cases hn
    · have hb : r.toList.isEmpty = false := by rw [toList_isEmpty]; simpa using hne
      obtain ⟨q1, q2, q3, q4, q5⟩ := HH.out
      have hrp : 0 < r.size := by
        rcases Nat.eq_zero_or_pos r.size with h0 | h0
        · exact absurd (List.eq_nil_of_length_eq_zero (by rw [ba_len]; exact h0)) hne
        · exact h0
      cases m with
      | zero => omega
      | succ m =>
        unfold Itm.loopP at q1
        rw [if_neg (by simpa using hne)] at q1
        cases hp : Itm.parse f r.data.toList with
        | none =>
          rw [hp] at q1
          simp only [Option.map_none] at q1
          have hcall := hid (hF.no r wr (by omega) (by omega) hp)
          have Q1 := hid q1
          have Q5 := hid q5
          clear hp q1 q2 q3 q4 q5
          go_wp2_with fail
          refine hcall.out.mono ?_
          rintro e w1 ⟨⟨b, r1, rfl⟩, hbel⟩
          go_wp2_with fail
          go_ret2
          refine ⟨?_, fun _ => rfl, Q5.out.trans (((hbel.mono Q5.out.size)).alloc (by have := hbel.size; have := Q5.out.size; omega) _)⟩
          intro l hl'
          rw [Q1.out] at hl'; cases hl'
        | some xr =>
          obtain ⟨x, rest⟩ := xr
          rw [hp] at q1
          simp only [Option.map_map] at q1
          have hsound := (Itm.parse_sound f _ _ _ hp).1
          have hlen : r.size = (Itm.enc x).length + rest.length := by rw [← ba_len, hsound, List.length_append]
          have hpos : 0 < (Itm.enc x).length := List.length_pos_iff.2 (Itm.enc_ne x)
          have hlt : rest.length < r.size := by omega
          have hcall := hid (hF.yes r wr x rest (by omega) (by omega) hp)
          have hdl : done.length ≤ 1000000 := by omega
          have hsz0 := q5.size
          have Q1 := hid q1
          clear hp q1 q2 q3 q4 q5 hsound hlen hpos
          go_wp2_with fail
          refine hcall.out.mono ?_
          rintro e w1 ⟨v, rfl, hown, hbel⟩
          have hown' := hid hown
          cases f with
          | zero => exact hown.elim
          | succ f =>
          obtain ⟨sl2, rfl, hsl⟩ := hown
          obtain ⟨a2, cap2, rfl⟩ := ownL_len hsl
          have hsz1 := hbel.size
          have HB := hid hbel
          clear hsl hbel
          have HO2 := hid HH.out.2.2.2.1
          go_wp2_with (at_builtin; refine wpList_append_item rfl (.tmp 18) (.tmp 20) rfl rfl rfl HO2.out HB.out hsz0 hown'.out ⟨rfl, rfl, rfl⟩ hdl ?_; intro v' w' hown2 hbel2)
          refine ⟨⟨⟨rest.toArray⟩, done ++ [x], m, rfl, ?_, ?_⟩, ?_⟩
          · show rest.toArray.size ≤ s.size
            simp; omega
          · obtain ⟨q1, q2, q3, q4, q5⟩ := HH.out
            refine ⟨?_, ?_, ?_, hown2, q5.trans hbel2⟩
            · rw [Q1.out]
              congr 1
              funext l
              simp
            · show rest.toArray.size ≤ m
              simp; omega
            · show rest.toArray.size + _ ≤ s.size
              simp; omega
          · show rest.toArray.size < r.size
            simp; omega
end Go.Proofs.YtbmohenjphmlgaaGreat
