/- Walks of the functions that read texts alone: standsForItself, longLength, cut. -/
import Derived.Test.YtbmohenjphmlgaaProg
import Derived.Test.YtbmohenjphmlgaaParse
import Derived.WalkKit
import Derived.WalkSpells
import Derived.WalkLawsBesides
import Derived.BigQuiet
namespace Go.Proofs.Ytbmohenjphmlgaa
open Go.RowKit
set_option maxRecDepth 100000

theorem ba_getD (s : ByteArray) (h : 0 < s.size) : s.data.toList.getD 0 0 = s[0] := by
  have h' : 0 < s.data.size := h
  rw [List.getD_eq_getElem?_getD, Array.getElem?_toList, Array.getElem?_eq_getElem h']
  rfl

theorem ba_len (s : ByteArray) : s.data.toList.length = s.size := by simp

theorem stands_eq (s : ByteArray) : Itm.stands s.data.toList = (decide (s.size = 1) && decide ((s.data.toList.getD 0 0).toNat < 128)) := by
  unfold Itm.stands; rw [ba_len]

set_option maxHeartbeats 400000 in
theorem stands_any (s : ByteArray) (w : World) :
    Calls Try.prog 92 #[.string s] w fun e w' => e = .returned (.bool (Itm.stands s.data.toList)) ∧ w' = w := by
  rw [stands_eq]
  by_cases h1 : s.size = 1
  · have hlt : 0 < s.size := by omega
    have HG : Hid (s.data.toList.getD 0 0 = s[0]) := ba_getD s hlt
    have HS : Hid (s.size = 1) := h1
    have hb : ((s.size : Int) == 1) = true := by simp; omega
    go_enter Try.func92, Try.ntmps92
    clear h1
    go_wp2
    · go_ret
      have e1 : decide (s.size = 1) = true := by simp [HS.out]
      exact ⟨by rw [HG.out, e1]; simp; omega, rfl⟩
  · have hb : ((s.size : Int) == 1) = false := by simp; omega
    go_enter Try.func92, Try.ntmps92
    go_wp2
    go_ret
    exact ⟨by simp [h1], rfl⟩

theorem or_byte (n c : Nat) (hc : c < 256) (hn : n * 256 + c < 18446744073709551616) :
    bits .or .u64 (IntKind.u64.wrap ((n : Int) * 256)) (IntKind.u64.wrap (c : Int)) = ((n * 256 + c : Nat) : Int) := by
  rw [IntKind.wrap_u64, IntKind.wrap_u64]
  have a1 : (0 : Int) ≤ (n : Int) * 256 := by omega
  have a2 : (n : Int) * 256 < 18446744073709551616 := by omega
  have e1 : ((n : Int) * 256) % 18446744073709551616 = ((n * 256 : Nat) : Int) := by
    rw [Int.emod_eq_of_lt a1 a2]; omega
  have e2 : (c : Int) % 18446744073709551616 = (c : Int) := Int.emod_eq_of_lt (by omega) (by omega)
  have a3 : n * 256 < 18446744073709551616 := Nat.lt_of_le_of_lt (Nat.le_add_right _ _) hn
  have a4 : c < 18446744073709551616 := Nat.lt_of_le_of_lt (Nat.le_add_left _ _) hn
  rw [e1, e2, u64_or_nat _ _ a3 a4]
  have := Nat.two_pow_add_eq_or_of_lt (i := 8) (b := c) (by omega) n
  have e3 : 2 ^ 8 * n = n * 256 := by omega
  rw [e3] at this
  rw [this]

theorem take_snoc (s : ByteArray) (k : Nat) (h : k < s.size) : s.data.toList.take (k + 1) = s.data.toList.take k ++ [s[k]] := by
  rw [List.take_succ_eq_append_getElem (by simpa using h)]; rfl

theorem val_take_lt (l : List UInt8) (j : Nat) (hj : j ≤ 7) : Itm.val (l.take j) < 256 ^ 7 := by
  have h := Itm.val_lt (l.take j)
  have h2 : (l.take j).length ≤ 7 := by simp; omega
  exact Nat.lt_of_lt_of_le h (Nat.pow_le_pow_right (by omega) h2)

set_option maxHeartbeats 400000 in
theorem long_yes (s : ByteArray) (k : Nat) (w : World) (hs : s.size ≤ maxLen) (hk : 1 ≤ k) (hk8 : k ≤ 8) (h0 : k ≤ s.size) (h1 : 0 < s.size) (hz : ((s[0].toNat : Int) == 0) = false) :
    Calls Try.prog 111 #[.string s, .int .i64 k] w fun e w' => e = .returned (.tuple #[.int .u64 (Itm.val (s.data.toList.take k)), .bool (decide (55 < Itm.val (s.data.toList.take k)))]) ∧ w' = w := by
  unfold maxLen at hs
  have hlt : decide (s.size < k) = false := by simp; omega
  go_enter Try.func111, Try.ntmps111
  go_wp2
  go_loop [6, 18] (fun n i => ∃ j : Nat, j ≤ k ∧ i = .int .i64 j ∧ n = .int .u64 (Itm.val (s.data.toList.take j))) (fun _ i => k - (intOf i).toNat)
  case atStart => exact ⟨0, Nat.zero_le _, rfl, rfl⟩
  case round =>
    obtain ⟨j, hj, rfl, rfl⟩ := hrel
    by_cases hlt : j < k
    · have hts := take_snoc s j (by omega)
      have hv := val_take_lt s.data.toList j (by omega)
      have hob := or_byte (Itm.val (s.data.toList.take j)) (s[j]'(by omega)).toNat (s[j]'(by omega)).toNat_lt (by have := (s[j]'(by omega)).toNat_lt; omega)
      have HO : Hid (bits .or .u64 (IntKind.u64.wrap ((Itm.val (s.data.toList.take j) : Nat) * 256)) (IntKind.u64.wrap ((s[j]'(by omega)).toNat : Int)) = ((Itm.val (s.data.toList.take (j + 1)) : Nat) : Int)) := by
        rw [hts, Itm.val_snoc]; exact hob
      clear hts hob hv
      go_wp2
      go_round
      case rel => exact ⟨j + 1, by omega, by go_num, by rw [HO.out]⟩
      case measure => simp [intOf]; omega
    · go_wp2
      go_ret2
      have hjk : j = k := by omega
      subst hjk
      refine ⟨?_, rfl⟩
      simp
      omega

set_option maxHeartbeats 400000 in
theorem long_short (s : ByteArray) (k : Nat) (w : World) (h0 : s.size < k) :
    Calls Try.prog 111 #[.string s, .int .i64 k] w fun e w' => e = .returned (.tuple #[.int .u64 0, .bool false]) ∧ w' = w := by
  have hlt : decide (s.size < k) = true := by simp; omega
  go_enter Try.func111, Try.ntmps111
  go_wp2
  go_ret2
  exact ⟨rfl, rfl⟩

set_option maxHeartbeats 400000 in
theorem long_zero (s : ByteArray) (k : Nat) (w : World) (h0 : k ≤ s.size) (h1 : 0 < s.size) (hz : ((s[0].toNat : Int) == 0) = true) :
    Calls Try.prog 111 #[.string s, .int .i64 k] w fun e w' => e = .returned (.tuple #[.int .u64 0, .bool false]) ∧ w' = w := by
  have hlt : decide (s.size < k) = false := by simp; omega
  go_enter Try.func111, Try.ntmps111
  go_wp2
  go_ret2
  exact ⟨rfl, rfl⟩

end Go.Proofs.Ytbmohenjphmlgaa
