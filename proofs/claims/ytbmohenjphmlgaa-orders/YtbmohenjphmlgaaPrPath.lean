/- The walks of digitsOf, oneDigit, packed, pathOf (of the program): digits and paths. -/
import Derived.Test.YtbmohenjphmlgaaTrTree
import Derived.Test.YtbmohenjphmlgaaHpDigits
namespace Go.Proofs.Ytbmohenjphmlgaa
open Go.RowKit
set_option maxRecDepth 100000

theorem u8_and15 : ∀ n : Fin 256, bits .and .u8 (n.val : Int) 15 = ((n.val % 16 : Nat) : Int) := by decide +kernel
theorem u8_or16 : ∀ (a : Fin 16) (b : Fin 16), bits .or .u8 (IntKind.u8.wrap ((a.val : Int) * 16)) (b.val : Int) = ((16 * a.val + b.val : Nat) : Int) := by decide +kernel

theorem bits_digit (c : UInt8) : #[Value.int .u8 ((c.toNat : Int) / 16), Value.int .u8 (bits .and .u8 (c.toNat : Int) 15)].toList = Lib.byteCells [UInt8.ofNat (c.toNat / 16), UInt8.ofNat (c.toNat % 16)] := by
  have := c.toNat_lt
  simp only [Lib.byteCells, List.map_cons, List.map_nil]
  have e1 : (UInt8.ofNat (c.toNat / 16)).toNat = c.toNat / 16 := by simp; omega
  have e2 : (UInt8.ofNat (c.toNat % 16)).toNat = c.toNat % 16 := by simp; omega
  have e3 : (c.toNat : Int) / 16 = ((c.toNat / 16 : Nat) : Int) := by omega
  have e4 := u8_and15 ⟨c.toNat, this⟩
  dsimp only at e4
  rw [e1, e2, e3, e4]

set_option maxHeartbeats 1600000 in
theorem digitsOf_any (s : ByteArray) (w : World) (hs : s.size ≤ 100000000) : Calls Try.prog 79 #[.string s] w fun e w' => e = .returned (.string ⟨(Tr.digits s.data.toList).toArray⟩) ∧ Below w.heap.size w w' := by
  obtain ⟨i0, hi, hz0, hz1, hz2⟩ := info_parts infoByte
  have HI := hid hi
  have HZ2 : Hid (i0.bytes * (2 * s.size) ≤ 281474976710656) := by rw [Hid, hz2]; omega
  have HML : Hid (2 * s.size ≤ maxLen) := by rw [Hid]; unfold maxLen; omega
  have HZ0 := hid hz0
  have HZ1 := hid hz1
  clear hi hz0 hz1 hz2
  have HD0 : Hid ((2 : Int) * (s.size : Int) = ((2 * s.size : Nat) : Int)) := by rw [Hid]; omega
  go_enter Try.func79, Try.ntmps79
  go_wp2_with (at_make; go_loud (refine wpList_make_own _ rfl _ (.tmp 7) 76 rfl w.heap.size 5 i0 (.int .u8 0) 1 Try.underlying76 HI.out HZ0.out HZ1.out .i64 .i64 _ (2 * s.size) rfl rfl HD0.out HZ2.out HML.out (Nat.le_refl _) ?_); intro w0 hown0 hgrow0; have HO0 := hid hown0; have HG0 := hid hgrow0; clear hown0 hgrow0)
  go_loopw [3, 11] (fun l i wr => ∃ k : Nat, i = .int .i64 k ∧ k ≤ s.size ∧ Hid (Bown wr w.heap.size l (Tr.digits (s.data.toList.take k)) ∧ Below w.heap.size w wr)) (fun _ i _ => s.size - (intOf i).toNat)
  case atStart => exact ⟨0, rfl, Nat.zero_le _, HO0.out, (Below.refl _ _).grown HG0.out (Nat.le_refl _) (fun g hg => by cases hg)⟩
  case round =>
    obtain ⟨k, rfl, hk, HH⟩ := hrel
    obtain ⟨ab, cb, hv⟩ := bown_shape HH.out.1
    by_cases hlt : k < s.size
    · subst hv
      have i1 : (0 : Int) ≤ (k : Int) := by omega
      have i2 : (k : Int) < (s.size : Int) := by omega
      have HD : Hid (Tr.digits (s.data.toList.take (k + 1)) = Tr.digits (s.data.toList.take k) ++ [UInt8.ofNat (s[k].toNat / 16), UInt8.ofNat (s[k].toNat % 16)]) := by
        rw [Hid, take_snoc s k hlt, Tr.digits_append]; rfl
      have HLN : Hid ((Tr.digits (s.data.toList.take k)).length + 2 ≤ 1000000000) := by
        rw [Hid, Tr.digits_len, List.length_take]; omega
      have HZ := hid (bits_digit s[k])
      have HH1 := hid HH.out.1
      have HH2 := hid HH.out.2
      generalize Tr.digits (s.data.toList.take k) = dk at *
      go_wp2_with fail
      go_region_held3 (fun _ => True) (trivial) ((refine step_push_bytes rfl (.tmp 14) (.tmp 23) rfl [UInt8.ofNat (s[k].toNat / 16), UInt8.ofNat (s[k].toNat % 16)] _ rfl rfl rfl HH1.out (HH2.out.drew) (Nat.le_refl _) HZ.out HLN.out ?_; intro v' w' ho' hb'; have HO' := hid ho'; have HB' := hid hb'; clear ho' hb'))
      all_goals
        go_wp2_with fail
        exact ⟨⟨k + 1, by go_num, by omega, by rw [HD.out]; exact HO'.out, HB'.out⟩, by simp [intOf]; omega⟩
    · have i2 : ¬ (k : Int) < (s.size : Int) := by omega
      have hke : k = s.size := by omega
      have HK : Hid (Tr.digits (s.data.toList.take k) = Tr.digits s.data.toList) := by rw [Hid, List.take_of_length_le (by rw [ba_len]; omega)]
      rw [HK.out] at hv
      subst hv
      have hcv := run_bytes_string (brd_of_bown (by have h := HH.out.1; rw [HK.out] at h; exact h))
      go_wp2_with fail
      go_ret
      exact ⟨rfl, HH.out.2⟩

theorem pack_cells (a b : UInt8) (ha : a.toNat < 16) (hb : b.toNat < 16) : #[Value.int .u8 (bits .or .u8 (IntKind.u8.wrap ((a.toNat : Int) * 16)) (b.toNat : Int))].toList = Lib.byteCells [UInt8.ofNat (16 * a.toNat + b.toNat)] := by
  simp only [Lib.byteCells, List.map_cons, List.map_nil]
  have e1 : (UInt8.ofNat (16 * a.toNat + b.toNat)).toNat = 16 * a.toNat + b.toNat := by simp; omega
  have e2 := u8_or16 ⟨a.toNat, ha⟩ ⟨b.toNat, hb⟩
  dsimp only at e2
  rw [e1, e2]

theorem ba_mem (s : ByteArray) (k : Nat) (h : k < s.size) : s[k] ∈ s.data.toList := by
  show s.data[k] ∈ s.data.toList
  rw [Array.mem_toList_iff]
  exact Array.getElem_mem h

theorem take_two (s : ByteArray) (k : Nat) (h : k + 1 < s.size) : s.data.toList.take (k + 2) = s.data.toList.take k ++ [s[k], s[k + 1]] := by
  rw [show k + 2 = (k + 1) + 1 from rfl, take_snoc s (k + 1) h, take_snoc s k (by omega), List.append_assoc]; rfl

set_option maxHeartbeats 1600000 in
theorem oneDigit_any (n : Nat) (w : World) (hn : n < 256) : Calls Try.prog 119 #[.int .i64 n] w fun e w' => e = .returned (.string ⟨#[UInt8.ofNat n]⟩) ∧ Below w.heap.size w w' := by
  have hcv := run_bytes_string (brd_of_bown (bown_one w w.heap.size (UInt8.ofNat n) (Nat.le_refl _)))
  rw [show (UInt8.ofNat n).toNat = n by simp; omega] at hcv
  go_enter Try.func119, Try.ntmps119
  go_wp2_with fail
  go_ret
  exact ⟨rfl, (Below.refl _ _).alloc (Nat.le_refl _) _⟩

set_option maxHeartbeats 1600000 in
theorem packed_any (s : ByteArray) (w : World) (hs : s.size ≤ 100000000) (he : s.size % 2 = 0) (hd : ∀ c ∈ s.data.toList, c.toNat < 16) : Calls Try.prog 126 #[.string s] w fun e w' => e = .returned (.string ⟨(Tr.pack s.data.toList).toArray⟩) ∧ Below w.heap.size w w' := by
  obtain ⟨i0, hi, hz0, hz1, hz2⟩ := info_parts infoByte
  have HI := hid hi
  have HZ2 : Hid (i0.bytes * (s.size / 2) ≤ 281474976710656) := by rw [Hid, hz2]; omega
  have HML : Hid (s.size / 2 ≤ maxLen) := by rw [Hid]; unfold maxLen; omega
  have HZ0 := hid hz0
  have HZ1 := hid hz1
  clear hi hz0 hz1 hz2
  have HD0 : Hid ((s.size : Int) / 2 = ((s.size / 2 : Nat) : Int)) := by rw [Hid]; omega
  have HD := hid hd
  have HE := hid he
  clear hd he
  go_enter Try.func126, Try.ntmps126
  go_wp2_with (at_make; go_loud (refine wpList_make_own _ rfl _ (.tmp 7) 76 rfl w.heap.size 5 i0 (.int .u8 0) 1 Try.underlying76 HI.out HZ0.out HZ1.out .i64 .i64 _ (s.size / 2) rfl rfl HD0.out HZ2.out HML.out (Nat.le_refl _) ?_); intro w0 hown0 hgrow0; have HO0 := hid hown0; have HG0 := hid hgrow0; clear hown0 hgrow0)
  go_loopw [3, 4] (fun l i wr => ∃ k : Nat, i = .int .i64 ((2 * k : Nat) : Int) ∧ 2 * k ≤ s.size ∧ Hid (Bown wr w.heap.size l (Tr.pack (s.data.toList.take (2 * k))) ∧ Below w.heap.size w wr)) (fun _ i _ => s.size - (intOf i).toNat)
  case atStart => exact ⟨0, rfl, Nat.zero_le _, HO0.out, (Below.refl _ _).grown HG0.out (Nat.le_refl _) (fun g hg => by cases hg)⟩
  case round =>
    obtain ⟨k, rfl, hk, HH⟩ := hrel
    obtain ⟨ab, cb, hv⟩ := bown_shape HH.out.1
    generalize hm : 2 * k = m at *
    by_cases hlt : m < s.size
    · subst hv
      have hlt2 : m + 1 < s.size := by have := HE.out; omega
      have i1 : (0 : Int) ≤ (m : Int) := by omega
      have i2 : (m : Int) < (s.size : Int) := by omega
      have i3 : (0 : Int) ≤ (m : Int) + 1 := by omega
      have hw1 : IntKind.i64.wrap ((m : Int) + 1) = (m : Int) + 1 := by rw [IntKind.wrap_i64]; omega
      have i4 : (m : Int) + 1 < (s.size : Int) := by omega
      have HDD : Hid (Tr.pack (s.data.toList.take (m + 2)) = Tr.pack (s.data.toList.take m) ++ [UInt8.ofNat (16 * s[m].toNat + s[m + 1].toNat)]) := by
        rw [Hid, take_two s m hlt2, Tr.pack_snoc _ _ _ k (by rw [List.length_take, ba_len]; omega)]
      have HLN : Hid ((Tr.pack (s.data.toList.take m)).length + 1 ≤ 1000000000) := by
        rw [Hid]
        have := Tr.pack_le (s.data.toList.take m)
        rw [List.length_take] at this
        omega
      have HZ := hid (pack_cells s[m] s[m + 1] (HD.out _ (ba_mem s m hlt)) (HD.out _ (ba_mem s (m + 1) hlt2)))
      have HH1 := hid HH.out.1
      have HH2 := hid HH.out.2
      have HM := hid hm
      generalize Tr.pack (s.data.toList.take m) = dk at *
      clear hm
      go_wp2_with fail
      go_region_held3 (fun _ => True) (trivial) ((go_loud (refine step_push_bytes rfl (.tmp 15) (.tmp 25) rfl [UInt8.ofNat (16 * s[m].toNat + s[m + 1].toNat)] _ rfl rfl rfl HH1.out (HH2.out.drew) (Nat.le_refl _) HZ.out HLN.out ?_); intro v' w' ho' hb'; have HO' := hid ho'; have HB' := hid hb'; clear ho' hb'))
      all_goals
        go_wp2_with fail
        exact ⟨⟨k + 1, by have := HM.out; go_num, by have := HM.out; omega, by rw [show 2 * (k + 1) = m + 2 by have := HM.out; omega, HDD.out]; exact HO'.out, HB'.out⟩, by simp [intOf]; omega⟩
    · have i2 : ¬ (m : Int) < (s.size : Int) := by omega
      have hke : m = s.size := by omega
      have HK : Hid (Tr.pack (s.data.toList.take m) = Tr.pack s.data.toList) := by rw [Hid, List.take_of_length_le (by rw [ba_len]; omega)]
      rw [HK.out] at hv
      subst hv
      have hcv := run_bytes_string (brd_of_bown (by have h := HH.out.1; rw [HK.out] at h; exact h))
      go_wp2_with fail
      go_ret
      exact ⟨rfl, HH.out.2⟩
end Go.Proofs.Ytbmohenjphmlgaa
