/- Part 14 of a proof: what the last text needs. -/
import Derived.Test.YtbmohenjphmlgaaPart13
import Derived.Test.YtbmohenjphmlgaaPart2
/- The walks of digitsOf, oneDigit, packed, pathOf (of the program): digits and paths. -/
namespace Go.Proofs.Ytbmohenjphmlgaa
open Go.RowKit
set_option maxRecDepth 100000

theorem u8_and15 : ∀ n : Fin 256, bits .and .u8 (n.val : Int) 15 = ((n.val % 16 : Nat) : Int) := by decide +kernel
theorem u8_or16 : ∀ (a : Fin 16) (b : Fin 16), bits .or .u8 (IntKind.u8.wrap ((a.val : Int) * 16)) (b.val : Int) = ((16 * a.val + b.val : Nat) : Int) := by decide +kernel

theorem bits_digit (c : UInt8) : #[Value.int .u8 ((c.toNat : Int) / 16), Value.int .u8 (bits .and .u8 (c.toNat : Int) 15)].toList = Lib.byteCells [UInt8.ofNat (c.toNat / 16), UInt8.ofNat (c.toNat % 16)] := by
  have := c.toNat_lt
  simp only [Lib.byteCells, List.map_cons, List.map_nil]
  have e1 : (UInt8.ofNat (c.toNat / 16)).toNat = c.toNat / 16 := by simp; omega
  have e2 : (UInt8.ofNat (c.toNat % 16)).toNat = c.toNat % 16 := by simp; omega
  have e3 : (c.toNat : Int) / 16 = ((c.toNat / 16 : Nat) : Int) := by omega
  have e4 := u8_and15 ⟨c.toNat, this⟩
  dsimp only at e4
  rw [e1, e2, e3, e4]

set_option maxHeartbeats 1600000 in
theorem digitsOf_any (s : ByteArray) (w : World) (hs : s.size ≤ 100000000) : Calls Try.prog 79 #[.string s] w fun e w' => e = .returned (.string ⟨(Tr.digits s.data.toList).toArray⟩) ∧ Below w.heap.size w w' := by
  obtain ⟨i0, hi, hz0, hz1, hz2⟩ := info_parts infoByte
  have HI := hid hi
  have HZ2 : Hid (i0.bytes * (2 * s.size) ≤ 281474976710656) := by rw [Hid, hz2]; omega
  have HML : Hid (2 * s.size ≤ maxLen) := by rw [Hid]; unfold maxLen; omega
  have HZ0 := hid hz0
  have HZ1 := hid hz1
  clear hi hz0 hz1 hz2
  have HD0 : Hid ((2 : Int) * (s.size : Int) = ((2 * s.size : Nat) : Int)) := by rw [Hid]; omega
  go_enter Try.func79, Try.ntmps79
  go_wp2_with (at_make; go_loud (refine wpList_make_own _ rfl _ (.tmp 7) 76 rfl w.heap.size 5 i0 (.int .u8 0) 1 Try.underlying76 HI.out HZ0.out HZ1.out .i64 .i64 _ (2 * s.size) rfl rfl HD0.out HZ2.out HML.out (Nat.le_refl _) ?_); intro w0 hown0 hgrow0; have HO0 := hid hown0; have HG0 := hid hgrow0; clear hown0 hgrow0)
  go_loopw [3, 11] (fun l i wr => ∃ k : Nat, i = .int .i64 k ∧ k ≤ s.size ∧ Hid (Bown wr w.heap.size l (Tr.digits (s.data.toList.take k)) ∧ Below w.heap.size w wr)) (fun _ i _ => s.size - (intOf i).toNat)
  case atStart => exact ⟨0, rfl, Nat.zero_le _, HO0.out, (Below.refl _ _).grown HG0.out (Nat.le_refl _) (fun g hg => by cases hg)⟩
  case round =>
    obtain ⟨k, rfl, hk, HH⟩ := hrel
    obtain ⟨ab, cb, hv⟩ := bown_shape HH.out.1
    by_cases hlt : k < s.size
    · subst hv
      have i1 : (0 : Int) ≤ (k : Int) := by omega
      have i2 : (k : Int) < (s.size : Int) := by omega
      have HD : Hid (Tr.digits (s.data.toList.take (k + 1)) = Tr.digits (s.data.toList.take k) ++ [UInt8.ofNat (s[k].toNat / 16), UInt8.ofNat (s[k].toNat % 16)]) := by
        rw [Hid, take_snoc s k hlt, Tr.digits_append]; rfl
      have HLN : Hid ((Tr.digits (s.data.toList.take k)).length + 2 ≤ 1000000000) := by
        rw [Hid, Tr.digits_len, List.length_take]; omega
      have HZ := hid (bits_digit s[k])
      have HH1 := hid HH.out.1
      have HH2 := hid HH.out.2
      generalize Tr.digits (s.data.toList.take k) = dk at *
      go_wp2_with fail
      go_region_held3 (fun _ => True) (trivial) ((refine step_push_bytes rfl (.tmp 14) (.tmp 23) rfl [UInt8.ofNat (s[k].toNat / 16), UInt8.ofNat (s[k].toNat % 16)] _ rfl rfl rfl HH1.out (HH2.out.drew) (Nat.le_refl _) HZ.out HLN.out ?_; intro v' w' ho' hb'; have HO' := hid ho'; have HB' := hid hb'; clear ho' hb'))
      all_goals
        go_wp2_with fail
        exact ⟨⟨k + 1, by go_num, by omega, by rw [HD.out]; exact HO'.out, HB'.out⟩, by simp [intOf]; omega⟩
    · have i2 : ¬ (k : Int) < (s.size : Int) := by omega
      have hke : k = s.size := by omega
      have HK : Hid (Tr.digits (s.data.toList.take k) = Tr.digits s.data.toList) := by rw [Hid, List.take_of_length_le (by rw [ba_len]; omega)]
      rw [HK.out] at hv
      subst hv
      have hcv := run_bytes_string (brd_of_bown (by have h := HH.out.1; rw [HK.out] at h; exact h))
      go_wp2_with fail
      go_ret
      exact ⟨rfl, HH.out.2⟩

theorem pack_cells (a b : UInt8) (ha : a.toNat < 16) (hb : b.toNat < 16) : #[Value.int .u8 (bits .or .u8 (IntKind.u8.wrap ((a.toNat : Int) * 16)) (b.toNat : Int))].toList = Lib.byteCells [UInt8.ofNat (16 * a.toNat + b.toNat)] := by
  simp only [Lib.byteCells, List.map_cons, List.map_nil]
  have e1 : (UInt8.ofNat (16 * a.toNat + b.toNat)).toNat = 16 * a.toNat + b.toNat := by simp; omega
  have e2 := u8_or16 ⟨a.toNat, ha⟩ ⟨b.toNat, hb⟩
  dsimp only at e2
  rw [e1, e2]

theorem ba_mem (s : ByteArray) (k : Nat) (h : k < s.size) : s[k] ∈ s.data.toList := by
  show s.data[k] ∈ s.data.toList
  rw [Array.mem_toList_iff]
  exact Array.getElem_mem h

theorem take_two (s : ByteArray) (k : Nat) (h : k + 1 < s.size) : s.data.toList.take (k + 2) = s.data.toList.take k ++ [s[k], s[k + 1]] := by
  rw [show k + 2 = (k + 1) + 1 from rfl, take_snoc s (k + 1) h, take_snoc s k (by omega), List.append_assoc]; rfl

set_option maxHeartbeats 1600000 in
theorem oneDigit_any (n : Nat) (w : World) (hn : n < 256) : Calls Try.prog 119 #[.int .i64 n] w fun e w' => e = .returned (.string ⟨#[UInt8.ofNat n]⟩) ∧ Below w.heap.size w w' := by
  have hcv := run_bytes_string (brd_of_bown (bown_one w w.heap.size (UInt8.ofNat n) (Nat.le_refl _)))
  rw [show (UInt8.ofNat n).toNat = n by simp; omega] at hcv
  go_enter Try.func119, Try.ntmps119
  go_wp2_with fail
  go_ret
  exact ⟨rfl, (Below.refl _ _).alloc (Nat.le_refl _) _⟩

set_option maxHeartbeats 1600000 in
theorem packed_any (s : ByteArray) (w : World) (hs : s.size ≤ 100000000) (he : s.size % 2 = 0) (hd : ∀ c ∈ s.data.toList, c.toNat < 16) : Calls Try.prog 126 #[.string s] w fun e w' => e = .returned (.string ⟨(Tr.pack s.data.toList).toArray⟩) ∧ Below w.heap.size w w' := by
  obtain ⟨i0, hi, hz0, hz1, hz2⟩ := info_parts infoByte
  have HI := hid hi
  have HZ2 : Hid (i0.bytes * (s.size / 2) ≤ 281474976710656) := by rw [Hid, hz2]; omega
  have HML : Hid (s.size / 2 ≤ maxLen) := by rw [Hid]; unfold maxLen; omega
  have HZ0 := hid hz0
  have HZ1 := hid hz1
  clear hi hz0 hz1 hz2
  have HD0 : Hid ((s.size : Int) / 2 = ((s.size / 2 : Nat) : Int)) := by rw [Hid]; omega
  have HD := hid hd
  have HE := hid he
  clear hd he
  go_enter Try.func126, Try.ntmps126
  go_wp2_with (at_make; go_loud (refine wpList_make_own _ rfl _ (.tmp 7) 76 rfl w.heap.size 5 i0 (.int .u8 0) 1 Try.underlying76 HI.out HZ0.out HZ1.out .i64 .i64 _ (s.size / 2) rfl rfl HD0.out HZ2.out HML.out (Nat.le_refl _) ?_); intro w0 hown0 hgrow0; have HO0 := hid hown0; have HG0 := hid hgrow0; clear hown0 hgrow0)
  go_loopw [3, 4] (fun l i wr => ∃ k : Nat, i = .int .i64 ((2 * k : Nat) : Int) ∧ 2 * k ≤ s.size ∧ Hid (Bown wr w.heap.size l (Tr.pack (s.data.toList.take (2 * k))) ∧ Below w.heap.size w wr)) (fun _ i _ => s.size - (intOf i).toNat)
  case atStart => exact ⟨0, rfl, Nat.zero_le _, HO0.out, (Below.refl _ _).grown HG0.out (Nat.le_refl _) (fun g hg => by cases hg)⟩
  case round =>
    obtain ⟨k, rfl, hk, HH⟩ := hrel
    obtain ⟨ab, cb, hv⟩ := bown_shape HH.out.1
    generalize hm : 2 * k = m at *
    by_cases hlt : m < s.size
    · subst hv
      have hlt2 : m + 1 < s.size := by have := HE.out; omega
      have i1 : (0 : Int) ≤ (m : Int) := by omega
      have i2 : (m : Int) < (s.size : Int) := by omega
      have i3 : (0 : Int) ≤ (m : Int) + 1 := by omega
      have hw1 : IntKind.i64.wrap ((m : Int) + 1) = (m : Int) + 1 := by rw [IntKind.wrap_i64]; omega
      have i4 : (m : Int) + 1 < (s.size : Int) := by omega
      have HDD : Hid (Tr.pack (s.data.toList.take (m + 2)) = Tr.pack (s.data.toList.take m) ++ [UInt8.ofNat (16 * s[m].toNat + s[m + 1].toNat)]) := by
        rw [Hid, take_two s m hlt2, Tr.pack_snoc _ _ _ k (by rw [List.length_take, ba_len]; omega)]
      have HLN : Hid ((Tr.pack (s.data.toList.take m)).length + 1 ≤ 1000000000) := by
        rw [Hid]
        have := Tr.pack_le (s.data.toList.take m)
        rw [List.length_take] at this
        omega
      have HZ := hid (pack_cells s[m] s[m + 1] (HD.out _ (ba_mem s m hlt)) (HD.out _ (ba_mem s (m + 1) hlt2)))
      have HH1 := hid HH.out.1
      have HH2 := hid HH.out.2
      have HM := hid hm
      generalize Tr.pack (s.data.toList.take m) = dk at *
      clear hm
      go_wp2_with fail
      go_region_held3 (fun _ => True) (trivial) ((go_loud (refine step_push_bytes rfl (.tmp 15) (.tmp 25) rfl [UInt8.ofNat (16 * s[m].toNat + s[m + 1].toNat)] _ rfl rfl rfl HH1.out (HH2.out.drew) (Nat.le_refl _) HZ.out HLN.out ?_); intro v' w' ho' hb'; have HO' := hid ho'; have HB' := hid hb'; clear ho' hb'))
      all_goals
        go_wp2_with fail
        exact ⟨⟨k + 1, by have := HM.out; go_num, by have := HM.out; omega, by rw [show 2 * (k + 1) = m + 2 by have := HM.out; omega, HDD.out]; exact HO'.out, HB'.out⟩, by simp [intOf]; omega⟩
    · have i2 : ¬ (m : Int) < (s.size : Int) := by omega
      have hke : m = s.size := by omega
      have HK : Hid (Tr.pack (s.data.toList.take m) = Tr.pack s.data.toList) := by rw [Hid, List.take_of_length_le (by rw [ba_len]; omega)]
      rw [HK.out] at hv
      subst hv
      have hcv := run_bytes_string (brd_of_bown (by have h := HH.out.1; rw [HK.out] at h; exact h))
      go_wp2_with fail
      go_ret
      exact ⟨rfl, HH.out.2⟩
end Go.Proofs.Ytbmohenjphmlgaa

/- The walks of pathOf and sumOf (of the program). -/
namespace Go.Proofs.Ytbmohenjphmlgaa
open Go.RowKit
set_option maxRecDepth 100000

theorem append_toList (a b : ByteArray) : (a ++ b).data.toList = a.data.toList ++ b.data.toList := by simp

theorem path_odd (l : List UInt8) (f : Nat) (leaf : Bool) (hl : l.length % 2 = 1) (hd : ∀ c ∈ l, c.toNat < 16) (hf : f = (if leaf then 2 else 0)) : Tr.pack ([UInt8.ofNat (f + 1)] ++ l) = Tr.path l leaf := by
  unfold Tr.path
  rw [if_pos hl]
  cases l with
  | nil => simp at hl
  | cons c r =>
    have hc := hd c (by simp)
    rw [List.cons_append, List.nil_append, Tr.pack_two]
    congr 1
    have e1 : (UInt8.ofNat (f + 1)).toNat = f + 1 := by simp; cases leaf <;> simp at hf <;> omega
    rw [e1]
    subst hf
    cases leaf <;> simp

theorem path_even (l : List UInt8) (f : Nat) (leaf : Bool) (hl : ¬ l.length % 2 = 1) (hf : f = (if leaf then 2 else 0)) : Tr.pack (([UInt8.ofNat f] ++ [UInt8.ofNat 0]) ++ l) = Tr.path l leaf := by
  unfold Tr.path
  rw [if_neg hl, List.append_assoc, List.cons_append, List.nil_append, List.cons_append, List.nil_append, Tr.pack_two]
  congr 1
  subst hf
  cases leaf <;> simp

set_option maxHeartbeats 1600000 in
theorem pathOf_any (s : ByteArray) (leaf : Bool) (w : World) (hs : s.size ≤ 10000000) (hd : ∀ c ∈ s.data.toList, c.toNat < 16) : Calls Try.prog 114 #[.string s, .bool leaf] w fun e w' => e = .returned (.string ⟨(Tr.path s.data.toList leaf).toArray⟩) ∧ Below w.heap.size w w' := by
  have hlen : s.data.toList.length = s.size := ba_len s
  have HP : Hid (∀ (t : ByteArray) (r : List UInt8) (w : World), t.data.toList = r ++ s.data.toList → r.length ≤ 2 → (r.length + s.size) % 2 = 0 → (∀ c ∈ r, c.toNat < 16) → Calls Try.prog 126 #[.string t] w fun e w' => e = .returned (.string ⟨(Tr.pack (r ++ s.data.toList)).toArray⟩) ∧ Below w.heap.size w w') := by
    intro t r w ht hr he hrd
    have hsz : t.size = r.length + s.size := by rw [← ba_len t, ht, List.length_append, hlen]
    rw [← ht]
    exact packed_any t w (by omega) (by omega) (by rw [ht]; intro c hc; exact (List.mem_append.1 hc).elim (hrd c) (hd c))
  have H1 := hid (fun n w hn => oneDigit_any n w hn)
  have HO : Hid (∀ f : Nat, f = (if leaf then 2 else 0) → s.size % 2 = 1 → Tr.pack ([UInt8.ofNat (f + 1)] ++ s.data.toList) = Tr.path s.data.toList leaf) := fun f hf h => path_odd _ f leaf (by rw [hlen]; exact h) hd hf
  have HE : Hid (∀ f : Nat, f = (if leaf then 2 else 0) → ¬ s.size % 2 = 1 → Tr.pack (([UInt8.ofNat f] ++ [UInt8.ofNat 0]) ++ s.data.toList) = Tr.path s.data.toList leaf) := fun f hf h => path_even _ f leaf (by rw [hlen]; exact h) hf
  clear hd hlen
  go_enter Try.func114, Try.ntmps114
  rcases Nat.mod_two_eq_zero_or_one s.size with hm | hm
  · have hm1 : (s.size : Int) % 2 = 0 := by omega
    have hm2 : ¬ s.size % 2 = 1 := by omega
    cases leaf
    · go_wp2_with fail
      refine (H1.out 0 _ (by decide)).mono ?_
      rintro e w1 ⟨rfl, b1⟩
      go_wp2_with fail
      refine (H1.out 0 _ (by decide)).mono ?_
      rintro e w2 ⟨rfl, b2⟩
      go_wp2_with fail
      refine (HP.out _ ([UInt8.ofNat 0] ++ [UInt8.ofNat 0]) _ (by simp) (by simp) (by simp; omega) (by simp)).mono ?_
      rintro e w3 ⟨rfl, b3⟩
      go_wp2_with fail
      go_ret
      exact ⟨congrArg (fun l : List UInt8 => Ending.returned (.string ⟨l.toArray⟩)) (HE.out 0 rfl hm2), (b1.trans (b2.mono b1.size)).trans (b3.mono (Nat.le_trans b1.size b2.size))⟩
    · go_wp2_with fail
      refine (H1.out 2 _ (by decide)).mono ?_
      rintro e w1 ⟨rfl, b1⟩
      go_wp2_with fail
      refine (H1.out 0 _ (by decide)).mono ?_
      rintro e w2 ⟨rfl, b2⟩
      go_wp2_with fail
      refine (HP.out _ ([UInt8.ofNat 2] ++ [UInt8.ofNat 0]) _ (by simp) (by simp) (by simp; omega) (by simp)).mono ?_
      rintro e w3 ⟨rfl, b3⟩
      go_wp2_with fail
      go_ret
      exact ⟨congrArg (fun l : List UInt8 => Ending.returned (.string ⟨l.toArray⟩)) (HE.out 2 rfl hm2), (b1.trans (b2.mono b1.size)).trans (b3.mono (Nat.le_trans b1.size b2.size))⟩
  · have hm1 : (s.size : Int) % 2 = 1 := by omega
    cases leaf
    · go_wp2_with fail
      refine (H1.out 1 _ (by decide)).mono ?_
      rintro e w1 ⟨rfl, b1⟩
      go_wp2_with fail
      refine (HP.out _ ([UInt8.ofNat 1]) _ (by simp) (by simp) (by simp; omega) (by simp)).mono ?_
      rintro e w3 ⟨rfl, b3⟩
      go_wp2_with fail
      go_ret
      exact ⟨congrArg (fun l : List UInt8 => Ending.returned (.string ⟨l.toArray⟩)) (HO.out 0 rfl hm), b1.trans (b3.mono b1.size)⟩
    · go_wp2_with fail
      refine (H1.out 3 _ (by decide)).mono ?_
      rintro e w1 ⟨rfl, b1⟩
      go_wp2_with fail
      refine (HP.out _ ([UInt8.ofNat 3]) _ (by simp) (by simp) (by simp; omega) (by simp)).mono ?_
      rintro e w3 ⟨rfl, b3⟩
      go_wp2_with fail
      go_ret
      exact ⟨congrArg (fun l : List UInt8 => Ending.returned (.string ⟨l.toArray⟩)) (HO.out 2 rfl hm), b1.trans (b3.mono b1.size)⟩

/-- The eight places of the sum while they are being written. -/
def sumCells (n k : Nat) : Array Value := ((List.range 8).map fun i => if i < k then Value.int .u8 ((Tr.sumAt n i).toNat : Nat) else Value.int .u8 0).toArray

theorem sumCells_at (n k i : Nat) : (sumCells n k)[i]? = if i < 8 then some (if i < k then Value.int .u8 ((Tr.sumAt n i).toNat : Nat) else Value.int .u8 0) else none := by
  unfold sumCells
  by_cases h : i < 8
  · simp [h]
  · simp [h]

theorem sumCells_size (n k : Nat) : (sumCells n k).size = 8 := by simp [sumCells]

theorem sumCells_set (n k : Nat) (hk : k < 8) : (sumCells n k).setIfInBounds k (.int .u8 ((Tr.sumAt n k).toNat : Nat)) = sumCells n (k + 1) := by
  apply Array.ext_getElem?
  intro i
  rw [Array.getElem?_setIfInBounds, sumCells_at, sumCells_at, sumCells_size]
  by_cases h : k = i
  · subst h; simp [hk]
  · rw [if_neg h]
    by_cases h8 : i < 8
    · rw [if_pos h8, if_pos h8]
      by_cases hik : i < k
      · rw [if_pos hik, if_pos (by omega)]
      · rw [if_neg hik, if_neg (by omega)]
    · rw [if_neg h8, if_neg h8]

theorem sum_byte2 (n m : Nat) : (n : Int) / 2 ^ (8 * (7 - m)) % 256 = (((Tr.sumAt n m).toNat : Nat) : Int) := by
  have e2 : (n : Int) / 2 ^ (8 * (7 - m)) = ((n / 256 ^ (7 - m) : Nat) : Int) := by
    have : (256 : Nat) ^ (7 - m) = 2 ^ (8 * (7 - m)) := by rw [Nat.pow_mul]
    rw [this]
    simp
  rw [e2]
  unfold Tr.sumAt
  simp

set_option maxHeartbeats 1600000 in
theorem sumOf_any (s : ByteArray) (w : World) (hs : s.size ≤ 1000000000) : Calls Try.prog 128 #[.string s] w fun e w' => e = .returned (.string ⟨(Tr.sum s.data.toList).toArray⟩) ∧ Below w.heap.size w w' := by
  go_enter Try.func128, Try.ntmps128
  go_wp2_with fail
  go_loopw [3, 9] (fun h i wr => ∃ k : Nat, h = .int .u64 (Tr.fnv (s.data.toList.take k)) ∧ i = .int .i64 k ∧ k ≤ s.size ∧ wr = w) (fun _ i _ => s.size - (intOf i).toNat)
  case atStart => exact ⟨0, by rw [List.take_zero, Tr.fnv_nil]; simp, rfl, Nat.zero_le _, rfl⟩
  case round =>
    obtain ⟨k, rfl, rfl, hk, rfl⟩ := hrel
    by_cases hlt : k < s.size
    · have i1 : (0 : Int) ≤ (k : Int) := by omega
      have i2 : (k : Int) < (s.size : Int) := by omega
      have HF := hid (step_val (Tr.fnv (s.data.toList.take k)) s[k] (Tr.fnv_lt _))
      have HS := hid (fnv_snoc s k hlt)
      go_wp2_with fail
      exact ⟨⟨k + 1, by rw [HF.out, HS.out], by go_num, by omega, trivial⟩, by simp [intOf]; omega⟩
    · have i2 : ¬ (k : Int) < (s.size : Int) := by omega
      have HK : Hid (Tr.fnv (s.data.toList.take k) = Tr.fnv s.data.toList) := by rw [Hid, List.take_of_length_le (by rw [ba_len]; omega)]
      rw [HK.out]
      have HLT := hid (Tr.fnv_lt s.data.toList)
      have HSE := hid (Tr.sum_eq s.data.toList)
      generalize Tr.fnv s.data.toList = n at *
      clear HK hlt hk
      go_wp2_with fail
      go_loopw [20] (fun i wx => ∃ m : Nat, i = .int .i64 (m : Int) ∧ m ≤ 8 ∧ wx = wr.alloc (.cells (sumCells n m) 180)) (fun i _ => (8 - intOf i).toNat)
      case atStart => exact ⟨0, rfl, by omega, rfl⟩
      case round =>
        obtain ⟨m, rfl, hm, rfl⟩ := hrel
        by_cases hlt2 : m < 8
        · have j1 : (m : Int) < 8 := by omega
          have j2 : (0 : Int) ≤ (m : Int) := by omega
          have HC := hid (sumCells_set n m hlt2)
          have hfr := frozen_of_row _ _ m _ _ (heap_alloc_new wr (.cells (sumCells n m) 180))
          have hce : (wr.alloc (.cells (sumCells n m) 180)).cell? ⟨wr.heap.size, m, none⟩ = some (.int .u8 0) := by
            rw [cell_of_row _ _ m _ _ _ (heap_alloc_new wr _), sumCells_at, if_pos hlt2, if_neg (by omega)]
          go_wp2_with fail
          exact ⟨⟨m + 1, by go_num, by omega, by rw [sum_byte2 n m, HC.out]⟩, by simp [intOf]; omega⟩
        · have j1 : ¬ (m : Int) < 8 := by omega
          obtain rfl : m = 8 := by omega
          have hbr : Brd (wr.alloc (.cells (sumCells n 8) 180)).heap.size (wr.alloc (.cells (sumCells n 8) 180)) (.slice (some ⟨wr.heap.size, 0, none⟩) 8 8) ((List.range 8).map (Tr.sumAt n)) := by
            refine .inr ⟨wr.heap.size, 0, 8, by simp, by simp, fun j hj => ?_⟩
            have hj8 : j < 8 := by simpa using hj
            rw [cell_of_row _ _ (0 + j) _ _ _ (heap_alloc_new wr _), sumCells_at, if_pos (by omega), if_pos (by omega)]
            simp
          have hcv := run_bytes_string hbr
          clear hbr
          go_wp2_with fail
          go_ret
          exact ⟨by rw [HSE.out]; rfl, (Below.refl _ _).alloc (Nat.le_refl _) _⟩
end Go.Proofs.Ytbmohenjphmlgaa

/- The walks of strings.HasPrefix and strings.CutPrefix. -/
namespace Go.Proofs.Ytbmohenjphmlgaa
open Go.RowKit
set_option maxRecDepth 100000

/-- Does s begin with p? -/
def pre (p s : ByteArray) : Bool := p.data.toList.isPrefixOf s.data.toList

theorem pre_long {p s : ByteArray} (h : ¬ p.size ≤ s.size) : pre p s = false := by
  unfold pre
  rw [Bool.eq_false_iff, Ne, List.isPrefixOf_iff_prefix]
  intro hp
  have := hp.length_le
  rw [ba_len, ba_len] at this
  omega

theorem pre_eq (p s : ByteArray) : pre p s = ((s.extract 0 p.size).toList == p.toList) := by
  unfold pre
  rw [Bool.eq_iff_iff, List.isPrefixOf_iff_prefix, beq_iff_eq, ByteArray.toList_eq, ByteArray.toList_eq]
  have he : (s.extract 0 p.size).data.toList = s.data.toList.take p.size := by rw [Lib.extract_data]; simp
  rw [he, List.prefix_iff_eq_take, ba_len]
  exact ⟨fun h => h.symm, fun h => h.symm⟩

set_option maxHeartbeats 1600000 in
theorem hasPrefix2_any (s p : ByteArray) (w : World) : Calls Try.prog 127 #[.string s, .string p] w fun e w' => e = .returned (.bool (pre p s)) ∧ w' = w := by
  by_cases h : p.size ≤ s.size
  · have h1 : (p.size : Int) ≤ (s.size : Int) := by omega
    have HP := hid (pre_eq p s)
    go_enter Try.func127, Try.ntmps127
    go_wp2_with fail
    go_ret
    exact ⟨by rw [HP.out]; rfl, rfl⟩
  · have h1 : ¬ (p.size : Int) ≤ (s.size : Int) := by omega
    have HP := hid (pre_long h)
    go_enter Try.func127, Try.ntmps127
    go_wp2_with fail
    go_ret
    exact ⟨by rw [HP.out]; rfl, rfl⟩

set_option maxHeartbeats 1600000 in
theorem hasPrefix_any (s p : ByteArray) (w : World) : Calls Try.prog 115 #[.string s, .string p] w fun e w' => e = .returned (.bool (pre p s)) ∧ w' = w := by
  go_enter Try.func115, Try.ntmps115
  go_wp2_with fail
  refine (hasPrefix2_any s p _).mono ?_
  rintro e w1 ⟨rfl, rfl⟩
  go_wp2_with fail
  go_ret
  exact ⟨rfl, rfl⟩

/-- What is left of s behind p. -/
def cutP (p s : ByteArray) : ByteArray := if pre p s then s.extract p.size s.size else s

theorem pre_size {p s : ByteArray} (h : pre p s = true) : p.size ≤ s.size := by
  unfold pre at h
  rw [List.isPrefixOf_iff_prefix] at h
  have := h.length_le
  rw [ba_len, ba_len] at this
  exact this

theorem cutP_list {p s : ByteArray} (h : pre p s = true) : (cutP p s).data.toList = s.data.toList.drop p.size := by
  unfold cutP
  rw [if_pos h, Lib.extract_to_end]

set_option maxHeartbeats 1600000 in
theorem cutPrefix2_any (s p : ByteArray) (w : World) : Calls Try.prog 131 #[.string s, .string p] w fun e w' => e = .returned (.tuple #[.string (cutP p s), .bool (pre p s)]) ∧ w' = w := by
  have HC := hid (fun w => hasPrefix2_any s p w)
  go_enter Try.func131, Try.ntmps131
  go_wp2_with fail
  refine (HC.out _).mono ?_
  rintro e w1 ⟨rfl, rfl⟩
  have HCC : Hid (cutP p s = if pre p s then s.extract p.size s.size else s) := rfl
  cases hp : pre p s with
  | true =>
    have h1 := pre_size hp
    have h2 : (p.size : Int) ≤ (s.size : Int) := by omega
    have h3 : (0 : Int) ≤ (p.size : Int) := by omega
    rw [hp, if_pos rfl] at HCC
    have HPP := hid hp
    clear hp
    go_wp2_with fail
    exact bodyPost_ret (v := .tuple #[.string (s.extract p.size s.size), .bool true]) (by simp [results, Try.results131, go_sem]) rfl ⟨by rw [HCC.out, HPP.out], rfl⟩
  | false =>
    rw [hp, if_neg (by decide)] at HCC
    have HPP := hid hp
    clear hp
    go_wp2_with fail
    exact bodyPost_ret (v := .tuple #[.string s, .bool false]) (by simp [results, Try.results131, go_sem]) rfl ⟨by rw [HCC.out, HPP.out], rfl⟩

set_option maxHeartbeats 1600000 in
theorem cutPrefix_any (s p : ByteArray) (w : World) : Calls Try.prog 121 #[.string s, .string p] w fun e w' => e = .returned (.tuple #[.string (cutP p s), .bool (pre p s)]) ∧ w' = w := by
  go_enter Try.func121, Try.ntmps121
  go_wp2_with fail
  refine (cutPrefix2_any s p _).mono ?_
  rintro e w1 ⟨rfl, rfl⟩
  go_wp2_with fail
  exact bodyPost_ret (v := .tuple #[.string (cutP p s), .bool (pre p s)]) (by simp [results, Try.results121, go_sem]) rfl ⟨rfl, rfl⟩
end Go.Proofs.Ytbmohenjphmlgaa

/- Rows of pairs of strings, as they lie in memory; the walk of behind (of the program). -/
namespace Go.Proofs.Ytbmohenjphmlgaa
open Go.RowKit
set_option maxRecDepth 100000

theorem infoPair : (Try.prog.info? 133).map (fun i => (i.zero, i.size, i.bytes)) = some (some (.agg #[.string ⟨#[]⟩, .string ⟨#[]⟩]), 2, 32) := by kernel_rfl

/-- Pairs in a row, that can be read. -/
def PRd (B : Nat) (w : World) (a : Option Addr) (l : List (ByteArray × ByteArray)) : Prop :=
  ∀ i (h : i < l.length), ∃ b off, a = some ⟨b, off, none⟩ ∧ b < B ∧ w.cell? ⟨b, off + i * 2, none⟩ = some (.string l[i].1) ∧ w.cell? ⟨b, off + i * 2 + 1, none⟩ = some (.string l[i].2)

theorem PRd.later {B : Nat} {w w' : World} {a : Option Addr} {l : List (ByteArray × ByteArray)} (h : PRd B w a l) (hb : Below B w w') : PRd B w' a l := by
  intro i hi
  obtain ⟨b, off, ha, hlt, h1, h2⟩ := h i hi
  exact ⟨b, off, ha, hlt, by rw [hb.cell hlt]; exact h1, by rw [hb.cell hlt]; exact h2⟩

theorem PRd.wider {B B' : Nat} {w : World} {a : Option Addr} {l : List (ByteArray × ByteArray)} (h : PRd B w a l) (hB : B ≤ B') : PRd B' w a l := by
  intro i hi
  obtain ⟨b, off, ha, hlt, h1, h2⟩ := h i hi
  exact ⟨b, off, ha, by omega, h1, h2⟩

def pcells (l : List (ByteArray × ByteArray)) : List Value := l.flatMap fun p => [.string p.1, .string p.2]

theorem pcells_len (l : List (ByteArray × ByteArray)) : (pcells l).length = l.length * 2 := by
  induction l with
  | nil => rfl
  | cons p l ih => unfold pcells at *; rw [List.flatMap_cons, List.length_append, ih]; simp; omega

theorem pcells_snoc (l : List (ByteArray × ByteArray)) (p : ByteArray × ByteArray) : pcells (l ++ [p]) = pcells l ++ [.string p.1, .string p.2] := by simp [pcells]

theorem pcells_at (l : List (ByteArray × ByteArray)) (i : Nat) (h : i < l.length) : (pcells l)[i * 2]? = some (.string l[i].1) ∧ (pcells l)[i * 2 + 1]? = some (.string l[i].2) := by
  induction l generalizing i with
  | nil => simp at h
  | cons p l ih =>
    cases i with
    | zero => simp [pcells]
    | succ i =>
      have h' : i < l.length := by simpa using h
      have := ih i h'
      unfold pcells at *
      rw [List.flatMap_cons, show (i + 1) * 2 = i * 2 + 2 by omega, show i * 2 + 2 + 1 = i * 2 + 1 + 2 by omega]
      simpa using this

/-- Pairs in a row of the call's own. -/
def POwn (w : World) (base : Nat) (v : Value) (l : List (ByteArray × ByteArray)) : Prop := w.ownsRow base 133 2 v l.length (pcells l)

theorem pown_nil (w : World) (base : Nat) : POwn w base (.slice none 0 0) [] := World.ownsRow_nil _ _ _ _

theorem prd_of_pown {w : World} {base : Nat} {v : Value} {l : List (ByteArray × ByteArray)} (h : POwn w base v l) : ∃ a cap, v = .slice a l.length cap ∧ PRd w.heap.size w a l := by
  rcases h.2 with ⟨rfl, h0⟩ | ⟨g, cap, cur, rfl, hb, hg, _, _, _, _⟩
  · have : l = [] := List.eq_nil_of_length_eq_zero h0
    subst this
    exact ⟨none, 0, rfl, fun i hi => by simp at hi⟩
  · refine ⟨_, cap, rfl, fun i hi => ⟨g, 0, rfl, (Array.getElem?_eq_some_iff.1 hg).1, ?_, ?_⟩⟩
    · rw [Nat.zero_add, World.ownsRow.cellAt h _ (by omega)]
      exact (pcells_at l i hi).1
    · rw [Nat.zero_add, World.ownsRow.cellAt h _ (by omega)]
      exact (pcells_at l i hi).2

theorem pown_shape {w : World} {base : Nat} {v : Value} {l : List (ByteArray × ByteArray)} (h : POwn w base v l) : ∃ a cap, v = .slice a l.length cap := by
  obtain ⟨a, cap, hv, _⟩ := prd_of_pown h
  exact ⟨a, cap, hv⟩

theorem pown_frame {w w' : World} {b : Nat} {v : Value} {l : List (ByteArray × ByteArray)} (h : POwn w b v l) (hg : ∀ g, v.ownBlock = some g → w'.heap[g]? = w.heap[g]?) : POwn w' b v l := owns_frame h hg
theorem pown_lt {w : World} {b : Nat} {v : Value} {l : List (ByteArray × ByteArray)} (h : POwn w b v l) : ∀ g, v.ownBlock = some g → b ≤ g ∧ g < w.heap.size := World.ownsRow.lt h

theorem cells_two (w : World) (a b : Value) (e : TypeId) : ∀ j u, [a, b][j]? = some u → (w.alloc (.cells #[a, b] e)).cell? ((⟨w.heap.size, 0, none⟩ : Addr).add j) = some u := by
  intro j u hu
  have hadd : (⟨w.heap.size, 0, none⟩ : Addr).add j = ⟨w.heap.size, j, none⟩ := by unfold Addr.add; split <;> simp_all
  rw [hadd, cell_of_row _ _ j #[a, b] e (0, 0) (heap_alloc_new w _)]
  simpa using hu

/-- A pair that was just laid is appended to a row of the call's own: for a walk. -/
theorem wpList_push_pair {ops : Array Oper} {rest : List Oper} {o : Oper} {act : Act} {Q' : Exit → Act → World → Prop} (hgd : o.guard = none) (s x : Operand)
    (hop : o.op = .call { callee := .builtin .append, args := #[s, x], argTypes := #[111, 111] }) {W w0 wr : World} {B : Nat} {v1 : Value} {l1 : List (ByteArray × ByteArray)} (p : ByteArray × ByteArray) (L : Nat) (hL : wr.heap.size = L)
    (hs : act.eval s = v1) (hx : act.eval x = .slice (some ⟨L, 0, none⟩) 1 1) (ho : POwn w0 B v1 l1) (hw : Below w0.heap.size w0 wr) (hb : Below B W w0) (hB : B ≤ W.heap.size) (hlen : l1.length ≤ 1000000)
    (h : ∀ v' w', POwn w' B v' (l1 ++ [p]) → Below B W w' → wpList Try.prog ops Q' rest (act.put o.dst v') w') : wpList Try.prog ops Q' (o :: rest) act (wr.alloc (.cells #[.string p.1, .string p.2] 133)) := by
  subst hL
  obtain ⟨i0, hi, hz0, hz1, hz2⟩ := info_parts infoPair
  have hb1 : Below B W wr := hb.trans (hw.mono (Nat.le_trans hB hb.size))
  have hb2 : Below B W (wr.alloc (.cells #[.string p.1, .string p.2] 133)) := hb1.alloc (Nat.le_trans hB hb1.size) _
  have hBw : B ≤ (wr.alloc (.cells #[.string p.1, .string p.2] 133)).heap.size := Nat.le_trans hB hb2.size
  have ho2 : POwn (wr.alloc (.cells #[.string p.1, .string p.2] 133)) B v1 l1 := pown_frame ho (fun g hg => by
    rw [Below.heap_alloc _ _ _ (Nat.lt_of_lt_of_le (pown_lt ho g hg).2 hw.size)]
    exact hw.block g (pown_lt ho g hg).2)
  refine wpList_append_mine _ hgd s x 111 hop B 133 i0 _ 2 32 Try.underlying111 hi hz0 hz1 hz2 rfl (by decide) v1 l1.length (pcells l1) hs ho2 ⟨wr.heap.size, 0, none⟩ 1 1 [.string p.1, .string p.2] hx rfl (cells_two _ _ _ _) (by simp [Value.oneCell']) (by unfold maxLen; omega) (by omega) hBw ?_
  intro v' w' ho' hg _
  refine h v' w' ?_ (hb2.grown hg hBw (fun g hgg => (pown_lt ho g hgg).1))
  unfold POwn
  rw [List.length_append, pcells_snoc]
  exact ho'

/-- Those that begin with p, without it. -/
def behindB (p : ByteArray) (l : List (ByteArray × ByteArray)) : List (ByteArray × ByteArray) := l.filterMap fun x => if pre p x.1 then some (cutP p x.1, x.2) else none

theorem behindB_hit (p : ByteArray) (l : List (ByteArray × ByteArray)) (k : Nat) (h : k < l.length) (hp : pre p l[k].1 = true) : behindB p (l.take (k + 1)) = behindB p (l.take k) ++ [(cutP p l[k].1, l[k].2)] := by
  rw [List.take_succ_eq_append_getElem h]
  unfold behindB
  rw [List.filterMap_append]
  simp [hp]
theorem behindB_miss (p : ByteArray) (l : List (ByteArray × ByteArray)) (k : Nat) (h : k < l.length) (hp : pre p l[k].1 = false) : behindB p (l.take (k + 1)) = behindB p (l.take k) := by
  rw [List.take_succ_eq_append_getElem h]
  unfold behindB
  rw [List.filterMap_append]
  simp [hp]
theorem behindB_le (p : ByteArray) (l : List (ByteArray × ByteArray)) : (behindB p l).length ≤ l.length := List.length_filterMap_le _ _

set_option maxHeartbeats 1600000 in
theorem behindP_any (p : ByteArray) (a : Option Addr) (cap : Nat) (l : List (ByteArray × ByteArray)) (w : World) (hr : PRd w.heap.size w a l) (hl : l.length ≤ 1000000) : Calls Try.prog 100 #[.string p, .slice a l.length cap] w fun e w' => ∃ v, e = .returned v ∧ POwn w' w.heap.size v (behindB p l) ∧ Below w.heap.size w w' := by
  have HR := hid hr
  have HC := hid (fun s w => cutPrefix_any s p w)
  clear hr
  go_enter Try.func100, Try.ntmps100
  go_wp2_with fail
  go_loopw [5, 12] (fun v i wr => ∃ k : Nat, i = .int .i64 k ∧ k ≤ l.length ∧ Hid (POwn wr w.heap.size v (behindB p (l.take k)) ∧ Below w.heap.size w wr)) (fun _ i _ => l.length - (intOf i).toNat)
  case atStart => exact ⟨0, rfl, Nat.zero_le _, pown_nil _ _, Below.refl _ _⟩
  case round =>
    obtain ⟨k, rfl, hk, HH⟩ := hrel
    obtain ⟨av, cv, hv⟩ := pown_shape HH.out.1
    subst hv
    by_cases hlt : k < l.length
    · obtain ⟨b, off, rfl, hb, e0, e1⟩ := HR.out k hlt
      have f0 := (HH.out.2.cell (p := ⟨b, off + k * 2, none⟩) hb).trans e0
      have f1 := (HH.out.2.cell (p := ⟨b, off + k * 2 + 1, none⟩) hb).trans e1
      have i1 : (0 : Int) ≤ (k : Int) := by omega
      have i2 : (k : Int) < (l.length : Int) := by omega
      clear e0 e1
      cases hp : pre p l[k].1 with
      | true =>
        have HB := hid (behindB_hit p l k hlt hp)
        have HP := hid hp
        have HLE : Hid ((behindB p (l.take k)).length ≤ 1000000) := by
          have := behindB_le p (l.take k)
          rw [List.length_take] at this
          rw [Hid]; omega
        clear hp
        generalize behindB p (l.take k) = bk at *
        go_wp2_with fail
        refine (HC.out _ _).mono ?_
        rintro e w1 ⟨rfl, rfl⟩
        rw [HP.out]
        go_wp2_with (at_builtin; go_loud (refine wpList_push_pair rfl (.tmp 24) (.tmp 29) rfl (cutP p l[k].1, l[k].2) (wr.heap.size + 1) (alloc_size _ _) rfl rfl HH.out.1 ((Below.refl _ _).alloc (Nat.le_refl _) _) HH.out.2 (Nat.le_refl _) HLE.out ?_); intro v' w' ho' hb'; have HO' := hid ho'; have HB' := hid hb'; clear ho' hb')
        exact ⟨⟨k + 1, by go_num, by omega, by rw [HB.out]; exact HO'.out, HB'.out⟩, by simp [intOf]; omega⟩
      | false =>
        have HB := hid (behindB_miss p l k hlt hp)
        have HP := hid hp
        clear hp
        generalize behindB p (l.take k) = bk at *
        go_wp2_with fail
        refine (HC.out _ _).mono ?_
        rintro e w1 ⟨rfl, rfl⟩
        rw [HP.out]
        go_wp2_with fail
        exact ⟨⟨k + 1, by go_num, by omega, by rw [HB.out]; exact pown_frame HH.out.1 (fun g hg => Below.heap_alloc _ _ _ (pown_lt HH.out.1 g hg).2), HH.out.2.alloc HH.out.2.size _⟩, by simp [intOf]; omega⟩
    · have i2 : ¬ (k : Int) < (l.length : Int) := by omega
      have HK : Hid (behindB p (l.take k) = behindB p l) := by rw [Hid, List.take_of_length_le (by omega)]
      go_wp2_with fail
      go_ret
      exact ⟨_, rfl, by rw [← HK.out]; exact HH.out.1, HH.out.2⟩
end Go.Proofs.Ytbmohenjphmlgaa
