/- The walks of pathOf and sumOf (of the program). -/
import Derived.Test.YtbmohenjphmlgaaPrPath
import Derived.Test.YtbmohenjphmlgaaHpDigits
namespace Go.Proofs.Ytbmohenjphmlgaa
open Go.RowKit
set_option maxRecDepth 100000

theorem append_toList (a b : ByteArray) : (a ++ b).data.toList = a.data.toList ++ b.data.toList := by simp

theorem path_odd (l : List UInt8) (f : Nat) (leaf : Bool) (hl : l.length % 2 = 1) (hd : ∀ c ∈ l, c.toNat < 16) (hf : f = (if leaf then 2 else 0)) : Tr.pack ([UInt8.ofNat (f + 1)] ++ l) = Tr.path l leaf := by
  unfold Tr.path
  rw [if_pos hl]
  cases l with
  | nil => simp at hl
  | cons c r =>
    have hc := hd c (by simp)
    rw [List.cons_append, List.nil_append, Tr.pack_two]
    congr 1
    have e1 : (UInt8.ofNat (f + 1)).toNat = f + 1 := by simp; cases leaf <;> simp at hf <;> omega
    rw [e1]
    subst hf
    cases leaf <;> simp

theorem path_even (l : List UInt8) (f : Nat) (leaf : Bool) (hl : ¬ l.length % 2 = 1) (hf : f = (if leaf then 2 else 0)) : Tr.pack (([UInt8.ofNat f] ++ [UInt8.ofNat 0]) ++ l) = Tr.path l leaf := by
  unfold Tr.path
  rw [if_neg hl, List.append_assoc, List.cons_append, List.nil_append, List.cons_append, List.nil_append, Tr.pack_two]
  congr 1
  subst hf
  cases leaf <;> simp

set_option maxHeartbeats 1600000 in
theorem pathOf_any (s : ByteArray) (leaf : Bool) (w : World) (hs : s.size ≤ 10000000) (hd : ∀ c ∈ s.data.toList, c.toNat < 16) : Calls Try.prog 114 #[.string s, .bool leaf] w fun e w' => e = .returned (.string ⟨(Tr.path s.data.toList leaf).toArray⟩) ∧ Below w.heap.size w w' := by
  have hlen : s.data.toList.length = s.size := ba_len s
  have HP : Hid (∀ (t : ByteArray) (r : List UInt8) (w : World), t.data.toList = r ++ s.data.toList → r.length ≤ 2 → (r.length + s.size) % 2 = 0 → (∀ c ∈ r, c.toNat < 16) → Calls Try.prog 126 #[.string t] w fun e w' => e = .returned (.string ⟨(Tr.pack (r ++ s.data.toList)).toArray⟩) ∧ Below w.heap.size w w') := by
    intro t r w ht hr he hrd
    have hsz : t.size = r.length + s.size := by rw [← ba_len t, ht, List.length_append, hlen]
    rw [← ht]
    exact packed_any t w (by omega) (by omega) (by rw [ht]; intro c hc; exact (List.mem_append.1 hc).elim (hrd c) (hd c))
  have H1 := hid (fun n w hn => oneDigit_any n w hn)
  have HO : Hid (∀ f : Nat, f = (if leaf then 2 else 0) → s.size % 2 = 1 → Tr.pack ([UInt8.ofNat (f + 1)] ++ s.data.toList) = Tr.path s.data.toList leaf) := fun f hf h => path_odd _ f leaf (by rw [hlen]; exact h) hd hf
  have HE : Hid (∀ f : Nat, f = (if leaf then 2 else 0) → ¬ s.size % 2 = 1 → Tr.pack (([UInt8.ofNat f] ++ [UInt8.ofNat 0]) ++ s.data.toList) = Tr.path s.data.toList leaf) := fun f hf h => path_even _ f leaf (by rw [hlen]; exact h) hf
  clear hd hlen
  go_enter Try.func114, Try.ntmps114
  rcases Nat.mod_two_eq_zero_or_one s.size with hm | hm
  · have hm1 : (s.size : Int) % 2 = 0 := by omega
    have hm2 : ¬ s.size % 2 = 1 := by omega
    cases leaf
    · go_wp2_with fail
      refine (H1.out 0 _ (by decide)).mono ?_
      rintro e w1 ⟨rfl, b1⟩
      go_wp2_with fail
      refine (H1.out 0 _ (by decide)).mono ?_
      rintro e w2 ⟨rfl, b2⟩
      go_wp2_with fail
      refine (HP.out _ ([UInt8.ofNat 0] ++ [UInt8.ofNat 0]) _ (by simp) (by simp) (by simp; omega) (by simp)).mono ?_
      rintro e w3 ⟨rfl, b3⟩
      go_wp2_with fail
      go_ret
      exact ⟨congrArg (fun l : List UInt8 => Ending.returned (.string ⟨l.toArray⟩)) (HE.out 0 rfl hm2), (b1.trans (b2.mono b1.size)).trans (b3.mono (Nat.le_trans b1.size b2.size))⟩
    · go_wp2_with fail
      refine (H1.out 2 _ (by decide)).mono ?_
      rintro e w1 ⟨rfl, b1⟩
      go_wp2_with fail
      refine (H1.out 0 _ (by decide)).mono ?_
      rintro e w2 ⟨rfl, b2⟩
      go_wp2_with fail
      refine (HP.out _ ([UInt8.ofNat 2] ++ [UInt8.ofNat 0]) _ (by simp) (by simp) (by simp; omega) (by simp)).mono ?_
      rintro e w3 ⟨rfl, b3⟩
      go_wp2_with fail
      go_ret
      exact ⟨congrArg (fun l : List UInt8 => Ending.returned (.string ⟨l.toArray⟩)) (HE.out 2 rfl hm2), (b1.trans (b2.mono b1.size)).trans (b3.mono (Nat.le_trans b1.size b2.size))⟩
  · have hm1 : (s.size : Int) % 2 = 1 := by omega
    cases leaf
    · go_wp2_with fail
      refine (H1.out 1 _ (by decide)).mono ?_
      rintro e w1 ⟨rfl, b1⟩
      go_wp2_with fail
      refine (HP.out _ ([UInt8.ofNat 1]) _ (by simp) (by simp) (by simp; omega) (by simp)).mono ?_
      rintro e w3 ⟨rfl, b3⟩
      go_wp2_with fail
      go_ret
      exact ⟨congrArg (fun l : List UInt8 => Ending.returned (.string ⟨l.toArray⟩)) (HO.out 0 rfl hm), b1.trans (b3.mono b1.size)⟩
    · go_wp2_with fail
      refine (H1.out 3 _ (by decide)).mono ?_
      rintro e w1 ⟨rfl, b1⟩
      go_wp2_with fail
      refine (HP.out _ ([UInt8.ofNat 3]) _ (by simp) (by simp) (by simp; omega) (by simp)).mono ?_
      rintro e w3 ⟨rfl, b3⟩
      go_wp2_with fail
      go_ret
      exact ⟨congrArg (fun l : List UInt8 => Ending.returned (.string ⟨l.toArray⟩)) (HO.out 2 rfl hm), b1.trans (b3.mono b1.size)⟩

/-- The eight places of the sum while they are being written. -/
def sumCells (n k : Nat) : Array Value := ((List.range 8).map fun i => if i < k then Value.int .u8 ((Tr.sumAt n i).toNat : Nat) else Value.int .u8 0).toArray

theorem sumCells_at (n k i : Nat) : (sumCells n k)[i]? = if i < 8 then some (if i < k then Value.int .u8 ((Tr.sumAt n i).toNat : Nat) else Value.int .u8 0) else none := by
  unfold sumCells
  by_cases h : i < 8
  · simp [h]
  · simp [h]

theorem sumCells_size (n k : Nat) : (sumCells n k).size = 8 := by simp [sumCells]

theorem sumCells_set (n k : Nat) (hk : k < 8) : (sumCells n k).setIfInBounds k (.int .u8 ((Tr.sumAt n k).toNat : Nat)) = sumCells n (k + 1) := by
  apply Array.ext_getElem?
  intro i
  rw [Array.getElem?_setIfInBounds, sumCells_at, sumCells_at, sumCells_size]
  by_cases h : k = i
  · subst h; simp [hk]
  · rw [if_neg h]
    by_cases h8 : i < 8
    · rw [if_pos h8, if_pos h8]
      by_cases hik : i < k
      · rw [if_pos hik, if_pos (by omega)]
      · rw [if_neg hik, if_neg (by omega)]
    · rw [if_neg h8, if_neg h8]

theorem sum_byte2 (n m : Nat) : (n : Int) / 2 ^ (8 * (7 - m)) % 256 = (((Tr.sumAt n m).toNat : Nat) : Int) := by
  have e2 : (n : Int) / 2 ^ (8 * (7 - m)) = ((n / 256 ^ (7 - m) : Nat) : Int) := by
    have : (256 : Nat) ^ (7 - m) = 2 ^ (8 * (7 - m)) := by rw [Nat.pow_mul]
    rw [this]
    simp
  rw [e2]
  unfold Tr.sumAt
  simp

set_option maxHeartbeats 1600000 in
theorem sumOf_any (s : ByteArray) (w : World) (hs : s.size ≤ 1000000000) : Calls Try.prog 128 #[.string s] w fun e w' => e = .returned (.string ⟨(Tr.sum s.data.toList).toArray⟩) ∧ Below w.heap.size w w' := by
  go_enter Try.func128, Try.ntmps128
  go_wp2_with fail
  go_loopw [3, 9] (fun h i wr => ∃ k : Nat, h = .int .u64 (Tr.fnv (s.data.toList.take k)) ∧ i = .int .i64 k ∧ k ≤ s.size ∧ wr = w) (fun _ i _ => s.size - (intOf i).toNat)
  case atStart => exact ⟨0, by rw [List.take_zero, Tr.fnv_nil]; simp, rfl, Nat.zero_le _, rfl⟩
  case round =>
    obtain ⟨k, rfl, rfl, hk, rfl⟩ := hrel
    by_cases hlt : k < s.size
    · have i1 : (0 : Int) ≤ (k : Int) := by omega
      have i2 : (k : Int) < (s.size : Int) := by omega
      have HF := hid (step_val (Tr.fnv (s.data.toList.take k)) s[k] (Tr.fnv_lt _))
      have HS := hid (fnv_snoc s k hlt)
      go_wp2_with fail
      exact ⟨⟨k + 1, by rw [HF.out, HS.out], by go_num, by omega, trivial⟩, by simp [intOf]; omega⟩
    · have i2 : ¬ (k : Int) < (s.size : Int) := by omega
      have HK : Hid (Tr.fnv (s.data.toList.take k) = Tr.fnv s.data.toList) := by rw [Hid, List.take_of_length_le (by rw [ba_len]; omega)]
      rw [HK.out]
      have HLT := hid (Tr.fnv_lt s.data.toList)
      have HSE := hid (Tr.sum_eq s.data.toList)
      generalize Tr.fnv s.data.toList = n at *
      clear HK hlt hk
      go_wp2_with fail
      go_loopw [20] (fun i wx => ∃ m : Nat, i = .int .i64 (m : Int) ∧ m ≤ 8 ∧ wx = wr.alloc (.cells (sumCells n m) 180)) (fun i _ => (8 - intOf i).toNat)
      case atStart => exact ⟨0, rfl, by omega, rfl⟩
      case round =>
        obtain ⟨m, rfl, hm, rfl⟩ := hrel
        by_cases hlt2 : m < 8
        · have j1 : (m : Int) < 8 := by omega
          have j2 : (0 : Int) ≤ (m : Int) := by omega
          have HC := hid (sumCells_set n m hlt2)
          have hfr := frozen_of_row _ _ m _ _ (heap_alloc_new wr (.cells (sumCells n m) 180))
          have hce : (wr.alloc (.cells (sumCells n m) 180)).cell? ⟨wr.heap.size, m, none⟩ = some (.int .u8 0) := by
            rw [cell_of_row _ _ m _ _ _ (heap_alloc_new wr _), sumCells_at, if_pos hlt2, if_neg (by omega)]
          go_wp2_with fail
          exact ⟨⟨m + 1, by go_num, by omega, by rw [sum_byte2 n m, HC.out]⟩, by simp [intOf]; omega⟩
        · have j1 : ¬ (m : Int) < 8 := by omega
          obtain rfl : m = 8 := by omega
          have hbr : Brd (wr.alloc (.cells (sumCells n 8) 180)).heap.size (wr.alloc (.cells (sumCells n 8) 180)) (.slice (some ⟨wr.heap.size, 0, none⟩) 8 8) ((List.range 8).map (Tr.sumAt n)) := by
            refine .inr ⟨wr.heap.size, 0, 8, by simp, by simp, fun j hj => ?_⟩
            have hj8 : j < 8 := by simpa using hj
            rw [cell_of_row _ _ (0 + j) _ _ _ (heap_alloc_new wr _), sumCells_at, if_pos (by omega), if_pos (by omega)]
            simp
          have hcv := run_bytes_string hbr
          clear hbr
          go_wp2_with fail
          go_ret
          exact ⟨by rw [HSE.out]; rfl, (Below.refl _ _).alloc (Nat.le_refl _) _⟩
end Go.Proofs.Ytbmohenjphmlgaa
