/- Part 9 of a proof: what the last text needs. -/
import Derived.Test.YtbmohenjphmlgaaPart8
/- The walks of the document's own 'part', continued: what is read of a head of more bytes. -/
namespace Go.Proofs.Ytbmohenjphmlgaa
open Go.RowKit
set_option maxRecDepth 100000
section
variable (f : Nat) (s : ByteArray) (w : World) (p : Option (Itm × List UInt8))

set_option linter.unusedVariables false in
set_option maxHeartbeats 1600000 in
theorem part_longA128 (k N : Nat) (h2 : s.size ≤ 1000) (hb : s.toList.isEmpty = false) (h1 : 0 < s.size) (hge : 128 ≤ s[0].toNat) (hlt : s[0].toNat < 192) (hn : Hid (s[0].toNat - 128 = N)) (hN : Hid (N = k + 55)) (h55 : 1 ≤ k) (hle : s.size - 1 < k) (hp : Hid (p = none)) :
    Calls Try.prog 69 #[.string s] w (PartPost p f w) := by
  have h8 := s[0].toNat_lt
  have hge1 : ¬ (s[0].toNat : Int) < 128 := by omega
  have hge2 : ¬ (192 : Int) ≤ (s[0].toNat : Int) := by omega
  have hN' := hN.out
  have hE0 : ((s[0].toNat : Int) - 128) = (N : Int) := by have := hn.out; omega
  have hE : ((N : Int) - 55) = (k : Int) := by omega
  have c1 : (55 : Int) < (N : Int) := by omega
  have hN63 : (N : Int) ≤ 200 := by omega
  clear hN'
  have c3 : ((s.size - 1 : Nat) : Int) < (k : Int) := by omega
  go_enter Try.func69, Try.ntmps69
  go_wp2_with fail
  exact bodyPost_ret (v := .tuple #[.agg #[.bool false, .string ⟨#[]⟩, .slice none 0 0], .string ⟨#[]⟩, .bool false]) (by simp [results, Try.results69, go_sem]) rfl (partPost_no hp.out ((Below.refl _ _).alloc (Nat.le_refl _) _))

set_option linter.unusedVariables false in
set_option maxHeartbeats 1600000 in
theorem part_longB128 (k N : Nat) (h2 : s.size ≤ 1000) (hb : s.toList.isEmpty = false) (h1 : 0 < s.size) (hge : 128 ≤ s[0].toNat) (hlt : s[0].toNat < 192) (hn : Hid (s[0].toNat - 128 = N)) (hN : Hid (N = k + 55)) (h55 : 1 ≤ k) (hle : k ≤ s.size - 1) (hi : 0 < (s.extract 1 s.size).size) (hz : ((((s.extract 1 s.size)[0]'hi).toNat : Int) == 0) = true) (hp : Hid (p = none)) :
    Calls Try.prog 69 #[.string s] w (PartPost p f w) := by
  have h8 := s[0].toNat_lt
  have hge1 : ¬ (s[0].toNat : Int) < 128 := by omega
  have hge2 : ¬ (192 : Int) ≤ (s[0].toNat : Int) := by omega
  have hN' := hN.out
  have hE0 : ((s[0].toNat : Int) - 128) = (N : Int) := by have := hn.out; omega
  have hE : ((N : Int) - 55) = (k : Int) := by omega
  have c1 : (55 : Int) < (N : Int) := by omega
  have hN63 : (N : Int) ≤ 200 := by omega
  clear hN'
  have c3 : (k : Int) ≤ ((s.size - 1 : Nat) : Int) := by omega
  go_enter Try.func69, Try.ntmps69
  go_wp2_with fail
  exact bodyPost_ret (v := .tuple #[.agg #[.bool false, .string ⟨#[]⟩, .slice none 0 0], .string ⟨#[]⟩, .bool false]) (by simp [results, Try.results69, go_sem]) rfl (partPost_no hp.out ((Below.refl _ _).alloc (Nat.le_refl _) _))

set_option linter.unusedVariables false in
set_option maxHeartbeats 1600000 in
theorem part_longC128 (k N : Nat) (h2 : s.size ≤ 1000) (hb : s.toList.isEmpty = false) (h1 : 0 < s.size) (hge : 128 ≤ s[0].toNat) (hlt : s[0].toNat < 192) (hn : Hid (s[0].toNat - 128 = N)) (hN : Hid (N = k + 55)) (h55 : 1 ≤ k) (hle : k ≤ s.size - 1) (hi : 0 < (s.extract 1 s.size).size) (hz : ((((s.extract 1 s.size)[0]'hi).toNat : Int) == 0) = false) (hk4 : 4 < k) (hp : Hid (p = none)) :
    Calls Try.prog 69 #[.string s] w (PartPost p f w) := by
  have h8 := s[0].toNat_lt
  have hge1 : ¬ (s[0].toNat : Int) < 128 := by omega
  have hge2 : ¬ (192 : Int) ≤ (s[0].toNat : Int) := by omega
  have hN' := hN.out
  have hE0 : ((s[0].toNat : Int) - 128) = (N : Int) := by have := hn.out; omega
  have hE : ((N : Int) - 55) = (k : Int) := by omega
  have c1 : (55 : Int) < (N : Int) := by omega
  have hN63 : (N : Int) ≤ 200 := by omega
  clear hN'
  have c3 : (k : Int) ≤ ((s.size - 1 : Nat) : Int) := by omega
  have c4 : (4 : Int) < (k : Int) := by omega
  go_enter Try.func69, Try.ntmps69
  go_wp2_with fail
  exact bodyPost_ret (v := .tuple #[.agg #[.bool false, .string ⟨#[]⟩, .slice none 0 0], .string ⟨#[]⟩, .bool false]) (by simp [results, Try.results69, go_sem]) rfl (partPost_no hp.out ((Below.refl _ _).alloc (Nat.le_refl _) _))

set_option linter.unusedVariables false in
set_option maxHeartbeats 1600000 in
theorem part_longD128 (k N : Nat) (h2 : s.size ≤ 1000) (hb : s.toList.isEmpty = false) (h1 : 0 < s.size) (hge : 128 ≤ s[0].toNat) (hlt : s[0].toNat < 192) (hn : Hid (s[0].toNat - 128 = N)) (hN : Hid (N = k + 55)) (h55 : 1 ≤ k) (hle : k ≤ s.size - 1) (hi : 0 < (s.extract 1 s.size).size) (hz : ((((s.extract 1 s.size)[0]'hi).toNat : Int) == 0) = false) (hk4 : k ≤ 4) (V : Nat) (hV : Hid (Itm.val ((s.extract 1 s.size).data.toList.take k) = V)) (hV55 : V ≤ 55) (hp : Hid (p = none)) :
    Calls Try.prog 69 #[.string s] w (PartPost p f w) := by
  have h8 := s[0].toNat_lt
  have hge1 : ¬ (s[0].toNat : Int) < 128 := by omega
  have hge2 : ¬ (192 : Int) ≤ (s[0].toNat : Int) := by omega
  have hN' := hN.out
  have hE0 : ((s[0].toNat : Int) - 128) = (N : Int) := by have := hn.out; omega
  have hE : ((N : Int) - 55) = (k : Int) := by omega
  have c1 : (55 : Int) < (N : Int) := by omega
  have hN63 : (N : Int) ≤ 200 := by omega
  clear hN'
  have c3 : (k : Int) ≤ ((s.size - 1 : Nat) : Int) := by omega
  have c4 : (k : Int) ≤ 4 := by omega
  have hd1 : decide (s.size - 1 < k) = false := by simp; omega
  have hd2 : decide ((4 : Int) < (k : Int)) = false := by simp; omega
  go_enter Try.func69, Try.ntmps69
  go_wp2_with fail
  go_loopw [7, 9] (fun n i wr => ∃ j u : Nat, wr = (w.alloc (.cells #[.bool false, .string ⟨#[]⟩, .slice none 0 0] 24)) ∧ j ≤ k ∧ i = .int .i64 j ∧ n = .int .i64 u ∧ Hid (u = Itm.val ((s.extract 1 s.size).data.toList.take j))) (fun _ i _ => k - (intOf i).toNat)
  case atStart => exact ⟨0, 0, rfl, Nat.zero_le _, rfl, rfl, rfl⟩
  case round =>
    obtain ⟨j, u, rfl, hj, rfl, rfl, HU⟩ := hrel
    by_cases hjk : j < k
    · have hjs : j < (s.extract 1 s.size).size := by simp; omega
      have hu : u < 16777216 := by
        have h := Itm.val_lt ((s.extract 1 s.size).data.toList.take j)
        rw [← HU.out] at h
        refine Nat.lt_of_lt_of_le h (Nat.le_trans (Nat.pow_le_pow_right (by omega) (?_ : _ ≤ 3)) (by decide))
        rw [List.length_take]; omega
      have HX : Hid (256 * u + ((s.extract 1 s.size)[j]'hjs).toNat = Itm.val ((s.extract 1 s.size).data.toList.take (j + 1))) := by
        rw [Hid, take_snoc _ _ hjs, Itm.val_snoc, ← HU.out]; omega
      have hb8 := ((s.extract 1 s.size)[j]'hjs).toNat_lt
      go_wp2_with fail
      exact ⟨⟨j + 1, 256 * u + ((s.extract 1 s.size)[j]'hjs).toNat, trivial, by omega, by go_num, by go_num, HX.out⟩, by simp [intOf]; omega⟩
    · obtain rfl : j = k := by omega
      obtain rfl : u = V := by rw [HU.out]; exact hV.out
      go_wp2_with fail
      exact bodyPost_ret (v := .tuple #[.agg #[.bool false, .string ⟨#[]⟩, .slice none 0 0], .string ⟨#[]⟩, .bool false]) (by simp [results, Try.results69, go_sem]) rfl (partPost_no hp.out ((Below.refl _ _).alloc (Nat.le_refl _) _))

set_option linter.unusedVariables false in
set_option maxHeartbeats 1600000 in
theorem part_longE128 (k N : Nat) (h2 : s.size ≤ 1000) (hb : s.toList.isEmpty = false) (h1 : 0 < s.size) (hge : 128 ≤ s[0].toNat) (hlt : s[0].toNat < 192) (hn : Hid (s[0].toNat - 128 = N)) (hN : Hid (N = k + 55)) (h55 : 1 ≤ k) (hle : k ≤ s.size - 1) (hi : 0 < (s.extract 1 s.size).size) (hz : ((((s.extract 1 s.size)[0]'hi).toNat : Int) == 0) = false) (hk4 : k ≤ 4) (V : Nat) (hV : Hid (Itm.val ((s.extract 1 s.size).data.toList.take k) = V)) (hV55 : 55 < V) (hVm : s.size - 1 - k < V) (hV2 : V < 4294967296) (hp : Hid (p = none)) :
    Calls Try.prog 69 #[.string s] w (PartPost p f w) := by
  have h8 := s[0].toNat_lt
  have hge1 : ¬ (s[0].toNat : Int) < 128 := by omega
  have hge2 : ¬ (192 : Int) ≤ (s[0].toNat : Int) := by omega
  have hN' := hN.out
  have hE0 : ((s[0].toNat : Int) - 128) = (N : Int) := by have := hn.out; omega
  have hE : ((N : Int) - 55) = (k : Int) := by omega
  have c1 : (55 : Int) < (N : Int) := by omega
  have hN63 : (N : Int) ≤ 200 := by omega
  clear hN'
  have c3 : (k : Int) ≤ ((s.size - 1 : Nat) : Int) := by omega
  have c4 : (k : Int) ≤ 4 := by omega
  have hd1 : decide (s.size - 1 < k) = false := by simp; omega
  have hd2 : decide ((4 : Int) < (k : Int)) = false := by simp; omega
  have hV55' : (55 : Int) < (V : Int) := by omega
  have hVm' : ((s.size - 1 - k : Nat) : Int) < (V : Int) := by omega
  go_enter Try.func69, Try.ntmps69
  go_wp2_with fail
  go_loopw [7, 9] (fun n i wr => ∃ j u : Nat, wr = (w.alloc (.cells #[.bool false, .string ⟨#[]⟩, .slice none 0 0] 24)) ∧ j ≤ k ∧ i = .int .i64 j ∧ n = .int .i64 u ∧ Hid (u = Itm.val ((s.extract 1 s.size).data.toList.take j))) (fun _ i _ => k - (intOf i).toNat)
  case atStart => exact ⟨0, 0, rfl, Nat.zero_le _, rfl, rfl, rfl⟩
  case round =>
    obtain ⟨j, u, rfl, hj, rfl, rfl, HU⟩ := hrel
    by_cases hjk : j < k
    · have hjs : j < (s.extract 1 s.size).size := by simp; omega
      have hu : u < 16777216 := by
        have h := Itm.val_lt ((s.extract 1 s.size).data.toList.take j)
        rw [← HU.out] at h
        refine Nat.lt_of_lt_of_le h (Nat.le_trans (Nat.pow_le_pow_right (by omega) (?_ : _ ≤ 3)) (by decide))
        rw [List.length_take]; omega
      have HX : Hid (256 * u + ((s.extract 1 s.size)[j]'hjs).toNat = Itm.val ((s.extract 1 s.size).data.toList.take (j + 1))) := by
        rw [Hid, take_snoc _ _ hjs, Itm.val_snoc, ← HU.out]; omega
      have hb8 := ((s.extract 1 s.size)[j]'hjs).toNat_lt
      go_wp2_with fail
      exact ⟨⟨j + 1, 256 * u + ((s.extract 1 s.size)[j]'hjs).toNat, trivial, by omega, by go_num, by go_num, HX.out⟩, by simp [intOf]; omega⟩
    · obtain rfl : j = k := by omega
      obtain rfl : u = V := by rw [HU.out]; exact hV.out
      go_wp2_with fail
      exact bodyPost_ret (v := .tuple #[.agg #[.bool false, .string ⟨#[]⟩, .slice none 0 0], .string ⟨#[]⟩, .bool false]) (by simp [results, Try.results69, go_sem]) rfl (partPost_no hp.out ((Below.refl _ _).alloc (Nat.le_refl _) _))

set_option linter.unusedVariables false in
set_option maxHeartbeats 1600000 in
theorem part_longF128 (k N : Nat) (h2 : s.size ≤ 1000) (hb : s.toList.isEmpty = false) (h1 : 0 < s.size) (hge : 128 ≤ s[0].toNat) (hlt : s[0].toNat < 192) (hn : Hid (s[0].toNat - 128 = N)) (hN : Hid (N = k + 55)) (h55 : 1 ≤ k) (hle : k ≤ s.size - 1) (hi : 0 < (s.extract 1 s.size).size) (hz : ((((s.extract 1 s.size)[0]'hi).toNat : Int) == 0) = false) (hk4 : k ≤ 4) (V : Nat) (hV : Hid (Itm.val ((s.extract 1 s.size).data.toList.take k) = V)) (hV55 : 55 < V) (hVm : V ≤ s.size - 1 - k) (hp : Hid (p = some (⟨false, ((s.data.toList.drop 1).drop k).take V, []⟩, ((s.data.toList.drop 1).drop k).drop V))) :
    Calls Try.prog 69 #[.string s] w (PartPost p (f + 1) w) := by
  have h8 := s[0].toNat_lt
  have hge1 : ¬ (s[0].toNat : Int) < 128 := by omega
  have hge2 : ¬ (192 : Int) ≤ (s[0].toNat : Int) := by omega
  have hN' := hN.out
  have hE0 : ((s[0].toNat : Int) - 128) = (N : Int) := by have := hn.out; omega
  have hE : ((N : Int) - 55) = (k : Int) := by omega
  have c1 : (55 : Int) < (N : Int) := by omega
  have hN63 : (N : Int) ≤ 200 := by omega
  clear hN'
  have c3 : (k : Int) ≤ ((s.size - 1 : Nat) : Int) := by omega
  have c4 : (k : Int) ≤ 4 := by omega
  have hd1 : decide (s.size - 1 < k) = false := by simp; omega
  have hd2 : decide ((4 : Int) < (k : Int)) = false := by simp; omega
  have hV55' : (55 : Int) < (V : Int) := by omega
  have hVm' : (V : Int) ≤ ((s.size - 1 - k : Nat) : Int) := by omega
  have hV1 : ((V : Int) == 1) = false := by simp; omega
  go_enter Try.func69, Try.ntmps69
  go_wp2_with fail
  go_loopw [7, 9] (fun n i wr => ∃ j u : Nat, wr = (w.alloc (.cells #[.bool false, .string ⟨#[]⟩, .slice none 0 0] 24)) ∧ j ≤ k ∧ i = .int .i64 j ∧ n = .int .i64 u ∧ Hid (u = Itm.val ((s.extract 1 s.size).data.toList.take j))) (fun _ i _ => k - (intOf i).toNat)
  case atStart => exact ⟨0, 0, rfl, Nat.zero_le _, rfl, rfl, rfl⟩
  case round =>
    obtain ⟨j, u, rfl, hj, rfl, rfl, HU⟩ := hrel
    by_cases hjk : j < k
    · have hjs : j < (s.extract 1 s.size).size := by simp; omega
      have hu : u < 16777216 := by
        have h := Itm.val_lt ((s.extract 1 s.size).data.toList.take j)
        rw [← HU.out] at h
        refine Nat.lt_of_lt_of_le h (Nat.le_trans (Nat.pow_le_pow_right (by omega) (?_ : _ ≤ 3)) (by decide))
        rw [List.length_take]; omega
      have HX : Hid (256 * u + ((s.extract 1 s.size)[j]'hjs).toNat = Itm.val ((s.extract 1 s.size).data.toList.take (j + 1))) := by
        rw [Hid, take_snoc _ _ hjs, Itm.val_snoc, ← HU.out]; omega
      have hb8 := ((s.extract 1 s.size)[j]'hjs).toNat_lt
      go_wp2_with fail
      exact ⟨⟨j + 1, 256 * u + ((s.extract 1 s.size)[j]'hjs).toNat, trivial, by omega, by go_num, by go_num, HX.out⟩, by simp [intOf]; omega⟩
    · obtain rfl : j = k := by omega
      obtain rfl : u = V := by rw [HU.out]; exact hV.out
      go_wp2_with fail
      exact bodyPost_ret (v := .tuple #[.agg #[.bool false, .string (((s.extract 1 s.size).extract j (s.size - 1)).extract 0 u), .slice none 0 0], .string (((s.extract 1 s.size).extract j (s.size - 1)).extract u (s.size - 1 - j)), .bool true]) (by simp [results, Try.results69, go_sem]) rfl
        (partPost_yes hp.out (by rw [Lib.extract_data, Lib.extract_data, Lib.extract_to_end, List.take_of_length_le, List.take_of_length_le] <;> (simp; omega)) (ow_bytes _ _ _ _ _ _ (by rw [Lib.extract_data, Lib.extract_data, Lib.extract_to_end, Nat.sub_zero, List.drop_zero, List.take_take]; congr 1; omega)) ((Below.refl _ _).alloc (Nat.le_refl _) _))

set_option linter.unusedVariables false in
set_option maxHeartbeats 1600000 in
theorem part_longA192 (k N : Nat) (h2 : s.size ≤ 1000) (hb : s.toList.isEmpty = false) (h1 : 0 < s.size) (hge : 192 ≤ s[0].toNat) (hn : Hid (s[0].toNat - 192 = N)) (hN : Hid (N = k + 55)) (h55 : 1 ≤ k) (hle : s.size - 1 < k) (hp : Hid (p = none)) :
    Calls Try.prog 69 #[.string s] w (PartPost p f w) := by
  have h8 := s[0].toNat_lt
  have hge1 : ¬ (s[0].toNat : Int) < 128 := by omega
  have hge2 : (192 : Int) ≤ (s[0].toNat : Int) := by omega
  have hN' := hN.out
  have hE0 : ((s[0].toNat : Int) - 192) = (N : Int) := by have := hn.out; omega
  have hE : ((N : Int) - 55) = (k : Int) := by omega
  have c1 : (55 : Int) < (N : Int) := by omega
  have hN63 : (N : Int) ≤ 200 := by omega
  clear hN'
  have c3 : ((s.size - 1 : Nat) : Int) < (k : Int) := by omega
  go_enter Try.func69, Try.ntmps69
  go_wp2_with fail
  exact bodyPost_ret (v := .tuple #[.agg #[.bool false, .string ⟨#[]⟩, .slice none 0 0], .string ⟨#[]⟩, .bool false]) (by simp [results, Try.results69, go_sem]) rfl (partPost_no hp.out ((Below.refl _ _).alloc (Nat.le_refl _) _))

set_option linter.unusedVariables false in
set_option maxHeartbeats 1600000 in
theorem part_longB192 (k N : Nat) (h2 : s.size ≤ 1000) (hb : s.toList.isEmpty = false) (h1 : 0 < s.size) (hge : 192 ≤ s[0].toNat) (hn : Hid (s[0].toNat - 192 = N)) (hN : Hid (N = k + 55)) (h55 : 1 ≤ k) (hle : k ≤ s.size - 1) (hi : 0 < (s.extract 1 s.size).size) (hz : ((((s.extract 1 s.size)[0]'hi).toNat : Int) == 0) = true) (hp : Hid (p = none)) :
    Calls Try.prog 69 #[.string s] w (PartPost p f w) := by
  have h8 := s[0].toNat_lt
  have hge1 : ¬ (s[0].toNat : Int) < 128 := by omega
  have hge2 : (192 : Int) ≤ (s[0].toNat : Int) := by omega
  have hN' := hN.out
  have hE0 : ((s[0].toNat : Int) - 192) = (N : Int) := by have := hn.out; omega
  have hE : ((N : Int) - 55) = (k : Int) := by omega
  have c1 : (55 : Int) < (N : Int) := by omega
  have hN63 : (N : Int) ≤ 200 := by omega
  clear hN'
  have c3 : (k : Int) ≤ ((s.size - 1 : Nat) : Int) := by omega
  go_enter Try.func69, Try.ntmps69
  go_wp2_with fail
  exact bodyPost_ret (v := .tuple #[.agg #[.bool false, .string ⟨#[]⟩, .slice none 0 0], .string ⟨#[]⟩, .bool false]) (by simp [results, Try.results69, go_sem]) rfl (partPost_no hp.out ((Below.refl _ _).alloc (Nat.le_refl _) _))

set_option linter.unusedVariables false in
set_option maxHeartbeats 1600000 in
theorem part_longC192 (k N : Nat) (h2 : s.size ≤ 1000) (hb : s.toList.isEmpty = false) (h1 : 0 < s.size) (hge : 192 ≤ s[0].toNat) (hn : Hid (s[0].toNat - 192 = N)) (hN : Hid (N = k + 55)) (h55 : 1 ≤ k) (hle : k ≤ s.size - 1) (hi : 0 < (s.extract 1 s.size).size) (hz : ((((s.extract 1 s.size)[0]'hi).toNat : Int) == 0) = false) (hk4 : 4 < k) (hp : Hid (p = none)) :
    Calls Try.prog 69 #[.string s] w (PartPost p f w) := by
  have h8 := s[0].toNat_lt
  have hge1 : ¬ (s[0].toNat : Int) < 128 := by omega
  have hge2 : (192 : Int) ≤ (s[0].toNat : Int) := by omega
  have hN' := hN.out
  have hE0 : ((s[0].toNat : Int) - 192) = (N : Int) := by have := hn.out; omega
  have hE : ((N : Int) - 55) = (k : Int) := by omega
  have c1 : (55 : Int) < (N : Int) := by omega
  have hN63 : (N : Int) ≤ 200 := by omega
  clear hN'
  have c3 : (k : Int) ≤ ((s.size - 1 : Nat) : Int) := by omega
  have c4 : (4 : Int) < (k : Int) := by omega
  go_enter Try.func69, Try.ntmps69
  go_wp2_with fail
  exact bodyPost_ret (v := .tuple #[.agg #[.bool false, .string ⟨#[]⟩, .slice none 0 0], .string ⟨#[]⟩, .bool false]) (by simp [results, Try.results69, go_sem]) rfl (partPost_no hp.out ((Below.refl _ _).alloc (Nat.le_refl _) _))

set_option linter.unusedVariables false in
set_option maxHeartbeats 1600000 in
theorem part_longD192 (k N : Nat) (h2 : s.size ≤ 1000) (hb : s.toList.isEmpty = false) (h1 : 0 < s.size) (hge : 192 ≤ s[0].toNat) (hn : Hid (s[0].toNat - 192 = N)) (hN : Hid (N = k + 55)) (h55 : 1 ≤ k) (hle : k ≤ s.size - 1) (hi : 0 < (s.extract 1 s.size).size) (hz : ((((s.extract 1 s.size)[0]'hi).toNat : Int) == 0) = false) (hk4 : k ≤ 4) (V : Nat) (hV : Hid (Itm.val ((s.extract 1 s.size).data.toList.take k) = V)) (hV55 : V ≤ 55) (hp : Hid (p = none)) :
    Calls Try.prog 69 #[.string s] w (PartPost p f w) := by
  have h8 := s[0].toNat_lt
  have hge1 : ¬ (s[0].toNat : Int) < 128 := by omega
  have hge2 : (192 : Int) ≤ (s[0].toNat : Int) := by omega
  have hN' := hN.out
  have hE0 : ((s[0].toNat : Int) - 192) = (N : Int) := by have := hn.out; omega
  have hE : ((N : Int) - 55) = (k : Int) := by omega
  have c1 : (55 : Int) < (N : Int) := by omega
  have hN63 : (N : Int) ≤ 200 := by omega
  clear hN'
  have c3 : (k : Int) ≤ ((s.size - 1 : Nat) : Int) := by omega
  have c4 : (k : Int) ≤ 4 := by omega
  have hd1 : decide (s.size - 1 < k) = false := by simp; omega
  have hd2 : decide ((4 : Int) < (k : Int)) = false := by simp; omega
  go_enter Try.func69, Try.ntmps69
  go_wp2_with fail
  go_loopw [7, 9] (fun n i wr => ∃ j u : Nat, wr = (w.alloc (.cells #[.bool false, .string ⟨#[]⟩, .slice none 0 0] 24)) ∧ j ≤ k ∧ i = .int .i64 j ∧ n = .int .i64 u ∧ Hid (u = Itm.val ((s.extract 1 s.size).data.toList.take j))) (fun _ i _ => k - (intOf i).toNat)
  case atStart => exact ⟨0, 0, rfl, Nat.zero_le _, rfl, rfl, rfl⟩
  case round =>
    obtain ⟨j, u, rfl, hj, rfl, rfl, HU⟩ := hrel
    by_cases hjk : j < k
    · have hjs : j < (s.extract 1 s.size).size := by simp; omega
      have hu : u < 16777216 := by
        have h := Itm.val_lt ((s.extract 1 s.size).data.toList.take j)
        rw [← HU.out] at h
        refine Nat.lt_of_lt_of_le h (Nat.le_trans (Nat.pow_le_pow_right (by omega) (?_ : _ ≤ 3)) (by decide))
        rw [List.length_take]; omega
      have HX : Hid (256 * u + ((s.extract 1 s.size)[j]'hjs).toNat = Itm.val ((s.extract 1 s.size).data.toList.take (j + 1))) := by
        rw [Hid, take_snoc _ _ hjs, Itm.val_snoc, ← HU.out]; omega
      have hb8 := ((s.extract 1 s.size)[j]'hjs).toNat_lt
      go_wp2_with fail
      exact ⟨⟨j + 1, 256 * u + ((s.extract 1 s.size)[j]'hjs).toNat, trivial, by omega, by go_num, by go_num, HX.out⟩, by simp [intOf]; omega⟩
    · obtain rfl : j = k := by omega
      obtain rfl : u = V := by rw [HU.out]; exact hV.out
      go_wp2_with fail
      exact bodyPost_ret (v := .tuple #[.agg #[.bool false, .string ⟨#[]⟩, .slice none 0 0], .string ⟨#[]⟩, .bool false]) (by simp [results, Try.results69, go_sem]) rfl (partPost_no hp.out ((Below.refl _ _).alloc (Nat.le_refl _) _))

set_option linter.unusedVariables false in
set_option maxHeartbeats 1600000 in
theorem part_longE192 (k N : Nat) (h2 : s.size ≤ 1000) (hb : s.toList.isEmpty = false) (h1 : 0 < s.size) (hge : 192 ≤ s[0].toNat) (hn : Hid (s[0].toNat - 192 = N)) (hN : Hid (N = k + 55)) (h55 : 1 ≤ k) (hle : k ≤ s.size - 1) (hi : 0 < (s.extract 1 s.size).size) (hz : ((((s.extract 1 s.size)[0]'hi).toNat : Int) == 0) = false) (hk4 : k ≤ 4) (V : Nat) (hV : Hid (Itm.val ((s.extract 1 s.size).data.toList.take k) = V)) (hV55 : 55 < V) (hVm : s.size - 1 - k < V) (hV2 : V < 4294967296) (hp : Hid (p = none)) :
    Calls Try.prog 69 #[.string s] w (PartPost p f w) := by
  have h8 := s[0].toNat_lt
  have hge1 : ¬ (s[0].toNat : Int) < 128 := by omega
  have hge2 : (192 : Int) ≤ (s[0].toNat : Int) := by omega
  have hN' := hN.out
  have hE0 : ((s[0].toNat : Int) - 192) = (N : Int) := by have := hn.out; omega
  have hE : ((N : Int) - 55) = (k : Int) := by omega
  have c1 : (55 : Int) < (N : Int) := by omega
  have hN63 : (N : Int) ≤ 200 := by omega
  clear hN'
  have c3 : (k : Int) ≤ ((s.size - 1 : Nat) : Int) := by omega
  have c4 : (k : Int) ≤ 4 := by omega
  have hd1 : decide (s.size - 1 < k) = false := by simp; omega
  have hd2 : decide ((4 : Int) < (k : Int)) = false := by simp; omega
  have hV55' : (55 : Int) < (V : Int) := by omega
  have hVm' : ((s.size - 1 - k : Nat) : Int) < (V : Int) := by omega
  go_enter Try.func69, Try.ntmps69
  go_wp2_with fail
  go_loopw [7, 9] (fun n i wr => ∃ j u : Nat, wr = (w.alloc (.cells #[.bool false, .string ⟨#[]⟩, .slice none 0 0] 24)) ∧ j ≤ k ∧ i = .int .i64 j ∧ n = .int .i64 u ∧ Hid (u = Itm.val ((s.extract 1 s.size).data.toList.take j))) (fun _ i _ => k - (intOf i).toNat)
  case atStart => exact ⟨0, 0, rfl, Nat.zero_le _, rfl, rfl, rfl⟩
  case round =>
    obtain ⟨j, u, rfl, hj, rfl, rfl, HU⟩ := hrel
    by_cases hjk : j < k
    · have hjs : j < (s.extract 1 s.size).size := by simp; omega
      have hu : u < 16777216 := by
        have h := Itm.val_lt ((s.extract 1 s.size).data.toList.take j)
        rw [← HU.out] at h
        refine Nat.lt_of_lt_of_le h (Nat.le_trans (Nat.pow_le_pow_right (by omega) (?_ : _ ≤ 3)) (by decide))
        rw [List.length_take]; omega
      have HX : Hid (256 * u + ((s.extract 1 s.size)[j]'hjs).toNat = Itm.val ((s.extract 1 s.size).data.toList.take (j + 1))) := by
        rw [Hid, take_snoc _ _ hjs, Itm.val_snoc, ← HU.out]; omega
      have hb8 := ((s.extract 1 s.size)[j]'hjs).toNat_lt
      go_wp2_with fail
      exact ⟨⟨j + 1, 256 * u + ((s.extract 1 s.size)[j]'hjs).toNat, trivial, by omega, by go_num, by go_num, HX.out⟩, by simp [intOf]; omega⟩
    · obtain rfl : j = k := by omega
      obtain rfl : u = V := by rw [HU.out]; exact hV.out
      go_wp2_with fail
      exact bodyPost_ret (v := .tuple #[.agg #[.bool false, .string ⟨#[]⟩, .slice none 0 0], .string ⟨#[]⟩, .bool false]) (by simp [results, Try.results69, go_sem]) rfl (partPost_no hp.out ((Below.refl _ _).alloc (Nat.le_refl _) _))

set_option linter.unusedVariables false in
set_option maxHeartbeats 1600000 in
theorem part_longF192 (k N : Nat) (h2 : s.size ≤ 1000) (hb : s.toList.isEmpty = false) (h1 : 0 < s.size) (hge : 192 ≤ s[0].toNat) (hn : Hid (s[0].toNat - 192 = N)) (hN : Hid (N = k + 55)) (h55 : 1 ≤ k) (hle : k ≤ s.size - 1) (hi : 0 < (s.extract 1 s.size).size) (hz : ((((s.extract 1 s.size)[0]'hi).toNat : Int) == 0) = false) (hk4 : k ≤ 4) (V : Nat) (hV : Hid (Itm.val ((s.extract 1 s.size).data.toList.take k) = V)) (hV55 : 55 < V) (hVm : V ≤ s.size - 1 - k) (hf : s.size ≤ f + 1) (IH : Hid (∀ r : ByteArray, r.size ≤ f → r.size ≤ 1000 → ∀ w, Calls Try.prog 69 #[.string r] w (PartPost (Itm.parse f r.data.toList) f w))) (o : Option (List Itm))
    (ho : Hid (o = Itm.loopP (Itm.parse f) (((s.data.toList.drop 1).drop k).take V).length (((s.data.toList.drop 1).drop k).take V))) (hp : Hid (∀ l, o = some l → p = some (⟨true, [], l⟩, ((s.data.toList.drop 1).drop k).drop V))) (hpn : Hid (o = none → p = none)) :
    Calls Try.prog 69 #[.string s] w (PartPost p (f + 1) w) := by
  have h8 := s[0].toNat_lt
  have hge1 : ¬ (s[0].toNat : Int) < 128 := by omega
  have hge2 : (192 : Int) ≤ (s[0].toNat : Int) := by omega
  have hN' := hN.out
  have hE0 : ((s[0].toNat : Int) - 192) = (N : Int) := by have := hn.out; omega
  have hE : ((N : Int) - 55) = (k : Int) := by omega
  have c1 : (55 : Int) < (N : Int) := by omega
  have hN63 : (N : Int) ≤ 200 := by omega
  clear hN'
  have c3 : (k : Int) ≤ ((s.size - 1 : Nat) : Int) := by omega
  have c4 : (k : Int) ≤ 4 := by omega
  have hd1 : decide (s.size - 1 < k) = false := by simp; omega
  have hd2 : decide ((4 : Int) < (k : Int)) = false := by simp; omega
  have hV55' : (55 : Int) < (V : Int) := by omega
  have hVm' : (V : Int) ≤ ((s.size - 1 - k : Nat) : Int) := by omega
  have hd3 : decide ((V : Int) ≤ 55) = false := by simp; omega
  have hd4 : decide (s.size - 1 - k < V) = false := by simp; omega
  have hd5 : decide (V ≤ 55) = false := by simp; omega
  have HI : Hid ((((s.extract 1 s.size).extract k (s.size - 1)).extract 0 V).data.toList = ((s.data.toList.drop 1).drop k).take V) := by rw [Hid, Lib.extract_data, Lib.extract_data, Lib.extract_to_end, Nat.sub_zero, List.drop_zero, List.take_take]; congr 1; omega
  have HR : Hid ((((s.extract 1 s.size).extract k (s.size - 1)).extract V (s.size - 1 - k)).data.toList = ((s.data.toList.drop 1).drop k).drop V) := by rw [Hid, Lib.extract_data, Lib.extract_data, Lib.extract_to_end, List.take_of_length_le, List.take_of_length_le] <;> (simp; omega)
  have HN : Hid ((((s.extract 1 s.size).extract k (s.size - 1)).extract 0 V).size ≤ 1000) := by simp [Hid]; omega
  have HNf : Hid ((((s.extract 1 s.size).extract k (s.size - 1)).extract 0 V).size ≤ f) := by simp [Hid]; omega
  have HO : Hid (o = Itm.loopP (Itm.parse f) (((s.extract 1 s.size).extract k (s.size - 1)).extract 0 V).size (((s.extract 1 s.size).extract k (s.size - 1)).extract 0 V).data.toList) := by rw [Hid, ← ba_len, HI.out]; exact ho.out
  go_enter Try.func69, Try.ntmps69
  go_wp2_with fail
  go_loopw [7, 9] (fun n i wr => ∃ j u : Nat, wr = (w.alloc (.cells #[.bool false, .string ⟨#[]⟩, .slice none 0 0] 24)) ∧ j ≤ k ∧ i = .int .i64 j ∧ n = .int .i64 u ∧ Hid (u = Itm.val ((s.extract 1 s.size).data.toList.take j))) (fun _ i _ => k - (intOf i).toNat)
  case atStart => exact ⟨0, 0, rfl, Nat.zero_le _, rfl, rfl, rfl⟩
  case round =>
    obtain ⟨j, u, rfl, hj, rfl, rfl, HU⟩ := hrel
    by_cases hjk : j < k
    · have hjs : j < (s.extract 1 s.size).size := by simp; omega
      have hu : u < 16777216 := by
        have h := Itm.val_lt ((s.extract 1 s.size).data.toList.take j)
        rw [← HU.out] at h
        refine Nat.lt_of_lt_of_le h (Nat.le_trans (Nat.pow_le_pow_right (by omega) (?_ : _ ≤ 3)) (by decide))
        rw [List.length_take]; omega
      have HX : Hid (256 * u + ((s.extract 1 s.size)[j]'hjs).toNat = Itm.val ((s.extract 1 s.size).data.toList.take (j + 1))) := by
        rw [Hid, take_snoc _ _ hjs, Itm.val_snoc, ← HU.out]; omega
      have hb8 := ((s.extract 1 s.size)[j]'hjs).toNat_lt
      go_wp2_with fail
      exact ⟨⟨j + 1, 256 * u + ((s.extract 1 s.size)[j]'hjs).toNat, trivial, by omega, by go_num, by go_num, HX.out⟩, by simp [intOf]; omega⟩
    · obtain rfl : j = k := by omega
      obtain rfl : u = V := by rw [HU.out]; exact hV.out
      go_wp2_with fail
      go_loopw [10] (fun b wr => ∃ (r : ByteArray) (m : Nat) (a : Option Addr) (cap : Nat) (done : List Itm), b = .string r ∧ r.size ≤ 1000 ∧ Hid (PartRel f (((s.extract 1 s.size).extract j (s.size - 1)).extract 0 u).size o w wr r m a cap done)) (fun b _ => strLen b)
      case atStart => exact ⟨_, _, none, 0, [], rfl, HN.out, part_start f o w _ HO.out⟩
      case round =>
        obtain ⟨r, m, a, cap, done, rfl, hr, HH⟩ := hrel
        have HQ : Hid (Below (w.alloc (.cells #[.bool false, .string ⟨#[]⟩, .slice none 0 0] 24)).heap.size (w.alloc (.cells #[.bool false, .string ⟨#[]⟩, .slice none 0 0] 24)) wr) := HH.out.2.2.1
        obtain ⟨hcc, hff⟩ := bcell HQ.out
        by_cases hne : r.data.toList = []
        · have hb : r.toList.isEmpty = true := by rw [toList_isEmpty, hne]; rfl
          have HE := hid hne
          have hx0 := cell_of_row _ _ 0 _ _ _ HH.out.1
          have hx1 := cell_of_row _ _ 1 _ _ _ HH.out.1
          have hx2 := cell_of_row _ _ 2 _ _ _ HH.out.1
          clear hne
          go_wp2_with fail
          obtain ⟨c0, c1, c2⟩ := set3 (old_block HQ.out) (.bool true) (.string ⟨#[]⟩) (.slice a done.length cap)
          refine bodyPost_ret (v := .tuple #[.agg #[.bool true, .string ⟨#[]⟩, .slice a done.length cap], .string _, .bool true]) (by simp [results, Try.results69, go_sem, c0, c1, c2]) rfl (partPost_yes (hp.out done (part_end HH.out HE.out)) HR.out ?_ (box_below HQ.out _ _ _))
          rw [box_size]
          exact own_widen (lo := w.heap.size + 1) (ow_box _ _ _ (own_widen (ow_list HH.out.2.1) (Nat.le_succ _) (Nat.le_refl _))) (Nat.le_succ _) (Nat.le_refl _)
        · have hb : r.toList.isEmpty = false := by rw [toList_isEmpty]; simpa using hne
          have HE := hid hne
          have hcall := hid (IH.out r (by have := HH.out.2.2.2.2.2.2; have := HNf.out; omega) hr)
          clear hne
          cases hpr : Itm.parse f r.data.toList with
          | none =>
            have HS := hid (part_stop HH.out HE.out hpr)
            have HPR := hid hpr
            clear hpr
            go_wp2_with fail
            refine (hcall.out _).mono ?_
            rintro e w1 ⟨hno, _, hbel⟩
            obtain rfl := hno HPR.out
            have HB := hid (HQ.out.trans (hbel.mono HQ.out.size))
            obtain ⟨hcc1, hff1⟩ := bcell HB.out
            clear hno
            have hsz : w.heap.size < w1.heap.size := by have := HB.out.size; simp at this; omega
            go_wp2_with fail
            obtain ⟨c0, c1, c2⟩ := set3 (old_block HB.out) (.bool false) (.string ⟨#[]⟩) (.slice none 0 0)
            exact bodyPost_ret (v := .tuple #[.agg #[.bool false, .string ⟨#[]⟩, .slice none 0 0], .string ⟨#[]⟩, .bool false]) (by simp [results, Try.results69, go_sem, c0, c1, c2, hsz]) rfl (partPost_no (hpn.out HS.out) ((box_below HB.out _ _ _).alloc (by rw [box_size]; omega) _))
          | some xr =>
            obtain ⟨t, rest2⟩ := xr
            have HPR := hid hpr
            clear hpr
            cases m with
            | zero => exact absurd (List.eq_nil_of_length_eq_zero (by rw [ba_len]; have := HH.out.2.2.2.2.2.1; omega)) HE.out
            | succ m =>
            go_wp2_with fail
            refine (hcall.out _).mono ?_
            rintro e w1 ⟨_, hyes, hbel⟩
            obtain ⟨v, rfl, p5⟩ := hyes t rest2 HPR.out
            obtain ⟨a2, cap2, rfl⟩ := ow_shape p5
            have HY := hid p5
            have HB := hid hbel
            clear hyes p5 hbel
            have hwr : w.heap.size + 2 ≤ wr.heap.size := HH.out.2.2.2.1
            have hsz : wr.heap.size ≤ w1.heap.size := HB.out.size
            have hx2 : w1.cell? ⟨w.heap.size + 1, 2, none⟩ = some (.slice a done.length cap) := by
              rw [HB.out.cell (p := ⟨w.heap.size + 1, 2, none⟩) (by show w.heap.size + 1 < wr.heap.size; omega), cell_of_row _ _ 2 _ _ _ HH.out.1]; rfl
            have hlt1 : w.heap.size + 1 < w1.heap.size := by omega
            have hlt2 : w.heap.size + 1 < w1.heap.size + 1 := by omega
            have hne1 : ¬ (w.heap.size + 1 = w1.heap.size) := by omega
            have hne2 : ¬ (w1.heap.size = w.heap.size + 1) := by omega
            have HB3 : Hid (Below wr.heap.size wr (w1.alloc (.cells #[.bool t.list, .string ⟨t.bytes.toArray⟩, .slice a2 t.items.length cap2] 24))) := HB.out.alloc HB.out.size _
            have HY3 : Hid (Ow (w1.alloc (.cells #[.bool t.list, .string ⟨t.bytes.toArray⟩, .slice a2 t.items.length cap2] 24)) f wr.heap.size w1.heap.size (.agg #[.bool t.list, .string ⟨t.bytes.toArray⟩, .slice a2 t.items.length cap2]) t) := own_frame _ _ _ _ _ (fun k _ hk => Below.heap_alloc _ _ _ hk) HY.out
            have HW : Hid (w1.heap.size + 1 = (w1.alloc (.cells #[.bool t.list, .string ⟨t.bytes.toArray⟩, .slice a2 t.items.length cap2] 24)).heap.size) := by simp [Hid]
            have HO1 : Hid (OwL wr f (w.heap.size + 2) wr.heap.size (.slice a done.length cap) done) := HH.out.2.1
            have hdl : done.length ≤ 1000000 := by have := HH.out.2.2.2.2.2.2; have := HN.out; omega
            have H3 : Hid (w1.heap.size ≤ (w1.alloc (.cells #[.bool t.list, .string ⟨t.bytes.toArray⟩, .slice a2 t.items.length cap2] 24)).heap.size) := by simp [Hid]
            have H4 : Hid (wr.heap.size ≤ (w1.alloc (.cells #[.bool t.list, .string ⟨t.bytes.toArray⟩, .slice a2 t.items.length cap2] 24)).heap.size) := by rw [Hid, ← HW.out]; omega
            have H5 : Hid (w.heap.size + 2 ≤ (w1.alloc (.cells #[.bool t.list, .string ⟨t.bytes.toArray⟩, .slice a2 t.items.length cap2] 24)).heap.size) := by rw [Hid, ← HW.out]; omega
            have HX9 : Hid (∀ w', Below (w.heap.size + 2) (w1.alloc (.cells #[.bool t.list, .string ⟨t.bytes.toArray⟩, .slice a2 t.items.length cap2] 24)) w' → w'.heap[w.heap.size + 1]? = some (.cells #[.bool true, .string ⟨#[]⟩, .slice a done.length cap] 24 (0, 0))) := by
              intro w' hb'
              rw [hb'.block _ (by omega), HB3.out.block _ (by omega)]
              exact HH.out.1
            go_wp2_with (at_builtin; refine wpList_append_one rfl (.tmp 109) (.tmp 111) rfl rfl rfl HW.out HO1.out HB3.out HY3.out (Nat.le_refl _) hwr H3.out H4.out H5.out ⟨rfl, rfl, rfl⟩ hdl ?_; intro v' w' hown2 hbel2; obtain ⟨a9, c9, rfl⟩ := ownL_len hown2; have hx9 := cell_of_row _ _ 2 _ _ _ (HX9.out w' hbel2); have hf9 := frozen_of_row _ _ 2 _ _ (HX9.out w' hbel2))
            have hlen : rest2.length < r.size := by
              have h1 := (Itm.parse_sound f _ _ _ HPR.out).1
              have h2 : r.size = (Itm.enc t).length + rest2.length := by rw [← ba_len, h1, List.length_append]
              have h3 : 0 < (Itm.enc t).length := List.length_pos_iff.2 (Itm.enc_ne t)
              omega
            refine ⟨⟨⟨rest2.toArray⟩, m, a9, c9, done ++ [t], rfl, ?_, part_step HH.out HE.out HPR.out hown2 HB3.out hbel2 (HX9.out _ hbel2)⟩, ?_⟩
            · show rest2.toArray.size ≤ 1000
              simp; omega
            · show rest2.toArray.size < r.size
              simp; omega

end
end Go.Proofs.Ytbmohenjphmlgaa
