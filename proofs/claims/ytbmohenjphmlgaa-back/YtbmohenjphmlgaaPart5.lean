/- Part 5 of a proof: what the last text needs. -/
import Derived.Test.YtbmohenjphmlgaaPart4
import Derived.Test.YtbmohenjphmlgaaPart3
/- The walks of 'item' (of the statements' own): some item that has but the fields that its kind uses, of few levels and few bytes, in lists of its own. -/
namespace Go.Proofs.Ytbmohenjphmlgaa
open Go.RowKit
set_option maxRecDepth 100000

/-- What 'item' answers. -/
def ItemOk (d : Nat) (s : ByteArray) (w : World) (e : Ending) (w' : World) : Prop :=
  ∃ v t r, e = .returned (.tuple #[v, .string r]) ∧ r.size ≤ s.size ∧ Itm.pure t = true ∧ Itm.deep t ≤ d ∧ (Itm.enc t).length ≤ 68 * (s.size - r.size) + 1 ∧ Ow w' (d + 1) w.heap.size w'.heap.size v t ∧ Below w.heap.size w w'

/-- A byte is stored. -/
theorem bown_put {w : World} {base g cap : Nat} {l : List UInt8} (h : Bown w base (.slice (some ⟨g, 0, none⟩) l.length cap) l) (j : Nat) (z : Int) (h0 : 0 ≤ z) (h1 : z < 256) :
    ∃ l' : List UInt8, l'.length = l.length ∧ Bown (w.setCell ⟨g, j, none⟩ (.int .u8 z)) base (.slice (some ⟨g, 0, none⟩) l'.length cap) l' := by
  have h2 := (World.ownsRow.stored h j (.int .u8 z)).1
  have hz : (((UInt8.ofNat z.toNat).toNat : Nat) : Int) = z := by simp; omega
  refine ⟨l.set j (UInt8.ofNat z.toNat), by simp, ?_⟩
  unfold Bown
  rw [List.length_set]
  have e : Lib.byteCells (l.set j (UInt8.ofNat z.toNat)) = (Lib.byteCells l).set j (.int .u8 z) := by
    unfold Lib.byteCells
    rw [List.map_set, hz]
  rw [e]
  exact h2

theorem tail_isEmpty (s : ByteArray) : (s.extract 1 s.size).toList.isEmpty = decide (s.size ≤ 1) := by
  rw [toList_isEmpty, Lib.extract_to_end, Bool.eq_iff_iff]
  simp only [List.isEmpty_iff, List.drop_eq_nil_iff, decide_eq_true_eq]
  rw [ba_len]

theorem encB_len (l : List UInt8) (h : l.length ≤ 58) : (Itm.encB l).length ≤ 67 := by
  unfold Itm.encB
  split
  · omega
  · unfold Itm.headed
    have := Itm.head_len 128 l.length (by omega)
    rw [List.length_append]; omega

theorem leaf_ok {d : Nat} {l : List UInt8} {s : ByteArray} (h : l.length ≤ 58) (h1 : 0 < s.size) : (s.extract 1 s.size).size ≤ s.size ∧ Itm.pure ⟨false, l, []⟩ = true ∧ Itm.deep ⟨false, l, []⟩ ≤ d ∧ (Itm.enc ⟨false, l, []⟩).length ≤ 68 * (s.size - (s.extract 1 s.size).size) + 1 := by
  refine ⟨by simp, by rw [Itm.pure_eq]; simp, by rw [Itm.deep_eq]; simp, ?_⟩
  rw [Itm.enc_eq]
  have := encB_len l h
  simp only [Bool.false_eq_true, if_false]
  have e : (s.extract 1 s.size).size = s.size - 1 := by simp
  rw [e]; omega

set_option maxHeartbeats 800000 in
theorem item_none (d : Nat) (s : ByteArray) (w : World) (hb : s.toList.isEmpty = true) : Calls Try.prog 35 #[.string s, .int .i64 d] w (ItemOk d s w) := by
  go_enter Try.func35, Try.ntmps35
  go_wp2_with fail
  refine bodyPost_ret (v := .tuple #[.agg #[.bool false, .string ⟨#[]⟩, .slice none 0 0], .string s]) (by simp [results, Try.results35, go_sem]) rfl ⟨_, ⟨false, [], []⟩, s, rfl, Nat.le_refl _, ?_, ?_, ?_, ow_bytes _ _ _ _ ⟨#[]⟩ [] rfl, (Below.refl _ _).alloc (Nat.le_refl _) _⟩
  · rw [Itm.pure_eq]; simp
  · rw [Itm.deep_eq]; simp
  · rw [Itm.enc_eq]; simp [Itm.encB, Itm.stands, Itm.headed, Itm.head]

set_option maxHeartbeats 1600000 in
theorem item_leafA (d : Nat) (s : ByteArray) (w : World) (hs : s.size ≤ 12) (hb : s.toList.isEmpty = false) (h1 : 0 < s.size) (h : ((d : Int) == 0) = true) (h2 : s[0].toNat ≤ 150) :
    Calls Try.prog 35 #[.string s, .int .i64 d] w (ItemOk d s w) := by
  obtain ⟨i0, hi, hz0, hz1, hz2⟩ := info_parts infoByte
  have h8 := s[0].toNat_lt
  have h3 : ¬ (150 : Int) < (s[0].toNat : Int) := by omega
  obtain ⟨N, HN⟩ : ∃ N : Nat, Hid ((s[0].toNat : Int) % 5 = (N : Int)) := ⟨s[0].toNat % 5, by show _ = _; omega⟩
  have hN4 : N ≤ 58 := by have := HN.out; omega
  have hbase : (w.alloc (.cells #[.bool false, .string ⟨#[]⟩, .slice none 0 0] 24)).heap.size ≤ (w.alloc (.cells #[.bool false, .string ⟨#[]⟩, .slice none 0 0] 24)).heap.size := Nat.le_refl _
  have hby : i0.bytes * N ≤ 281474976710656 := by rw [hz2]; omega
  have hml : N ≤ maxLen := by unfold maxLen; omega
  go_enter Try.func35, Try.ntmps35
  go_wp2_with (at_make; refine wpList_make_full _ rfl (.tmp 36) (.tmp 36) 76 rfl _ 5 i0 _ 1 Try.underlying76 hi hz0 hz1 .i64 .i64 _ _ N rfl rfl HN.out HN.out hby hml hbase ?_; intro w1 hrow hgr)
  rw [HN.out]
  have HR : Hid (Bown w1 (w.alloc (.cells #[.bool false, .string ⟨#[]⟩, .slice none 0 0] 24)).heap.size (.slice (some ⟨w.heap.size + 1, 0, none⟩) N N) (List.replicate N 0)) := by
    unfold Bown Hid
    rw [List.length_replicate]
    have : Lib.byteCells (List.replicate N 0) = (madeCells (Value.int .u8 0).cells (N * 1)).toList := by
      rw [Nat.mul_one, show (Value.int .u8 0).cells = #[Value.int .u8 0] from rfl, toList_madeCells_one]
      simp [Lib.byteCells]
    rw [this]
    simpa using hrow
  have HG : Hid (Below (w.alloc (.cells #[.bool false, .string ⟨#[]⟩, .slice none 0 0] 24)).heap.size (w.alloc (.cells #[.bool false, .string ⟨#[]⟩, .slice none 0 0] 24)) w1) := ⟨hgr.os, hgr.tape, hgr.output, hgr.size, fun k hk => hgr.block k hk (by simp)⟩
  clear hrow hgr hbase hby hml
  go_loopw [9] (fun i wr => ∃ (j : Nat) (l : List UInt8), i = .int .i64 j ∧ j ≤ N ∧ Hid (l.length = N ∧ Bown wr (w.alloc (.cells #[.bool false, .string ⟨#[]⟩, .slice none 0 0] 24)).heap.size (.slice (some ⟨w.heap.size + 1, 0, none⟩) l.length N) l ∧ Below (w.alloc (.cells #[.bool false, .string ⟨#[]⟩, .slice none 0 0] 24)).heap.size (w.alloc (.cells #[.bool false, .string ⟨#[]⟩, .slice none 0 0] 24)) wr)) (fun i _ => N - (intOf i).toNat)
  case atStart => exact ⟨0, List.replicate N 0, rfl, Nat.zero_le _, by simp, by rw [List.length_replicate]; exact HR.out, HG.out⟩
  case round =>
    obtain ⟨j, l, rfl, hj, HH⟩ := hrel
    by_cases hlt : j < N
    · have hc0 : wr.cell? ⟨w.heap.size + 1, j, none⟩ = some (.int .u8 ((l.getD j 0).toNat : Nat)) := by
        obtain ⟨q1, q2, q3⟩ := HH.out
        rw [World.ownsRow.cellAt q2 j (by omega)]
        simp [Lib.byteCells, List.getD_eq_getElem?_getD, q1, hlt]
      have hf0 : wr.frozen? ⟨w.heap.size + 1, j, none⟩ = false := World.ownsRow.frozenAt HH.out.2.1 j
      have hz : (0 : Int) ≤ (s[0].toNat : Int) * ((j : Int) + 3) % 256 ∧ (s[0].toNat : Int) * ((j : Int) + 3) % 256 < 256 := by omega
      have HZ := hid hz
      clear hz
      by_cases hr : 1 < s.size
      · have hmod : (j : Int) % ((s.size - 1 : Nat) : Int) < ((s.size - 1 : Nat) : Int) := Int.emod_lt_of_pos _ (by omega)
        have hmod2 : j % (s.size - 1) < s.size - 1 := Nat.mod_lt _ (by omega)
        have he : (s.extract 1 s.size).toList.isEmpty = false := by rw [tail_isEmpty]; exact decide_eq_false (by omega)
        go_wp2_with fail
        obtain ⟨q1, q2, q3⟩ := HH.out
        obtain ⟨l1, e1, b1⟩ := bown_put q2 j _ HZ.out.1 HZ.out.2
        obtain ⟨l2, e2, b2⟩ := bown_put b1 j (((s.extract 1 s.size)[j % (s.size - 1)]'(by simp; omega)).toNat : Int) (by omega) (by have := ((s.extract 1 s.size)[j % (s.size - 1)]'(by simp; omega)).toNat_lt; omega)
        exact ⟨⟨j + 1, l2, by go_num, by omega, by omega, b2, (q3.setCell (p := ⟨w.heap.size + 1, j, none⟩) (by simp) _).setCell (p := ⟨w.heap.size + 1, j, none⟩) (by simp) _⟩, by simp [intOf]; omega⟩
      · have he : (s.extract 1 s.size).toList.isEmpty = true := by rw [tail_isEmpty]; exact decide_eq_true (by omega)
        go_wp2_with fail
        obtain ⟨q1, q2, q3⟩ := HH.out
        obtain ⟨l1, e1, b1⟩ := bown_put q2 j _ HZ.out.1 HZ.out.2
        exact ⟨⟨j + 1, l1, by go_num, by omega, by omega, b1, q3.setCell (p := ⟨w.heap.size + 1, j, none⟩) (by simp) _⟩, by simp [intOf]; omega⟩
    · have hcv := run_bytes_string (brd_of_bown HH.out.2.1)
      rw [HH.out.1] at hcv
      obtain ⟨hcc, hff⟩ := bcell HH.out.2.2
      go_wp2_with fail
      obtain ⟨c0, c1, c2⟩ := set3 (old_block HH.out.2.2) (.bool false) (.string ⟨l.toArray⟩) (.slice none 0 0)
      obtain ⟨k1, k2, k3, k4⟩ := leaf_ok (d := d) (l := l) (s := s) (by rw [HH.out.1]; exact hN4) h1
      exact bodyPost_ret (v := .tuple #[.agg #[.bool false, .string ⟨l.toArray⟩, .slice none 0 0], .string (s.extract 1 s.size)]) (by simp [results, Try.results35, go_sem, c0, c1, c2]) rfl ⟨_, ⟨false, l, []⟩, _, rfl, k1, k2, k3, k4, ow_bytes _ _ _ _ _ _ (by simp), box_below HH.out.2.2 _ _ _⟩

set_option maxHeartbeats 1600000 in
theorem item_leafB (d : Nat) (s : ByteArray) (w : World) (hs : s.size ≤ 12) (hb : s.toList.isEmpty = false) (h1 : 0 < s.size) (h : ((d : Int) == 0) = true) (h2 : 150 < s[0].toNat) :
    Calls Try.prog 35 #[.string s, .int .i64 d] w (ItemOk d s w) := by
  obtain ⟨i0, hi, hz0, hz1, hz2⟩ := info_parts infoByte
  have h8 := s[0].toNat_lt
  have h3 : (150 : Int) < (s[0].toNat : Int) := by omega
  obtain ⟨N, HN⟩ : ∃ N : Nat, Hid ((54 : Int) + (s[0].toNat : Int) % 5 = (N : Int)) := ⟨54 + s[0].toNat % 5, by show _ = _; omega⟩
  have hN4 : N ≤ 58 := by have := HN.out; omega
  have hbase : (w.alloc (.cells #[.bool false, .string ⟨#[]⟩, .slice none 0 0] 24)).heap.size ≤ (w.alloc (.cells #[.bool false, .string ⟨#[]⟩, .slice none 0 0] 24)).heap.size := Nat.le_refl _
  have hby : i0.bytes * N ≤ 281474976710656 := by rw [hz2]; omega
  have hml : N ≤ maxLen := by unfold maxLen; omega
  go_enter Try.func35, Try.ntmps35
  go_wp2_with (at_make; refine wpList_make_full _ rfl (.tmp 36) (.tmp 36) 76 rfl _ 5 i0 _ 1 Try.underlying76 hi hz0 hz1 .i64 .i64 _ _ N rfl rfl HN.out HN.out hby hml hbase ?_; intro w1 hrow hgr)
  rw [HN.out]
  have HR : Hid (Bown w1 (w.alloc (.cells #[.bool false, .string ⟨#[]⟩, .slice none 0 0] 24)).heap.size (.slice (some ⟨w.heap.size + 1, 0, none⟩) N N) (List.replicate N 0)) := by
    unfold Bown Hid
    rw [List.length_replicate]
    have : Lib.byteCells (List.replicate N 0) = (madeCells (Value.int .u8 0).cells (N * 1)).toList := by
      rw [Nat.mul_one, show (Value.int .u8 0).cells = #[Value.int .u8 0] from rfl, toList_madeCells_one]
      simp [Lib.byteCells]
    rw [this]
    simpa using hrow
  have HG : Hid (Below (w.alloc (.cells #[.bool false, .string ⟨#[]⟩, .slice none 0 0] 24)).heap.size (w.alloc (.cells #[.bool false, .string ⟨#[]⟩, .slice none 0 0] 24)) w1) := ⟨hgr.os, hgr.tape, hgr.output, hgr.size, fun k hk => hgr.block k hk (by simp)⟩
  clear hrow hgr hbase hby hml
  go_loopw [9] (fun i wr => ∃ (j : Nat) (l : List UInt8), i = .int .i64 j ∧ j ≤ N ∧ Hid (l.length = N ∧ Bown wr (w.alloc (.cells #[.bool false, .string ⟨#[]⟩, .slice none 0 0] 24)).heap.size (.slice (some ⟨w.heap.size + 1, 0, none⟩) l.length N) l ∧ Below (w.alloc (.cells #[.bool false, .string ⟨#[]⟩, .slice none 0 0] 24)).heap.size (w.alloc (.cells #[.bool false, .string ⟨#[]⟩, .slice none 0 0] 24)) wr)) (fun i _ => N - (intOf i).toNat)
  case atStart => exact ⟨0, List.replicate N 0, rfl, Nat.zero_le _, by simp, by rw [List.length_replicate]; exact HR.out, HG.out⟩
  case round =>
    obtain ⟨j, l, rfl, hj, HH⟩ := hrel
    by_cases hlt : j < N
    · have hc0 : wr.cell? ⟨w.heap.size + 1, j, none⟩ = some (.int .u8 ((l.getD j 0).toNat : Nat)) := by
        obtain ⟨q1, q2, q3⟩ := HH.out
        rw [World.ownsRow.cellAt q2 j (by omega)]
        simp [Lib.byteCells, List.getD_eq_getElem?_getD, q1, hlt]
      have hf0 : wr.frozen? ⟨w.heap.size + 1, j, none⟩ = false := World.ownsRow.frozenAt HH.out.2.1 j
      have hz : (0 : Int) ≤ (s[0].toNat : Int) * ((j : Int) + 3) % 256 ∧ (s[0].toNat : Int) * ((j : Int) + 3) % 256 < 256 := by omega
      have HZ := hid hz
      clear hz
      by_cases hr : 1 < s.size
      · have hmod : (j : Int) % ((s.size - 1 : Nat) : Int) < ((s.size - 1 : Nat) : Int) := Int.emod_lt_of_pos _ (by omega)
        have hmod2 : j % (s.size - 1) < s.size - 1 := Nat.mod_lt _ (by omega)
        have he : (s.extract 1 s.size).toList.isEmpty = false := by rw [tail_isEmpty]; exact decide_eq_false (by omega)
        go_wp2_with fail
        obtain ⟨q1, q2, q3⟩ := HH.out
        obtain ⟨l1, e1, b1⟩ := bown_put q2 j _ HZ.out.1 HZ.out.2
        obtain ⟨l2, e2, b2⟩ := bown_put b1 j (((s.extract 1 s.size)[j % (s.size - 1)]'(by simp; omega)).toNat : Int) (by omega) (by have := ((s.extract 1 s.size)[j % (s.size - 1)]'(by simp; omega)).toNat_lt; omega)
        exact ⟨⟨j + 1, l2, by go_num, by omega, by omega, b2, (q3.setCell (p := ⟨w.heap.size + 1, j, none⟩) (by simp) _).setCell (p := ⟨w.heap.size + 1, j, none⟩) (by simp) _⟩, by simp [intOf]; omega⟩
      · have he : (s.extract 1 s.size).toList.isEmpty = true := by rw [tail_isEmpty]; exact decide_eq_true (by omega)
        go_wp2_with fail
        obtain ⟨q1, q2, q3⟩ := HH.out
        obtain ⟨l1, e1, b1⟩ := bown_put q2 j _ HZ.out.1 HZ.out.2
        exact ⟨⟨j + 1, l1, by go_num, by omega, by omega, b1, q3.setCell (p := ⟨w.heap.size + 1, j, none⟩) (by simp) _⟩, by simp [intOf]; omega⟩
    · have hcv := run_bytes_string (brd_of_bown HH.out.2.1)
      rw [HH.out.1] at hcv
      obtain ⟨hcc, hff⟩ := bcell HH.out.2.2
      go_wp2_with fail
      obtain ⟨c0, c1, c2⟩ := set3 (old_block HH.out.2.2) (.bool false) (.string ⟨l.toArray⟩) (.slice none 0 0)
      obtain ⟨k1, k2, k3, k4⟩ := leaf_ok (d := d) (l := l) (s := s) (by rw [HH.out.1]; exact hN4) h1
      exact bodyPost_ret (v := .tuple #[.agg #[.bool false, .string ⟨l.toArray⟩, .slice none 0 0], .string (s.extract 1 s.size)]) (by simp [results, Try.results35, go_sem, c0, c1, c2]) rfl ⟨_, ⟨false, l, []⟩, _, rfl, k1, k2, k3, k4, ow_bytes _ _ _ _ _ _ (by simp), box_below HH.out.2.2 _ _ _⟩

set_option maxHeartbeats 1600000 in
theorem item_leafC (d : Nat) (s : ByteArray) (w : World) (hs : s.size ≤ 12) (hb : s.toList.isEmpty = false) (h1 : 0 < s.size) (h : ((d : Int) == 0) = false) (h2 : s[0].toNat ≤ 150) :
    Calls Try.prog 35 #[.string s, .int .i64 d] w (ItemOk d s w) := by
  obtain ⟨i0, hi, hz0, hz1, hz2⟩ := info_parts infoByte
  have h8 := s[0].toNat_lt
  have h3 : ¬ (150 : Int) < (s[0].toNat : Int) := by omega
  have h4 : (s[0].toNat : Int) < 160 := by omega
  obtain ⟨N, HN⟩ : ∃ N : Nat, Hid ((s[0].toNat : Int) % 5 = (N : Int)) := ⟨s[0].toNat % 5, by show _ = _; omega⟩
  have hN4 : N ≤ 58 := by have := HN.out; omega
  have hbase : (w.alloc (.cells #[.bool false, .string ⟨#[]⟩, .slice none 0 0] 24)).heap.size ≤ (w.alloc (.cells #[.bool false, .string ⟨#[]⟩, .slice none 0 0] 24)).heap.size := Nat.le_refl _
  have hby : i0.bytes * N ≤ 281474976710656 := by rw [hz2]; omega
  have hml : N ≤ maxLen := by unfold maxLen; omega
  go_enter Try.func35, Try.ntmps35
  go_wp2_with (at_make; refine wpList_make_full _ rfl (.tmp 36) (.tmp 36) 76 rfl _ 5 i0 _ 1 Try.underlying76 hi hz0 hz1 .i64 .i64 _ _ N rfl rfl HN.out HN.out hby hml hbase ?_; intro w1 hrow hgr)
  rw [HN.out]
  have HR : Hid (Bown w1 (w.alloc (.cells #[.bool false, .string ⟨#[]⟩, .slice none 0 0] 24)).heap.size (.slice (some ⟨w.heap.size + 1, 0, none⟩) N N) (List.replicate N 0)) := by
    unfold Bown Hid
    rw [List.length_replicate]
    have : Lib.byteCells (List.replicate N 0) = (madeCells (Value.int .u8 0).cells (N * 1)).toList := by
      rw [Nat.mul_one, show (Value.int .u8 0).cells = #[Value.int .u8 0] from rfl, toList_madeCells_one]
      simp [Lib.byteCells]
    rw [this]
    simpa using hrow
  have HG : Hid (Below (w.alloc (.cells #[.bool false, .string ⟨#[]⟩, .slice none 0 0] 24)).heap.size (w.alloc (.cells #[.bool false, .string ⟨#[]⟩, .slice none 0 0] 24)) w1) := ⟨hgr.os, hgr.tape, hgr.output, hgr.size, fun k hk => hgr.block k hk (by simp)⟩
  clear hrow hgr hbase hby hml
  go_loopw [9] (fun i wr => ∃ (j : Nat) (l : List UInt8), i = .int .i64 j ∧ j ≤ N ∧ Hid (l.length = N ∧ Bown wr (w.alloc (.cells #[.bool false, .string ⟨#[]⟩, .slice none 0 0] 24)).heap.size (.slice (some ⟨w.heap.size + 1, 0, none⟩) l.length N) l ∧ Below (w.alloc (.cells #[.bool false, .string ⟨#[]⟩, .slice none 0 0] 24)).heap.size (w.alloc (.cells #[.bool false, .string ⟨#[]⟩, .slice none 0 0] 24)) wr)) (fun i _ => N - (intOf i).toNat)
  case atStart => exact ⟨0, List.replicate N 0, rfl, Nat.zero_le _, by simp, by rw [List.length_replicate]; exact HR.out, HG.out⟩
  case round =>
    obtain ⟨j, l, rfl, hj, HH⟩ := hrel
    by_cases hlt : j < N
    · have hc0 : wr.cell? ⟨w.heap.size + 1, j, none⟩ = some (.int .u8 ((l.getD j 0).toNat : Nat)) := by
        obtain ⟨q1, q2, q3⟩ := HH.out
        rw [World.ownsRow.cellAt q2 j (by omega)]
        simp [Lib.byteCells, List.getD_eq_getElem?_getD, q1, hlt]
      have hf0 : wr.frozen? ⟨w.heap.size + 1, j, none⟩ = false := World.ownsRow.frozenAt HH.out.2.1 j
      have hz : (0 : Int) ≤ (s[0].toNat : Int) * ((j : Int) + 3) % 256 ∧ (s[0].toNat : Int) * ((j : Int) + 3) % 256 < 256 := by omega
      have HZ := hid hz
      clear hz
      by_cases hr : 1 < s.size
      · have hmod : (j : Int) % ((s.size - 1 : Nat) : Int) < ((s.size - 1 : Nat) : Int) := Int.emod_lt_of_pos _ (by omega)
        have hmod2 : j % (s.size - 1) < s.size - 1 := Nat.mod_lt _ (by omega)
        have he : (s.extract 1 s.size).toList.isEmpty = false := by rw [tail_isEmpty]; exact decide_eq_false (by omega)
        go_wp2_with fail
        obtain ⟨q1, q2, q3⟩ := HH.out
        obtain ⟨l1, e1, b1⟩ := bown_put q2 j _ HZ.out.1 HZ.out.2
        obtain ⟨l2, e2, b2⟩ := bown_put b1 j (((s.extract 1 s.size)[j % (s.size - 1)]'(by simp; omega)).toNat : Int) (by omega) (by have := ((s.extract 1 s.size)[j % (s.size - 1)]'(by simp; omega)).toNat_lt; omega)
        exact ⟨⟨j + 1, l2, by go_num, by omega, by omega, b2, (q3.setCell (p := ⟨w.heap.size + 1, j, none⟩) (by simp) _).setCell (p := ⟨w.heap.size + 1, j, none⟩) (by simp) _⟩, by simp [intOf]; omega⟩
      · have he : (s.extract 1 s.size).toList.isEmpty = true := by rw [tail_isEmpty]; exact decide_eq_true (by omega)
        go_wp2_with fail
        obtain ⟨q1, q2, q3⟩ := HH.out
        obtain ⟨l1, e1, b1⟩ := bown_put q2 j _ HZ.out.1 HZ.out.2
        exact ⟨⟨j + 1, l1, by go_num, by omega, by omega, b1, q3.setCell (p := ⟨w.heap.size + 1, j, none⟩) (by simp) _⟩, by simp [intOf]; omega⟩
    · have hcv := run_bytes_string (brd_of_bown HH.out.2.1)
      rw [HH.out.1] at hcv
      obtain ⟨hcc, hff⟩ := bcell HH.out.2.2
      go_wp2_with fail
      obtain ⟨c0, c1, c2⟩ := set3 (old_block HH.out.2.2) (.bool false) (.string ⟨l.toArray⟩) (.slice none 0 0)
      obtain ⟨k1, k2, k3, k4⟩ := leaf_ok (d := d) (l := l) (s := s) (by rw [HH.out.1]; exact hN4) h1
      exact bodyPost_ret (v := .tuple #[.agg #[.bool false, .string ⟨l.toArray⟩, .slice none 0 0], .string (s.extract 1 s.size)]) (by simp [results, Try.results35, go_sem, c0, c1, c2]) rfl ⟨_, ⟨false, l, []⟩, _, rfl, k1, k2, k3, k4, ow_bytes _ _ _ _ _ _ (by simp), box_below HH.out.2.2 _ _ _⟩

set_option maxHeartbeats 1600000 in
theorem item_leafD (d : Nat) (s : ByteArray) (w : World) (hs : s.size ≤ 12) (hb : s.toList.isEmpty = false) (h1 : 0 < s.size) (h : ((d : Int) == 0) = false) (h2 : 150 < s[0].toNat) (h5 : s[0].toNat < 160) :
    Calls Try.prog 35 #[.string s, .int .i64 d] w (ItemOk d s w) := by
  obtain ⟨i0, hi, hz0, hz1, hz2⟩ := info_parts infoByte
  have h8 := s[0].toNat_lt
  have h3 : (150 : Int) < (s[0].toNat : Int) := by omega
  have h4 : (s[0].toNat : Int) < 160 := by omega
  obtain ⟨N, HN⟩ : ∃ N : Nat, Hid ((54 : Int) + (s[0].toNat : Int) % 5 = (N : Int)) := ⟨54 + s[0].toNat % 5, by show _ = _; omega⟩
  have hN4 : N ≤ 58 := by have := HN.out; omega
  have hbase : (w.alloc (.cells #[.bool false, .string ⟨#[]⟩, .slice none 0 0] 24)).heap.size ≤ (w.alloc (.cells #[.bool false, .string ⟨#[]⟩, .slice none 0 0] 24)).heap.size := Nat.le_refl _
  have hby : i0.bytes * N ≤ 281474976710656 := by rw [hz2]; omega
  have hml : N ≤ maxLen := by unfold maxLen; omega
  go_enter Try.func35, Try.ntmps35
  go_wp2_with (at_make; refine wpList_make_full _ rfl (.tmp 36) (.tmp 36) 76 rfl _ 5 i0 _ 1 Try.underlying76 hi hz0 hz1 .i64 .i64 _ _ N rfl rfl HN.out HN.out hby hml hbase ?_; intro w1 hrow hgr)
  rw [HN.out]
  have HR : Hid (Bown w1 (w.alloc (.cells #[.bool false, .string ⟨#[]⟩, .slice none 0 0] 24)).heap.size (.slice (some ⟨w.heap.size + 1, 0, none⟩) N N) (List.replicate N 0)) := by
    unfold Bown Hid
    rw [List.length_replicate]
    have : Lib.byteCells (List.replicate N 0) = (madeCells (Value.int .u8 0).cells (N * 1)).toList := by
      rw [Nat.mul_one, show (Value.int .u8 0).cells = #[Value.int .u8 0] from rfl, toList_madeCells_one]
      simp [Lib.byteCells]
    rw [this]
    simpa using hrow
  have HG : Hid (Below (w.alloc (.cells #[.bool false, .string ⟨#[]⟩, .slice none 0 0] 24)).heap.size (w.alloc (.cells #[.bool false, .string ⟨#[]⟩, .slice none 0 0] 24)) w1) := ⟨hgr.os, hgr.tape, hgr.output, hgr.size, fun k hk => hgr.block k hk (by simp)⟩
  clear hrow hgr hbase hby hml
  go_loopw [9] (fun i wr => ∃ (j : Nat) (l : List UInt8), i = .int .i64 j ∧ j ≤ N ∧ Hid (l.length = N ∧ Bown wr (w.alloc (.cells #[.bool false, .string ⟨#[]⟩, .slice none 0 0] 24)).heap.size (.slice (some ⟨w.heap.size + 1, 0, none⟩) l.length N) l ∧ Below (w.alloc (.cells #[.bool false, .string ⟨#[]⟩, .slice none 0 0] 24)).heap.size (w.alloc (.cells #[.bool false, .string ⟨#[]⟩, .slice none 0 0] 24)) wr)) (fun i _ => N - (intOf i).toNat)
  case atStart => exact ⟨0, List.replicate N 0, rfl, Nat.zero_le _, by simp, by rw [List.length_replicate]; exact HR.out, HG.out⟩
  case round =>
    obtain ⟨j, l, rfl, hj, HH⟩ := hrel
    by_cases hlt : j < N
    · have hc0 : wr.cell? ⟨w.heap.size + 1, j, none⟩ = some (.int .u8 ((l.getD j 0).toNat : Nat)) := by
        obtain ⟨q1, q2, q3⟩ := HH.out
        rw [World.ownsRow.cellAt q2 j (by omega)]
        simp [Lib.byteCells, List.getD_eq_getElem?_getD, q1, hlt]
      have hf0 : wr.frozen? ⟨w.heap.size + 1, j, none⟩ = false := World.ownsRow.frozenAt HH.out.2.1 j
      have hz : (0 : Int) ≤ (s[0].toNat : Int) * ((j : Int) + 3) % 256 ∧ (s[0].toNat : Int) * ((j : Int) + 3) % 256 < 256 := by omega
      have HZ := hid hz
      clear hz
      by_cases hr : 1 < s.size
      · have hmod : (j : Int) % ((s.size - 1 : Nat) : Int) < ((s.size - 1 : Nat) : Int) := Int.emod_lt_of_pos _ (by omega)
        have hmod2 : j % (s.size - 1) < s.size - 1 := Nat.mod_lt _ (by omega)
        have he : (s.extract 1 s.size).toList.isEmpty = false := by rw [tail_isEmpty]; exact decide_eq_false (by omega)
        go_wp2_with fail
        obtain ⟨q1, q2, q3⟩ := HH.out
        obtain ⟨l1, e1, b1⟩ := bown_put q2 j _ HZ.out.1 HZ.out.2
        obtain ⟨l2, e2, b2⟩ := bown_put b1 j (((s.extract 1 s.size)[j % (s.size - 1)]'(by simp; omega)).toNat : Int) (by omega) (by have := ((s.extract 1 s.size)[j % (s.size - 1)]'(by simp; omega)).toNat_lt; omega)
        exact ⟨⟨j + 1, l2, by go_num, by omega, by omega, b2, (q3.setCell (p := ⟨w.heap.size + 1, j, none⟩) (by simp) _).setCell (p := ⟨w.heap.size + 1, j, none⟩) (by simp) _⟩, by simp [intOf]; omega⟩
      · have he : (s.extract 1 s.size).toList.isEmpty = true := by rw [tail_isEmpty]; exact decide_eq_true (by omega)
        go_wp2_with fail
        obtain ⟨q1, q2, q3⟩ := HH.out
        obtain ⟨l1, e1, b1⟩ := bown_put q2 j _ HZ.out.1 HZ.out.2
        exact ⟨⟨j + 1, l1, by go_num, by omega, by omega, b1, q3.setCell (p := ⟨w.heap.size + 1, j, none⟩) (by simp) _⟩, by simp [intOf]; omega⟩
    · have hcv := run_bytes_string (brd_of_bown HH.out.2.1)
      rw [HH.out.1] at hcv
      obtain ⟨hcc, hff⟩ := bcell HH.out.2.2
      go_wp2_with fail
      obtain ⟨c0, c1, c2⟩ := set3 (old_block HH.out.2.2) (.bool false) (.string ⟨l.toArray⟩) (.slice none 0 0)
      obtain ⟨k1, k2, k3, k4⟩ := leaf_ok (d := d) (l := l) (s := s) (by rw [HH.out.1]; exact hN4) h1
      exact bodyPost_ret (v := .tuple #[.agg #[.bool false, .string ⟨l.toArray⟩, .slice none 0 0], .string (s.extract 1 s.size)]) (by simp [results, Try.results35, go_sem, c0, c1, c2]) rfl ⟨_, ⟨false, l, []⟩, _, rfl, k1, k2, k3, k4, ow_bytes _ _ _ _ _ _ (by simp), box_below HH.out.2.2 _ _ _⟩
end Go.Proofs.Ytbmohenjphmlgaa

/- The walk of 'item', continued: a list of items, and all of it. -/
namespace Go.Proofs.Ytbmohenjphmlgaa
open Go.RowKit
set_option maxRecDepth 100000

/-- An append of one item to a list of the call's own: for a walk. -/
theorem wpList_append_one {ops : Array Oper} {rest : List Oper} {o : Oper} {act : Act} {Q : Exit → Act → World → Prop} (hgd : o.guard = none) (s x : Operand)
    (hop : o.op = .call { callee := .builtin .append, args := #[s, x], argTypes := #[22, 22] })
    {w0 w3 : World} {f lo hi lo1 hi1 g : Nat} {u a b c : Value} {done : List Itm} {y : Itm} (hs : act.eval s = u) (hx : act.eval x = .slice (some ⟨g, 0, none⟩) 1 1) (hg : g = w3.heap.size)
    (hown : OwL w0 f lo hi u done) (hb : Below hi w0 w3) (hy : Ow w3 f lo1 hi1 (.agg #[a, b, c]) y) (h1 : hi ≤ lo1) (h2 : lo ≤ lo1) (h3 : hi1 ≤ w3.heap.size) (h4 : hi ≤ w3.heap.size) (h5 : lo ≤ w3.heap.size)
    (hone : a.oneCell' = true ∧ b.oneCell' = true ∧ c.oneCell' = true) (hn : done.length ≤ 1000000)
    (h : ∀ v' w', OwL w' f lo w'.heap.size v' (done ++ [y]) → Below lo w3 w' → wpList Try.prog ops Q rest (act.put o.dst v') w') :
    wpList Try.prog ops Q (o :: rest) act (w3.alloc (.cells #[a, b, c] 24)) := by
  subst hg
  obtain ⟨i0, hi0, hz0, hz1, hz2⟩ := info_parts infoItem
  obtain ⟨xs, ho, hgl, L, H, hL, hLH⟩ := hown
  have hbW : Below w3.heap.size w3 (w3.alloc (.cells #[a, b, c] 24)) := (Below.refl _ _).alloc (Nat.le_refl _) _
  have hfr : ∀ k, k < hi → (w3.alloc (.cells #[a, b, c] 24)).heap[k]? = w0.heap[k]? := fun k hk => by rw [hbW.block k (by omega)]; exact hb.block k hk
  refine wpList_append_mine _ hgd s x 22 hop lo 24 i0 _ 3 48 Try.underlying22 hi0 hz0 hz1 hz2 rfl (by decide) u done.length xs hs ?_ ⟨w3.heap.size, 0, none⟩ 1 1 [a, b, c] hx rfl ?_ ?_ ?_ ?_ ?_ ?_
  · exact owns_frame ho (fun g hg => hfr g (hgl g hg))
  · exact cells_three w3 a b c 24
  · intro u hu
    simp only [List.mem_cons, List.not_mem_nil, or_false] at hu
    rcases hu with rfl | rfl | rfl
    · exact hone.1
    · exact hone.2.1
    · exact hone.2.2
  · unfold maxLen; omega
  · omega
  · simp; omega
  · intro v' w' ho2 hgr hnew
    refine h v' w' ?_ ?_
    · refine ownL_push ho hgl L H hL hLH (hb.trans (hbW.mono h4)) (own_frame _ _ _ _ _ (fun k _ hk => hbW.block k (by omega)) hy) h1 h2 (by simp; omega) ho2 hgr hnew (by simp; omega)
    · exact (hbW.mono h5).grown hgr (by simp; omega) (fun k hk => (ho.lt k hk).1)

def ItemRel (d : Nat) (s : ByteArray) (w wr : World) (r : ByteArray) (m : Nat) (a : Option Addr) (cap : Nat) (done : List Itm) : Prop :=
  wr.heap[w.heap.size + 1]? = some (.cells #[.bool true, .string ⟨#[]⟩, .slice a done.length cap] 24 (0, 0)) ∧ OwL wr (d + 1) (w.heap.size + 2) wr.heap.size (.slice a done.length cap) done ∧
  Below (w.alloc (.cells #[.bool false, .string ⟨#[]⟩, .slice none 0 0] 24)).heap.size (w.alloc (.cells #[.bool false, .string ⟨#[]⟩, .slice none 0 0] 24)) wr ∧ w.heap.size + 2 ≤ wr.heap.size ∧
  done.all Itm.pure = true ∧ (∀ x ∈ done, Itm.deep x ≤ d) ∧ r.size + 1 ≤ s.size ∧ (done.flatMap Itm.enc).length ≤ 68 * (s.size - 1 - r.size) + done.length ∧ done.length + m ≤ 4

theorem item_start (d : Nat) (s : ByteArray) (w : World) (N : Nat) (h1 : 0 < s.size) (hN : N ≤ 4) :
    ItemRel d s w ((w.alloc (.cells #[.bool false, .string ⟨#[]⟩, .slice none 0 0] 24)).alloc (.cells #[.bool true, .string ⟨#[]⟩, .slice none 0 0] 24)) (s.extract 1 s.size) N none 0 [] := by
  refine ⟨?_, ownL_nil _ _ _ _ _, (Below.refl _ _).alloc (Nat.le_refl _) _, by simp, by simp, by simp, ?_, ?_, by simpa using hN⟩
  · have := heap_alloc_new (w.alloc (.cells #[.bool false, .string ⟨#[]⟩, .slice none 0 0] 24)) (.cells #[.bool true, .string ⟨#[]⟩, .slice none 0 0] 24)
    simpa using this
  · simp; omega
  · simp

theorem item_step {d : Nat} {s : ByteArray} {w wr w3 w' : World} {r r2 : ByteArray} {m : Nat} {a a9 : Option Addr} {cap c9 : Nat} {done : List Itm} {t : Itm} (HH : ItemRel d s w wr r m a cap done) (hm : 0 < m)
    (p1 : r2.size ≤ r.size) (p2 : Itm.pure t = true) (p3 : Itm.deep t ≤ d) (p4 : (Itm.enc t).length ≤ 68 * (r.size - r2.size) + 1)
    (hown : OwL w' (d + 1) (w.heap.size + 2) w'.heap.size (.slice a9 (done ++ [t]).length c9) (done ++ [t])) (hb3 : Below wr.heap.size wr w3) (hb : Below (w.heap.size + 2) w3 w')
    (hblk : w'.heap[w.heap.size + 1]? = some (.cells #[.bool true, .string ⟨#[]⟩, .slice a done.length cap] 24 (0, 0))) :
    ItemRel d s w (w'.setCell ⟨w.heap.size + 1, 2, none⟩ (.slice a9 (done.length + 1) c9)) r2 (m - 1) a9 c9 (done ++ [t]) := by
  obtain ⟨q1, q2, q3, q4, q5, q6, q7, q8, q9⟩ := HH
  have hl : (done ++ [t]).length = done.length + 1 := by simp
  have hs3 := hb3.size
  have hs4 := hb.size
  refine ⟨?_, ?_, ?_, ?_, ?_, ?_, by omega, ?_, by rw [hl]; omega⟩
  · rw [heap_setCell_same _ _ 2 _ _ _ hblk, hl]; rfl
  · have e : (w'.setCell ⟨w.heap.size + 1, 2, none⟩ (.slice a9 (done.length + 1) c9)).heap.size = w'.heap.size := by simp [World.setCell]
    rw [e]
    refine ownL_mono hown (fun g hg => ?_) (fun lo hi v x h1 h2 _ hp => own_frame _ _ _ _ _ (fun k hk _ => Below.heap_setCell _ _ _ _ (by simp; omega)) hp)
    obtain ⟨xs, ho, _⟩ := hown
    have := (ho.lt g hg).1
    exact Below.heap_setCell _ _ _ _ (by simp; omega)
  · exact ((q3.trans (hb3.mono (by simp; omega))).trans (hb.mono (by simp))).setCell (p := ⟨w.heap.size + 1, 2, none⟩) (by simp) _
  · have e : (w'.setCell ⟨w.heap.size + 1, 2, none⟩ (.slice a9 (done.length + 1) c9)).heap.size = w'.heap.size := by simp [World.setCell]
    rw [e]; omega
  · rw [List.all_append, q5]; simp [p2]
  · intro x hx
    rcases List.mem_append.1 hx with hx | hx
    · exact q6 x hx
    · simp only [List.mem_singleton] at hx; subst hx; exact p3
  · rw [List.flatMap_append, List.length_append, hl]
    simp only [List.flatMap_cons, List.flatMap_nil, List.append_nil]
    omega

theorem item_end {d : Nat} {s : ByteArray} {w wr : World} {r : ByteArray} {m : Nat} {a : Option Addr} {cap : Nat} {done : List Itm} (HH : ItemRel d s w wr r m a cap done) (hs : s.size ≤ 12) :
    r.size ≤ s.size ∧ Itm.pure ⟨true, [], done⟩ = true ∧ Itm.deep ⟨true, [], done⟩ ≤ d + 1 ∧ (Itm.enc ⟨true, [], done⟩).length ≤ 68 * (s.size - r.size) + 1 := by
  obtain ⟨q1, q2, q3, q4, q5, q6, q7, q8, q9⟩ := HH
  refine ⟨by omega, ?_, ?_, ?_⟩
  · rw [Itm.pure_eq]; simpa using q5
  · rw [Itm.deep_eq]
    simp only [if_true]
    have : Itm.top (done.map Itm.deep) ≤ d := Itm.top_le (by
      intro x hx
      simp only [List.mem_map] at hx
      obtain ⟨y, hy, rfl⟩ := hx
      exact q6 y hy)
    omega
  · rw [Itm.enc_eq]
    simp only [if_true]
    unfold Itm.headed
    rw [List.length_append]
    have := Itm.head_len 192 (done.flatMap Itm.enc).length (by omega)
    omega

set_option maxHeartbeats 1600000 in
theorem item_list (d : Nat) (ih : ∀ (s : ByteArray) (w : World), s.size ≤ 12 → Calls Try.prog 35 #[.string s, .int .i64 d] w (ItemOk d s w)) (s : ByteArray) (w : World) (hs : s.size ≤ 12) (hb : s.toList.isEmpty = false) (h1 : 0 < s.size) (h : 160 ≤ s[0].toNat) (hd : d ≤ 4) :
    Calls Try.prog 35 #[.string s, .int .i64 ((d : Int) + 1)] w (ItemOk (d + 1) s w) := by
  have h8 := s[0].toNat_lt
  have h3 : ¬ (s[0].toNat : Int) < 160 := by omega
  have hd0 : ((d : Int) + 1 == 0) = false := by simp; omega
  have IH := hid ih
  clear ih
  obtain ⟨N, HN⟩ : ∃ N : Nat, Hid ((s[0].toNat : Int) % 5 = (N : Int)) := ⟨s[0].toNat % 5, by show _ = _; omega⟩
  have hN4 : N ≤ 4 := by have := HN.out; omega
  go_enter Try.func35, Try.ntmps35
  go_wp2_with fail
  rw [HN.out]
  go_loopw [0, 11] (fun raw n wr => ∃ (r : ByteArray) (m : Nat) (a : Option Addr) (cap : Nat) (done : List Itm), raw = .string r ∧ n = .int .i64 m ∧ m ≤ 4 ∧ Hid (ItemRel d s w wr r m a cap done)) (fun _ n _ => (intOf n).toNat)
  case atStart => exact ⟨_, N, none, 0, [], rfl, rfl, hN4, item_start d s w N h1 hN4⟩
  case round =>
    obtain ⟨r, m, a, cap, done, rfl, rfl, hm, HH⟩ := hrel
    by_cases hm0 : 0 < m
    · have hm0' : (0 : Int) < (m : Int) := by omega
      obtain ⟨q1, q2, q3, q4, q5, q6, q7, q8, q9⟩ := HH.out
      have IHr := hid (fun w => IH.out r w (by omega))
      clear q1 q2 q3 q5 q6 q7 q8 q9
      go_wp2_with fail
      refine (IHr.out _).mono ?_
      rintro e w1 ⟨v, t, r2, rfl, p1, p2, p3, p4, p5, p6⟩
      obtain ⟨a2, cap2, rfl⟩ := ow_shape p5
      have HP := hid (And.intro p1 (And.intro p2 (And.intro p3 (And.intro p4 (And.intro p5 p6)))))
      obtain ⟨hcc, hff⟩ := bcell p6
      have hsz : wr.heap.size < w1.heap.size := by have := p6.size; simp at this; omega
      have hx2 : wr.cell? ⟨w.heap.size + 1, 2, none⟩ = some (.slice a done.length cap) := by
        rw [cell_of_row _ _ 2 _ _ _ HH.out.1]; rfl
      have hlt1 : w.heap.size + 1 < wr.heap.size := by omega
      have hlt2 : w.heap.size + 1 < wr.heap.size + 1 := by omega
      have hne1 : ¬ (w.heap.size + 1 = wr.heap.size) := by omega
      have hne2 : ¬ (wr.heap.size = w.heap.size + 1) := by omega
      clear p1 p2 p3 p4 p5 p6
      have HW : Hid (w1.heap.size = (((w1.setCell ⟨wr.heap.size, 0, none⟩ (.bool t.list)).setCell ⟨wr.heap.size, 1, none⟩ (.string ⟨t.bytes.toArray⟩)).setCell ⟨wr.heap.size, 2, none⟩ (.slice a2 t.items.length cap2)).heap.size) := (box_size _ _ _ _ _).symm
      have HB3 : Hid (Below wr.heap.size wr (((w1.setCell ⟨wr.heap.size, 0, none⟩ (.bool t.list)).setCell ⟨wr.heap.size, 1, none⟩ (.string ⟨t.bytes.toArray⟩)).setCell ⟨wr.heap.size, 2, none⟩ (.slice a2 t.items.length cap2))) := box_below HP.out.2.2.2.2.2 _ _ _
      have HY : Hid (Ow (((w1.setCell ⟨wr.heap.size, 0, none⟩ (.bool t.list)).setCell ⟨wr.heap.size, 1, none⟩ (.string ⟨t.bytes.toArray⟩)).setCell ⟨wr.heap.size, 2, none⟩ (.slice a2 t.items.length cap2)) (d + 1) (wr.heap.size + 1) w1.heap.size (.agg #[.bool t.list, .string ⟨t.bytes.toArray⟩, .slice a2 t.items.length cap2]) t) := by
        have := HP.out.2.2.2.2.1
        exact ow_box _ _ _ (by simpa using this)
      have HO1 : Hid (OwL wr (d + 1) (w.heap.size + 2) wr.heap.size (.slice a done.length cap) done) := HH.out.2.1
      have hdl : done.length ≤ 1000000 := by have := HH.out.2.2.2.2.2.2.2.2; omega
      have H4 : Hid (wr.heap.size ≤ (((w1.setCell ⟨wr.heap.size, 0, none⟩ (.bool t.list)).setCell ⟨wr.heap.size, 1, none⟩ (.string ⟨t.bytes.toArray⟩)).setCell ⟨wr.heap.size, 2, none⟩ (.slice a2 t.items.length cap2)).heap.size) := by rw [Hid, ← HW.out]; omega
      have H5 : Hid (w.heap.size + 2 ≤ (((w1.setCell ⟨wr.heap.size, 0, none⟩ (.bool t.list)).setCell ⟨wr.heap.size, 1, none⟩ (.string ⟨t.bytes.toArray⟩)).setCell ⟨wr.heap.size, 2, none⟩ (.slice a2 t.items.length cap2)).heap.size) := by rw [Hid, ← HW.out]; omega
      have H3 : Hid (w1.heap.size ≤ (((w1.setCell ⟨wr.heap.size, 0, none⟩ (.bool t.list)).setCell ⟨wr.heap.size, 1, none⟩ (.string ⟨t.bytes.toArray⟩)).setCell ⟨wr.heap.size, 2, none⟩ (.slice a2 t.items.length cap2)).heap.size) := by rw [Hid, ← HW.out]; omega
      have hh2 : w.heap.size + 2 ≤ wr.heap.size + 1 := by omega
      have HX9 : Hid (∀ w', Below (w.heap.size + 2) (((w1.setCell ⟨wr.heap.size, 0, none⟩ (.bool t.list)).setCell ⟨wr.heap.size, 1, none⟩ (.string ⟨t.bytes.toArray⟩)).setCell ⟨wr.heap.size, 2, none⟩ (.slice a2 t.items.length cap2)) w' → w'.heap[w.heap.size + 1]? = some (.cells #[.bool true, .string ⟨#[]⟩, .slice a done.length cap] 24 (0, 0))) := by
        intro w' hb'
        rw [hb'.block _ (by omega), HB3.out.block _ (by omega)]
        exact HH.out.1
      go_wp2_with (at_builtin; refine wpList_append_one rfl (.tmp 83) (.tmp 85) rfl rfl rfl HW.out HO1.out HB3.out HY.out (Nat.le_succ _) hh2 H3.out H4.out H5.out ⟨rfl, rfl, rfl⟩ hdl ?_; intro v' w' hown2 hbel2; obtain ⟨a9, c9, rfl⟩ := ownL_len hown2; have hx9 := cell_of_row _ _ 2 _ _ _ (HX9.out w' hbel2); have hf9 := frozen_of_row _ _ 2 _ _ (HX9.out w' hbel2))
      obtain ⟨p1, p2, p3, p4, p5, p6⟩ := HP.out
      refine ⟨⟨r2, m - 1, a9, c9, done ++ [t], rfl, congrArg (Value.int .i64) (by omega), by omega, item_step HH.out hm0 p1 p2 p3 p4 hown2 HB3.out hbel2 (HX9.out _ hbel2)⟩, by simp [intOf]; omega⟩
    · have hm0' : ¬ (0 : Int) < (m : Int) := by omega
      have HQ : Hid (Below (w.alloc (.cells #[.bool false, .string ⟨#[]⟩, .slice none 0 0] 24)).heap.size (w.alloc (.cells #[.bool false, .string ⟨#[]⟩, .slice none 0 0] 24)) wr) := HH.out.2.2.1
      have hx0 := cell_of_row _ _ 0 _ _ _ HH.out.1
      have hx1 := cell_of_row _ _ 1 _ _ _ HH.out.1
      have hx2 := cell_of_row _ _ 2 _ _ _ HH.out.1
      obtain ⟨hcc, hff⟩ := bcell HQ.out
      go_wp2_with fail
      obtain ⟨c0, c1, c2⟩ := set3 (old_block HQ.out) (.bool true) (.string ⟨#[]⟩) (.slice a done.length cap)
      obtain ⟨k1, k2, k3, k4⟩ := item_end HH.out hs
      refine bodyPost_ret (v := .tuple #[.agg #[.bool true, .string ⟨#[]⟩, .slice a done.length cap], .string r]) (by simp [results, Try.results35, go_sem, c0, c1, c2]) rfl ⟨_, ⟨true, [], done⟩, r, rfl, k1, k2, k3, k4, ?_, box_below HQ.out _ _ _⟩
      rw [box_size]
      exact own_widen (lo := w.heap.size + 1) (ow_box _ _ _ (own_widen (ow_list HH.out.2.1) (Nat.le_succ _) (Nat.le_refl _))) (Nat.le_succ _) (Nat.le_refl _)

theorem item_any (d : Nat) : ∀ (s : ByteArray) (w : World), d ≤ 4 → s.size ≤ 12 → Calls Try.prog 35 #[.string s, .int .i64 d] w (ItemOk d s w) := by
  induction d with
  | zero =>
    intro s w _ hs
    by_cases hb : s.toList.isEmpty = true
    · exact item_none 0 s w hb
    · have hb' : s.toList.isEmpty = false := by simpa using hb
      have h1 : 0 < s.size := by
        rcases Nat.eq_zero_or_pos s.size with hz | hz
        · rw [toList_isEmpty, ba_empty s hz] at hb'; simp at hb'
        · exact hz
      by_cases h2 : s[0].toNat ≤ 150
      · exact item_leafA 0 s w hs hb' h1 rfl h2
      · exact item_leafB 0 s w hs hb' h1 rfl (by omega)
  | succ d ih =>
    intro s w hd hs
    by_cases hb : s.toList.isEmpty = true
    · exact item_none (d + 1) s w hb
    · have hb' : s.toList.isEmpty = false := by simpa using hb
      have h1 : 0 < s.size := by
        rcases Nat.eq_zero_or_pos s.size with hz | hz
        · rw [toList_isEmpty, ba_empty s hz] at hb'; simp at hb'
        · exact hz
      have h0 : (((d + 1 : Nat) : Int) == 0) = false := by simp; omega
      by_cases h2 : s[0].toNat ≤ 150
      · exact item_leafC (d + 1) s w hs hb' h1 h0 h2
      · by_cases h3 : s[0].toNat < 160
        · exact item_leafD (d + 1) s w hs hb' h1 h0 (by omega) h3
        · rw [show (((d + 1 : Nat) : Int)) = (d : Int) + 1 by omega]
          exact item_list d (fun s w hs => ih s w (by omega) hs) s w hs hb' h1 (by omega) (by omega)
end Go.Proofs.Ytbmohenjphmlgaa

/- Plain mathematics of items and their bytes. Nothing of the program is in here. -/
namespace Go.Proofs.Ytbmohenjphmlgaa
open Go.RowKit
set_option maxRecDepth 100000

namespace Itm
theorem cnt_le_enc (t : Itm) : pure t = true → cnt t ≤ (enc t).length := by
  refine ind (p := fun t => pure t = true → cnt t ≤ (enc t).length) ?_ t
  intro t ih hp
  rw [pure_eq] at hp
  simp only [Bool.and_eq_true] at hp
  obtain ⟨hp1, hp2⟩ := hp
  rw [cnt_eq, enc_eq]
  by_cases hl : t.list
  · rw [if_pos hl]
    have h1 := headed_len 192 (t.items.flatMap enc)
    have h2 : ∀ l : List Itm, (∀ x ∈ l, cnt x ≤ (enc x).length) → (l.map cnt).sum ≤ (l.flatMap enc).length := by
      intro l
      induction l with
      | nil => intro _; simp
      | cons x l ihl =>
        intro hx
        have a1 := hx x (by simp)
        have a2 := ihl (fun y hy => hx y (by simp [hy]))
        simp only [List.map_cons, List.sum_cons, List.flatMap_cons, List.length_append]
        omega
    have h3 := h2 t.items (fun x hx => ih x hx (by simp only [List.all_eq_true] at hp2; exact hp2 x hx))
    omega
  · rw [if_neg hl] at hp1 ⊢
    have h0 : t.items = [] := by simpa using hp1
    have hne := enc_ne t
    rw [enc_eq, if_neg hl] at hne
    have := List.length_pos_iff.2 hne
    rw [h0]; simp; omega

/-- Bytes begin with one item's bytes alone. -/
theorem enc_prefix {t t' : Itm} {r r' : List UInt8} (h1 : pure t = true) (h2 : pure t' = true) (l1 : (enc t).length < 256 ^ 8) (l2 : (enc t').length < 256 ^ 8) (h : enc t ++ r = enc t' ++ r') : t = t' ∧ r = r' := by
  have e1 := parse_complete ((enc t).length + (enc t').length) t r h1 (by omega) l1
  have e2 := parse_complete ((enc t).length + (enc t').length) t' r' h2 (by omega) l2
  rw [h, e2] at e1
  simp only [Option.some.injEq, Prod.mk.injEq] at e1
  exact ⟨e1.1.symm, e1.2.symm⟩

theorem dec_enc {t : Itm} (h1 : pure t = true) (h2 : deep t ≤ 8) (h3 : (enc t).length ≤ 1000) : dec (enc t) = .ok t := by
  unfold dec
  rw [if_neg (by omega)]
  have := parse_complete (enc t).length t [] h1 (Nat.le_refl _) (by omega)
  rw [List.append_nil] at this
  rw [this]
  simp; omega

theorem dec_ok {l : List UInt8} {t : Itm} (h : dec l = .ok t) : l = enc t ∧ pure t = true ∧ deep t ≤ 8 ∧ l.length ≤ 1000 := by
  unfold dec at h
  by_cases h1 : 1000 < l.length
  · rw [if_pos h1] at h; cases h
  · rw [if_neg h1] at h
    cases hp : parse l.length l with
    | none => rw [hp] at h; cases h
    | some tr =>
      obtain ⟨t', rest⟩ := tr
      rw [hp] at h
      simp only at h
      by_cases hr : rest.isEmpty
      · rw [if_pos hr] at h
        by_cases h8 : 8 < deep t'
        · rw [if_pos h8] at h; cases h
        · rw [if_neg h8] at h
          cases h
          obtain ⟨e, p⟩ := parse_sound _ _ _ _ hp
          simp at hr
          subst hr
          exact ⟨by simpa using e, p, by omega, by omega⟩
      · rw [if_neg hr] at h; cases h

theorem dec_err {l : List UInt8} {n : Nat} (h : dec l = .error n) : n = 1 ∨ n = 2 := by
  unfold dec at h
  by_cases h1 : 1000 < l.length
  · rw [if_pos h1] at h; cases h; omega
  · rw [if_neg h1] at h
    cases hp : parse l.length l with
    | none => rw [hp] at h; cases h; omega
    | some tr =>
      obtain ⟨t', rest⟩ := tr
      rw [hp] at h
      simp only at h
      by_cases hr : rest.isEmpty
      · rw [if_pos hr] at h
        by_cases h8 : 8 < deep t'
        · rw [if_pos h8] at h; cases h; omega
        · rw [if_neg h8] at h; cases h
      · rw [if_neg hr] at h; cases h; omega

theorem dec_more {t : Itm} (h1 : pure t = true) (h3 : (enc t).length ≤ 1000) (c : UInt8) : ∃ n, dec (enc t ++ [c]) = .error n := by
  cases h : dec (enc t ++ [c]) with
  | error n => exact ⟨n, rfl⟩
  | ok t' =>
    exfalso
    obtain ⟨e, p, _, hl⟩ := dec_ok h
    have := (enc_prefix (r := [c]) (r' := []) h1 p (by omega) (by rw [← e]; omega) (by rw [e]; simp)).2
    simp at this

theorem dec_less {t : Itm} (h1 : pure t = true) (h3 : (enc t).length ≤ 1000) : dec ((enc t).take ((enc t).length - 1)) = .error 1 := by
  have hne := enc_ne t
  have hpos := List.length_pos_iff.2 hne
  unfold dec
  rw [if_neg (by simp; omega)]
  cases hp : parse ((enc t).take ((enc t).length - 1)).length ((enc t).take ((enc t).length - 1)) with
  | none => rfl
  | some tr =>
    obtain ⟨t', rest⟩ := tr
    simp only
    by_cases hr : rest.isEmpty
    · exfalso
      obtain ⟨e, p⟩ := parse_sound _ _ _ _ hp
      simp at hr
      subst hr
      rw [List.append_nil] at e
      have hl : (enc t').length = (enc t).length - 1 := by rw [← e]; simp
      have := (enc_prefix (t := t) (t' := t') (r := []) (r' := (enc t).drop ((enc t).length - 1)) h1 p (by omega) (by omega) (by rw [← e]; simp)).2
      have h2 : ((enc t).drop ((enc t).length - 1)).length = 1 := by simp; omega
      rw [← this] at h2
      simp at h2
    · rw [if_neg hr]
end Itm
end Go.Proofs.Ytbmohenjphmlgaa
