/- Part 10 of a proof: what the last text needs. -/
import Derived.Test.YtbmohenjphmlgaaPart5
import Derived.Test.YtbmohenjphmlgaaPart7
/- The walks of Decode: the item whose bytes these are, in lists of its own, or the error. -/
namespace Go.Proofs.Ytbmohenjphmlgaa
open Go.RowKit
set_option maxRecDepth 100000

namespace Itm
theorem deep_le_enc (t : Itm) : deep t ≤ (enc t).length := by
  refine ind (p := fun t => deep t ≤ (enc t).length) ?_ t
  intro t ih
  rw [deep_eq, enc_eq]
  by_cases h : t.list
  · rw [if_pos h, if_pos h]
    have h1 := headed_len 192 (t.items.flatMap enc)
    have h2 : top (t.items.map deep) ≤ (t.items.flatMap enc).length := by
      refine top_le fun x hx => ?_
      simp only [List.mem_map] at hx
      obtain ⟨y, hy, rfl⟩ := hx
      exact Nat.le_trans (ih y hy) (mem_enc_len hy)
    omega
  · rw [if_neg h]; exact Nat.zero_le _

/-- What Decode answers: an error's number, or the item. -/
def dec (l : List UInt8) : Except Nat Itm :=
  if 1000 < l.length then .error 2 else
  match parse l.length l with
  | none => .error 1
  | some (t, rest) => if rest.isEmpty then (if 8 < deep t then .error 2 else .ok t) else .error 1
end Itm

theorem ow_shape {w : World} {n lo hi : Nat} {v : Value} {t : Itm} (h : Ow w n lo hi v t) : ∃ a cap, v = .agg #[.bool t.list, .string ⟨t.bytes.toArray⟩, .slice a t.items.length cap] := by
  cases n with
  | zero => exact h.elim
  | succ n =>
    obtain ⟨sl, rfl, hl⟩ := h
    obtain ⟨a, cap, rfl⟩ := ownL_len hl
    exact ⟨a, cap, rfl⟩

def DecodeOk (s : ByteArray) (w : World) (e : Ending) (w' : World) : Prop :=
  (∀ n, Itm.dec s.data.toList = .error n → e = .returned (.tuple #[.agg #[.bool false, .string ⟨#[]⟩, .slice none 0 0], .int .i64 n])) ∧
  (∀ t, Itm.dec s.data.toList = .ok t → ∃ v, e = .returned (.tuple #[v, .int .i64 0]) ∧ Ow w' s.size w.heap.size w'.heap.size v t) ∧ Below w.heap.size w w'

theorem decodeOk_err {s : ByteArray} {w w' : World} {n : Nat} (h : Itm.dec s.data.toList = .error n) (hb : Below w.heap.size w w') : DecodeOk s w (.returned (.tuple #[.agg #[.bool false, .string ⟨#[]⟩, .slice none 0 0], .int .i64 n])) w' := by
  refine ⟨fun m hm => ?_, fun t ht => ?_, hb⟩
  · rw [h] at hm; cases hm; rfl
  · rw [h] at ht; cases ht

section
variable (s : ByteArray) (w : World)

set_option maxHeartbeats 400000 in
theorem itemsDecode_big (h : 1000 < s.size) : Calls Try.prog 45 #[.string s] w (DecodeOk s w) := by
  have hd : Itm.dec s.data.toList = .error 2 := by unfold Itm.dec; rw [if_pos (by rw [ba_len]; exact h)]
  have HD := hid hd
  clear hd
  go_enter Try.func45, Try.ntmps45
  go_wp2_with fail
  exact bodyPost_ret (v := .tuple #[.agg #[.bool false, .string ⟨#[]⟩, .slice none 0 0], .int .i64 2]) (by simp [results, Try.results45, go_sem]) rfl (decodeOk_err HD.out ((Below.refl _ _).alloc (Nat.le_refl _) _))

set_option maxHeartbeats 400000 in
theorem itemsDecode_none (h : s.size ≤ 1000) (hp : Itm.parse s.size s.data.toList = none) : Calls Try.prog 45 #[.string s] w (DecodeOk s w) := by
  have hd : Itm.dec s.data.toList = .error 1 := by unfold Itm.dec; rw [if_neg (by rw [ba_len]; omega), ba_len, hp]
  have HD := hid hd
  have HC := hid (fun w => (first_ok s.size).no s w (Nat.le_refl _) (by omega) hp)
  clear hd hp
  go_enter Try.func45, Try.ntmps45
  go_wp2_with fail
  refine (HC.out _).mono ?_
  rintro e w1 ⟨⟨b, r, rfl⟩, hbel⟩
  obtain ⟨hcc, hff⟩ := bcell hbel
  have hsz : w.heap.size < w1.heap.size := by have := hbel.size; simp at this; omega
  go_wp2_with fail
  obtain ⟨c0, c1, c2⟩ := set3 (old_block hbel) (.bool false) (.string ⟨#[]⟩) (.slice none 0 0)
  refine bodyPost_ret (v := .tuple #[.agg #[.bool false, .string ⟨#[]⟩, .slice none 0 0], .int .i64 1]) (by simp [results, Try.results45, go_sem, c0, c1, c2, hsz]) rfl (decodeOk_err HD.out ?_)
  exact (box_below hbel _ _ _).alloc (by rw [box_size]; omega) _

set_option maxHeartbeats 400000 in
theorem itemsDecode_rest (h : s.size ≤ 1000) (t : Itm) (rest : List UInt8) (hp : Itm.parse s.size s.data.toList = some (t, rest)) (hr : rest ≠ []) : Calls Try.prog 45 #[.string s] w (DecodeOk s w) := by
  have hd : Itm.dec s.data.toList = .error 1 := by unfold Itm.dec; rw [if_neg (by rw [ba_len]; omega), ba_len, hp]; simp [hr]
  have hb : rest.isEmpty = false := by simpa using hr
  have HD := hid hd
  have HC := hid (fun w => (first_ok s.size).yes s w t rest (Nat.le_refl _) (by omega) hp)
  clear hd hp hr
  go_enter Try.func45, Try.ntmps45
  go_wp2_with fail
  refine (HC.out _).mono ?_
  rintro e w1 ⟨v, rfl, hown, hbel⟩
  obtain ⟨a2, cap2, rfl⟩ := ow_shape hown
  clear hown
  obtain ⟨hcc, hff⟩ := bcell hbel
  have hsz : w.heap.size < w1.heap.size := by have := hbel.size; simp at this; omega
  go_wp2_with fail
  obtain ⟨c0, c1, c2⟩ := set3 (old_block hbel) (.bool false) (.string ⟨#[]⟩) (.slice none 0 0)
  refine bodyPost_ret (v := .tuple #[.agg #[.bool false, .string ⟨#[]⟩, .slice none 0 0], .int .i64 1]) (by simp [results, Try.results45, go_sem, c0, c1, c2, hsz]) rfl (decodeOk_err HD.out ?_)
  exact (box_below hbel _ _ _).alloc (by rw [box_size]; omega) _

set_option maxHeartbeats 400000 in
theorem itemsDecode_deep (h : s.size ≤ 1000) (t : Itm) (hp : Itm.parse s.size s.data.toList = some (t, [])) (hd8 : 8 < Itm.deep t) : Calls Try.prog 45 #[.string s] w (DecodeOk s w) := by
  have hd : Itm.dec s.data.toList = .error 2 := by unfold Itm.dec; rw [if_neg (by rw [ba_len]; omega), ba_len, hp]; simp [hd8]
  have hdl : Itm.deep t ≤ 1000000000 := by
    have h1 := Itm.deep_le_enc t
    have h2 := (Itm.parse_sound _ _ _ _ hp).1
    have h3 : s.size = (Itm.enc t).length := by rw [← ba_len, h2]; simp
    omega
  have HD := hid hd
  have HC := hid (fun w => (first_ok s.size).yes s w t [] (Nat.le_refl _) (by omega) hp)
  clear hd hp
  go_enter Try.func45, Try.ntmps45
  go_wp2_with fail
  refine (HC.out _).mono ?_
  rintro e w1 ⟨v, rfl, hown, hbel⟩
  have hrep := rep_of_own _ _ _ _ _ (Nat.le_refl _) hown
  obtain ⟨a2, cap2, rfl⟩ := ow_shape hown
  have HR := hid hrep
  clear hown hrep
  obtain ⟨hcc, hff⟩ := bcell hbel
  have hsz : w.heap.size < w1.heap.size := by have := hbel.size; simp at this; omega
  go_wp2_with fail
  refine (depth_any _ _ t _ (rep_in HR.out ((Below.refl _ _).alloc (Nat.le_refl _) _)) hdl).mono ?_
  rintro e w2 ⟨rfl, hbel2⟩
  obtain ⟨hcc2, hff2⟩ := bcell hbel2
  have hsz1 : w.heap.size < w1.heap.size + 1 := by omega
  go_wp2_with fail
  have hb3 : Below (w.alloc (.cells #[.bool false, .string ⟨#[]⟩, .slice none 0 0] 24)).heap.size (w.alloc (.cells #[.bool false, .string ⟨#[]⟩, .slice none 0 0] 24)) w2 :=
    (hbel.alloc hbel.size _).trans (hbel2.mono (by have := hbel.size; simp at this ⊢; omega))
  obtain ⟨c0, c1, c2⟩ := set3 (old_block hb3) (.bool false) (.string ⟨#[]⟩) (.slice none 0 0)
  exact bodyPost_ret (v := .tuple #[.agg #[.bool false, .string ⟨#[]⟩, .slice none 0 0], .int .i64 2]) (by simp [results, Try.results45, go_sem, c0, c1, c2]) rfl (decodeOk_err HD.out (box_below hb3 _ _ _))

set_option maxHeartbeats 400000 in
theorem itemsDecode_yes (h : s.size ≤ 1000) (t : Itm) (hp : Itm.parse s.size s.data.toList = some (t, [])) (hd8 : Itm.deep t ≤ 8) : Calls Try.prog 45 #[.string s] w (DecodeOk s w) := by
  have hd : Itm.dec s.data.toList = .ok t := by
    unfold Itm.dec; rw [if_neg (by rw [ba_len]; omega), ba_len, hp]; simp; omega
  have HD := hid hd
  have HC := hid (fun w => (first_ok s.size).yes s w t [] (Nat.le_refl _) (by omega) hp)
  clear hd hp
  go_enter Try.func45, Try.ntmps45
  go_wp2_with fail
  refine (HC.out _).mono ?_
  rintro e w1 ⟨v, rfl, hown, hbel⟩
  have hrep := rep_of_own _ _ _ _ _ (Nat.le_refl _) hown
  obtain ⟨a2, cap2, rfl⟩ := ow_shape hown
  have HR := hid hrep
  have HO := hid hown
  clear hown hrep
  obtain ⟨hcc, hff⟩ := bcell hbel
  have hsz : w.heap.size < w1.heap.size := by have := hbel.size; simp at this; omega
  go_wp2_with fail
  refine (depth_any _ _ t _ (rep_in HR.out ((Below.refl _ _).alloc (Nat.le_refl _) _)) (by omega)).mono ?_
  rintro e w2 ⟨rfl, hbel2⟩
  obtain ⟨hcc2, hff2⟩ := bcell hbel2
  have hsz1 : w.heap.size < w1.heap.size + 1 := by omega
  go_wp2_with fail
  have hb3 : Below (w.alloc (.cells #[.bool false, .string ⟨#[]⟩, .slice none 0 0] 24)).heap.size (w.alloc (.cells #[.bool false, .string ⟨#[]⟩, .slice none 0 0] 24)) w2 :=
    (hbel.alloc hbel.size _).trans (hbel2.mono (by have := hbel.size; simp at this ⊢; omega))
  obtain ⟨c0, c1, c2⟩ := set3 (old_block hb3) (.bool t.list) (.string ⟨t.bytes.toArray⟩) (.slice a2 t.items.length cap2)
  refine bodyPost_ret (v := .tuple #[.agg #[.bool t.list, .string ⟨t.bytes.toArray⟩, .slice a2 t.items.length cap2], .int .i64 0]) (by simp [results, Try.results45, go_sem, c0, c1, c2]) rfl ⟨fun n hn => ?_, fun t' ht' => ?_, box_below hb3 _ _ _⟩
  · rw [HD.out] at hn; cases hn
  · rw [HD.out] at ht'
    cases ht'
    refine ⟨_, rfl, ?_⟩
    rw [box_size]
    refine own_widen (lo := w.heap.size + 1) (hi := w1.heap.size) (ow_box _ _ _ ?_) (Nat.le_succ _) (by have := hbel2.size; simp at this; omega)
    refine own_frame _ _ _ _ _ ?_ (by have := HO.out; unfold Ow at this; simpa using this)
    intro k _ hk
    rw [hbel2.block k (by simp; omega)]
    exact Below.heap_alloc _ _ _ hk

theorem itemsDecode_any : Calls Try.prog 45 #[.string s] w (DecodeOk s w) := by
  by_cases h : 1000 < s.size
  · exact itemsDecode_big s w h
  · cases hp : Itm.parse s.size s.data.toList with
    | none => exact itemsDecode_none s w (by omega) hp
    | some tr =>
      obtain ⟨t, rest⟩ := tr
      by_cases hr : rest = []
      · subst hr
        by_cases h8 : 8 < Itm.deep t
        · exact itemsDecode_deep s w (by omega) t hp h8
        · exact itemsDecode_yes s w (by omega) t hp (by omega)
      · exact itemsDecode_rest s w (by omega) t rest hp hr

set_option maxHeartbeats 400000 in
theorem decode_any : Calls Try.prog 17 #[.string s] w (DecodeOk s w) := by
  have HC := hid (fun w => itemsDecode_any s w)
  go_enter Try.func17, Try.ntmps17
  go_wp2_with fail
  refine (HC.out _).mono ?_
  rintro e w1 ⟨h1, h2, hbel⟩
  have H1 := hid h1
  have H2 := hid h2
  clear h1 h2
  cases hd : Itm.dec s.data.toList with
  | error n =>
    obtain rfl := H1.out n hd
    have HD := hid hd
    clear hd
    obtain ⟨hcc, hff⟩ := bcell hbel
    go_wp2_with fail
    obtain ⟨c0, c1, c2⟩ := set3 (old_block hbel) (.bool false) (.string ⟨#[]⟩) (.slice none 0 0)
    exact bodyPost_ret (v := .tuple #[.agg #[.bool false, .string ⟨#[]⟩, .slice none 0 0], .int .i64 n]) (by simp [results, Try.results17, go_sem, c0, c1, c2]) rfl (decodeOk_err HD.out (box_below hbel _ _ _))
  | ok t =>
    obtain ⟨v, rfl, hown⟩ := H2.out t hd
    have HD := hid hd
    have HO := hid hown
    obtain ⟨a2, cap2, rfl⟩ := ow_shape hown
    clear hd hown
    obtain ⟨hcc, hff⟩ := bcell hbel
    go_wp2_with fail
    obtain ⟨c0, c1, c2⟩ := set3 (old_block hbel) (.bool t.list) (.string ⟨t.bytes.toArray⟩) (.slice a2 t.items.length cap2)
    refine bodyPost_ret (v := .tuple #[.agg #[.bool t.list, .string ⟨t.bytes.toArray⟩, .slice a2 t.items.length cap2], .int .i64 0]) (by simp [results, Try.results17, go_sem, c0, c1, c2]) rfl ⟨fun n hn => ?_, fun t' ht' => ?_, box_below hbel _ _ _⟩
    · rw [HD.out] at hn; cases hn
    · rw [HD.out] at ht'
      cases ht'
      refine ⟨_, rfl, ?_⟩
      rw [box_size]
      refine own_widen (lo := w.heap.size + 1) (ow_box _ _ _ ?_) (Nat.le_succ _) (Nat.le_refl _)
      have := HO.out
      simpa using this
end
end Go.Proofs.Ytbmohenjphmlgaa

/- The walks of 'item' (of the statements' own): some item that has but the fields that its kind uses, of few levels and few bytes, in lists of its own. -/
namespace Go.Proofs.Ytbmohenjphmlgaa
open Go.RowKit
set_option maxRecDepth 100000

/-- What 'item' answers. -/
def ItemOk (d : Nat) (s : ByteArray) (w : World) (e : Ending) (w' : World) : Prop :=
  ∃ v t r, e = .returned (.tuple #[v, .string r]) ∧ r.size ≤ s.size ∧ Itm.pure t = true ∧ Itm.deep t ≤ d ∧ (Itm.enc t).length ≤ 68 * (s.size - r.size) + 1 ∧ Ow w' (d + 1) w.heap.size w'.heap.size v t ∧ Below w.heap.size w w'

/-- A byte is stored. -/
theorem bown_put {w : World} {base g cap : Nat} {l : List UInt8} (h : Bown w base (.slice (some ⟨g, 0, none⟩) l.length cap) l) (j : Nat) (z : Int) (h0 : 0 ≤ z) (h1 : z < 256) :
    ∃ l' : List UInt8, l'.length = l.length ∧ Bown (w.setCell ⟨g, j, none⟩ (.int .u8 z)) base (.slice (some ⟨g, 0, none⟩) l'.length cap) l' := by
  have h2 := (World.ownsRow.stored h j (.int .u8 z)).1
  have hz : (((UInt8.ofNat z.toNat).toNat : Nat) : Int) = z := by simp; omega
  refine ⟨l.set j (UInt8.ofNat z.toNat), by simp, ?_⟩
  unfold Bown
  rw [List.length_set]
  have e : Lib.byteCells (l.set j (UInt8.ofNat z.toNat)) = (Lib.byteCells l).set j (.int .u8 z) := by
    unfold Lib.byteCells
    rw [List.map_set, hz]
  rw [e]
  exact h2

theorem tail_isEmpty (s : ByteArray) : (s.extract 1 s.size).toList.isEmpty = decide (s.size ≤ 1) := by
  rw [toList_isEmpty, Lib.extract_to_end, Bool.eq_iff_iff]
  simp only [List.isEmpty_iff, List.drop_eq_nil_iff, decide_eq_true_eq]
  rw [ba_len]

theorem encB_len (l : List UInt8) (h : l.length ≤ 58) : (Itm.encB l).length ≤ 67 := by
  unfold Itm.encB
  split
  · omega
  · unfold Itm.headed
    have := Itm.head_len 128 l.length (by omega)
    rw [List.length_append]; omega

theorem leaf_ok {d : Nat} {l : List UInt8} {s : ByteArray} (h : l.length ≤ 58) (h1 : 0 < s.size) : (s.extract 1 s.size).size ≤ s.size ∧ Itm.pure ⟨false, l, []⟩ = true ∧ Itm.deep ⟨false, l, []⟩ ≤ d ∧ (Itm.enc ⟨false, l, []⟩).length ≤ 68 * (s.size - (s.extract 1 s.size).size) + 1 := by
  refine ⟨by simp, by rw [Itm.pure_eq]; simp, by rw [Itm.deep_eq]; simp, ?_⟩
  rw [Itm.enc_eq]
  have := encB_len l h
  simp only [Bool.false_eq_true, if_false]
  have e : (s.extract 1 s.size).size = s.size - 1 := by simp
  rw [e]; omega

set_option maxHeartbeats 800000 in
theorem item_none (d : Nat) (s : ByteArray) (w : World) (hb : s.toList.isEmpty = true) : Calls Try.prog 35 #[.string s, .int .i64 d] w (ItemOk d s w) := by
  go_enter Try.func35, Try.ntmps35
  go_wp2_with fail
  refine bodyPost_ret (v := .tuple #[.agg #[.bool false, .string ⟨#[]⟩, .slice none 0 0], .string s]) (by simp [results, Try.results35, go_sem]) rfl ⟨_, ⟨false, [], []⟩, s, rfl, Nat.le_refl _, ?_, ?_, ?_, ow_bytes _ _ _ _ ⟨#[]⟩ [] rfl, (Below.refl _ _).alloc (Nat.le_refl _) _⟩
  · rw [Itm.pure_eq]; simp
  · rw [Itm.deep_eq]; simp
  · rw [Itm.enc_eq]; simp [Itm.encB, Itm.stands, Itm.headed, Itm.head]

set_option maxHeartbeats 1600000 in
theorem item_leafA (d : Nat) (s : ByteArray) (w : World) (hs : s.size ≤ 12) (hb : s.toList.isEmpty = false) (h1 : 0 < s.size) (h : ((d : Int) == 0) = true) (h2 : s[0].toNat ≤ 150) :
    Calls Try.prog 35 #[.string s, .int .i64 d] w (ItemOk d s w) := by
  obtain ⟨i0, hi, hz0, hz1, hz2⟩ := info_parts infoByte
  have h8 := s[0].toNat_lt
  have h3 : ¬ (150 : Int) < (s[0].toNat : Int) := by omega
  obtain ⟨N, HN⟩ : ∃ N : Nat, Hid ((s[0].toNat : Int) % 5 = (N : Int)) := ⟨s[0].toNat % 5, by show _ = _; omega⟩
  have hN4 : N ≤ 58 := by have := HN.out; omega
  have hbase : (w.alloc (.cells #[.bool false, .string ⟨#[]⟩, .slice none 0 0] 24)).heap.size ≤ (w.alloc (.cells #[.bool false, .string ⟨#[]⟩, .slice none 0 0] 24)).heap.size := Nat.le_refl _
  have hby : i0.bytes * N ≤ 281474976710656 := by rw [hz2]; omega
  have hml : N ≤ maxLen := by unfold maxLen; omega
  go_enter Try.func35, Try.ntmps35
  go_wp2_with (at_make; refine wpList_make_full _ rfl (.tmp 36) (.tmp 36) 76 rfl _ 5 i0 _ 1 Try.underlying76 hi hz0 hz1 .i64 .i64 _ _ N rfl rfl HN.out HN.out hby hml hbase ?_; intro w1 hrow hgr)
  rw [HN.out]
  have HR : Hid (Bown w1 (w.alloc (.cells #[.bool false, .string ⟨#[]⟩, .slice none 0 0] 24)).heap.size (.slice (some ⟨w.heap.size + 1, 0, none⟩) N N) (List.replicate N 0)) := by
    unfold Bown Hid
    rw [List.length_replicate]
    have : Lib.byteCells (List.replicate N 0) = (madeCells (Value.int .u8 0).cells (N * 1)).toList := by
      rw [Nat.mul_one, show (Value.int .u8 0).cells = #[Value.int .u8 0] from rfl, toList_madeCells_one]
      simp [Lib.byteCells]
    rw [this]
    simpa using hrow
  have HG : Hid (Below (w.alloc (.cells #[.bool false, .string ⟨#[]⟩, .slice none 0 0] 24)).heap.size (w.alloc (.cells #[.bool false, .string ⟨#[]⟩, .slice none 0 0] 24)) w1) := ⟨hgr.os, hgr.tape, hgr.output, hgr.size, fun k hk => hgr.block k hk (by simp)⟩
  clear hrow hgr hbase hby hml
  go_loopw [9] (fun i wr => ∃ (j : Nat) (l : List UInt8), i = .int .i64 j ∧ j ≤ N ∧ Hid (l.length = N ∧ Bown wr (w.alloc (.cells #[.bool false, .string ⟨#[]⟩, .slice none 0 0] 24)).heap.size (.slice (some ⟨w.heap.size + 1, 0, none⟩) l.length N) l ∧ Below (w.alloc (.cells #[.bool false, .string ⟨#[]⟩, .slice none 0 0] 24)).heap.size (w.alloc (.cells #[.bool false, .string ⟨#[]⟩, .slice none 0 0] 24)) wr)) (fun i _ => N - (intOf i).toNat)
  case atStart => exact ⟨0, List.replicate N 0, rfl, Nat.zero_le _, by simp, by rw [List.length_replicate]; exact HR.out, HG.out⟩
  case round =>
    obtain ⟨j, l, rfl, hj, HH⟩ := hrel
    by_cases hlt : j < N
    · have hc0 : wr.cell? ⟨w.heap.size + 1, j, none⟩ = some (.int .u8 ((l.getD j 0).toNat : Nat)) := by
        obtain ⟨q1, q2, q3⟩ := HH.out
        rw [World.ownsRow.cellAt q2 j (by omega)]
        simp [Lib.byteCells, List.getD_eq_getElem?_getD, q1, hlt]
      have hf0 : wr.frozen? ⟨w.heap.size + 1, j, none⟩ = false := World.ownsRow.frozenAt HH.out.2.1 j
      have hz : (0 : Int) ≤ (s[0].toNat : Int) * ((j : Int) + 3) % 256 ∧ (s[0].toNat : Int) * ((j : Int) + 3) % 256 < 256 := by omega
      have HZ := hid hz
      clear hz
      by_cases hr : 1 < s.size
      · have hmod : (j : Int) % ((s.size - 1 : Nat) : Int) < ((s.size - 1 : Nat) : Int) := Int.emod_lt_of_pos _ (by omega)
        have hmod2 : j % (s.size - 1) < s.size - 1 := Nat.mod_lt _ (by omega)
        have he : (s.extract 1 s.size).toList.isEmpty = false := by rw [tail_isEmpty]; exact decide_eq_false (by omega)
        go_wp2_with fail
        obtain ⟨q1, q2, q3⟩ := HH.out
        obtain ⟨l1, e1, b1⟩ := bown_put q2 j _ HZ.out.1 HZ.out.2
        obtain ⟨l2, e2, b2⟩ := bown_put b1 j (((s.extract 1 s.size)[j % (s.size - 1)]'(by simp; omega)).toNat : Int) (by omega) (by have := ((s.extract 1 s.size)[j % (s.size - 1)]'(by simp; omega)).toNat_lt; omega)
        exact ⟨⟨j + 1, l2, by go_num, by omega, by omega, b2, (q3.setCell (p := ⟨w.heap.size + 1, j, none⟩) (by simp) _).setCell (p := ⟨w.heap.size + 1, j, none⟩) (by simp) _⟩, by simp [intOf]; omega⟩
      · have he : (s.extract 1 s.size).toList.isEmpty = true := by rw [tail_isEmpty]; exact decide_eq_true (by omega)
        go_wp2_with fail
        obtain ⟨q1, q2, q3⟩ := HH.out
        obtain ⟨l1, e1, b1⟩ := bown_put q2 j _ HZ.out.1 HZ.out.2
        exact ⟨⟨j + 1, l1, by go_num, by omega, by omega, b1, q3.setCell (p := ⟨w.heap.size + 1, j, none⟩) (by simp) _⟩, by simp [intOf]; omega⟩
    · have hcv := run_bytes_string (brd_of_bown HH.out.2.1)
      rw [HH.out.1] at hcv
      obtain ⟨hcc, hff⟩ := bcell HH.out.2.2
      go_wp2_with fail
      obtain ⟨c0, c1, c2⟩ := set3 (old_block HH.out.2.2) (.bool false) (.string ⟨l.toArray⟩) (.slice none 0 0)
      obtain ⟨k1, k2, k3, k4⟩ := leaf_ok (d := d) (l := l) (s := s) (by rw [HH.out.1]; exact hN4) h1
      exact bodyPost_ret (v := .tuple #[.agg #[.bool false, .string ⟨l.toArray⟩, .slice none 0 0], .string (s.extract 1 s.size)]) (by simp [results, Try.results35, go_sem, c0, c1, c2]) rfl ⟨_, ⟨false, l, []⟩, _, rfl, k1, k2, k3, k4, ow_bytes _ _ _ _ _ _ (by simp), box_below HH.out.2.2 _ _ _⟩

set_option maxHeartbeats 1600000 in
theorem item_leafB (d : Nat) (s : ByteArray) (w : World) (hs : s.size ≤ 12) (hb : s.toList.isEmpty = false) (h1 : 0 < s.size) (h : ((d : Int) == 0) = true) (h2 : 150 < s[0].toNat) :
    Calls Try.prog 35 #[.string s, .int .i64 d] w (ItemOk d s w) := by
  obtain ⟨i0, hi, hz0, hz1, hz2⟩ := info_parts infoByte
  have h8 := s[0].toNat_lt
  have h3 : (150 : Int) < (s[0].toNat : Int) := by omega
  obtain ⟨N, HN⟩ : ∃ N : Nat, Hid ((54 : Int) + (s[0].toNat : Int) % 5 = (N : Int)) := ⟨54 + s[0].toNat % 5, by show _ = _; omega⟩
  have hN4 : N ≤ 58 := by have := HN.out; omega
  have hbase : (w.alloc (.cells #[.bool false, .string ⟨#[]⟩, .slice none 0 0] 24)).heap.size ≤ (w.alloc (.cells #[.bool false, .string ⟨#[]⟩, .slice none 0 0] 24)).heap.size := Nat.le_refl _
  have hby : i0.bytes * N ≤ 281474976710656 := by rw [hz2]; omega
  have hml : N ≤ maxLen := by unfold maxLen; omega
  go_enter Try.func35, Try.ntmps35
  go_wp2_with (at_make; refine wpList_make_full _ rfl (.tmp 36) (.tmp 36) 76 rfl _ 5 i0 _ 1 Try.underlying76 hi hz0 hz1 .i64 .i64 _ _ N rfl rfl HN.out HN.out hby hml hbase ?_; intro w1 hrow hgr)
  rw [HN.out]
  have HR : Hid (Bown w1 (w.alloc (.cells #[.bool false, .string ⟨#[]⟩, .slice none 0 0] 24)).heap.size (.slice (some ⟨w.heap.size + 1, 0, none⟩) N N) (List.replicate N 0)) := by
    unfold Bown Hid
    rw [List.length_replicate]
    have : Lib.byteCells (List.replicate N 0) = (madeCells (Value.int .u8 0).cells (N * 1)).toList := by
      rw [Nat.mul_one, show (Value.int .u8 0).cells = #[Value.int .u8 0] from rfl, toList_madeCells_one]
      simp [Lib.byteCells]
    rw [this]
    simpa using hrow
  have HG : Hid (Below (w.alloc (.cells #[.bool false, .string ⟨#[]⟩, .slice none 0 0] 24)).heap.size (w.alloc (.cells #[.bool false, .string ⟨#[]⟩, .slice none 0 0] 24)) w1) := ⟨hgr.os, hgr.tape, hgr.output, hgr.size, fun k hk => hgr.block k hk (by simp)⟩
  clear hrow hgr hbase hby hml
  go_loopw [9] (fun i wr => ∃ (j : Nat) (l : List UInt8), i = .int .i64 j ∧ j ≤ N ∧ Hid (l.length = N ∧ Bown wr (w.alloc (.cells #[.bool false, .string ⟨#[]⟩, .slice none 0 0] 24)).heap.size (.slice (some ⟨w.heap.size + 1, 0, none⟩) l.length N) l ∧ Below (w.alloc (.cells #[.bool false, .string ⟨#[]⟩, .slice none 0 0] 24)).heap.size (w.alloc (.cells #[.bool false, .string ⟨#[]⟩, .slice none 0 0] 24)) wr)) (fun i _ => N - (intOf i).toNat)
  case atStart => exact ⟨0, List.replicate N 0, rfl, Nat.zero_le _, by simp, by rw [List.length_replicate]; exact HR.out, HG.out⟩
  case round =>
    obtain ⟨j, l, rfl, hj, HH⟩ := hrel
    by_cases hlt : j < N
    · have hc0 : wr.cell? ⟨w.heap.size + 1, j, none⟩ = some (.int .u8 ((l.getD j 0).toNat : Nat)) := by
        obtain ⟨q1, q2, q3⟩ := HH.out
        rw [World.ownsRow.cellAt q2 j (by omega)]
        simp [Lib.byteCells, List.getD_eq_getElem?_getD, q1, hlt]
      have hf0 : wr.frozen? ⟨w.heap.size + 1, j, none⟩ = false := World.ownsRow.frozenAt HH.out.2.1 j
      have hz : (0 : Int) ≤ (s[0].toNat : Int) * ((j : Int) + 3) % 256 ∧ (s[0].toNat : Int) * ((j : Int) + 3) % 256 < 256 := by omega
      have HZ := hid hz
      clear hz
      by_cases hr : 1 < s.size
      · have hmod : (j : Int) % ((s.size - 1 : Nat) : Int) < ((s.size - 1 : Nat) : Int) := Int.emod_lt_of_pos _ (by omega)
        have hmod2 : j % (s.size - 1) < s.size - 1 := Nat.mod_lt _ (by omega)
        have he : (s.extract 1 s.size).toList.isEmpty = false := by rw [tail_isEmpty]; exact decide_eq_false (by omega)
        go_wp2_with fail
        obtain ⟨q1, q2, q3⟩ := HH.out
        obtain ⟨l1, e1, b1⟩ := bown_put q2 j _ HZ.out.1 HZ.out.2
        obtain ⟨l2, e2, b2⟩ := bown_put b1 j (((s.extract 1 s.size)[j % (s.size - 1)]'(by simp; omega)).toNat : Int) (by omega) (by have := ((s.extract 1 s.size)[j % (s.size - 1)]'(by simp; omega)).toNat_lt; omega)
        exact ⟨⟨j + 1, l2, by go_num, by omega, by omega, b2, (q3.setCell (p := ⟨w.heap.size + 1, j, none⟩) (by simp) _).setCell (p := ⟨w.heap.size + 1, j, none⟩) (by simp) _⟩, by simp [intOf]; omega⟩
      · have he : (s.extract 1 s.size).toList.isEmpty = true := by rw [tail_isEmpty]; exact decide_eq_true (by omega)
        go_wp2_with fail
        obtain ⟨q1, q2, q3⟩ := HH.out
        obtain ⟨l1, e1, b1⟩ := bown_put q2 j _ HZ.out.1 HZ.out.2
        exact ⟨⟨j + 1, l1, by go_num, by omega, by omega, b1, q3.setCell (p := ⟨w.heap.size + 1, j, none⟩) (by simp) _⟩, by simp [intOf]; omega⟩
    · have hcv := run_bytes_string (brd_of_bown HH.out.2.1)
      rw [HH.out.1] at hcv
      obtain ⟨hcc, hff⟩ := bcell HH.out.2.2
      go_wp2_with fail
      obtain ⟨c0, c1, c2⟩ := set3 (old_block HH.out.2.2) (.bool false) (.string ⟨l.toArray⟩) (.slice none 0 0)
      obtain ⟨k1, k2, k3, k4⟩ := leaf_ok (d := d) (l := l) (s := s) (by rw [HH.out.1]; exact hN4) h1
      exact bodyPost_ret (v := .tuple #[.agg #[.bool false, .string ⟨l.toArray⟩, .slice none 0 0], .string (s.extract 1 s.size)]) (by simp [results, Try.results35, go_sem, c0, c1, c2]) rfl ⟨_, ⟨false, l, []⟩, _, rfl, k1, k2, k3, k4, ow_bytes _ _ _ _ _ _ (by simp), box_below HH.out.2.2 _ _ _⟩

set_option maxHeartbeats 1600000 in
theorem item_leafC (d : Nat) (s : ByteArray) (w : World) (hs : s.size ≤ 12) (hb : s.toList.isEmpty = false) (h1 : 0 < s.size) (h : ((d : Int) == 0) = false) (h2 : s[0].toNat ≤ 150) :
    Calls Try.prog 35 #[.string s, .int .i64 d] w (ItemOk d s w) := by
  obtain ⟨i0, hi, hz0, hz1, hz2⟩ := info_parts infoByte
  have h8 := s[0].toNat_lt
  have h3 : ¬ (150 : Int) < (s[0].toNat : Int) := by omega
  have h4 : (s[0].toNat : Int) < 160 := by omega
  obtain ⟨N, HN⟩ : ∃ N : Nat, Hid ((s[0].toNat : Int) % 5 = (N : Int)) := ⟨s[0].toNat % 5, by show _ = _; omega⟩
  have hN4 : N ≤ 58 := by have := HN.out; omega
  have hbase : (w.alloc (.cells #[.bool false, .string ⟨#[]⟩, .slice none 0 0] 24)).heap.size ≤ (w.alloc (.cells #[.bool false, .string ⟨#[]⟩, .slice none 0 0] 24)).heap.size := Nat.le_refl _
  have hby : i0.bytes * N ≤ 281474976710656 := by rw [hz2]; omega
  have hml : N ≤ maxLen := by unfold maxLen; omega
  go_enter Try.func35, Try.ntmps35
  go_wp2_with (at_make; refine wpList_make_full _ rfl (.tmp 36) (.tmp 36) 76 rfl _ 5 i0 _ 1 Try.underlying76 hi hz0 hz1 .i64 .i64 _ _ N rfl rfl HN.out HN.out hby hml hbase ?_; intro w1 hrow hgr)
  rw [HN.out]
  have HR : Hid (Bown w1 (w.alloc (.cells #[.bool false, .string ⟨#[]⟩, .slice none 0 0] 24)).heap.size (.slice (some ⟨w.heap.size + 1, 0, none⟩) N N) (List.replicate N 0)) := by
    unfold Bown Hid
    rw [List.length_replicate]
    have : Lib.byteCells (List.replicate N 0) = (madeCells (Value.int .u8 0).cells (N * 1)).toList := by
      rw [Nat.mul_one, show (Value.int .u8 0).cells = #[Value.int .u8 0] from rfl, toList_madeCells_one]
      simp [Lib.byteCells]
    rw [this]
    simpa using hrow
  have HG : Hid (Below (w.alloc (.cells #[.bool false, .string ⟨#[]⟩, .slice none 0 0] 24)).heap.size (w.alloc (.cells #[.bool false, .string ⟨#[]⟩, .slice none 0 0] 24)) w1) := ⟨hgr.os, hgr.tape, hgr.output, hgr.size, fun k hk => hgr.block k hk (by simp)⟩
  clear hrow hgr hbase hby hml
  go_loopw [9] (fun i wr => ∃ (j : Nat) (l : List UInt8), i = .int .i64 j ∧ j ≤ N ∧ Hid (l.length = N ∧ Bown wr (w.alloc (.cells #[.bool false, .string ⟨#[]⟩, .slice none 0 0] 24)).heap.size (.slice (some ⟨w.heap.size + 1, 0, none⟩) l.length N) l ∧ Below (w.alloc (.cells #[.bool false, .string ⟨#[]⟩, .slice none 0 0] 24)).heap.size (w.alloc (.cells #[.bool false, .string ⟨#[]⟩, .slice none 0 0] 24)) wr)) (fun i _ => N - (intOf i).toNat)
  case atStart => exact ⟨0, List.replicate N 0, rfl, Nat.zero_le _, by simp, by rw [List.length_replicate]; exact HR.out, HG.out⟩
  case round =>
    obtain ⟨j, l, rfl, hj, HH⟩ := hrel
    by_cases hlt : j < N
    · have hc0 : wr.cell? ⟨w.heap.size + 1, j, none⟩ = some (.int .u8 ((l.getD j 0).toNat : Nat)) := by
        obtain ⟨q1, q2, q3⟩ := HH.out
        rw [World.ownsRow.cellAt q2 j (by omega)]
        simp [Lib.byteCells, List.getD_eq_getElem?_getD, q1, hlt]
      have hf0 : wr.frozen? ⟨w.heap.size + 1, j, none⟩ = false := World.ownsRow.frozenAt HH.out.2.1 j
      have hz : (0 : Int) ≤ (s[0].toNat : Int) * ((j : Int) + 3) % 256 ∧ (s[0].toNat : Int) * ((j : Int) + 3) % 256 < 256 := by omega
      have HZ := hid hz
      clear hz
      by_cases hr : 1 < s.size
      · have hmod : (j : Int) % ((s.size - 1 : Nat) : Int) < ((s.size - 1 : Nat) : Int) := Int.emod_lt_of_pos _ (by omega)
        have hmod2 : j % (s.size - 1) < s.size - 1 := Nat.mod_lt _ (by omega)
        have he : (s.extract 1 s.size).toList.isEmpty = false := by rw [tail_isEmpty]; exact decide_eq_false (by omega)
        go_wp2_with fail
        obtain ⟨q1, q2, q3⟩ := HH.out
        obtain ⟨l1, e1, b1⟩ := bown_put q2 j _ HZ.out.1 HZ.out.2
        obtain ⟨l2, e2, b2⟩ := bown_put b1 j (((s.extract 1 s.size)[j % (s.size - 1)]'(by simp; omega)).toNat : Int) (by omega) (by have := ((s.extract 1 s.size)[j % (s.size - 1)]'(by simp; omega)).toNat_lt; omega)
        exact ⟨⟨j + 1, l2, by go_num, by omega, by omega, b2, (q3.setCell (p := ⟨w.heap.size + 1, j, none⟩) (by simp) _).setCell (p := ⟨w.heap.size + 1, j, none⟩) (by simp) _⟩, by simp [intOf]; omega⟩
      · have he : (s.extract 1 s.size).toList.isEmpty = true := by rw [tail_isEmpty]; exact decide_eq_true (by omega)
        go_wp2_with fail
        obtain ⟨q1, q2, q3⟩ := HH.out
        obtain ⟨l1, e1, b1⟩ := bown_put q2 j _ HZ.out.1 HZ.out.2
        exact ⟨⟨j + 1, l1, by go_num, by omega, by omega, b1, q3.setCell (p := ⟨w.heap.size + 1, j, none⟩) (by simp) _⟩, by simp [intOf]; omega⟩
    · have hcv := run_bytes_string (brd_of_bown HH.out.2.1)
      rw [HH.out.1] at hcv
      obtain ⟨hcc, hff⟩ := bcell HH.out.2.2
      go_wp2_with fail
      obtain ⟨c0, c1, c2⟩ := set3 (old_block HH.out.2.2) (.bool false) (.string ⟨l.toArray⟩) (.slice none 0 0)
      obtain ⟨k1, k2, k3, k4⟩ := leaf_ok (d := d) (l := l) (s := s) (by rw [HH.out.1]; exact hN4) h1
      exact bodyPost_ret (v := .tuple #[.agg #[.bool false, .string ⟨l.toArray⟩, .slice none 0 0], .string (s.extract 1 s.size)]) (by simp [results, Try.results35, go_sem, c0, c1, c2]) rfl ⟨_, ⟨false, l, []⟩, _, rfl, k1, k2, k3, k4, ow_bytes _ _ _ _ _ _ (by simp), box_below HH.out.2.2 _ _ _⟩

set_option maxHeartbeats 1600000 in
theorem item_leafD (d : Nat) (s : ByteArray) (w : World) (hs : s.size ≤ 12) (hb : s.toList.isEmpty = false) (h1 : 0 < s.size) (h : ((d : Int) == 0) = false) (h2 : 150 < s[0].toNat) (h5 : s[0].toNat < 160) :
    Calls Try.prog 35 #[.string s, .int .i64 d] w (ItemOk d s w) := by
  obtain ⟨i0, hi, hz0, hz1, hz2⟩ := info_parts infoByte
  have h8 := s[0].toNat_lt
  have h3 : (150 : Int) < (s[0].toNat : Int) := by omega
  have h4 : (s[0].toNat : Int) < 160 := by omega
  obtain ⟨N, HN⟩ : ∃ N : Nat, Hid ((54 : Int) + (s[0].toNat : Int) % 5 = (N : Int)) := ⟨54 + s[0].toNat % 5, by show _ = _; omega⟩
  have hN4 : N ≤ 58 := by have := HN.out; omega
  have hbase : (w.alloc (.cells #[.bool false, .string ⟨#[]⟩, .slice none 0 0] 24)).heap.size ≤ (w.alloc (.cells #[.bool false, .string ⟨#[]⟩, .slice none 0 0] 24)).heap.size := Nat.le_refl _
  have hby : i0.bytes * N ≤ 281474976710656 := by rw [hz2]; omega
  have hml : N ≤ maxLen := by unfold maxLen; omega
  go_enter Try.func35, Try.ntmps35
  go_wp2_with (at_make; refine wpList_make_full _ rfl (.tmp 36) (.tmp 36) 76 rfl _ 5 i0 _ 1 Try.underlying76 hi hz0 hz1 .i64 .i64 _ _ N rfl rfl HN.out HN.out hby hml hbase ?_; intro w1 hrow hgr)
  rw [HN.out]
  have HR : Hid (Bown w1 (w.alloc (.cells #[.bool false, .string ⟨#[]⟩, .slice none 0 0] 24)).heap.size (.slice (some ⟨w.heap.size + 1, 0, none⟩) N N) (List.replicate N 0)) := by
    unfold Bown Hid
    rw [List.length_replicate]
    have : Lib.byteCells (List.replicate N 0) = (madeCells (Value.int .u8 0).cells (N * 1)).toList := by
      rw [Nat.mul_one, show (Value.int .u8 0).cells = #[Value.int .u8 0] from rfl, toList_madeCells_one]
      simp [Lib.byteCells]
    rw [this]
    simpa using hrow
  have HG : Hid (Below (w.alloc (.cells #[.bool false, .string ⟨#[]⟩, .slice none 0 0] 24)).heap.size (w.alloc (.cells #[.bool false, .string ⟨#[]⟩, .slice none 0 0] 24)) w1) := ⟨hgr.os, hgr.tape, hgr.output, hgr.size, fun k hk => hgr.block k hk (by simp)⟩
  clear hrow hgr hbase hby hml
  go_loopw [9] (fun i wr => ∃ (j : Nat) (l : List UInt8), i = .int .i64 j ∧ j ≤ N ∧ Hid (l.length = N ∧ Bown wr (w.alloc (.cells #[.bool false, .string ⟨#[]⟩, .slice none 0 0] 24)).heap.size (.slice (some ⟨w.heap.size + 1, 0, none⟩) l.length N) l ∧ Below (w.alloc (.cells #[.bool false, .string ⟨#[]⟩, .slice none 0 0] 24)).heap.size (w.alloc (.cells #[.bool false, .string ⟨#[]⟩, .slice none 0 0] 24)) wr)) (fun i _ => N - (intOf i).toNat)
  case atStart => exact ⟨0, List.replicate N 0, rfl, Nat.zero_le _, by simp, by rw [List.length_replicate]; exact HR.out, HG.out⟩
  case round =>
    obtain ⟨j, l, rfl, hj, HH⟩ := hrel
    by_cases hlt : j < N
    · have hc0 : wr.cell? ⟨w.heap.size + 1, j, none⟩ = some (.int .u8 ((l.getD j 0).toNat : Nat)) := by
        obtain ⟨q1, q2, q3⟩ := HH.out
        rw [World.ownsRow.cellAt q2 j (by omega)]
        simp [Lib.byteCells, List.getD_eq_getElem?_getD, q1, hlt]
      have hf0 : wr.frozen? ⟨w.heap.size + 1, j, none⟩ = false := World.ownsRow.frozenAt HH.out.2.1 j
      have hz : (0 : Int) ≤ (s[0].toNat : Int) * ((j : Int) + 3) % 256 ∧ (s[0].toNat : Int) * ((j : Int) + 3) % 256 < 256 := by omega
      have HZ := hid hz
      clear hz
      by_cases hr : 1 < s.size
      · have hmod : (j : Int) % ((s.size - 1 : Nat) : Int) < ((s.size - 1 : Nat) : Int) := Int.emod_lt_of_pos _ (by omega)
        have hmod2 : j % (s.size - 1) < s.size - 1 := Nat.mod_lt _ (by omega)
        have he : (s.extract 1 s.size).toList.isEmpty = false := by rw [tail_isEmpty]; exact decide_eq_false (by omega)
        go_wp2_with fail
        obtain ⟨q1, q2, q3⟩ := HH.out
        obtain ⟨l1, e1, b1⟩ := bown_put q2 j _ HZ.out.1 HZ.out.2
        obtain ⟨l2, e2, b2⟩ := bown_put b1 j (((s.extract 1 s.size)[j % (s.size - 1)]'(by simp; omega)).toNat : Int) (by omega) (by have := ((s.extract 1 s.size)[j % (s.size - 1)]'(by simp; omega)).toNat_lt; omega)
        exact ⟨⟨j + 1, l2, by go_num, by omega, by omega, b2, (q3.setCell (p := ⟨w.heap.size + 1, j, none⟩) (by simp) _).setCell (p := ⟨w.heap.size + 1, j, none⟩) (by simp) _⟩, by simp [intOf]; omega⟩
      · have he : (s.extract 1 s.size).toList.isEmpty = true := by rw [tail_isEmpty]; exact decide_eq_true (by omega)
        go_wp2_with fail
        obtain ⟨q1, q2, q3⟩ := HH.out
        obtain ⟨l1, e1, b1⟩ := bown_put q2 j _ HZ.out.1 HZ.out.2
        exact ⟨⟨j + 1, l1, by go_num, by omega, by omega, b1, q3.setCell (p := ⟨w.heap.size + 1, j, none⟩) (by simp) _⟩, by simp [intOf]; omega⟩
    · have hcv := run_bytes_string (brd_of_bown HH.out.2.1)
      rw [HH.out.1] at hcv
      obtain ⟨hcc, hff⟩ := bcell HH.out.2.2
      go_wp2_with fail
      obtain ⟨c0, c1, c2⟩ := set3 (old_block HH.out.2.2) (.bool false) (.string ⟨l.toArray⟩) (.slice none 0 0)
      obtain ⟨k1, k2, k3, k4⟩ := leaf_ok (d := d) (l := l) (s := s) (by rw [HH.out.1]; exact hN4) h1
      exact bodyPost_ret (v := .tuple #[.agg #[.bool false, .string ⟨l.toArray⟩, .slice none 0 0], .string (s.extract 1 s.size)]) (by simp [results, Try.results35, go_sem, c0, c1, c2]) rfl ⟨_, ⟨false, l, []⟩, _, rfl, k1, k2, k3, k4, ow_bytes _ _ _ _ _ _ (by simp), box_below HH.out.2.2 _ _ _⟩
end Go.Proofs.Ytbmohenjphmlgaa
