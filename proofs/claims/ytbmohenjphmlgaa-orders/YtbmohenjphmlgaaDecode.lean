/- The walks of Decode: the item whose bytes these are, in lists of its own, or the error. -/
import Derived.Test.YtbmohenjphmlgaaDeep
namespace Go.Proofs.Ytbmohenjphmlgaa
open Go.RowKit
set_option maxRecDepth 100000

namespace Itm
theorem deep_le_enc (t : Itm) : deep t ≤ (enc t).length := by
  refine ind (p := fun t => deep t ≤ (enc t).length) ?_ t
  intro t ih
  rw [deep_eq, enc_eq]
  by_cases h : t.list
  · rw [if_pos h, if_pos h]
    have h1 := headed_len 192 (t.items.flatMap enc)
    have h2 : top (t.items.map deep) ≤ (t.items.flatMap enc).length := by
      refine top_le fun x hx => ?_
      simp only [List.mem_map] at hx
      obtain ⟨y, hy, rfl⟩ := hx
      exact Nat.le_trans (ih y hy) (mem_enc_len hy)
    omega
  · rw [if_neg h]; exact Nat.zero_le _

/-- What Decode answers: an error's number, or the item. -/
def dec (l : List UInt8) : Except Nat Itm :=
  if 1000 < l.length then .error 2 else
  match parse l.length l with
  | none => .error 1
  | some (t, rest) => if rest.isEmpty then (if 8 < deep t then .error 2 else .ok t) else .error 1
end Itm

theorem ow_shape {w : World} {n lo hi : Nat} {v : Value} {t : Itm} (h : Ow w n lo hi v t) : ∃ a cap, v = .agg #[.bool t.list, .string ⟨t.bytes.toArray⟩, .slice a t.items.length cap] := by
  cases n with
  | zero => exact h.elim
  | succ n =>
    obtain ⟨sl, rfl, hl⟩ := h
    obtain ⟨a, cap, rfl⟩ := ownL_len hl
    exact ⟨a, cap, rfl⟩

def DecodeOk (s : ByteArray) (w : World) (e : Ending) (w' : World) : Prop :=
  (∀ n, Itm.dec s.data.toList = .error n → e = .returned (.tuple #[.agg #[.bool false, .string ⟨#[]⟩, .slice none 0 0], .int .i64 n])) ∧
  (∀ t, Itm.dec s.data.toList = .ok t → ∃ v, e = .returned (.tuple #[v, .int .i64 0]) ∧ Ow w' s.size w.heap.size w'.heap.size v t) ∧ Below w.heap.size w w'

theorem decodeOk_err {s : ByteArray} {w w' : World} {n : Nat} (h : Itm.dec s.data.toList = .error n) (hb : Below w.heap.size w w') : DecodeOk s w (.returned (.tuple #[.agg #[.bool false, .string ⟨#[]⟩, .slice none 0 0], .int .i64 n])) w' := by
  refine ⟨fun m hm => ?_, fun t ht => ?_, hb⟩
  · rw [h] at hm; cases hm; rfl
  · rw [h] at ht; cases ht

section
variable (s : ByteArray) (w : World)

set_option maxHeartbeats 400000 in
theorem itemsDecode_big (h : 1000 < s.size) : Calls Try.prog 45 #[.string s] w (DecodeOk s w) := by
  have hd : Itm.dec s.data.toList = .error 2 := by unfold Itm.dec; rw [if_pos (by rw [ba_len]; exact h)]
  have HD := hid hd
  clear hd
  go_enter Try.func45, Try.ntmps45
  go_wp2_with fail
  exact bodyPost_ret (v := .tuple #[.agg #[.bool false, .string ⟨#[]⟩, .slice none 0 0], .int .i64 2]) (by simp [results, Try.results45, go_sem]) rfl (decodeOk_err HD.out ((Below.refl _ _).alloc (Nat.le_refl _) _))

set_option maxHeartbeats 400000 in
theorem itemsDecode_none (h : s.size ≤ 1000) (hp : Itm.parse s.size s.data.toList = none) : Calls Try.prog 45 #[.string s] w (DecodeOk s w) := by
  have hd : Itm.dec s.data.toList = .error 1 := by unfold Itm.dec; rw [if_neg (by rw [ba_len]; omega), ba_len, hp]
  have HD := hid hd
  have HC := hid (fun w => (first_ok s.size).no s w (Nat.le_refl _) (by omega) hp)
  clear hd hp
  go_enter Try.func45, Try.ntmps45
  go_wp2_with fail
  refine (HC.out _).mono ?_
  rintro e w1 ⟨⟨b, r, rfl⟩, hbel⟩
  obtain ⟨hcc, hff⟩ := bcell hbel
  have hsz : w.heap.size < w1.heap.size := by have := hbel.size; simp at this; omega
  go_wp2_with fail
  obtain ⟨c0, c1, c2⟩ := set3 (old_block hbel) (.bool false) (.string ⟨#[]⟩) (.slice none 0 0)
  refine bodyPost_ret (v := .tuple #[.agg #[.bool false, .string ⟨#[]⟩, .slice none 0 0], .int .i64 1]) (by simp [results, Try.results45, go_sem, c0, c1, c2, hsz]) rfl (decodeOk_err HD.out ?_)
  exact (box_below hbel _ _ _).alloc (by rw [box_size]; omega) _

set_option maxHeartbeats 400000 in
theorem itemsDecode_rest (h : s.size ≤ 1000) (t : Itm) (rest : List UInt8) (hp : Itm.parse s.size s.data.toList = some (t, rest)) (hr : rest ≠ []) : Calls Try.prog 45 #[.string s] w (DecodeOk s w) := by
  have hd : Itm.dec s.data.toList = .error 1 := by unfold Itm.dec; rw [if_neg (by rw [ba_len]; omega), ba_len, hp]; simp [hr]
  have hb : rest.isEmpty = false := by simpa using hr
  have HD := hid hd
  have HC := hid (fun w => (first_ok s.size).yes s w t rest (Nat.le_refl _) (by omega) hp)
  clear hd hp hr
  go_enter Try.func45, Try.ntmps45
  go_wp2_with fail
  refine (HC.out _).mono ?_
  rintro e w1 ⟨v, rfl, hown, hbel⟩
  obtain ⟨a2, cap2, rfl⟩ := ow_shape hown
  clear hown
  obtain ⟨hcc, hff⟩ := bcell hbel
  have hsz : w.heap.size < w1.heap.size := by have := hbel.size; simp at this; omega
  go_wp2_with fail
  obtain ⟨c0, c1, c2⟩ := set3 (old_block hbel) (.bool false) (.string ⟨#[]⟩) (.slice none 0 0)
  refine bodyPost_ret (v := .tuple #[.agg #[.bool false, .string ⟨#[]⟩, .slice none 0 0], .int .i64 1]) (by simp [results, Try.results45, go_sem, c0, c1, c2, hsz]) rfl (decodeOk_err HD.out ?_)
  exact (box_below hbel _ _ _).alloc (by rw [box_size]; omega) _

set_option maxHeartbeats 400000 in
theorem itemsDecode_deep (h : s.size ≤ 1000) (t : Itm) (hp : Itm.parse s.size s.data.toList = some (t, [])) (hd8 : 8 < Itm.deep t) : Calls Try.prog 45 #[.string s] w (DecodeOk s w) := by
  have hd : Itm.dec s.data.toList = .error 2 := by unfold Itm.dec; rw [if_neg (by rw [ba_len]; omega), ba_len, hp]; simp [hd8]
  have hdl : Itm.deep t ≤ 1000000000 := by
    have h1 := Itm.deep_le_enc t
    have h2 := (Itm.parse_sound _ _ _ _ hp).1
    have h3 : s.size = (Itm.enc t).length := by rw [← ba_len, h2]; simp
    omega
  have HD := hid hd
  have HC := hid (fun w => (first_ok s.size).yes s w t [] (Nat.le_refl _) (by omega) hp)
  clear hd hp
  go_enter Try.func45, Try.ntmps45
  go_wp2_with fail
  refine (HC.out _).mono ?_
  rintro e w1 ⟨v, rfl, hown, hbel⟩
  have hrep := rep_of_own _ _ _ _ _ (Nat.le_refl _) hown
  obtain ⟨a2, cap2, rfl⟩ := ow_shape hown
  have HR := hid hrep
  clear hown hrep
  obtain ⟨hcc, hff⟩ := bcell hbel
  have hsz : w.heap.size < w1.heap.size := by have := hbel.size; simp at this; omega
  go_wp2_with fail
  refine (depth_any _ _ t _ (rep_in HR.out ((Below.refl _ _).alloc (Nat.le_refl _) _)) hdl).mono ?_
  rintro e w2 ⟨rfl, hbel2⟩
  obtain ⟨hcc2, hff2⟩ := bcell hbel2
  have hsz1 : w.heap.size < w1.heap.size + 1 := by omega
  go_wp2_with fail
  have hb3 : Below (w.alloc (.cells #[.bool false, .string ⟨#[]⟩, .slice none 0 0] 24)).heap.size (w.alloc (.cells #[.bool false, .string ⟨#[]⟩, .slice none 0 0] 24)) w2 :=
    (hbel.alloc hbel.size _).trans (hbel2.mono (by have := hbel.size; simp at this ⊢; omega))
  obtain ⟨c0, c1, c2⟩ := set3 (old_block hb3) (.bool false) (.string ⟨#[]⟩) (.slice none 0 0)
  exact bodyPost_ret (v := .tuple #[.agg #[.bool false, .string ⟨#[]⟩, .slice none 0 0], .int .i64 2]) (by simp [results, Try.results45, go_sem, c0, c1, c2]) rfl (decodeOk_err HD.out (box_below hb3 _ _ _))

set_option maxHeartbeats 400000 in
theorem itemsDecode_yes (h : s.size ≤ 1000) (t : Itm) (hp : Itm.parse s.size s.data.toList = some (t, [])) (hd8 : Itm.deep t ≤ 8) : Calls Try.prog 45 #[.string s] w (DecodeOk s w) := by
  have hd : Itm.dec s.data.toList = .ok t := by
    unfold Itm.dec; rw [if_neg (by rw [ba_len]; omega), ba_len, hp]; simp; omega
  have HD := hid hd
  have HC := hid (fun w => (first_ok s.size).yes s w t [] (Nat.le_refl _) (by omega) hp)
  clear hd hp
  go_enter Try.func45, Try.ntmps45
  go_wp2_with fail
  refine (HC.out _).mono ?_
  rintro e w1 ⟨v, rfl, hown, hbel⟩
  have hrep := rep_of_own _ _ _ _ _ (Nat.le_refl _) hown
  obtain ⟨a2, cap2, rfl⟩ := ow_shape hown
  have HR := hid hrep
  have HO := hid hown
  clear hown hrep
  obtain ⟨hcc, hff⟩ := bcell hbel
  have hsz : w.heap.size < w1.heap.size := by have := hbel.size; simp at this; omega
  go_wp2_with fail
  refine (depth_any _ _ t _ (rep_in HR.out ((Below.refl _ _).alloc (Nat.le_refl _) _)) (by omega)).mono ?_
  rintro e w2 ⟨rfl, hbel2⟩
  obtain ⟨hcc2, hff2⟩ := bcell hbel2
  have hsz1 : w.heap.size < w1.heap.size + 1 := by omega
  go_wp2_with fail
  have hb3 : Below (w.alloc (.cells #[.bool false, .string ⟨#[]⟩, .slice none 0 0] 24)).heap.size (w.alloc (.cells #[.bool false, .string ⟨#[]⟩, .slice none 0 0] 24)) w2 :=
    (hbel.alloc hbel.size _).trans (hbel2.mono (by have := hbel.size; simp at this ⊢; omega))
  obtain ⟨c0, c1, c2⟩ := set3 (old_block hb3) (.bool t.list) (.string ⟨t.bytes.toArray⟩) (.slice a2 t.items.length cap2)
  refine bodyPost_ret (v := .tuple #[.agg #[.bool t.list, .string ⟨t.bytes.toArray⟩, .slice a2 t.items.length cap2], .int .i64 0]) (by simp [results, Try.results45, go_sem, c0, c1, c2]) rfl ⟨fun n hn => ?_, fun t' ht' => ?_, box_below hb3 _ _ _⟩
  · rw [HD.out] at hn; cases hn
  · rw [HD.out] at ht'
    cases ht'
    refine ⟨_, rfl, ?_⟩
    rw [box_size]
    refine own_widen (lo := w.heap.size + 1) (hi := w1.heap.size) (ow_box _ _ _ ?_) (Nat.le_succ _) (by have := hbel2.size; simp at this; omega)
    refine own_frame _ _ _ _ _ ?_ (by have := HO.out; unfold Ow at this; simpa using this)
    intro k _ hk
    rw [hbel2.block k (by simp; omega)]
    exact Below.heap_alloc _ _ _ hk

theorem itemsDecode_any : Calls Try.prog 45 #[.string s] w (DecodeOk s w) := by
  by_cases h : 1000 < s.size
  · exact itemsDecode_big s w h
  · cases hp : Itm.parse s.size s.data.toList with
    | none => exact itemsDecode_none s w (by omega) hp
    | some tr =>
      obtain ⟨t, rest⟩ := tr
      by_cases hr : rest = []
      · subst hr
        by_cases h8 : 8 < Itm.deep t
        · exact itemsDecode_deep s w (by omega) t hp h8
        · exact itemsDecode_yes s w (by omega) t hp (by omega)
      · exact itemsDecode_rest s w (by omega) t rest hp hr

set_option maxHeartbeats 400000 in
theorem decode_any : Calls Try.prog 17 #[.string s] w (DecodeOk s w) := by
  have HC := hid (fun w => itemsDecode_any s w)
  go_enter Try.func17, Try.ntmps17
  go_wp2_with fail
  refine (HC.out _).mono ?_
  rintro e w1 ⟨h1, h2, hbel⟩
  have H1 := hid h1
  have H2 := hid h2
  clear h1 h2
  cases hd : Itm.dec s.data.toList with
  | error n =>
    obtain rfl := H1.out n hd
    have HD := hid hd
    clear hd
    obtain ⟨hcc, hff⟩ := bcell hbel
    go_wp2_with fail
    obtain ⟨c0, c1, c2⟩ := set3 (old_block hbel) (.bool false) (.string ⟨#[]⟩) (.slice none 0 0)
    exact bodyPost_ret (v := .tuple #[.agg #[.bool false, .string ⟨#[]⟩, .slice none 0 0], .int .i64 n]) (by simp [results, Try.results17, go_sem, c0, c1, c2]) rfl (decodeOk_err HD.out (box_below hbel _ _ _))
  | ok t =>
    obtain ⟨v, rfl, hown⟩ := H2.out t hd
    have HD := hid hd
    have HO := hid hown
    obtain ⟨a2, cap2, rfl⟩ := ow_shape hown
    clear hd hown
    obtain ⟨hcc, hff⟩ := bcell hbel
    go_wp2_with fail
    obtain ⟨c0, c1, c2⟩ := set3 (old_block hbel) (.bool t.list) (.string ⟨t.bytes.toArray⟩) (.slice a2 t.items.length cap2)
    refine bodyPost_ret (v := .tuple #[.agg #[.bool t.list, .string ⟨t.bytes.toArray⟩, .slice a2 t.items.length cap2], .int .i64 0]) (by simp [results, Try.results17, go_sem, c0, c1, c2]) rfl ⟨fun n hn => ?_, fun t' ht' => ?_, box_below hbel _ _ _⟩
    · rw [HD.out] at hn; cases hn
    · rw [HD.out] at ht'
      cases ht'
      refine ⟨_, rfl, ?_⟩
      rw [box_size]
      refine own_widen (lo := w.heap.size + 1) (ow_box _ _ _ ?_) (Nat.le_succ _) (Nat.le_refl _)
      have := HO.out
      simpa using this
end
end Go.Proofs.Ytbmohenjphmlgaa
