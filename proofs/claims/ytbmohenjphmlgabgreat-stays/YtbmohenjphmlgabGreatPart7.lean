/- Part 7 of a proof: what the last text needs. -/
import Derived.Test.YtbmohenjphmlgabGreatPart5
import Derived.Test.YtbmohenjphmlgabGreatPart6
/- The walks of Decode: the item whose bytes these are, in lists of its own, or the error. -/
namespace Go.Proofs.YtbmohenjphmlgabGreat
open Go.RowKit
set_option maxRecDepth 100000

namespace Itm
theorem deep_le_enc (t : Itm) : deep t ≤ (enc t).length := by
  refine ind (p := fun t => deep t ≤ (enc t).length) ?_ t
  intro t ih
  rw [deep_eq, enc_eq]
  by_cases h : t.list
  · rw [if_pos h, if_pos h]
    have h1 := headed_len 192 (t.items.flatMap enc)
    have h2 : top (t.items.map deep) ≤ (t.items.flatMap enc).length := by
      refine top_le fun x hx => ?_
      simp only [List.mem_map] at hx
      obtain ⟨y, hy, rfl⟩ := hx
      exact Nat.le_trans (ih y hy) (mem_enc_len hy)
    omega
  · rw [if_neg h]; exact Nat.zero_le _

/-- What Decode answers: an error's number, or the item. -/
def dec (l : List UInt8) : Except Nat Itm :=
  if 1000 < l.length then .error 2 else
  match parse l.length l with
  | none => .error 1
  | some (t, rest) => if rest.isEmpty then (if 8 < deep t then .error 2 else .ok t) else .error 1
end Itm

theorem ow_shape {w : World} {n lo hi : Nat} {v : Value} {t : Itm} (h : Ow w n lo hi v t) : ∃ a cap, v = .agg #[.bool t.list, .string ⟨t.bytes.toArray⟩, .slice a t.items.length cap] := by
  cases n with
  | zero => exact h.elim
  | succ n =>
    obtain ⟨sl, rfl, hl⟩ := h
    obtain ⟨a, cap, rfl⟩ := ownL_len hl
    exact ⟨a, cap, rfl⟩

def DecodeOk (s : ByteArray) (w : World) (e : Ending) (w' : World) : Prop :=
  (∀ n, Itm.dec s.data.toList = .error n → e = .returned (.tuple #[.agg #[.bool false, .string ⟨#[]⟩, .slice none 0 0], .int .i64 n])) ∧
  (∀ t, Itm.dec s.data.toList = .ok t → ∃ v, e = .returned (.tuple #[v, .int .i64 0]) ∧ Ow w' s.size w.heap.size w'.heap.size v t) ∧ Below w.heap.size w w'

theorem decodeOk_err {s : ByteArray} {w w' : World} {n : Nat} (h : Itm.dec s.data.toList = .error n) (hb : Below w.heap.size w w') : DecodeOk s w (.returned (.tuple #[.agg #[.bool false, .string ⟨#[]⟩, .slice none 0 0], .int .i64 n])) w' := by
  refine ⟨fun m hm => ?_, fun t ht => ?_, hb⟩
  · rw [h] at hm; cases hm; rfl
  · rw [h] at ht; cases ht

section
variable (s : ByteArray) (w : World)

set_option maxHeartbeats 400000 in
theorem itemsDecode_big (h : 1000 < s.size) : Calls Tryz.prog 36 #[.string s] w (DecodeOk s w) := by
  have hd : Itm.dec s.data.toList = .error 2 := by unfold Itm.dec; rw [if_pos (by rw [ba_len]; exact h)]
  have HD := hid hd
  clear hd
  go_enter Tryz.func36, Tryz.ntmps36
  go_wp2_with fail
  exact bodyPost_ret (v := .tuple #[.agg #[.bool false, .string ⟨#[]⟩, .slice none 0 0], .int .i64 2]) (by simp [results, Tryz.results36, go_sem]) rfl (decodeOk_err HD.out ((Below.refl _ _).alloc (Nat.le_refl _) _))

set_option maxHeartbeats 400000 in
theorem itemsDecode_none (h : s.size ≤ 1000) (hp : Itm.parse s.size s.data.toList = none) : Calls Tryz.prog 36 #[.string s] w (DecodeOk s w) := by
  have hd : Itm.dec s.data.toList = .error 1 := by unfold Itm.dec; rw [if_neg (by rw [ba_len]; omega), ba_len, hp]
  have HD := hid hd
  have HC := hid (fun w => (first_ok s.size).no s w (Nat.le_refl _) (by omega) hp)
  clear hd hp
  go_enter Tryz.func36, Tryz.ntmps36
  go_wp2_with fail
  refine (HC.out _).mono ?_
  rintro e w1 ⟨⟨b, r, rfl⟩, hbel⟩
  obtain ⟨hcc, hff⟩ := bcell hbel
  have hsz : w.heap.size < w1.heap.size := by have := hbel.size; simp at this; omega
  go_wp2_with fail
  obtain ⟨c0, c1, c2⟩ := set3 (old_block hbel) (.bool false) (.string ⟨#[]⟩) (.slice none 0 0)
  refine bodyPost_ret (v := .tuple #[.agg #[.bool false, .string ⟨#[]⟩, .slice none 0 0], .int .i64 1]) (by simp [results, Tryz.results36, go_sem, c0, c1, c2, hsz]) rfl (decodeOk_err HD.out ?_)
  exact (box_below hbel _ _ _).alloc (by rw [box_size]; omega) _

set_option maxHeartbeats 400000 in
theorem itemsDecode_rest (h : s.size ≤ 1000) (t : Itm) (rest : List UInt8) (hp : Itm.parse s.size s.data.toList = some (t, rest)) (hr : rest ≠ []) : Calls Tryz.prog 36 #[.string s] w (DecodeOk s w) := by
  have hd : Itm.dec s.data.toList = .error 1 := by unfold Itm.dec; rw [if_neg (by rw [ba_len]; omega), ba_len, hp]; simp [hr]
  have hb : rest.isEmpty = false := by simpa using hr
  have HD := hid hd
  have HC := hid (fun w => (first_ok s.size).yes s w t rest (Nat.le_refl _) (by omega) hp)
  clear hd hp hr
  go_enter Tryz.func36, Tryz.ntmps36
  go_wp2_with fail
  refine (HC.out _).mono ?_
  rintro e w1 ⟨v, rfl, hown, hbel⟩
  obtain ⟨a2, cap2, rfl⟩ := ow_shape hown
  clear hown
  obtain ⟨hcc, hff⟩ := bcell hbel
  have hsz : w.heap.size < w1.heap.size := by have := hbel.size; simp at this; omega
  go_wp2_with fail
  obtain ⟨c0, c1, c2⟩ := set3 (old_block hbel) (.bool false) (.string ⟨#[]⟩) (.slice none 0 0)
  refine bodyPost_ret (v := .tuple #[.agg #[.bool false, .string ⟨#[]⟩, .slice none 0 0], .int .i64 1]) (by simp [results, Tryz.results36, go_sem, c0, c1, c2, hsz]) rfl (decodeOk_err HD.out ?_)
  exact (box_below hbel _ _ _).alloc (by rw [box_size]; omega) _

set_option maxHeartbeats 400000 in
theorem itemsDecode_deep (h : s.size ≤ 1000) (t : Itm) (hp : Itm.parse s.size s.data.toList = some (t, [])) (hd8 : 8 < Itm.deep t) : Calls Tryz.prog 36 #[.string s] w (DecodeOk s w) := by
  have hd : Itm.dec s.data.toList = .error 2 := by unfold Itm.dec; rw [if_neg (by rw [ba_len]; omega), ba_len, hp]; simp [hd8]
  have hdl : Itm.deep t ≤ 1000000000 := by
    have h1 := Itm.deep_le_enc t
    have h2 := (Itm.parse_sound _ _ _ _ hp).1
    have h3 : s.size = (Itm.enc t).length := by rw [← ba_len, h2]; simp
    omega
  have HD := hid hd
  have HC := hid (fun w => (first_ok s.size).yes s w t [] (Nat.le_refl _) (by omega) hp)
  clear hd hp
  go_enter Tryz.func36, Tryz.ntmps36
  go_wp2_with fail
  refine (HC.out _).mono ?_
  rintro e w1 ⟨v, rfl, hown, hbel⟩
  have hrep := rep_of_own _ _ _ _ _ (Nat.le_refl _) hown
  obtain ⟨a2, cap2, rfl⟩ := ow_shape hown
  have HR := hid hrep
  clear hown hrep
  obtain ⟨hcc, hff⟩ := bcell hbel
  have hsz : w.heap.size < w1.heap.size := by have := hbel.size; simp at this; omega
  go_wp2_with fail
  refine (depth_any _ _ t _ (rep_in HR.out ((Below.refl _ _).alloc (Nat.le_refl _) _)) hdl).mono ?_
  rintro e w2 ⟨rfl, hbel2⟩
  obtain ⟨hcc2, hff2⟩ := bcell hbel2
  have hsz1 : w.heap.size < w1.heap.size + 1 := by omega
  go_wp2_with fail
  have hb3 : Below (w.alloc (.cells #[.bool false, .string ⟨#[]⟩, .slice none 0 0] 50)).heap.size (w.alloc (.cells #[.bool false, .string ⟨#[]⟩, .slice none 0 0] 50)) w2 :=
    (hbel.alloc hbel.size _).trans (hbel2.mono (by have := hbel.size; simp at this ⊢; omega))
  obtain ⟨c0, c1, c2⟩ := set3 (old_block hb3) (.bool false) (.string ⟨#[]⟩) (.slice none 0 0)
  exact bodyPost_ret (v := .tuple #[.agg #[.bool false, .string ⟨#[]⟩, .slice none 0 0], .int .i64 2]) (by simp [results, Tryz.results36, go_sem, c0, c1, c2]) rfl (decodeOk_err HD.out (box_below hb3 _ _ _))

set_option maxHeartbeats 400000 in
theorem itemsDecode_yes (h : s.size ≤ 1000) (t : Itm) (hp : Itm.parse s.size s.data.toList = some (t, [])) (hd8 : Itm.deep t ≤ 8) : Calls Tryz.prog 36 #[.string s] w (DecodeOk s w) := by
  have hd : Itm.dec s.data.toList = .ok t := by
    unfold Itm.dec; rw [if_neg (by rw [ba_len]; omega), ba_len, hp]; simp; omega
  have HD := hid hd
  have HC := hid (fun w => (first_ok s.size).yes s w t [] (Nat.le_refl _) (by omega) hp)
  clear hd hp
  go_enter Tryz.func36, Tryz.ntmps36
  go_wp2_with fail
  refine (HC.out _).mono ?_
  rintro e w1 ⟨v, rfl, hown, hbel⟩
  have hrep := rep_of_own _ _ _ _ _ (Nat.le_refl _) hown
  obtain ⟨a2, cap2, rfl⟩ := ow_shape hown
  have HR := hid hrep
  have HO := hid hown
  clear hown hrep
  obtain ⟨hcc, hff⟩ := bcell hbel
  have hsz : w.heap.size < w1.heap.size := by have := hbel.size; simp at this; omega
  go_wp2_with fail
  refine (depth_any _ _ t _ (rep_in HR.out ((Below.refl _ _).alloc (Nat.le_refl _) _)) (by omega)).mono ?_
  rintro e w2 ⟨rfl, hbel2⟩
  obtain ⟨hcc2, hff2⟩ := bcell hbel2
  have hsz1 : w.heap.size < w1.heap.size + 1 := by omega
  go_wp2_with fail
  have hb3 : Below (w.alloc (.cells #[.bool false, .string ⟨#[]⟩, .slice none 0 0] 50)).heap.size (w.alloc (.cells #[.bool false, .string ⟨#[]⟩, .slice none 0 0] 50)) w2 :=
    (hbel.alloc hbel.size _).trans (hbel2.mono (by have := hbel.size; simp at this ⊢; omega))
  obtain ⟨c0, c1, c2⟩ := set3 (old_block hb3) (.bool t.list) (.string ⟨t.bytes.toArray⟩) (.slice a2 t.items.length cap2)
  refine bodyPost_ret (v := .tuple #[.agg #[.bool t.list, .string ⟨t.bytes.toArray⟩, .slice a2 t.items.length cap2], .int .i64 0]) (by simp [results, Tryz.results36, go_sem, c0, c1, c2]) rfl ⟨fun n hn => ?_, fun t' ht' => ?_, box_below hb3 _ _ _⟩
  · rw [HD.out] at hn; cases hn
  · rw [HD.out] at ht'
    cases ht'
    refine ⟨_, rfl, ?_⟩
    rw [box_size]
    refine own_widen (lo := w.heap.size + 1) (hi := w1.heap.size) (ow_box _ _ _ ?_) (Nat.le_succ _) (by have := hbel2.size; simp at this; omega)
    refine own_frame _ _ _ _ _ ?_ (by have := HO.out; unfold Ow at this; simpa using this)
    intro k _ hk
    rw [hbel2.block k (by simp; omega)]
    exact Below.heap_alloc _ _ _ hk

theorem itemsDecode_any : Calls Tryz.prog 36 #[.string s] w (DecodeOk s w) := by
  by_cases h : 1000 < s.size
  · exact itemsDecode_big s w h
  · cases hp : Itm.parse s.size s.data.toList with
    | none => exact itemsDecode_none s w (by omega) hp
    | some tr =>
      obtain ⟨t, rest⟩ := tr
      by_cases hr : rest = []
      · subst hr
        by_cases h8 : 8 < Itm.deep t
        · exact itemsDecode_deep s w (by omega) t hp h8
        · exact itemsDecode_yes s w (by omega) t hp (by omega)
      · exact itemsDecode_rest s w (by omega) t rest hp hr

set_option maxHeartbeats 400000 in
theorem decode_any : Calls Tryz.prog 20 #[.string s] w (DecodeOk s w) := by
  have HC := hid (fun w => itemsDecode_any s w)
  go_enter Tryz.func20, Tryz.ntmps20
  go_wp2_with fail
  refine (HC.out _).mono ?_
  rintro e w1 ⟨h1, h2, hbel⟩
  have H1 := hid h1
  have H2 := hid h2
  clear h1 h2
  cases hd : Itm.dec s.data.toList with
  | error n =>
    obtain rfl := H1.out n hd
    have HD := hid hd
    clear hd
    obtain ⟨hcc, hff⟩ := bcell hbel
    go_wp2_with fail
    obtain ⟨c0, c1, c2⟩ := set3 (old_block hbel) (.bool false) (.string ⟨#[]⟩) (.slice none 0 0)
    exact bodyPost_ret (v := .tuple #[.agg #[.bool false, .string ⟨#[]⟩, .slice none 0 0], .int .i64 n]) (by simp [results, Tryz.results20, go_sem, c0, c1, c2]) rfl (decodeOk_err HD.out (box_below hbel _ _ _))
  | ok t =>
    obtain ⟨v, rfl, hown⟩ := H2.out t hd
    have HD := hid hd
    have HO := hid hown
    obtain ⟨a2, cap2, rfl⟩ := ow_shape hown
    clear hd hown
    obtain ⟨hcc, hff⟩ := bcell hbel
    go_wp2_with fail
    obtain ⟨c0, c1, c2⟩ := set3 (old_block hbel) (.bool t.list) (.string ⟨t.bytes.toArray⟩) (.slice a2 t.items.length cap2)
    refine bodyPost_ret (v := .tuple #[.agg #[.bool t.list, .string ⟨t.bytes.toArray⟩, .slice a2 t.items.length cap2], .int .i64 0]) (by simp [results, Tryz.results20, go_sem, c0, c1, c2]) rfl ⟨fun n hn => ?_, fun t' ht' => ?_, box_below hbel _ _ _⟩
    · rw [HD.out] at hn; cases hn
    · rw [HD.out] at ht'
      cases ht'
      refine ⟨_, rfl, ?_⟩
      rw [box_size]
      refine own_widen (lo := w.heap.size + 1) (ow_box _ _ _ ?_) (Nat.le_succ _) (Nat.le_refl _)
      have := HO.out
      simpa using this
end
end Go.Proofs.YtbmohenjphmlgabGreat

/- Plain mathematics of items and their bytes. Nothing of the program is in here. -/
namespace Go.Proofs.YtbmohenjphmlgabGreat
open Go.RowKit
set_option maxRecDepth 100000

namespace Itm
theorem cnt_le_enc (t : Itm) : pure t = true → cnt t ≤ (enc t).length := by
  refine ind (p := fun t => pure t = true → cnt t ≤ (enc t).length) ?_ t
  intro t ih hp
  rw [pure_eq] at hp
  simp only [Bool.and_eq_true] at hp
  obtain ⟨hp1, hp2⟩ := hp
  rw [cnt_eq, enc_eq]
  by_cases hl : t.list
  · rw [if_pos hl]
    have h1 := headed_len 192 (t.items.flatMap enc)
    have h2 : ∀ l : List Itm, (∀ x ∈ l, cnt x ≤ (enc x).length) → (l.map cnt).sum ≤ (l.flatMap enc).length := by
      intro l
      induction l with
      | nil => intro _; simp
      | cons x l ihl =>
        intro hx
        have a1 := hx x (by simp)
        have a2 := ihl (fun y hy => hx y (by simp [hy]))
        simp only [List.map_cons, List.sum_cons, List.flatMap_cons, List.length_append]
        omega
    have h3 := h2 t.items (fun x hx => ih x hx (by simp only [List.all_eq_true] at hp2; exact hp2 x hx))
    omega
  · rw [if_neg hl] at hp1 ⊢
    have h0 : t.items = [] := by simpa using hp1
    have hne := enc_ne t
    rw [enc_eq, if_neg hl] at hne
    have := List.length_pos_iff.2 hne
    rw [h0]; simp; omega

/-- Bytes begin with one item's bytes alone. -/
theorem enc_prefix {t t' : Itm} {r r' : List UInt8} (h1 : pure t = true) (h2 : pure t' = true) (l1 : (enc t).length < 256 ^ 8) (l2 : (enc t').length < 256 ^ 8) (h : enc t ++ r = enc t' ++ r') : t = t' ∧ r = r' := by
  have e1 := parse_complete ((enc t).length + (enc t').length) t r h1 (by omega) l1
  have e2 := parse_complete ((enc t).length + (enc t').length) t' r' h2 (by omega) l2
  rw [h, e2] at e1
  simp only [Option.some.injEq, Prod.mk.injEq] at e1
  exact ⟨e1.1.symm, e1.2.symm⟩

theorem dec_enc {t : Itm} (h1 : pure t = true) (h2 : deep t ≤ 8) (h3 : (enc t).length ≤ 1000) : dec (enc t) = .ok t := by
  unfold dec
  rw [if_neg (by omega)]
  have := parse_complete (enc t).length t [] h1 (Nat.le_refl _) (by omega)
  rw [List.append_nil] at this
  rw [this]
  simp; omega

theorem dec_ok {l : List UInt8} {t : Itm} (h : dec l = .ok t) : l = enc t ∧ pure t = true ∧ deep t ≤ 8 ∧ l.length ≤ 1000 := by
  unfold dec at h
  by_cases h1 : 1000 < l.length
  · rw [if_pos h1] at h; cases h
  · rw [if_neg h1] at h
    cases hp : parse l.length l with
    | none => rw [hp] at h; cases h
    | some tr =>
      obtain ⟨t', rest⟩ := tr
      rw [hp] at h
      simp only at h
      by_cases hr : rest.isEmpty
      · rw [if_pos hr] at h
        by_cases h8 : 8 < deep t'
        · rw [if_pos h8] at h; cases h
        · rw [if_neg h8] at h
          cases h
          obtain ⟨e, p⟩ := parse_sound _ _ _ _ hp
          simp at hr
          subst hr
          exact ⟨by simpa using e, p, by omega, by omega⟩
      · rw [if_neg hr] at h; cases h

theorem dec_err {l : List UInt8} {n : Nat} (h : dec l = .error n) : n = 1 ∨ n = 2 := by
  unfold dec at h
  by_cases h1 : 1000 < l.length
  · rw [if_pos h1] at h; cases h; omega
  · rw [if_neg h1] at h
    cases hp : parse l.length l with
    | none => rw [hp] at h; cases h; omega
    | some tr =>
      obtain ⟨t', rest⟩ := tr
      rw [hp] at h
      simp only at h
      by_cases hr : rest.isEmpty
      · rw [if_pos hr] at h
        by_cases h8 : 8 < deep t'
        · rw [if_pos h8] at h; cases h; omega
        · rw [if_neg h8] at h; cases h
      · rw [if_neg hr] at h; cases h; omega

theorem dec_more {t : Itm} (h1 : pure t = true) (h3 : (enc t).length ≤ 1000) (c : UInt8) : ∃ n, dec (enc t ++ [c]) = .error n := by
  cases h : dec (enc t ++ [c]) with
  | error n => exact ⟨n, rfl⟩
  | ok t' =>
    exfalso
    obtain ⟨e, p, _, hl⟩ := dec_ok h
    have := (enc_prefix (r := [c]) (r' := []) h1 p (by omega) (by rw [← e]; omega) (by rw [e]; simp)).2
    simp at this

theorem dec_less {t : Itm} (h1 : pure t = true) (h3 : (enc t).length ≤ 1000) : dec ((enc t).take ((enc t).length - 1)) = .error 1 := by
  have hne := enc_ne t
  have hpos := List.length_pos_iff.2 hne
  unfold dec
  rw [if_neg (by simp; omega)]
  cases hp : parse ((enc t).take ((enc t).length - 1)).length ((enc t).take ((enc t).length - 1)) with
  | none => rfl
  | some tr =>
    obtain ⟨t', rest⟩ := tr
    simp only
    by_cases hr : rest.isEmpty
    · exfalso
      obtain ⟨e, p⟩ := parse_sound _ _ _ _ hp
      simp at hr
      subst hr
      rw [List.append_nil] at e
      have hl : (enc t').length = (enc t).length - 1 := by rw [← e]; simp
      have := (enc_prefix (t := t) (t' := t') (r := []) (r' := (enc t).drop ((enc t).length - 1)) h1 p (by omega) (by omega) (by rw [← e]; simp)).2
      have h2 : ((enc t).drop ((enc t).length - 1)).length = 1 := by simp; omega
      rw [← this] at h2
      simp at h2
    · rw [if_neg hr]
end Itm
end Go.Proofs.YtbmohenjphmlgabGreat

/- What all nodes have in common (of the program): Kind, Item, Bytes, Sum; bytesItem, listItem. -/
namespace Go.Proofs.YtbmohenjphmlgabGreat
open Go.RowKit
set_option maxRecDepth 100000

set_option maxHeartbeats 1600000 in
theorem bytesItem_any (s : ByteArray) (w : World) : Calls Tryz.prog 88 #[.string s] w fun e w' => e = .returned (.agg #[.bool false, .string s, .slice none 0 0]) ∧ Below w.heap.size w w' := by
  go_enter Tryz.func88, Tryz.ntmps88
  go_wp2_with fail
  exact bodyPost_ret (v := .agg #[.bool false, .string s, .slice none 0 0]) (by simp [results, Tryz.results88, go_sem]) rfl ⟨rfl, (Below.refl _ _).alloc (Nat.le_refl _) _⟩

set_option maxHeartbeats 1600000 in
theorem listItem_any (a : Option Addr) (n cap : Nat) (w : World) : Calls Tryz.prog 89 #[.slice a n cap] w fun e w' => e = .returned (.agg #[.bool true, .string ⟨#[]⟩, .slice a n cap]) ∧ Below w.heap.size w w' := by
  go_enter Tryz.func89, Tryz.ntmps89
  go_wp2_with fail
  exact bodyPost_ret (v := .agg #[.bool true, .string ⟨#[]⟩, .slice a n cap]) (by simp [results, Tryz.results89, go_sem]) rfl ⟨rfl, (Below.refl _ _).alloc (Nat.le_refl _) _⟩

set_option maxHeartbeats 1600000 in
theorem commonItem_any (k : Int) (a : Option Addr) (n cap : Nat) (l : Bool) (s : ByteArray) (w : World) : Calls Tryz.prog 139 #[.agg #[.int .i64 k, .bool l, .string s, .slice a n cap]] w fun e w' => e = .returned (.agg #[.bool l, .string s, .slice a n cap]) ∧ Below w.heap.size w w' := by
  go_enter Tryz.func139, Tryz.ntmps139
  go_wp2_with fail
  exact bodyPost_ret (v := .agg #[.bool l, .string s, .slice a n cap]) (by simp [results, Tryz.results139, go_sem]) rfl ⟨rfl, ((Below.refl _ _).alloc (Nat.le_refl _) _).alloc (by simp) _⟩

set_option maxHeartbeats 1600000 in
theorem commonKind_any (k : Int) (a : Option Addr) (n cap : Nat) (l : Bool) (s : ByteArray) (w : World) : Calls Tryz.prog 140 #[.agg #[.int .i64 k, .bool l, .string s, .slice a n cap]] w fun e w' => e = .returned (.int .i64 k) ∧ Below w.heap.size w w' := by
  go_enter Tryz.func140, Tryz.ntmps140
  go_wp2_with fail
  go_ret
  exact ⟨rfl, (Below.refl _ _).alloc (Nat.le_refl _) _⟩

/-- An item that can be written: of a node. -/
structure Small (t : Itm) : Prop where
  pure : Itm.pure t = true
  deep : Itm.deep t ≤ 8
  len : (Itm.enc t).length ≤ 1000

theorem node_small (f : Nat) (l : List Tr.Ent) (hf : f ≤ 100) (h : Tr.Fits f l) : Small (Tr.node f l) := ⟨Tr.node_pure f l, Tr.node_deep f l, Nat.le_trans (Tr.node_len f l hf h) (by decide)⟩

theorem Small.cnt {t : Itm} (h : Small t) : Itm.cnt t ≤ 1000000000 := Nat.le_trans (Itm.cnt_le_enc t h.pure) (Nat.le_trans h.len (by decide))

set_option maxHeartbeats 1600000 in
theorem commonBytes_any (k : Int) (a : Option Addr) (n cap : Nat) (l : Bool) (s : ByteArray) (m : Nat) (t : Itm) (w : World) (hs : Small t) (hr : Rep w.heap.size w (m + 1) (.agg #[.bool l, .string s, .slice a n cap]) t) : Calls Tryz.prog 108 #[.agg #[.int .i64 k, .bool l, .string s, .slice a n cap]] w fun e w' => e = .returned (.string ⟨(Itm.enc t).toArray⟩) ∧ Below w.heap.size w w' := by
  have HE := hid (fun w h => itemsEncode_any m t w (.agg #[.bool l, .string s, .slice a n cap]) hs.cnt h)
  have HA := hid (Itm.encA_ok hs.pure ⟨hs.deep, hs.len⟩)
  have HR := hid hr
  clear hr
  go_enter Tryz.func108, Tryz.ntmps108
  go_wp2_with fail
  refine (HE.out _ (rep_later ((Below.refl _ _).alloc (Nat.le_refl _) _) HR.out)).mono ?_
  rintro e w1 ⟨rfl, b1⟩
  rw [HA.out]
  go_wp2_with fail
  go_ret
  exact ⟨rfl, ((Below.refl _ _).alloc (Nat.le_refl _) _).trans (b1.mono (by simp))⟩

set_option maxHeartbeats 1600000 in
theorem commonSum_any (k : Int) (a : Option Addr) (n cap : Nat) (l : Bool) (s : ByteArray) (m : Nat) (t : Itm) (w : World) (hs : Small t) (hr : Rep w.heap.size w (m + 1) (.agg #[.bool l, .string s, .slice a n cap]) t) : Calls Tryz.prog 92 #[.agg #[.int .i64 k, .bool l, .string s, .slice a n cap]] w fun e w' => e = .returned (.string ⟨(Tr.sum (Itm.enc t)).toArray⟩) ∧ Below w.heap.size w w' := by
  have HE := hid (fun w h => commonBytes_any k a n cap l s m t w hs h)
  have HS : Hid (∀ w, Calls Tryz.prog 107 #[.string ⟨(Itm.enc t).toArray⟩] w fun e w' => e = .returned (.string ⟨(Tr.sum (Itm.enc t)).toArray⟩) ∧ Below w.heap.size w w') := by
    intro w
    have := sumOf_any ⟨(Itm.enc t).toArray⟩ w (by rw [← ba_len]; have := hs.len; simp; omega)
    simpa using this
  have HR := hid hr
  clear hr
  go_enter Tryz.func92, Tryz.ntmps92
  go_wp2_with fail
  refine (HE.out _ (rep_later ((Below.refl _ _).alloc (Nat.le_refl _) _) HR.out)).mono ?_
  rintro e w1 ⟨rfl, b1⟩
  go_wp2_with fail
  refine (HS.out _).mono ?_
  rintro e w2 ⟨rfl, b2⟩
  go_wp2_with fail
  go_ret
  exact ⟨rfl, (((Below.refl _ _).alloc (Nat.le_refl _) _).trans (b1.mono (by simp))).trans (b2.mono (by have := b1.size; simp at this; omega))⟩
end Go.Proofs.YtbmohenjphmlgabGreat

/- Nodes as they lie in memory (of the program), and what is called on them through the interface: isShort, referenceTo, item. -/
namespace Go.Proofs.YtbmohenjphmlgabGreat
open Go.RowKit
set_option maxRecDepth 100000

/-- Items in a row of the call's own; what they hold lies in blocks that were there before. -/
def RowR (w : World) (base : Nat) (m : Nat) (v : Value) (ts : List Itm) : Prop :=
  ∃ xs, w.ownsRow base 50 3 v ts.length xs ∧ ∀ i (h : i < ts.length), Rep base w m (tri xs i) ts[i]

theorem rowR_nil (w : World) (base m : Nat) : RowR w base m (.slice none 0 0) [] := ⟨[], World.ownsRow_nil _ _ _ _, fun i hi => by simp at hi⟩

theorem rowR_shape {w : World} {base m : Nat} {v : Value} {ts : List Itm} (h : RowR w base m v ts) : ∃ a cap, v = .slice a ts.length cap := by
  obtain ⟨xs, ho, _⟩ := h
  rcases ho.2 with ⟨rfl, h0⟩ | ⟨g, cap, cur, rfl, _⟩
  · exact ⟨none, 0, by rw [h0]⟩
  · exact ⟨_, cap, rfl⟩

theorem rowR_later {w w' : World} {base m : Nat} {v : Value} {ts : List Itm} (h : RowR w base m v ts) (hb : Below w.heap.size w w') (hB : base ≤ w.heap.size) : RowR w' base m v ts := by
  obtain ⟨xs, ho, hr⟩ := h
  exact ⟨xs, owns_frame ho (fun g hg => hb.block g (ho.lt g hg).2), fun i hi => rep_frame (hb.mono hB) _ _ _ (hr i hi)⟩

/-- A list of these items can be read. -/
theorem rowR_rep {w : World} {base m : Nat} {a : Option Addr} {n cap : Nat} {ts : List Itm} (h : RowR w base m (.slice a n cap) ts) (hB : base ≤ w.heap.size) (hl : ts.length ≤ maxLen) : Rep w.heap.size w (m + 1) (.agg #[.bool true, .string ⟨#[]⟩, .slice a n cap]) (Tr.itL ts) := by
  obtain ⟨xs, ho, hr⟩ := h
  rcases ho.2 with ⟨he, h0⟩ | ⟨g, cap', cur, he, hb, hg, _⟩
  · have : ts = [] := List.eq_nil_of_length_eq_zero h0
    subst this
    simp only [Value.slice.injEq] at he
    obtain ⟨rfl, rfl, rfl⟩ := he
    exact ⟨none, 0, rfl, by simp [Tr.itL], fun i hi => by simp [Tr.itL] at hi⟩
  · simp only [Value.slice.injEq] at he
    obtain ⟨rfl, rfl, rfl⟩ := he
    refine ⟨_, _, rfl, hl, fun i hi => ?_⟩
    have hi' : i < ts.length := hi
    obtain ⟨c0, c1, c2⟩ := tri_cells ho i hi'
    refine ⟨g, 0, _, _, _, rfl, (Array.getElem?_eq_some_iff.1 hg).1, c0, c1, c2, ?_⟩
    exact rep_wider hB _ _ _ (hr i hi')

theorem rep_one {B : Nat} {w : World} {m : Nat} {c0 c1 c2 : Value} {t : Itm} (h : Rep B w m (.agg #[c0, c1, c2]) t) : c0.oneCell' = true ∧ c1.oneCell' = true ∧ c2.oneCell' = true := by
  obtain ⟨a, cap, rfl, rfl, rfl⟩ := rep_shape h
  exact ⟨rfl, rfl, rfl⟩

/-- An item that was just laid is appended to such a row: for a walk. -/
theorem wpList_push_item {ops : Array Oper} {rest : List Oper} {o : Oper} {act : Act} {Q' : Exit → Act → World → Prop} (hgd : o.guard = none) (s x : Operand)
    (hop : o.op = .call { callee := .builtin .append, args := #[s, x], argTypes := #[48, 48] }) {W wr : World} {base m : Nat} {v1 a b c : Value} {ts : List Itm} {t : Itm} (L : Nat) (hL : wr.heap.size = L)
    (hs : act.eval s = v1) (hx : act.eval x = .slice (some ⟨L, 0, none⟩) 1 1) (ho : RowR wr base m v1 ts) (hb : Below base W wr) (hB : base ≤ W.heap.size) (hr : Rep base wr m (.agg #[a, b, c]) t) (hlen : ts.length ≤ 1000000)
    (h : ∀ v' w', RowR w' base m v' (ts ++ [t]) → Below base W w' → wpList Tryz.prog ops Q' rest (act.put o.dst v') w') : wpList Tryz.prog ops Q' (o :: rest) act (wr.alloc (.cells #[a, b, c] 50)) := by
  subst hL
  obtain ⟨i0, hi, hz0, hz1, hz2⟩ := info_parts infoItem
  have hbW : Below wr.heap.size wr (wr.alloc (.cells #[a, b, c] 50)) := (Below.refl _ _).alloc (Nat.le_refl _) _
  have hBr : base ≤ wr.heap.size := Nat.le_trans hB hb.size
  have hBw : base ≤ (wr.alloc (.cells #[a, b, c] 50)).heap.size := by simp; omega
  obtain ⟨xs, hrow, hrs⟩ := rowR_later ho hbW hBr
  have hone := rep_one hr
  refine wpList_append_mine _ hgd s x 48 hop base 50 i0 _ 3 48 Tryz.underlying48 hi hz0 hz1 hz2 rfl (by decide) v1 ts.length xs hs hrow ⟨wr.heap.size, 0, none⟩ 1 1 [a, b, c] hx rfl (cells_three wr a b c 50) ?_ (by unfold maxLen; omega) (by omega) hBw ?_
  · intro u hu
    simp only [List.mem_cons, List.not_mem_nil, or_false] at hu
    rcases hu with rfl | rfl | rfl
    · exact hone.1
    · exact hone.2.1
    · exact hone.2.2
  · intro v' w' ho' hg _
    have hb3 : Below base (wr.alloc (.cells #[a, b, c] 50)) w' := (Below.refl _ _).grown hg hBw (fun g hgg => (hrow.lt g hgg).1)
    refine h v' w' ⟨xs ++ [a, b, c], ?_, ?_⟩ ((hb.trans (hbW.mono hBr)).trans hb3)
    · rw [List.length_append]; exact ho'
    · intro i hi
      rw [List.length_append, List.length_singleton] at hi
      by_cases hlt : i < ts.length
      · rw [tri_left xs [a, b, c] i ts.length hrow.1 hlt, List.getElem_append_left hlt]
        exact rep_frame hb3 _ _ _ (hrs i hlt)
      · obtain rfl : i = ts.length := by omega
        rw [tri_new xs a b c ts.length hrow.1]
        simp only [List.getElem_append_right (Nat.le_refl _), Nat.sub_self, List.getElem_cons_zero]
        exact rep_frame ((hbW.mono hBr).trans hb3) _ _ _ hr

/-- Two items in a new row. -/
theorem rowR_two {w : World} {base m : Nat} {a b c a' b' c' : Value} {t t' : Itm} (hB : base ≤ w.heap.size) (h1 : Rep base w m (.agg #[a, b, c]) t) (h2 : Rep base w m (.agg #[a', b', c']) t') : RowR (w.alloc (.cells #[a, b, c, a', b', c'] 50)) base m (.slice (some ⟨w.heap.size, 0, none⟩) 2 2) [t, t'] := by
  have hbW : Below base w (w.alloc (.cells #[a, b, c, a', b', c'] 50)) := (Below.refl _ _).alloc hB _
  refine ⟨_, World.ownsRow_lit w #[a, b, c, a', b', c'] 2 hB (by unfold maxLen; omega) rfl, ?_⟩
  intro i hi
  match i, hi with
  | 0, _ => exact rep_frame hbW _ _ _ h1
  | 1, _ => exact rep_frame hbW _ _ _ h2

theorem rep_bytes (B : Nat) (w : World) (m : Nat) (s : List UInt8) : Rep B w (m + 1) (.agg #[.bool false, .string ⟨s.toArray⟩, .slice none 0 0]) (Tr.itB s) := ⟨none, 0, rfl, by simp [Tr.itB], fun i hi => by simp [Tr.itB] at hi⟩

/-- What a node begins with, of whatever kind. -/
def Nd (v : Value) (k : Int) (l : Bool) (s : ByteArray) (a : Option Addr) (n cap : Nat) : Prop :=
  ∃ T A, (T = 141 ∨ T = 145 ∨ T = 149 ∨ T = 112) ∧ v = .iface T (.agg A) ∧ A.extract 0 4 = #[.int .i64 k, .bool l, .string s, .slice a n cap]

theorem nd_call {v : Value} {k : Int} {l : Bool} {s : ByteArray} {a : Option Addr} {n cap : Nat} (h : Nd v k l s a n cap) : ∃ T A, v = .iface T (.agg A) ∧
    (∀ w, (method 294 T (.agg A) "Bytes").run Tryz.prog w = .ok (108, .agg #[.int .i64 k, .bool l, .string s, .slice a n cap]) w) ∧
    (∀ w, (method 294 T (.agg A) "Item").run Tryz.prog w = .ok (139, .agg #[.int .i64 k, .bool l, .string s, .slice a n cap]) w) ∧
    (∀ w, (method 294 T (.agg A) "Kind").run Tryz.prog w = .ok (140, .agg #[.int .i64 k, .bool l, .string s, .slice a n cap]) w) ∧
    (∀ w, (method 294 T (.agg A) "Sum").run Tryz.prog w = .ok (92, .agg #[.int .i64 k, .bool l, .string s, .slice a n cap]) w) := by
  obtain ⟨T, A, hT, rfl, hA⟩ := h
  refine ⟨T, A, rfl, ?_⟩
  rw [← hA]
  rcases hT with rfl | rfl | rfl | rfl
  · exact ⟨fun _ => by kernel_rfl, fun _ => by kernel_rfl, fun _ => by kernel_rfl, fun _ => by kernel_rfl⟩
  · exact ⟨fun _ => by kernel_rfl, fun _ => by kernel_rfl, fun _ => by kernel_rfl, fun _ => by kernel_rfl⟩
  · exact ⟨fun _ => by kernel_rfl, fun _ => by kernel_rfl, fun _ => by kernel_rfl, fun _ => by kernel_rfl⟩
  · exact ⟨fun _ => by kernel_rfl, fun _ => by kernel_rfl, fun _ => by kernel_rfl, fun _ => by kernel_rfl⟩

theorem dec8 (n : Nat) : decide ((n : Int) < 8) = decide (n < 8) := by
  rw [Bool.eq_iff_iff, decide_eq_true_eq, decide_eq_true_eq]; omega

set_option maxHeartbeats 1600000 in
theorem isShort_any {v : Value} {k : Int} {l : Bool} {s : ByteArray} {a : Option Addr} {n cap m : Nat} {t : Itm} (w : World) (h : Nd v k l s a n cap) (hs : Small t) (hr : Rep w.heap.size w (m + 1) (.agg #[.bool l, .string s, .slice a n cap]) t) : Calls Tryz.prog 109 #[v] w fun e w' => e = .returned (.bool (decide ((Itm.enc t).length < 8))) ∧ Below w.heap.size w w' := by
  obtain ⟨T, A, rfl, hm, _⟩ := nd_call h
  have HB := hid (fun w h => commonBytes_any k a n cap l s m t w hs h)
  have HR := hid hr
  clear hr h
  go_enter Tryz.func109, Tryz.ntmps109
  go_wp2_with fail
  refine (HB.out _ HR.out).mono ?_
  rintro e w1 ⟨rfl, b1⟩
  go_wp2_with fail
  go_ret
  exact ⟨congrArg (fun b => Ending.returned (.bool b)) (dec8 _), b1⟩

theorem set2 {w1 : World} {g : Nat} {x0 x1 : Value} {e : TypeId} {fz : Nat × Nat} (h : w1.heap[g]? = some (.cells #[x0, x1] e fz)) (a b : Value) :
    ((w1.setCell ⟨g, 0, none⟩ a).setCell ⟨g, 1, none⟩ b).cell? ⟨g, 0, none⟩ = some a ∧
    ((w1.setCell ⟨g, 0, none⟩ a).setCell ⟨g, 1, none⟩ b).cell? ⟨g, 1, none⟩ = some b := by
  simp [World.setCell, World.cell?, Array.getElem?_modify, h]

theorem box2_below {w w1 : World} {O : Obj} (hb : Below (w.alloc O).heap.size (w.alloc O) w1) (a b : Value) :
    Below w.heap.size w ((w1.setCell ⟨w.heap.size, 0, none⟩ a).setCell ⟨w.heap.size, 1, none⟩ b) := by
  have h1 : Below w.heap.size w w1 := ((Below.refl w.heap.size w).alloc (Nat.le_refl _) O).trans (hb.mono (by simp))
  exact (h1.setCell (p := ⟨w.heap.size, 0, none⟩) (Nat.le_refl _) a).setCell (p := ⟨w.heap.size, 1, none⟩) (Nat.le_refl _) b

/-- What a reference has for the sum of its node. -/
def refSum (t : Itm) : ByteArray := if (Itm.enc t).length < 8 then ⟨#[]⟩ else ⟨(Tr.sum (Itm.enc t)).toArray⟩

set_option maxHeartbeats 1600000 in
theorem referenceTo_any {v : Value} {k : Int} {l : Bool} {s : ByteArray} {a : Option Addr} {n cap m : Nat} {t : Itm} (w : World) (h : Nd v k l s a n cap) (hs : Small t) (hr : Rep w.heap.size w (m + 1) (.agg #[.bool l, .string s, .slice a n cap]) t) : Calls Tryz.prog 94 #[v] w fun e w' => e = .returned (.agg #[.string (refSum t), v]) ∧ Below w.heap.size w w' := by
  have HS := hid (fun w => isShort_any w h hs (t := t) (m := m))
  obtain ⟨T, A, rfl, _, _, _, hm⟩ := nd_call h
  have HM := hid (fun w h => commonSum_any k a n cap l s m t w hs h)
  have HR := hid hr
  have HRS : Hid (refSum t = if (Itm.enc t).length < 8 then ⟨#[]⟩ else ⟨(Tr.sum (Itm.enc t)).toArray⟩) := rfl
  clear hr h
  go_enter Tryz.func94, Tryz.ntmps94
  go_wp2_with fail
  refine (HS.out _ (rep_later ((Below.refl _ _).alloc (Nat.le_refl _) _) HR.out)).mono ?_
  rintro e w1 ⟨rfl, b1⟩
  have hb0 := old_block b1
  have HBel : Hid (Below w.heap.size w w1) := ((Below.refl _ _).alloc (Nat.le_refl _) _).trans (b1.mono (by simp))
  by_cases h8 : (Itm.enc t).length < 8
  · rw [if_pos h8] at HRS
    rw [decide_eq_true h8]
    have q0 := cell_of_row _ _ 0 _ _ _ hb0
    have q1 := cell_of_row _ _ 1 _ _ _ hb0
    have hf0 := frozen_of_row _ _ 0 _ _ hb0
    have hf1 := frozen_of_row _ _ 1 _ _ hb0
    clear h8
    go_wp2_with fail
    obtain ⟨z0, z1⟩ := set2 hb0 (.string ⟨#[]⟩) (.iface T (.agg A))
    exact bodyPost_ret (v := .agg #[.string ⟨#[]⟩, .iface T (.agg A)]) (by simp [results, Tryz.results94, go_sem, z0, z1]) rfl ⟨by rw [HRS.out], box2_below b1 _ _⟩
  · rw [if_neg h8] at HRS
    rw [decide_eq_false h8]
    clear h8
    go_wp2_with fail
    refine (HM.out _ (rep_later HBel.out HR.out)).mono ?_
    rintro e w2 ⟨rfl, b2⟩
    have hbb := b1.trans (b2.mono b1.size)
    have hb0' := old_block hbb
    have q0 := cell_of_row _ _ 0 _ _ _ hb0'
    have q1 := cell_of_row _ _ 1 _ _ _ hb0'
    have hf0 := frozen_of_row _ _ 0 _ _ hb0'
    have hf1 := frozen_of_row _ _ 1 _ _ hb0'
    go_wp2_with fail
    obtain ⟨z0, z1⟩ := set2 hb0' (.string ⟨(Tr.sum (Itm.enc t)).toArray⟩) (.iface T (.agg A))
    exact bodyPost_ret (v := .agg #[.string ⟨(Tr.sum (Itm.enc t)).toArray⟩, .iface T (.agg A)]) (by simp [results, Tryz.results94, go_sem, z0, z1]) rfl ⟨by rw [HRS.out], box2_below hbb _ _⟩
end Go.Proofs.YtbmohenjphmlgabGreat

/- The walk of item (of a reference of the program); a node's value as the program builds it. -/
namespace Go.Proofs.YtbmohenjphmlgabGreat
open Go.RowKit
set_option maxRecDepth 100000

theorem refSum_none {t : Itm} (h : (Itm.enc t).length < 8) : refSum t = ⟨#[]⟩ := by unfold refSum; rw [if_pos h]
theorem refSum_some {t : Itm} (h : ¬ (Itm.enc t).length < 8) : refSum t = ⟨(Tr.sum (Itm.enc t)).toArray⟩ := by unfold refSum; rw [if_neg h]
theorem sum_full (t : Itm) : ((⟨(Tr.sum (Itm.enc t)).toArray⟩ : ByteArray).toList == []) = false := by
  rw [Lib.toList_data]
  have := Tr.sum_len (Itm.enc t)
  cases h : Tr.sum (Itm.enc t) with
  | nil => rw [h] at this; simp at this
  | cons c r => rfl

theorem old_block2 {w w1 : World} {X Y : Obj} (hb : Below ((w.alloc X).alloc Y).heap.size ((w.alloc X).alloc Y) w1) : w1.heap[w.heap.size + 1]? = some Y := by
  have := old_block hb
  rwa [alloc_size] at this

theorem below2 {w w1 : World} {X Y : Obj} (hb : Below ((w.alloc X).alloc Y).heap.size ((w.alloc X).alloc Y) w1) : Below w.heap.size w w1 :=
  (((Below.refl _ _).alloc (Nat.le_refl _) X).alloc (by simp) Y).trans (hb.mono (by simp; omega))

theorem three_below {B g : Nat} {w w1 : World} (h : Below B w w1) (hg : B ≤ g) (a b c : Value) : Below B w (((w1.setCell ⟨g, 0, none⟩ a).setCell ⟨g, 1, none⟩ b).setCell ⟨g, 2, none⟩ c) :=
  ((h.setCell (p := ⟨g, 0, none⟩) hg a).setCell (p := ⟨g, 1, none⟩) hg b).setCell (p := ⟨g, 2, none⟩) hg c

set_option maxHeartbeats 1600000 in
theorem refItem_of {v : Value} {k : Int} {l : Bool} {s : ByteArray} {a : Option Addr} {n cap : Nat} {t : Itm} (R : Value → Itm → Prop) (hRB : ∀ s : List UInt8, R (.agg #[.bool false, .string ⟨s.toArray⟩, .slice none 0 0]) (Tr.itB s)) (w : World) (h : Nd v k l s a n cap) (hr : R (.agg #[.bool l, .string s, .slice a n cap]) t) : Calls Tryz.prog 93 #[.agg #[.string (refSum t), v]] w fun e w' => ∃ l' s' a' n' cap', e = .returned (.agg #[.bool l', .string s', .slice a' n' cap']) ∧ R (.agg #[.bool l', .string s', .slice a' n' cap']) (Tr.ref t) ∧ Below w.heap.size w w' := by
  obtain ⟨T, A, rfl, _, hm, _⟩ := nd_call h
  have HI := hid (fun w => commonItem_any k a n cap l s w)
  have HBI := hid (fun s w => bytesItem_any s w)
  have HRF : Hid (Tr.ref t = if (Itm.enc t).length < 8 then t else Tr.itB (Tr.sum (Itm.enc t))) := rfl
  have HR := hid hr
  have HRB := hid hRB
  clear h hr hRB
  by_cases h8 : (Itm.enc t).length < 8
  · rw [refSum_none h8]
    rw [if_pos h8] at HRF
    clear h8
    go_enter Tryz.func93, Tryz.ntmps93
    go_wp2_with fail
    refine (HI.out _).mono ?_
    rintro e w1 ⟨rfl, b1⟩
    have hb0 := old_block2 b1
    have q0 := cell_of_row _ _ 0 _ _ _ hb0
    have q1 := cell_of_row _ _ 1 _ _ _ hb0
    have q2 := cell_of_row _ _ 2 _ _ _ hb0
    have hf0 := frozen_of_row _ _ 0 _ _ hb0
    have hf1 := frozen_of_row _ _ 1 _ _ hb0
    have hf2 := frozen_of_row _ _ 2 _ _ hb0
    have HB := hid (below2 b1)
    go_wp2_with fail
    obtain ⟨z0, z1, z2⟩ := set3 hb0 (.bool l) (.string s) (.slice a n cap)
    exact bodyPost_ret (v := .agg #[(.bool l), (.string s), (.slice a n cap)]) (by simp [results, Tryz.results93, go_sem, z0, z1, z2]) rfl ⟨_, _, _, _, _, rfl, by rw [HRF.out]; exact HR.out, three_below HB.out (by omega) _ _ _⟩
  · rw [refSum_some h8]
    rw [if_neg h8] at HRF
    have hsf := sum_full t
    clear h8
    go_enter Tryz.func93, Tryz.ntmps93
    go_wp2_with fail
    refine (HBI.out _ _).mono ?_
    rintro e w1 ⟨rfl, b1⟩
    have hb0 := old_block2 b1
    have q0 := cell_of_row _ _ 0 _ _ _ hb0
    have q1 := cell_of_row _ _ 1 _ _ _ hb0
    have q2 := cell_of_row _ _ 2 _ _ _ hb0
    have hf0 := frozen_of_row _ _ 0 _ _ hb0
    have hf1 := frozen_of_row _ _ 1 _ _ hb0
    have hf2 := frozen_of_row _ _ 2 _ _ hb0
    have HB := hid (below2 b1)
    go_wp2_with fail
    obtain ⟨z0, z1, z2⟩ := set3 hb0 (.bool false) (.string ⟨(Tr.sum (Itm.enc t)).toArray⟩) (.slice none 0 0)
    exact bodyPost_ret (v := .agg #[(.bool false), (.string ⟨(Tr.sum (Itm.enc t)).toArray⟩), (.slice none 0 0)]) (by simp [results, Tryz.results93, go_sem, z0, z1, z2]) rfl ⟨_, _, _, _, _, rfl, by rw [HRF.out]; exact HRB.out _, three_below HB.out (by omega) _ _ _⟩

theorem refItem_any {v : Value} {k : Int} {l : Bool} {s : ByteArray} {a : Option Addr} {n cap m B : Nat} {t : Itm} (w w0 : World) (h : Nd v k l s a n cap) (hr : Rep B w0 (m + 1) (.agg #[.bool l, .string s, .slice a n cap]) t) : Calls Tryz.prog 93 #[.agg #[.string (refSum t), v]] w fun e w' => ∃ l' s' a' n' cap', e = .returned (.agg #[.bool l', .string s', .slice a' n' cap']) ∧ Rep B w0 (m + 1) (.agg #[.bool l', .string s', .slice a' n' cap']) (Tr.ref t) ∧ Below w.heap.size w w' :=
  refItem_of (fun v t => Rep B w0 (m + 1) v t) (fun s => rep_bytes _ _ _ s) w h hr

/-- v is the item t, as it reads in w; all its lists lie in blocks from lo on, below B; at most n levels. -/
def RepW (lo B : Nat) (w : World) : Nat → Value → Itm → Prop
  | 0 => fun _ _ => False
  | n + 1 => fun v t => ∃ a cap, v = .agg #[.bool t.list, .string ⟨t.bytes.toArray⟩, .slice a t.items.length cap] ∧ t.items.length ≤ maxLen ∧
      ∀ i (h : i < t.items.length), ∃ b off c0 c1 c2, a = some ⟨b, off, none⟩ ∧ lo ≤ b ∧ b < B ∧ w.cell? ⟨b, off + i * 3, none⟩ = some c0 ∧ w.cell? ⟨b, off + i * 3 + 1, none⟩ = some c1 ∧ w.cell? ⟨b, off + i * 3 + 2, none⟩ = some c2 ∧
        RepW lo B w n (.agg #[c0, c1, c2]) t.items[i]

theorem repW_rep {lo B : Nat} {w : World} : ∀ (n : Nat) (v : Value) (t : Itm), RepW lo B w n v t → Rep B w n v t := by
  intro n
  induction n with
  | zero => intro v t h; exact h
  | succ n ih =>
    rintro v t ⟨a, cap, h1, h2, h3⟩
    refine ⟨a, cap, h1, h2, fun i hi => ?_⟩
    obtain ⟨b, off, c0, c1, c2, e, _, hlt, d0, d1, d2, hk⟩ := h3 i hi
    exact ⟨b, off, c0, c1, c2, e, hlt, d0, d1, d2, ih _ _ hk⟩

theorem repW_turn {lo lo' B B' : Nat} {w w' : World} (hlo : lo' ≤ lo) (hB : B ≤ B') (hb : ∀ k, lo ≤ k → k < B → w'.heap[k]? = w.heap[k]?) : ∀ (n : Nat) (v : Value) (t : Itm), RepW lo B w n v t → RepW lo' B' w' n v t := by
  intro n
  induction n with
  | zero => intro v t h; exact h
  | succ n ih =>
    rintro v t ⟨a, cap, h1, h2, h3⟩
    refine ⟨a, cap, h1, h2, fun i hi => ?_⟩
    obtain ⟨b, off, c0, c1, c2, e, hl, hlt, d0, d1, d2, hk⟩ := h3 i hi
    have hblk := hb b hl hlt
    exact ⟨b, off, c0, c1, c2, e, Nat.le_trans hlo hl, Nat.lt_of_lt_of_le hlt hB, (World.cell?_of_block (w := w) hblk).trans d0, (World.cell?_of_block (w := w) hblk).trans d1, (World.cell?_of_block (w := w) hblk).trans d2, ih _ _ hk⟩

theorem repW_later {lo : Nat} {w w' : World} {n : Nat} {v : Value} {t : Itm} (h : RepW lo w.heap.size w n v t) (hb : Below w.heap.size w w') : RepW lo w'.heap.size w' n v t := repW_turn (Nat.le_refl _) hb.size (fun k _ hk => hb.block k hk) n v t h

theorem repW_bytes (lo B : Nat) (w : World) (m : Nat) (s : List UInt8) : RepW lo B w (m + 1) (.agg #[.bool false, .string ⟨s.toArray⟩, .slice none 0 0]) (Tr.itB s) := ⟨none, 0, rfl, by simp [Tr.itB], fun i hi => by simp [Tr.itB] at hi⟩

theorem repW_string (lo B : Nat) (w : World) (m : Nat) (x : ByteArray) : RepW lo B w (m + 1) (.agg #[.bool false, .string x, .slice none 0 0]) (Tr.itB x.data.toList) := ⟨none, 0, by cases x; simp [Tr.itB], by simp [Tr.itB], fun i hi => by simp [Tr.itB] at hi⟩

/-- A list of items that are no lists, in a row from lo on. -/
theorem repW_flat {lo B : Nat} {w : World} {n : Nat} {x y : Value} {a : Option Addr} {k cap : Nat} {t : Itm} (h : Rep B w (n + 1) (.agg #[x, y, .slice a k cap]) t) (hf : ∀ u ∈ t.items, u.items = []) (ha : ∀ b off, a = some ⟨b, off, none⟩ → lo ≤ b) : RepW lo B w (n + 1) (.agg #[x, y, .slice a k cap]) t := by
  obtain ⟨a', cap', h1, h2, h3⟩ := h
  refine ⟨a', cap', h1, h2, fun i hi => ?_⟩
  obtain ⟨b, off, c0, c1, c2, e, hlt, d0, d1, d2, hk⟩ := h3 i hi
  have e2 : a = a' := by simp at h1; exact h1.2.2.1
  refine ⟨b, off, c0, c1, c2, e, ha b off (by rw [e2, e]), hlt, d0, d1, d2, ?_⟩
  cases n with
  | zero => exact hk
  | succ n =>
    obtain ⟨a2, cap2, g1, g2, _⟩ := hk
    have hu := hf _ (List.getElem_mem hi)
    exact ⟨a2, cap2, g1, g2, fun j hj => by rw [hu] at hj; simp at hj⟩
end Go.Proofs.YtbmohenjphmlgabGreat
