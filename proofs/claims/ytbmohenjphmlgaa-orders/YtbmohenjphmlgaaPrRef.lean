/- The walk of item (of a reference of the program); a node's value as the program builds it. -/
import Derived.Test.YtbmohenjphmlgaaPrNode
namespace Go.Proofs.Ytbmohenjphmlgaa
open Go.RowKit
set_option maxRecDepth 100000

theorem refSum_none {t : Itm} (h : (Itm.enc t).length < 8) : refSum t = ⟨#[]⟩ := by unfold refSum; rw [if_pos h]
theorem refSum_some {t : Itm} (h : ¬ (Itm.enc t).length < 8) : refSum t = ⟨(Tr.sum (Itm.enc t)).toArray⟩ := by unfold refSum; rw [if_neg h]
theorem sum_full (t : Itm) : ((⟨(Tr.sum (Itm.enc t)).toArray⟩ : ByteArray).toList == []) = false := by
  rw [Lib.toList_data]
  have := Tr.sum_len (Itm.enc t)
  cases h : Tr.sum (Itm.enc t) with
  | nil => rw [h] at this; simp at this
  | cons c r => rfl

theorem old_block2 {w w1 : World} {X Y : Obj} (hb : Below ((w.alloc X).alloc Y).heap.size ((w.alloc X).alloc Y) w1) : w1.heap[w.heap.size + 1]? = some Y := by
  have := old_block hb
  rwa [alloc_size] at this

theorem below2 {w w1 : World} {X Y : Obj} (hb : Below ((w.alloc X).alloc Y).heap.size ((w.alloc X).alloc Y) w1) : Below w.heap.size w w1 :=
  (((Below.refl _ _).alloc (Nat.le_refl _) X).alloc (by simp) Y).trans (hb.mono (by simp; omega))

theorem three_below {B g : Nat} {w w1 : World} (h : Below B w w1) (hg : B ≤ g) (a b c : Value) : Below B w (((w1.setCell ⟨g, 0, none⟩ a).setCell ⟨g, 1, none⟩ b).setCell ⟨g, 2, none⟩ c) :=
  ((h.setCell (p := ⟨g, 0, none⟩) hg a).setCell (p := ⟨g, 1, none⟩) hg b).setCell (p := ⟨g, 2, none⟩) hg c

set_option maxHeartbeats 1600000 in
theorem refItem_of {v : Value} {k : Int} {l : Bool} {s : ByteArray} {a : Option Addr} {n cap : Nat} {t : Itm} (R : Value → Itm → Prop) (hRB : ∀ s : List UInt8, R (.agg #[.bool false, .string ⟨s.toArray⟩, .slice none 0 0]) (Tr.itB s)) (w : World) (h : Nd v k l s a n cap) (hr : R (.agg #[.bool l, .string s, .slice a n cap]) t) : Calls Try.prog 117 #[.agg #[.string (refSum t), v]] w fun e w' => ∃ l' s' a' n' cap', e = .returned (.agg #[.bool l', .string s', .slice a' n' cap']) ∧ R (.agg #[.bool l', .string s', .slice a' n' cap']) (Tr.ref t) ∧ Below w.heap.size w w' := by
  obtain ⟨T, A, rfl, _, hm, _⟩ := nd_call h
  have HI := hid (fun w => commonItem_any k a n cap l s w)
  have HBI := hid (fun s w => bytesItem_any s w)
  have HRF : Hid (Tr.ref t = if (Itm.enc t).length < 8 then t else Tr.itB (Tr.sum (Itm.enc t))) := rfl
  have HR := hid hr
  have HRB := hid hRB
  clear h hr hRB
  by_cases h8 : (Itm.enc t).length < 8
  · rw [refSum_none h8]
    rw [if_pos h8] at HRF
    clear h8
    go_enter Try.func117, Try.ntmps117
    go_wp2_with fail
    refine (HI.out _).mono ?_
    rintro e w1 ⟨rfl, b1⟩
    have hb0 := old_block2 b1
    have q0 := cell_of_row _ _ 0 _ _ _ hb0
    have q1 := cell_of_row _ _ 1 _ _ _ hb0
    have q2 := cell_of_row _ _ 2 _ _ _ hb0
    have hf0 := frozen_of_row _ _ 0 _ _ hb0
    have hf1 := frozen_of_row _ _ 1 _ _ hb0
    have hf2 := frozen_of_row _ _ 2 _ _ hb0
    have HB := hid (below2 b1)
    go_wp2_with fail
    obtain ⟨z0, z1, z2⟩ := set3 hb0 (.bool l) (.string s) (.slice a n cap)
    exact bodyPost_ret (v := .agg #[(.bool l), (.string s), (.slice a n cap)]) (by simp [results, Try.results117, go_sem, z0, z1, z2]) rfl ⟨_, _, _, _, _, rfl, by rw [HRF.out]; exact HR.out, three_below HB.out (by omega) _ _ _⟩
  · rw [refSum_some h8]
    rw [if_neg h8] at HRF
    have hsf := sum_full t
    clear h8
    go_enter Try.func117, Try.ntmps117
    go_wp2_with fail
    refine (HBI.out _ _).mono ?_
    rintro e w1 ⟨rfl, b1⟩
    have hb0 := old_block2 b1
    have q0 := cell_of_row _ _ 0 _ _ _ hb0
    have q1 := cell_of_row _ _ 1 _ _ _ hb0
    have q2 := cell_of_row _ _ 2 _ _ _ hb0
    have hf0 := frozen_of_row _ _ 0 _ _ hb0
    have hf1 := frozen_of_row _ _ 1 _ _ hb0
    have hf2 := frozen_of_row _ _ 2 _ _ hb0
    have HB := hid (below2 b1)
    go_wp2_with fail
    obtain ⟨z0, z1, z2⟩ := set3 hb0 (.bool false) (.string ⟨(Tr.sum (Itm.enc t)).toArray⟩) (.slice none 0 0)
    exact bodyPost_ret (v := .agg #[(.bool false), (.string ⟨(Tr.sum (Itm.enc t)).toArray⟩), (.slice none 0 0)]) (by simp [results, Try.results117, go_sem, z0, z1, z2]) rfl ⟨_, _, _, _, _, rfl, by rw [HRF.out]; exact HRB.out _, three_below HB.out (by omega) _ _ _⟩

theorem refItem_any {v : Value} {k : Int} {l : Bool} {s : ByteArray} {a : Option Addr} {n cap m B : Nat} {t : Itm} (w w0 : World) (h : Nd v k l s a n cap) (hr : Rep B w0 (m + 1) (.agg #[.bool l, .string s, .slice a n cap]) t) : Calls Try.prog 117 #[.agg #[.string (refSum t), v]] w fun e w' => ∃ l' s' a' n' cap', e = .returned (.agg #[.bool l', .string s', .slice a' n' cap']) ∧ Rep B w0 (m + 1) (.agg #[.bool l', .string s', .slice a' n' cap']) (Tr.ref t) ∧ Below w.heap.size w w' :=
  refItem_of (fun v t => Rep B w0 (m + 1) v t) (fun s => rep_bytes _ _ _ s) w h hr

/-- v is the item t, as it reads in w; all its lists lie in blocks from lo on, below B; at most n levels. -/
def RepW (lo B : Nat) (w : World) : Nat → Value → Itm → Prop
  | 0 => fun _ _ => False
  | n + 1 => fun v t => ∃ a cap, v = .agg #[.bool t.list, .string ⟨t.bytes.toArray⟩, .slice a t.items.length cap] ∧ t.items.length ≤ maxLen ∧
      ∀ i (h : i < t.items.length), ∃ b off c0 c1 c2, a = some ⟨b, off, none⟩ ∧ lo ≤ b ∧ b < B ∧ w.cell? ⟨b, off + i * 3, none⟩ = some c0 ∧ w.cell? ⟨b, off + i * 3 + 1, none⟩ = some c1 ∧ w.cell? ⟨b, off + i * 3 + 2, none⟩ = some c2 ∧
        RepW lo B w n (.agg #[c0, c1, c2]) t.items[i]

theorem repW_rep {lo B : Nat} {w : World} : ∀ (n : Nat) (v : Value) (t : Itm), RepW lo B w n v t → Rep B w n v t := by
  intro n
  induction n with
  | zero => intro v t h; exact h
  | succ n ih =>
    rintro v t ⟨a, cap, h1, h2, h3⟩
    refine ⟨a, cap, h1, h2, fun i hi => ?_⟩
    obtain ⟨b, off, c0, c1, c2, e, _, hlt, d0, d1, d2, hk⟩ := h3 i hi
    exact ⟨b, off, c0, c1, c2, e, hlt, d0, d1, d2, ih _ _ hk⟩

theorem repW_turn {lo lo' B B' : Nat} {w w' : World} (hlo : lo' ≤ lo) (hB : B ≤ B') (hb : ∀ k, lo ≤ k → k < B → w'.heap[k]? = w.heap[k]?) : ∀ (n : Nat) (v : Value) (t : Itm), RepW lo B w n v t → RepW lo' B' w' n v t := by
  intro n
  induction n with
  | zero => intro v t h; exact h
  | succ n ih =>
    rintro v t ⟨a, cap, h1, h2, h3⟩
    refine ⟨a, cap, h1, h2, fun i hi => ?_⟩
    obtain ⟨b, off, c0, c1, c2, e, hl, hlt, d0, d1, d2, hk⟩ := h3 i hi
    have hblk := hb b hl hlt
    exact ⟨b, off, c0, c1, c2, e, Nat.le_trans hlo hl, Nat.lt_of_lt_of_le hlt hB, (World.cell?_of_block (w := w) hblk).trans d0, (World.cell?_of_block (w := w) hblk).trans d1, (World.cell?_of_block (w := w) hblk).trans d2, ih _ _ hk⟩

theorem repW_later {lo : Nat} {w w' : World} {n : Nat} {v : Value} {t : Itm} (h : RepW lo w.heap.size w n v t) (hb : Below w.heap.size w w') : RepW lo w'.heap.size w' n v t := repW_turn (Nat.le_refl _) hb.size (fun k _ hk => hb.block k hk) n v t h

theorem repW_bytes (lo B : Nat) (w : World) (m : Nat) (s : List UInt8) : RepW lo B w (m + 1) (.agg #[.bool false, .string ⟨s.toArray⟩, .slice none 0 0]) (Tr.itB s) := ⟨none, 0, rfl, by simp [Tr.itB], fun i hi => by simp [Tr.itB] at hi⟩

theorem repW_string (lo B : Nat) (w : World) (m : Nat) (x : ByteArray) : RepW lo B w (m + 1) (.agg #[.bool false, .string x, .slice none 0 0]) (Tr.itB x.data.toList) := ⟨none, 0, by cases x; simp [Tr.itB], by simp [Tr.itB], fun i hi => by simp [Tr.itB] at hi⟩

/-- A list of items that are no lists, in a row from lo on. -/
theorem repW_flat {lo B : Nat} {w : World} {n : Nat} {x y : Value} {a : Option Addr} {k cap : Nat} {t : Itm} (h : Rep B w (n + 1) (.agg #[x, y, .slice a k cap]) t) (hf : ∀ u ∈ t.items, u.items = []) (ha : ∀ b off, a = some ⟨b, off, none⟩ → lo ≤ b) : RepW lo B w (n + 1) (.agg #[x, y, .slice a k cap]) t := by
  obtain ⟨a', cap', h1, h2, h3⟩ := h
  refine ⟨a', cap', h1, h2, fun i hi => ?_⟩
  obtain ⟨b, off, c0, c1, c2, e, hlt, d0, d1, d2, hk⟩ := h3 i hi
  have e2 : a = a' := by simp at h1; exact h1.2.2.1
  refine ⟨b, off, c0, c1, c2, e, ha b off (by rw [e2, e]), hlt, d0, d1, d2, ?_⟩
  cases n with
  | zero => exact hk
  | succ n =>
    obtain ⟨a2, cap2, g1, g2, _⟩ := hk
    have hu := hf _ (List.getElem_mem hi)
    exact ⟨a2, cap2, g1, g2, fun j hj => by rw [hu] at hj; simp at hj⟩
end Go.Proofs.Ytbmohenjphmlgaa
