/- Part 8 of a proof: what the last text needs. -/
import Derived.Test.YtbmohenjphmlgaaGreatPart7
import Derived.Test.YtbmohenjphmlgaaGreatPart3
import Derived.Deep.RegionHeld3
import Derived.Deep.Cut
/- Nodes as they lie in memory (of the program), and what is called on them through the interface: isShort, referenceTo, item. -/
namespace Go.Proofs.YtbmohenjphmlgaaGreat
open Go.RowKit
set_option maxRecDepth 100000

/-- Items in a row of the call's own; what they hold lies in blocks that were there before. -/
def RowR (w : World) (base : Nat) (m : Nat) (v : Value) (ts : List Itm) : Prop :=
  ∃ xs, w.ownsRow base 119 3 v ts.length xs ∧ ∀ i (h : i < ts.length), Rep base w m (tri xs i) ts[i]

theorem rowR_nil (w : World) (base m : Nat) : RowR w base m (.slice none 0 0) [] := ⟨[], World.ownsRow_nil _ _ _ _, fun i hi => by simp at hi⟩

theorem rowR_shape {w : World} {base m : Nat} {v : Value} {ts : List Itm} (h : RowR w base m v ts) : ∃ a cap, v = .slice a ts.length cap := by
  obtain ⟨xs, ho, _⟩ := h
  rcases ho.2 with ⟨rfl, h0⟩ | ⟨g, cap, cur, rfl, _⟩
  · exact ⟨none, 0, by rw [h0]⟩
  · exact ⟨_, cap, rfl⟩

theorem rowR_later {w w' : World} {base m : Nat} {v : Value} {ts : List Itm} (h : RowR w base m v ts) (hb : Below w.heap.size w w') (hB : base ≤ w.heap.size) : RowR w' base m v ts := by
  obtain ⟨xs, ho, hr⟩ := h
  exact ⟨xs, owns_frame ho (fun g hg => hb.block g (ho.lt g hg).2), fun i hi => rep_frame (hb.mono hB) _ _ _ (hr i hi)⟩

/-- A list of these items can be read. -/
theorem rowR_rep {w : World} {base m : Nat} {a : Option Addr} {n cap : Nat} {ts : List Itm} (h : RowR w base m (.slice a n cap) ts) (hB : base ≤ w.heap.size) (hl : ts.length ≤ maxLen) : Rep w.heap.size w (m + 1) (.agg #[.bool true, .string ⟨#[]⟩, .slice a n cap]) (Tr.itL ts) := by
  obtain ⟨xs, ho, hr⟩ := h
  rcases ho.2 with ⟨he, h0⟩ | ⟨g, cap', cur, he, hb, hg, _⟩
  · have : ts = [] := List.eq_nil_of_length_eq_zero h0
    subst this
    simp only [Value.slice.injEq] at he
    obtain ⟨rfl, rfl, rfl⟩ := he
    exact ⟨none, 0, rfl, by simp [Tr.itL], fun i hi => by simp [Tr.itL] at hi⟩
  · simp only [Value.slice.injEq] at he
    obtain ⟨rfl, rfl, rfl⟩ := he
    refine ⟨_, _, rfl, hl, fun i hi => ?_⟩
    have hi' : i < ts.length := hi
    obtain ⟨c0, c1, c2⟩ := tri_cells ho i hi'
    refine ⟨g, 0, _, _, _, rfl, (Array.getElem?_eq_some_iff.1 hg).1, c0, c1, c2, ?_⟩
    exact rep_wider hB _ _ _ (hr i hi')

theorem rep_one {B : Nat} {w : World} {m : Nat} {c0 c1 c2 : Value} {t : Itm} (h : Rep B w m (.agg #[c0, c1, c2]) t) : c0.oneCell' = true ∧ c1.oneCell' = true ∧ c2.oneCell' = true := by
  obtain ⟨a, cap, rfl, rfl, rfl⟩ := rep_shape h
  exact ⟨rfl, rfl, rfl⟩

/-- An item that was just laid is appended to such a row: for a walk. -/
theorem wpList_push_item {ops : Array Oper} {rest : List Oper} {o : Oper} {act : Act} {Q' : Exit → Act → World → Prop} (hgd : o.guard = none) (s x : Operand)
    (hop : o.op = .call { callee := .builtin .append, args := #[s, x], argTypes := #[57, 57] }) {W wr : World} {base m : Nat} {v1 a b c : Value} {ts : List Itm} {t : Itm} (L : Nat) (hL : wr.heap.size = L)
    (hs : act.eval s = v1) (hx : act.eval x = .slice (some ⟨L, 0, none⟩) 1 1) (ho : RowR wr base m v1 ts) (hb : Below base W wr) (hB : base ≤ W.heap.size) (hr : Rep base wr m (.agg #[a, b, c]) t) (hlen : ts.length ≤ 1000000)
    (h : ∀ v' w', RowR w' base m v' (ts ++ [t]) → Below base W w' → wpList Tryz.prog ops Q' rest (act.put o.dst v') w') : wpList Tryz.prog ops Q' (o :: rest) act (wr.alloc (.cells #[a, b, c] 119)) := by
  subst hL
  obtain ⟨i0, hi, hz0, hz1, hz2⟩ := info_parts infoItem
  have hbW : Below wr.heap.size wr (wr.alloc (.cells #[a, b, c] 119)) := (Below.refl _ _).alloc (Nat.le_refl _) _
  have hBr : base ≤ wr.heap.size := Nat.le_trans hB hb.size
  have hBw : base ≤ (wr.alloc (.cells #[a, b, c] 119)).heap.size := by simp; omega
  obtain ⟨xs, hrow, hrs⟩ := rowR_later ho hbW hBr
  have hone := rep_one hr
  refine wpList_append_mine _ hgd s x 57 hop base 119 i0 _ 3 48 Tryz.underlying57 hi hz0 hz1 hz2 rfl (by decide) v1 ts.length xs hs hrow ⟨wr.heap.size, 0, none⟩ 1 1 [a, b, c] hx rfl (cells_three wr a b c 119) ?_ (by unfold maxLen; omega) (by omega) hBw ?_
  · intro u hu
    simp only [List.mem_cons, List.not_mem_nil, or_false] at hu
    rcases hu with rfl | rfl | rfl
    · exact hone.1
    · exact hone.2.1
    · exact hone.2.2
  · intro v' w' ho' hg _
    have hb3 : Below base (wr.alloc (.cells #[a, b, c] 119)) w' := (Below.refl _ _).grown hg hBw (fun g hgg => (hrow.lt g hgg).1)
    refine h v' w' ⟨xs ++ [a, b, c], ?_, ?_⟩ ((hb.trans (hbW.mono hBr)).trans hb3)
    · rw [List.length_append]; exact ho'
    · intro i hi
      rw [List.length_append, List.length_singleton] at hi
      by_cases hlt : i < ts.length
      · rw [tri_left xs [a, b, c] i ts.length hrow.1 hlt, List.getElem_append_left hlt]
        exact rep_frame hb3 _ _ _ (hrs i hlt)
      · obtain rfl : i = ts.length := by omega
        rw [tri_new xs a b c ts.length hrow.1]
        simp only [List.getElem_append_right (Nat.le_refl _), Nat.sub_self, List.getElem_cons_zero]
        exact rep_frame ((hbW.mono hBr).trans hb3) _ _ _ hr

/-- Two items in a new row. -/
theorem rowR_two {w : World} {base m : Nat} {a b c a' b' c' : Value} {t t' : Itm} (hB : base ≤ w.heap.size) (h1 : Rep base w m (.agg #[a, b, c]) t) (h2 : Rep base w m (.agg #[a', b', c']) t') : RowR (w.alloc (.cells #[a, b, c, a', b', c'] 119)) base m (.slice (some ⟨w.heap.size, 0, none⟩) 2 2) [t, t'] := by
  have hbW : Below base w (w.alloc (.cells #[a, b, c, a', b', c'] 119)) := (Below.refl _ _).alloc hB _
  refine ⟨_, World.ownsRow_lit w #[a, b, c, a', b', c'] 2 hB (by unfold maxLen; omega) rfl, ?_⟩
  intro i hi
  match i, hi with
  | 0, _ => exact rep_frame hbW _ _ _ h1
  | 1, _ => exact rep_frame hbW _ _ _ h2

theorem rep_bytes (B : Nat) (w : World) (m : Nat) (s : List UInt8) : Rep B w (m + 1) (.agg #[.bool false, .string ⟨s.toArray⟩, .slice none 0 0]) (Tr.itB s) := ⟨none, 0, rfl, by simp [Tr.itB], fun i hi => by simp [Tr.itB] at hi⟩

/-- What a node begins with, of whatever kind. -/
def Nd (v : Value) (k : Int) (l : Bool) (s : ByteArray) (a : Option Addr) (n cap : Nat) : Prop :=
  ∃ T A, (T = 168 ∨ T = 172 ∨ T = 176 ∨ T = 142) ∧ v = .iface T (.agg A) ∧ A.extract 0 4 = #[.int .i64 k, .bool l, .string s, .slice a n cap]

theorem nd_call {v : Value} {k : Int} {l : Bool} {s : ByteArray} {a : Option Addr} {n cap : Nat} (h : Nd v k l s a n cap) : ∃ T A, v = .iface T (.agg A) ∧
    (∀ w, (method 334 T (.agg A) "Bytes").run Tryz.prog w = .ok (133, .agg #[.int .i64 k, .bool l, .string s, .slice a n cap]) w) ∧
    (∀ w, (method 334 T (.agg A) "Item").run Tryz.prog w = .ok (184, .agg #[.int .i64 k, .bool l, .string s, .slice a n cap]) w) ∧
    (∀ w, (method 334 T (.agg A) "Kind").run Tryz.prog w = .ok (185, .agg #[.int .i64 k, .bool l, .string s, .slice a n cap]) w) ∧
    (∀ w, (method 334 T (.agg A) "Sum").run Tryz.prog w = .ok (114, .agg #[.int .i64 k, .bool l, .string s, .slice a n cap]) w) := by
  obtain ⟨T, A, hT, rfl, hA⟩ := h
  refine ⟨T, A, rfl, ?_⟩
  rw [← hA]
  rcases hT with rfl | rfl | rfl | rfl
  · exact ⟨fun _ => by kernel_rfl, fun _ => by kernel_rfl, fun _ => by kernel_rfl, fun _ => by kernel_rfl⟩
  · exact ⟨fun _ => by kernel_rfl, fun _ => by kernel_rfl, fun _ => by kernel_rfl, fun _ => by kernel_rfl⟩
  · exact ⟨fun _ => by kernel_rfl, fun _ => by kernel_rfl, fun _ => by kernel_rfl, fun _ => by kernel_rfl⟩
  · exact ⟨fun _ => by kernel_rfl, fun _ => by kernel_rfl, fun _ => by kernel_rfl, fun _ => by kernel_rfl⟩

theorem dec8 (n : Nat) : decide ((n : Int) < 8) = decide (n < 8) := by
  rw [Bool.eq_iff_iff, decide_eq_true_eq, decide_eq_true_eq]; omega

set_option maxHeartbeats 1600000 in
theorem isShort_any {v : Value} {k : Int} {l : Bool} {s : ByteArray} {a : Option Addr} {n cap m : Nat} {t : Itm} (w : World) (h : Nd v k l s a n cap) (hs : Small t) (hr : Rep w.heap.size w (m + 1) (.agg #[.bool l, .string s, .slice a n cap]) t) : Calls Tryz.prog 134 #[v] w fun e w' => e = .returned (.bool (decide ((Itm.enc t).length < 8))) ∧ Below w.heap.size w w' := by
  obtain ⟨T, A, rfl, hm, _⟩ := nd_call h
  have HB := hid (fun w h => commonBytes_any k a n cap l s m t w hs h)
  have HR := hid hr
  clear hr h
  go_enter Tryz.func134, Tryz.ntmps134
  go_wp2_with fail
  refine (HB.out _ HR.out).mono ?_
  rintro e w1 ⟨rfl, b1⟩
  go_wp2_with fail
  go_ret
  exact ⟨congrArg (fun b => Ending.returned (.bool b)) (dec8 _), b1⟩

theorem set2 {w1 : World} {g : Nat} {x0 x1 : Value} {e : TypeId} {fz : Nat × Nat} (h : w1.heap[g]? = some (.cells #[x0, x1] e fz)) (a b : Value) :
    ((w1.setCell ⟨g, 0, none⟩ a).setCell ⟨g, 1, none⟩ b).cell? ⟨g, 0, none⟩ = some a ∧
    ((w1.setCell ⟨g, 0, none⟩ a).setCell ⟨g, 1, none⟩ b).cell? ⟨g, 1, none⟩ = some b := by
  simp [World.setCell, World.cell?, Array.getElem?_modify, h]

theorem box2_below {w w1 : World} {O : Obj} (hb : Below (w.alloc O).heap.size (w.alloc O) w1) (a b : Value) :
    Below w.heap.size w ((w1.setCell ⟨w.heap.size, 0, none⟩ a).setCell ⟨w.heap.size, 1, none⟩ b) := by
  have h1 : Below w.heap.size w w1 := ((Below.refl w.heap.size w).alloc (Nat.le_refl _) O).trans (hb.mono (by simp))
  exact (h1.setCell (p := ⟨w.heap.size, 0, none⟩) (Nat.le_refl _) a).setCell (p := ⟨w.heap.size, 1, none⟩) (Nat.le_refl _) b

/-- What a reference has for the sum of its node. -/
def refSum (t : Itm) : ByteArray := if (Itm.enc t).length < 8 then ⟨#[]⟩ else ⟨(Tr.sum (Itm.enc t)).toArray⟩

set_option maxHeartbeats 1600000 in
theorem referenceTo_any {v : Value} {k : Int} {l : Bool} {s : ByteArray} {a : Option Addr} {n cap m : Nat} {t : Itm} (w : World) (h : Nd v k l s a n cap) (hs : Small t) (hr : Rep w.heap.size w (m + 1) (.agg #[.bool l, .string s, .slice a n cap]) t) : Calls Tryz.prog 116 #[v] w fun e w' => e = .returned (.agg #[.string (refSum t), v]) ∧ Below w.heap.size w w' := by
  have HS := hid (fun w => isShort_any w h hs (t := t) (m := m))
  obtain ⟨T, A, rfl, _, _, _, hm⟩ := nd_call h
  have HM := hid (fun w h => commonSum_any k a n cap l s m t w hs h)
  have HR := hid hr
  have HRS : Hid (refSum t = if (Itm.enc t).length < 8 then ⟨#[]⟩ else ⟨(Tr.sum (Itm.enc t)).toArray⟩) := rfl
  clear hr h
  go_enter Tryz.func116, Tryz.ntmps116
  go_wp2_with fail
  refine (HS.out _ (rep_later ((Below.refl _ _).alloc (Nat.le_refl _) _) HR.out)).mono ?_
  rintro e w1 ⟨rfl, b1⟩
  have hb0 := old_block b1
  have HBel : Hid (Below w.heap.size w w1) := ((Below.refl _ _).alloc (Nat.le_refl _) _).trans (b1.mono (by simp))
  by_cases h8 : (Itm.enc t).length < 8
  · rw [if_pos h8] at HRS
    rw [decide_eq_true h8]
    have q0 := cell_of_row _ _ 0 _ _ _ hb0
    have q1 := cell_of_row _ _ 1 _ _ _ hb0
    have hf0 := frozen_of_row _ _ 0 _ _ hb0
    have hf1 := frozen_of_row _ _ 1 _ _ hb0
    clear h8
    go_wp2_with fail
    obtain ⟨z0, z1⟩ := set2 hb0 (.string ⟨#[]⟩) (.iface T (.agg A))
    exact bodyPost_ret (v := .agg #[.string ⟨#[]⟩, .iface T (.agg A)]) (by simp [results, Tryz.results116, go_sem, z0, z1]) rfl ⟨by rw [HRS.out], box2_below b1 _ _⟩
  · rw [if_neg h8] at HRS
    rw [decide_eq_false h8]
    clear h8
    go_wp2_with fail
    refine (HM.out _ (rep_later HBel.out HR.out)).mono ?_
    rintro e w2 ⟨rfl, b2⟩
    have hbb := b1.trans (b2.mono b1.size)
    have hb0' := old_block hbb
    have q0 := cell_of_row _ _ 0 _ _ _ hb0'
    have q1 := cell_of_row _ _ 1 _ _ _ hb0'
    have hf0 := frozen_of_row _ _ 0 _ _ hb0'
    have hf1 := frozen_of_row _ _ 1 _ _ hb0'
    go_wp2_with fail
    obtain ⟨z0, z1⟩ := set2 hb0' (.string ⟨(Tr.sum (Itm.enc t)).toArray⟩) (.iface T (.agg A))
    exact bodyPost_ret (v := .agg #[.string ⟨(Tr.sum (Itm.enc t)).toArray⟩, .iface T (.agg A)]) (by simp [results, Tryz.results116, go_sem, z0, z1]) rfl ⟨by rw [HRS.out], box2_below hbb _ _⟩
end Go.Proofs.YtbmohenjphmlgaaGreat

/- The walk of item (of a reference of the program); a node's value as the program builds it. -/
namespace Go.Proofs.YtbmohenjphmlgaaGreat
open Go.RowKit
set_option maxRecDepth 100000

theorem refSum_none {t : Itm} (h : (Itm.enc t).length < 8) : refSum t = ⟨#[]⟩ := by unfold refSum; rw [if_pos h]
theorem refSum_some {t : Itm} (h : ¬ (Itm.enc t).length < 8) : refSum t = ⟨(Tr.sum (Itm.enc t)).toArray⟩ := by unfold refSum; rw [if_neg h]
theorem sum_full (t : Itm) : ((⟨(Tr.sum (Itm.enc t)).toArray⟩ : ByteArray).toList == []) = false := by
  rw [Lib.toList_data]
  have := Tr.sum_len (Itm.enc t)
  cases h : Tr.sum (Itm.enc t) with
  | nil => rw [h] at this; simp at this
  | cons c r => rfl

theorem old_block2 {w w1 : World} {X Y : Obj} (hb : Below ((w.alloc X).alloc Y).heap.size ((w.alloc X).alloc Y) w1) : w1.heap[w.heap.size + 1]? = some Y := by
  have := old_block hb
  rwa [alloc_size] at this

theorem below2 {w w1 : World} {X Y : Obj} (hb : Below ((w.alloc X).alloc Y).heap.size ((w.alloc X).alloc Y) w1) : Below w.heap.size w w1 :=
  (((Below.refl _ _).alloc (Nat.le_refl _) X).alloc (by simp) Y).trans (hb.mono (by simp; omega))

theorem three_below {B g : Nat} {w w1 : World} (h : Below B w w1) (hg : B ≤ g) (a b c : Value) : Below B w (((w1.setCell ⟨g, 0, none⟩ a).setCell ⟨g, 1, none⟩ b).setCell ⟨g, 2, none⟩ c) :=
  ((h.setCell (p := ⟨g, 0, none⟩) hg a).setCell (p := ⟨g, 1, none⟩) hg b).setCell (p := ⟨g, 2, none⟩) hg c

set_option maxHeartbeats 1600000 in
theorem refItem_of {v : Value} {k : Int} {l : Bool} {s : ByteArray} {a : Option Addr} {n cap : Nat} {t : Itm} (R : Value → Itm → Prop) (hRB : ∀ s : List UInt8, R (.agg #[.bool false, .string ⟨s.toArray⟩, .slice none 0 0]) (Tr.itB s)) (w : World) (h : Nd v k l s a n cap) (hr : R (.agg #[.bool l, .string s, .slice a n cap]) t) : Calls Tryz.prog 115 #[.agg #[.string (refSum t), v]] w fun e w' => ∃ l' s' a' n' cap', e = .returned (.agg #[.bool l', .string s', .slice a' n' cap']) ∧ R (.agg #[.bool l', .string s', .slice a' n' cap']) (Tr.ref t) ∧ Below w.heap.size w w' := by
  obtain ⟨T, A, rfl, _, hm, _⟩ := nd_call h
  have HI := hid (fun w => commonItem_any k a n cap l s w)
  have HBI := hid (fun s w => bytesItem_any s w)
  have HRF : Hid (Tr.ref t = if (Itm.enc t).length < 8 then t else Tr.itB (Tr.sum (Itm.enc t))) := rfl
  have HR := hid hr
  have HRB := hid hRB
  clear h hr hRB
  by_cases h8 : (Itm.enc t).length < 8
  · rw [refSum_none h8]
    rw [if_pos h8] at HRF
    clear h8
    go_enter Tryz.func115, Tryz.ntmps115
    go_wp2_with fail
    refine (HI.out _).mono ?_
    rintro e w1 ⟨rfl, b1⟩
    have hb0 := old_block2 b1
    have q0 := cell_of_row _ _ 0 _ _ _ hb0
    have q1 := cell_of_row _ _ 1 _ _ _ hb0
    have q2 := cell_of_row _ _ 2 _ _ _ hb0
    have hf0 := frozen_of_row _ _ 0 _ _ hb0
    have hf1 := frozen_of_row _ _ 1 _ _ hb0
    have hf2 := frozen_of_row _ _ 2 _ _ hb0
    have HB := hid (below2 b1)
    go_wp2_with fail
    obtain ⟨z0, z1, z2⟩ := set3 hb0 (.bool l) (.string s) (.slice a n cap)
    exact bodyPost_ret (v := .agg #[(.bool l), (.string s), (.slice a n cap)]) (by simp [results, Tryz.results115, go_sem, z0, z1, z2]) rfl ⟨_, _, _, _, _, rfl, by rw [HRF.out]; exact HR.out, three_below HB.out (by omega) _ _ _⟩
  · rw [refSum_some h8]
    rw [if_neg h8] at HRF
    have hsf := sum_full t
    clear h8
    go_enter Tryz.func115, Tryz.ntmps115
    go_wp2_with fail
    refine (HBI.out _ _).mono ?_
    rintro e w1 ⟨rfl, b1⟩
    have hb0 := old_block2 b1
    have q0 := cell_of_row _ _ 0 _ _ _ hb0
    have q1 := cell_of_row _ _ 1 _ _ _ hb0
    have q2 := cell_of_row _ _ 2 _ _ _ hb0
    have hf0 := frozen_of_row _ _ 0 _ _ hb0
    have hf1 := frozen_of_row _ _ 1 _ _ hb0
    have hf2 := frozen_of_row _ _ 2 _ _ hb0
    have HB := hid (below2 b1)
    go_wp2_with fail
    obtain ⟨z0, z1, z2⟩ := set3 hb0 (.bool false) (.string ⟨(Tr.sum (Itm.enc t)).toArray⟩) (.slice none 0 0)
    exact bodyPost_ret (v := .agg #[(.bool false), (.string ⟨(Tr.sum (Itm.enc t)).toArray⟩), (.slice none 0 0)]) (by simp [results, Tryz.results115, go_sem, z0, z1, z2]) rfl ⟨_, _, _, _, _, rfl, by rw [HRF.out]; exact HRB.out _, three_below HB.out (by omega) _ _ _⟩

theorem refItem_any {v : Value} {k : Int} {l : Bool} {s : ByteArray} {a : Option Addr} {n cap m B : Nat} {t : Itm} (w w0 : World) (h : Nd v k l s a n cap) (hr : Rep B w0 (m + 1) (.agg #[.bool l, .string s, .slice a n cap]) t) : Calls Tryz.prog 115 #[.agg #[.string (refSum t), v]] w fun e w' => ∃ l' s' a' n' cap', e = .returned (.agg #[.bool l', .string s', .slice a' n' cap']) ∧ Rep B w0 (m + 1) (.agg #[.bool l', .string s', .slice a' n' cap']) (Tr.ref t) ∧ Below w.heap.size w w' :=
  refItem_of (fun v t => Rep B w0 (m + 1) v t) (fun s => rep_bytes _ _ _ s) w h hr

/-- v is the item t, as it reads in w; all its lists lie in blocks from lo on, below B; at most n levels. -/
def RepW (lo B : Nat) (w : World) : Nat → Value → Itm → Prop
  | 0 => fun _ _ => False
  | n + 1 => fun v t => ∃ a cap, v = .agg #[.bool t.list, .string ⟨t.bytes.toArray⟩, .slice a t.items.length cap] ∧ t.items.length ≤ maxLen ∧
      ∀ i (h : i < t.items.length), ∃ b off c0 c1 c2, a = some ⟨b, off, none⟩ ∧ lo ≤ b ∧ b < B ∧ w.cell? ⟨b, off + i * 3, none⟩ = some c0 ∧ w.cell? ⟨b, off + i * 3 + 1, none⟩ = some c1 ∧ w.cell? ⟨b, off + i * 3 + 2, none⟩ = some c2 ∧
        RepW lo B w n (.agg #[c0, c1, c2]) t.items[i]

theorem repW_rep {lo B : Nat} {w : World} : ∀ (n : Nat) (v : Value) (t : Itm), RepW lo B w n v t → Rep B w n v t := by
  intro n
  induction n with
  | zero => intro v t h; exact h
  | succ n ih =>
    rintro v t ⟨a, cap, h1, h2, h3⟩
    refine ⟨a, cap, h1, h2, fun i hi => ?_⟩
    obtain ⟨b, off, c0, c1, c2, e, _, hlt, d0, d1, d2, hk⟩ := h3 i hi
    exact ⟨b, off, c0, c1, c2, e, hlt, d0, d1, d2, ih _ _ hk⟩

theorem repW_turn {lo lo' B B' : Nat} {w w' : World} (hlo : lo' ≤ lo) (hB : B ≤ B') (hb : ∀ k, lo ≤ k → k < B → w'.heap[k]? = w.heap[k]?) : ∀ (n : Nat) (v : Value) (t : Itm), RepW lo B w n v t → RepW lo' B' w' n v t := by
  intro n
  induction n with
  | zero => intro v t h; exact h
  | succ n ih =>
    rintro v t ⟨a, cap, h1, h2, h3⟩
    refine ⟨a, cap, h1, h2, fun i hi => ?_⟩
    obtain ⟨b, off, c0, c1, c2, e, hl, hlt, d0, d1, d2, hk⟩ := h3 i hi
    have hblk := hb b hl hlt
    exact ⟨b, off, c0, c1, c2, e, Nat.le_trans hlo hl, Nat.lt_of_lt_of_le hlt hB, (World.cell?_of_block (w := w) hblk).trans d0, (World.cell?_of_block (w := w) hblk).trans d1, (World.cell?_of_block (w := w) hblk).trans d2, ih _ _ hk⟩

theorem repW_later {lo : Nat} {w w' : World} {n : Nat} {v : Value} {t : Itm} (h : RepW lo w.heap.size w n v t) (hb : Below w.heap.size w w') : RepW lo w'.heap.size w' n v t := repW_turn (Nat.le_refl _) hb.size (fun k _ hk => hb.block k hk) n v t h

theorem repW_bytes (lo B : Nat) (w : World) (m : Nat) (s : List UInt8) : RepW lo B w (m + 1) (.agg #[.bool false, .string ⟨s.toArray⟩, .slice none 0 0]) (Tr.itB s) := ⟨none, 0, rfl, by simp [Tr.itB], fun i hi => by simp [Tr.itB] at hi⟩

theorem repW_string (lo B : Nat) (w : World) (m : Nat) (x : ByteArray) : RepW lo B w (m + 1) (.agg #[.bool false, .string x, .slice none 0 0]) (Tr.itB x.data.toList) := ⟨none, 0, by cases x; simp [Tr.itB], by simp [Tr.itB], fun i hi => by simp [Tr.itB] at hi⟩

/-- A list of items that are no lists, in a row from lo on. -/
theorem repW_flat {lo B : Nat} {w : World} {n : Nat} {x y : Value} {a : Option Addr} {k cap : Nat} {t : Itm} (h : Rep B w (n + 1) (.agg #[x, y, .slice a k cap]) t) (hf : ∀ u ∈ t.items, u.items = []) (ha : ∀ b off, a = some ⟨b, off, none⟩ → lo ≤ b) : RepW lo B w (n + 1) (.agg #[x, y, .slice a k cap]) t := by
  obtain ⟨a', cap', h1, h2, h3⟩ := h
  refine ⟨a', cap', h1, h2, fun i hi => ?_⟩
  obtain ⟨b, off, c0, c1, c2, e, hlt, d0, d1, d2, hk⟩ := h3 i hi
  have e2 : a = a' := by simp at h1; exact h1.2.2.1
  refine ⟨b, off, c0, c1, c2, e, ha b off (by rw [e2, e]), hlt, d0, d1, d2, ?_⟩
  cases n with
  | zero => exact hk
  | succ n =>
    obtain ⟨a2, cap2, g1, g2, _⟩ := hk
    have hu := hf _ (List.getElem_mem hi)
    exact ⟨a2, cap2, g1, g2, fun j hj => by rw [hu] at hj; simp at hj⟩
end Go.Proofs.YtbmohenjphmlgaaGreat

/- A region that draws its order: a load is taken first that one later operation waits for, though another behind that one writes what it reads. -/
namespace Go.Proofs.YtbmohenjphmlgaaGreat
open Go.RowKit
set_option maxRecDepth 100000

section
variable {P : Program} {ops : Array Oper} {Q : Exit → Act → World → Prop} {md : Region.Mode} {S : World → Prop} {k : Nat}

/-- Whatever order is picked, and S holds behind every operation till number k has come up. -/
def wpAnyL (P : Program) (md : Region.Mode) (ops : Array Oper) (Q : Exit → Act → World → Prop) (S : World → Prop) (k : Nat) : Nat → Array Bool → Act → World → Prop
  | 0, listed, a, w => Region.ready md ops listed = [] ∧ Q .normal a w
  | fuel + 1, listed, a, w =>
    (Region.ready md ops listed = [] → Q .normal a w) ∧
    ∀ i ∈ Region.ready md ops listed, wpOp P ops Q i (fun a' w' => ((listed.setIfInBounds i true).getD k true = false → S w') ∧ wpAnyL P md ops Q S k fuel (listed.setIfInBounds i true) a' w') a w

theorem wpAny_of_L : ∀ (fuel : Nat) (listed : Array Bool) (a : Act) (w : World), wpAnyL P md ops Q S k fuel listed a w → wpAny P md ops Q fuel listed a w
  | 0, _, _, _, h => h
  | fuel + 1, _, _, _, h => ⟨h.1, fun i hi => wpOp_mono (fun a' w' h' => wpAny_of_L fuel _ a' w' h'.2) (h.2 i hi)⟩

theorem listed_on {listed : Array Bool} (i : Nat) (h : listed.getD k true = true) : (listed.setIfInBounds i true).getD k true = true := by
  by_cases hik : i = k
  · subst hik
    rcases Nat.lt_or_ge i listed.size with h' | h'
    · simp [h']
    · simp
  · rw [getD_set_ne true hik]; exact h

/-- Behind number k nothing is asked of S. -/
theorem wpAnyL_free : ∀ (fuel : Nat) (listed : Array Bool) (a : Act) (w : World), listed.getD k true = true → wpAny P md ops Q fuel listed a w → wpAnyL P md ops Q S k fuel listed a w
  | 0, _, _, _, _, h => h
  | fuel + 1, listed, _, _, hl, h => ⟨h.1, fun i hi => wpOp_mono (fun a' w' h' => ⟨fun hf => (by rw [listed_on i hl] at hf; cases hf), wpAnyL_free fuel _ a' w' (listed_on i hl) h'⟩) (h.2 i hi)⟩

theorem wpAnyL_first {i : Nat} {oi ok : Oper} {v : Value} (hi : ops[i]? = some oi) (hk : ops[k]? = some ok) (hki : k ≠ i) (hwait : ∃ e ∈ ok.after, Region.binds md e = true ∧ e.on = i)
    (hsel : ∀ (j : Nat) (o : Oper) cs b, ops[j]? = some o → o.op ≠ .select cs b) (hQ : ∀ c a w, Q (.panic c) (a.put oi.dst v) w → Q (.panic c) a w) :
    ∀ (fuel : Nat) (listed : Array Bool) (a : Act) (w : World),
      (∀ j oj, ops[j]? = some oj → j ≠ i → listed.getD j true = false → (∀ e ∈ oj.after, Region.binds md e = true → e.on ≠ i) → oi.apart ops oj = true) →
      i ∈ Region.ready md ops listed → listed.getD k true = false → YieldsIf P ops S oi v a → S w →
      wpAnyL P md ops Q S k fuel (listed.setIfInBounds i true) (a.put oi.dst v) w → wpAnyL P md ops Q S k (fuel + 1) listed a w := by
  intro fuel
  induction fuel with
  | zero =>
    intro listed a w _ hr _ hy hS H
    refine ⟨fun h => (by rw [h] at hr; cases hr), fun j hj => ?_⟩
    by_cases hji : j = i
    · subst hji; exact hy.wpOp hi hS ⟨fun _ => hS, H⟩
    · have := ready_mono hj hji
      rw [H.1] at this
      cases this
  | succ fuel ih =>
    intro listed a w hfree hr hlk hy hS H
    refine ⟨fun h => (by rw [h] at hr; cases hr), fun j hj => ?_⟩
    by_cases hji : j = i
    · subst hji; exact hy.wpOp hi hS ⟨fun _ => hS, H⟩
    · have h1 := H.2 j (ready_mono hj hji)
      obtain ⟨hjun, oj, hoj, hall⟩ := mem_ready.1 hj
      have h0 := (mem_ready.1 hr).1
      have hnot : ∀ e ∈ oj.after, Region.binds md e = true → e.on ≠ i := fun e he hb heq => by
        have h2 := hall e he hb
        rw [heq] at h2
        rcases Nat.lt_or_ge i listed.size with h' | h'
        · simp [h'] at h0 h2; rw [h0] at h2; cases h2
        · simp [Array.getElem?_eq_none h'] at h2
      have hjk : j ≠ k := by
        intro e
        subst e
        rw [hk] at hoj
        cases hoj
        obtain ⟨e, he, hb, hon⟩ := hwait
        exact hnot e he hb hon
      have hlk' : (listed.setIfInBounds j true).getD k true = false := by rw [getD_set_ne true hjk]; exact hlk
      have h2 := wpOp_putIf hoj (hfree j oj hoj hji hjun hnot) (fun cs b => hsel i oi cs b hi) (fun cs b => hsel j oj cs b hoj) hQ hy h1
      have hfree' : ∀ k ok, ops[k]? = some ok → k ≠ i → (listed.setIfInBounds j true).getD k true = false →
          (∀ e ∈ ok.after, Region.binds md e = true → e.on ≠ i) → oi.apart ops ok = true := fun k ok hk hki hun hno => by
        refine hfree k ok hk hki ?_ hno
        by_cases hjk : j = k
        · subst hjk; exact hjun
        · rw [getD_set_ne true hjk] at hun; exact hun
      refine wpOp_mono (fun a' w' h3 => ?_) h2
      have hS' : S w' := h3.2.1 (by rw [Array.setIfInBounds_comm _ _ (Ne.symm hji), getD_set_ne true (Ne.symm hki)]; exact hlk')
      refine ⟨fun _ => hS', ih (listed.setIfInBounds j true) a' w' hfree' (ready_mono hr (Ne.symm hji)) hlk' h3.1 hS' ?_⟩
      rw [Array.setIfInBounds_comm _ _ hji]
      exact h3.2.2

/-- Number k waits for number i. -/
def waitsFor (md : Region.Mode) (ops : Array Oper) (k i : Nat) : Bool := k != i && ((ops[k]?).map (fun o => o.after.any (fun e => Region.binds md e && e.on == i))).getD false

theorem wpAnyL_take {i : Nat} {oi : Oper} {v : Value} {fuel : Nat} {listed : Array Bool} {a : Act} {w : World} (hi : ops[i]? = some oi)
    (hs : Region.noSelect ops = true) (hf : Region.free md ops listed i = true) (hr : (Region.ready md ops listed).contains i = true) (hw : waitsFor md ops k i = true) (hlk : listed.getD k true = false)
    (hQ : ∀ c a w, Q (.panic c) (a.put oi.dst v) w → Q (.panic c) a w) (hS : S w) (hy : YieldsIf P ops S oi v a)
    (h : wpAnyL P md ops Q S k fuel (listed.setIfInBounds i true) (a.put oi.dst v) w) : wpAnyL P md ops Q S k (fuel + 1) listed a w := by
  unfold waitsFor at hw
  simp only [Bool.and_eq_true, bne_iff_ne, ne_eq] at hw
  cases hk : ops[k]? with
  | none => rw [hk] at hw; simp at hw
  | some ok =>
    rw [hk] at hw
    simp only [Option.map_some, Option.getD_some] at hw
    obtain ⟨e, he, hb⟩ := Array.any_eq_true'.1 hw.2
    simp only [Bool.and_eq_true, beq_iff_eq] at hb
    exact wpAnyL_first hi hk hw.1 ⟨e, he, hb⟩ (Region.noSelect_spec hs) hQ fuel listed a w (Region.free_spec hi hf) (by simpa using hr) hlk hy hS h

/-- Each of the operations 'rs' comes up next. -/
def AllReadyL (P : Program) (md : Region.Mode) (ops : Array Oper) (Q : Exit → Act → World → Prop) (S : World → Prop) (k fuel : Nat) (listed : Array Bool) (a : Act) (w : World) (rs : List Nat) : Prop :=
  ∀ i ∈ rs, wpOp P ops Q i (fun a' w' => ((listed.setIfInBounds i true).getD k true = false → S w') ∧ wpAnyL P md ops Q S k fuel (listed.setIfInBounds i true) a' w') a w

theorem AllReadyL.nil {fuel : Nat} {listed : Array Bool} {a : Act} {w : World} : AllReadyL P md ops Q S k fuel listed a w [] := fun _ h => by cases h

theorem AllReadyL.cons {fuel : Nat} {listed : Array Bool} {a : Act} {w : World} {i : Nat} {o : Oper} {rs : List Nat} (ho : ops[i]? = some o)
    (h : ∀ K' : Act → World → Prop, Shut (∀ a w, S w → wpAnyL P md ops Q S k fuel (listed.setIfInBounds i true) a w → K' a w) → if Region.wanted o (yielded ops a.tmps) = true then Oper.wp P o a w K' Q else K' (a.put o.dst undef) w)
    (hs : AllReadyL P md ops Q S k fuel listed a w rs) : AllReadyL P md ops Q S k fuel listed a w (i :: rs) := fun j hj => by
  rcases List.mem_cons.1 hj with rfl | hj
  · exact wpOp_step ho (fun K' hK => h K' (fun a w hS hW => hK a w ⟨fun _ => hS, hW⟩))
  · exact hs j hj

/-- Number k itself. -/
theorem AllReadyL.last {fuel : Nat} {listed : Array Bool} {a : Act} {w : World} {o : Oper} (ho : ops[k]? = some o)
    (h : ∀ K' : Act → World → Prop, Shut (∀ a w, wpAny P md ops Q fuel (listed.setIfInBounds k true) a w → K' a w) → if Region.wanted o (yielded ops a.tmps) = true then Oper.wp P o a w K' Q else K' (a.put o.dst undef) w) :
    AllReadyL P md ops Q S k fuel listed a w [k] := fun j hj => by
  rcases List.mem_cons.1 hj with rfl | hj
  · have hon : (listed.setIfInBounds j true).getD j true = true := by
      rcases Nat.lt_or_ge j listed.size with h' | h'
      · simp [h']
      · simp
    exact wpOp_step ho (fun K' hK => h K' (fun a w hW => hK a w ⟨fun hf => (by rw [hon] at hf; cases hf), wpAnyL_free _ _ _ _ hon hW⟩))
  · cases hj

theorem wpAnyL_ready {rs : List Nat} {fuel : Nat} {listed : Array Bool} {a : Act} {w : World} (hr : Region.ready md ops listed = rs) (hne : rs ≠ [])
    (h : AllReadyL P md ops Q S k fuel listed a w rs) : wpAnyL P md ops Q S k (fuel + 1) listed a w := ⟨fun h0 => absurd (hr ▸ h0) hne, hr ▸ h⟩

theorem wp_region_L {id : Nat} {a : Act} {w : World} (S : World → Prop) (k : Nat) (hm : P.follows .mixedOrders = true)
    (h : wpAnyL P .any ops Q S k ops.size (Array.replicate ops.size false) a w.drew) : (Code.region id ops true).wp P Q a w := wp_region_any hm (wpAny_of_L _ _ _ _ h)
end
end Go.Proofs.YtbmohenjphmlgaaGreat
