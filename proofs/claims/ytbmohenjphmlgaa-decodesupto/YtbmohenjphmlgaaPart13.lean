/- Part 13 of a proof: what the last text needs. -/
import Derived.Test.YtbmohenjphmlgaaPart12
import Derived.Deep.Cut
/- An item is kept with those that wait: the worlds that the two appends lead to. -/
namespace Go.Proofs.Ytbmohenjphmlgaa
open Go.RowKit
set_option maxRecDepth 100000

/-- Items that wait, in a row of which the cells are named. -/
def WRx (w : World) (c : Nat → Nat) (col : Nat) (sl : Value) (l : List Itm) (xs : List Value) : Prop :=
  w.ownsRow 0 24 3 sl l.length xs ∧ (∀ g, sl.ownBlock = some g → c g = col) ∧
    ∀ i (h : i < l.length), ∃ lo hi, hi ≤ w.heap.size ∧ (∀ k, lo ≤ k → k < hi → c k = col + 10 * (i + 1)) ∧ Own 24 w 1001 lo hi (tri xs i) l[i]

theorem wrx_later {w w' : World} {c c' : Nat → Nat} {col : Nat} {sl : Value} {l : List Itm} {xs : List Value} (h : WRx w c col sl l xs) (hb : Below w.heap.size w w') (hcc : ∀ k, k < w.heap.size → c' k = c k) : WRx w' c' col sl l xs := by
  obtain ⟨ho, hc, hk⟩ := h
  refine ⟨owns_frame ho (fun g hg => hb.block g (ho.lt g hg).2), fun g hg => ?_, fun i hi => ?_⟩
  · rw [hcc g (ho.lt g hg).2]; exact hc g hg
  · obtain ⟨lo, hi', q1, q2, q3⟩ := hk i hi
    exact ⟨lo, hi', Nat.le_trans q1 hb.size, fun k h1 h2 => by rw [hcc k (by omega)]; exact q2 k h1 h2, own_frame _ _ _ _ _ (fun k h1 h2 => hb.block k (by omega)) q3⟩

/-- What is stored behind an append, in whatever order. -/
structure Stored (w9 wF : World) (g n B f : Nat) (new d0 d1 d2 : Value) : Prop where
  size : wF.heap.size = w9.heap.size
  other : ∀ k, k ≠ g → k ≠ B → wF.heap[k]? = w9.heap[k]?
  book : ∀ cs, w9.heap[B]? = some (.cells cs 39 (0, 0)) → wF.heap[B]? = some (.cells (cs.setIfInBounds f new) 39 (0, 0))
  row : ∀ cap m xs, w9.ownsRow 0 24 3 (.slice (some ⟨g, 0, none⟩) m cap) m xs → wF.ownsRow 0 24 3 (.slice (some ⟨g, 0, none⟩) m cap) m (put3 xs n d0 d1 d2)
  rest : wF.os = w9.os ∧ wF.tape = w9.tape ∧ wF.output = w9.output

theorem stored_first (w9 : World) {g n B f : Nat} (hg : g ≠ B) (new d0 d1 d2 : Value) :
    Stored w9 ((((w9.setCell ⟨g, n * 3, none⟩ d0).setCell ⟨g, n * 3 + 1, none⟩ d1).setCell ⟨g, n * 3 + 2, none⟩ d2).setCell ⟨B, f, none⟩ new) g n B f new d0 d1 d2 := by
  refine ⟨by simp [World.setCell], fun k h1 h2 => by rw [setCell_block _ _ _ _ h2, put_other h1], fun cs hcs => ?_, fun cap m xs ho => ?_, by simp [World.setCell]⟩
  · exact heap_setCell_same _ B f _ 39 _ (by rw [put_other (Ne.symm hg)]; exact hcs)
  · have s1 := (ho.stored (n * 3) d0).1
    have s2 := (s1.stored (n * 3 + 1) d1).1
    have s3 := (s2.stored (n * 3 + 2) d2).1
    exact owns_frame s3 (fun k hk => by
      simp only [Value.ownBlock, Option.some.injEq] at hk
      exact setCell_block _ _ _ _ (by simp; omega))

theorem stored_last (w9 : World) {g n B f : Nat} (hg : g ≠ B) (new d0 d1 d2 : Value) :
    Stored w9 ((((w9.setCell ⟨B, f, none⟩ new).setCell ⟨g, n * 3, none⟩ d0).setCell ⟨g, n * 3 + 1, none⟩ d1).setCell ⟨g, n * 3 + 2, none⟩ d2) g n B f new d0 d1 d2 := by
  refine ⟨by simp [World.setCell], fun k h1 h2 => by rw [put_other h1, setCell_block _ _ _ _ h2], fun cs hcs => ?_, fun cap m xs ho => ?_, by simp [World.setCell]⟩
  · rw [put_other (Ne.symm hg)]
    exact heap_setCell_same _ B f _ 39 _ hcs
  · have s0 : (w9.setCell ⟨B, f, none⟩ new).ownsRow 0 24 3 (.slice (some ⟨g, 0, none⟩) m cap) m xs := owns_frame ho (fun k hk => by
      simp only [Value.ownBlock, Option.some.injEq] at hk
      exact setCell_block _ _ _ _ (by simp; omega))
    have s1 := (s0.stored (n * 3) d0).1
    have s2 := (s1.stored (n * 3 + 1) d1).1
    have s3 := (s2.stored (n * 3 + 2) d2).1
    exact s3

theorem push_core {W w9 wF : World} {c : Nat → Nat} {B f col : Nat} {u : Value} {l : List Itm} {xs : List Value} {t : Itm} {g cap lo hi : Nat} {d0 d1 d2 z0 z1 z2 : Value} (hcol : col = 3 ∨ col = 4)
    (hr : WRx W c col u l xs) (hB : c B = 1) (hBlt : B < W.heap.size) (hitem : Own 24 w9 1001 lo hi (.agg #[d0, d1, d2]) t) (hhi : hi ≤ w9.heap.size) (hcw : ∀ k, lo ≤ k → k < hi → c k = col + 10 * (l.length + 1)) (hgw : ∀ k, lo ≤ k → k < hi → k ≠ g)
    (ho1 : w9.ownsRow 0 24 3 (.slice (some ⟨g, 0, none⟩) (l.length + 1) cap) (l.length + 1) (xs ++ [z0, z1, z2])) (hgr : W.grownBy w9 u.ownBlock) (hat : u.ownBlock = some g ∨ W.heap.size ≤ g)
    (hst : Stored w9 wF g l.length B f (.slice (some ⟨g, 0, none⟩) (l.length + 1) cap) d0 d1 d2) :
    PushFacts W wF c B f col g u l t (.slice (some ⟨g, 0, none⟩) (l.length + 1) cap) := by
  obtain ⟨ho, hcu, hk⟩ := hr
  have hgB : B ≠ g := by
    intro e
    rcases hat with h | h
    · have := hcu g h; rw [← e] at this; omega
    · omega
  have hblk : ∀ k, k < W.heap.size → c k ≠ col → w9.heap[k]? = W.heap[k]? := fun k hk hn => hgr.block k hk (fun e => hn (hcu k e.symm))
  have hkg : ∀ k, k < W.heap.size → c k ≠ col → k ≠ g := by
    intro k hk hn e
    rcases hat with h | h
    · exact hn (by rw [e]; exact hcu g h)
    · omega
  have hcolor : ∀ k, k < W.heap.size → setc c g col k = c k := by
    intro k hk
    unfold setc
    split
    · rename_i e
      rcases hat with h | h
      · rw [e, hcu g h]
      · omega
    · rfl
  have hblock : ∀ k, k < W.heap.size → c k ≠ col → k ≠ B → wF.heap[k]? = W.heap[k]? := fun k hk hn hb => by
    rw [hst.other k (hkg k hk hn) hb]; exact hblk k hk hn
  have hsz := hgr.size
  have hx := ho.1
  have hrow := hst.row _ _ _ ho1
  refine ⟨⟨put3 (xs ++ [z0, z1, z2]) l.length d0 d1 d2, by simpa using hrow, ?_, ?_⟩, hblock, hcolor, ?_, by rw [hst.size]; exact hsz, ?_⟩
  · intro g' hg'
    simp only [Value.ownBlock, Option.some.injEq] at hg'
    unfold setc
    rw [if_pos hg'.symm]
  · intro i hi'
    by_cases he : i = l.length
    · subst he
      refine ⟨lo, hi, by rw [hst.size]; omega, fun k h1 h2 => by unfold setc; rw [if_neg (hgw k h1 h2)]; exact hcw k h1 h2, ?_⟩
      rw [tri_put_same _ _ _ _ _ (by rw [List.length_append, hx]; simp)]
      simp only [List.getElem_append_right (Nat.le_refl _), Nat.sub_self, List.getElem_cons_zero]
      exact own_frame _ _ _ _ _ (fun k h1 h2 => hst.other k (hgw k h1 h2) (by intro e; have := hcw k h1 h2; rw [e, hB] at this; omega)) hitem
    · have hlt : i < l.length := by simp at hi'; omega
      obtain ⟨lo', hi2, q1, q2, q3⟩ := hk i hlt
      refine ⟨lo', hi2, by rw [hst.size]; omega, fun k h1 h2 => by rw [hcolor k (by omega)]; exact q2 k h1 h2, ?_⟩
      rw [tri_put_other _ _ _ _ _ _ he, tri_left xs _ i l.length hx hlt, List.getElem_append_left hlt]
      exact own_frame _ _ _ _ _ (fun k h1 h2 => hblock k (by omega) (by rw [q2 k h1 h2]; omega) (by intro e; have := q2 k h1 h2; rw [e, hB] at this; omega)) q3
  · intro cs hcs
    exact hst.book cs (by rw [hblk B hBlt (by omega)]; exact hcs)
  · obtain ⟨p1, p2, p3⟩ := hst.rest
    exact ⟨p1.trans hgr.os, p2.trans hgr.tape, p3.trans hgr.output⟩

/-- An item has been kept; that it was is not yet. -/
structure KeepMid (c : Nat → Nat) (w : World) (B : Nat) (it we : Value) (Q : Nat) (l : List Itm) (t : Itm) (d0 d1 d2 : Value) (lo hi : Nat) (wF : World) (c1 : Nat → Nat) (wi1 : Value) : Prop where
  book : BookSt wF c1 B it wi1 we Q
  row3 : WaitRow wF c1 3 wi1 (l ++ [t])
  row4 : WaitRow wF c1 4 we l
  turn : KeepT c c1 w wF
  box : wF.heap[w.heap.size]? = some (.cells #[d0, d1, d2] 24 (0, 0))
  own : Own 24 wF 1001 lo hi (.agg #[d0, d1, d2]) t
  cbox : c1 w.heap.size = 0

theorem keep_mid {c : Nat → Nat} {w W w1 wF : World} {B : Nat} {it wi we : Value} {Q : Nat} {l : List Itm} {t : Itm} {d0 d1 d2 : Value} {lo hi : Nat} {xs : List Value} {g cap : Nat} {z0 z1 z2 : Value}
    (hB : BookSt w c B it wi we Q) (h3 : WRx w c 3 wi l xs) (h4 : WaitRow w c 4 we l) (hown : Own 24 w 1001 lo hi (.agg #[d0, d1, d2]) t) (hhi : hi ≤ w.heap.size) (hcw : ∀ k, lo ≤ k → k < hi → c k = 3 + 10 * (l.length + 1))
    (hb : Below w.heap.size w W) (hbox : W.heap[w.heap.size]? = some (.cells #[d0, d1, d2] 24 (0, 0)))
    (ho1 : w1.ownsRow 0 24 3 (.slice (some ⟨g, 0, none⟩) (l.length + 1) cap) (l.length + 1) (xs ++ [z0, z1, z2])) (hgr : W.grownBy w1 wi.ownBlock) (hat : wi.ownBlock = some g ∨ g = W.heap.size)
    (hst : Stored w1 wF g l.length B 7 (.slice (some ⟨g, 0, none⟩) (l.length + 1) cap) d0 d1 d2) :
    ∃ c1 wi1, KeepMid c w B it we Q l t d0 d1 d2 lo hi wF c1 wi1 := by
  have hBlt := hB.lt
  have hwlt : w.heap.size < W.heap.size := (Array.getElem?_eq_some_iff.1 hbox).1
  have hcB : paint c w.heap.size B = 1 := by rw [paint_old _ hBlt]; exact hB.cb
  have hr : WRx W (paint c w.heap.size) 3 wi l xs := wrx_later h3 hb (fun k hk => paint_old _ hk)
  have hne : ∀ k, k < W.heap.size → paint c w.heap.size k ≠ 3 → k ≠ g := by
    intro k hk hn e
    rcases hat with h | h
    · exact hn (by rw [e]; exact hr.2.1 g h)
    · omega
  have hcw' : ∀ k, lo ≤ k → k < hi → paint c w.heap.size k = 3 + 10 * (l.length + 1) := fun k h1 h2 => by rw [paint_old _ (by omega)]; exact hcw k h1 h2
  have hblk : ∀ k, k < W.heap.size → paint c w.heap.size k ≠ 3 → w1.heap[k]? = W.heap[k]? := fun k hk hn => hgr.block k hk (fun e => hn (hr.2.1 k e.symm))
  have hitem : Own 24 w1 1001 lo hi (.agg #[d0, d1, d2]) t := own_frame _ _ _ _ _ (fun k h1 h2 => by rw [hblk k (by omega) (by rw [hcw' k h1 h2]; omega)]; exact hb.block k (by omega)) hown
  have PF := push_core (f := 7) (.inl rfl) hr hcB (by omega) hitem (by have := hgr.size; omega) hcw' (fun k h1 h2 => hne k (by omega) (by rw [hcw' k h1 h2]; omega)) ho1 hgr (hat.imp id (fun h => by omega)) hst
  refine ⟨_, _, PF.book7 (hB.later hb), PF.row, PF.other hcB (by omega) (.inl rfl) (.inr rfl) (h4.later (by omega) hb (fun k hk => paint_old _ hk)), (KeepT.of_below hb (fun k hk => paint_old _ hk)).trans (PF.turn (.inl rfl) hcB), ?_, ?_, ?_⟩
  · rw [PF.block _ hwlt (by rw [paint_new _ (Nat.le_refl _)]; omega) (by omega)]; exact hbox
  · exact own_frame _ _ _ _ _ (fun k h1 h2 => by rw [PF.block k (by omega) (by rw [hcw' k h1 h2]; omega) (by intro e; have := hcw' k h1 h2; rw [e, hcB] at this; omega)]; exact hb.block k (by omega)) hown
  · rw [PF.color _ hwlt]; exact paint_new _ (Nat.le_refl _)

/-- Keeping an item. -/
def KeepPost (c : Nat → Nat) (B : Nat) (it : Value) (Q : Nat) (l : List Itm) (t : Itm) (w : World) (e : Ending) (w' : World) : Prop :=
  e = .returned (.tuple #[]) ∧ ∃ c' wi' we', BookSt w' c' B it wi' we' Q ∧ WaitRow w' c' 3 wi' (l ++ [t]) ∧ WaitRow w' c' 4 we' (l ++ [t]) ∧ KeepT c c' w w'

/-- The colours once the copy of an item lies in blocks of its own. -/
def wincol (c : Nat → Nat) (n lo hi col : Nat) : Nat → Nat := fun k => if k < n then c k else if lo ≤ k ∧ k < hi then col else 0

theorem wincol_old (c : Nat → Nat) {n k : Nat} (lo hi col : Nat) (h : k < n) : wincol c n lo hi col k = c k := by unfold wincol; rw [if_pos h]
theorem wincol_in (c : Nat → Nat) {n k lo hi : Nat} (col : Nat) (h : n ≤ lo) (h1 : lo ≤ k) (h2 : k < hi) : wincol c n lo hi col k = col := by unfold wincol; rw [if_neg (by omega), if_pos ⟨h1, h2⟩]

theorem keep_end {c c1 : Nat → Nat} {w wc W w9 wF : World} {B : Nat} {it wi1 we : Value} {Q : Nat} {l : List Itm} {t : Itm} {d0 d1 d2 e0 e1 e2 : Value} {lo hi lo2 hi2 : Nat} {xs : List Value} {g cap : Nat} {z0 z1 z2 : Value}
    (h : KeepMid c w B it we Q l t d0 d1 d2 lo hi wc c1 wi1) (h4 : WRx wc c1 4 we l xs) (hb : Below wc.heap.size wc W)
    (hlo : wc.heap.size ≤ lo2) (hhi : hi2 ≤ w9.heap.size) (hgw : ∀ k, lo2 ≤ k → k < hi2 → k ≠ g) (hitem : Own 24 w9 1001 lo2 hi2 (.agg #[e0, e1, e2]) t)
    (ho1 : w9.ownsRow 0 24 3 (.slice (some ⟨g, 0, none⟩) (l.length + 1) cap) (l.length + 1) (xs ++ [z0, z1, z2])) (hgr : W.grownBy w9 we.ownBlock) (hat : we.ownBlock = some g ∨ g = W.heap.size)
    (hst : Stored w9 wF g l.length B 8 (.slice (some ⟨g, 0, none⟩) (l.length + 1) cap) e0 e1 e2) : KeepPost c B it Q l t w (.returned (.tuple #[])) wF := by
  have hBlt := h.book.lt
  have hold : ∀ k, k < wc.heap.size → wincol c1 wc.heap.size lo2 hi2 (4 + 10 * (l.length + 1)) k = c1 k := fun k hk => wincol_old _ _ _ _ hk
  have hcB : wincol c1 wc.heap.size lo2 hi2 (4 + 10 * (l.length + 1)) B = 1 := by rw [hold B hBlt]; exact h.book.cb
  have hr : WRx W (wincol c1 wc.heap.size lo2 hi2 (4 + 10 * (l.length + 1))) 4 we l xs := wrx_later h4 hb hold
  have hsz := hb.size
  have PF := push_core (f := 8) (.inr rfl) hr hcB (by omega) hitem hhi (fun k h1 h2 => wincol_in _ _ hlo h1 h2) hgw ho1 hgr (hat.imp id (fun h => by omega)) hst
  refine ⟨rfl, _, _, _, PF.book8 (h.book.frame hsz (fun k hk _ => ⟨hb.block k hk, hold k hk⟩)), PF.other hcB (by omega) (.inr rfl) (.inl rfl) (h.row3.later (by omega) hb hold), PF.row, h.turn.trans ((KeepT.of_below hb hold).trans (PF.turn (.inr rfl) hcB))⟩

theorem grown_below {W w1 w2 : World} {row : Option Nat} (h : W.grownBy w1 row) (hb : Below w1.heap.size w1 w2) : W.grownBy w2 row :=
  ⟨hb.os.trans h.os, hb.tape.trans h.tape, hb.output.trans h.output, Nat.le_trans h.size hb.size, fun k hk hn => by rw [hb.block k (Nat.lt_of_lt_of_le hk h.size)]; exact h.block k hk hn⟩

theorem owns_below {w w' : World} {b : Nat} {e : TypeId} {size : Nat} {v : Value} {n : Nat} {xs : List Value} (h : w.ownsRow b e size v n xs) (hb : Below w.heap.size w w') : w'.ownsRow b e size v n xs := owns_frame h (fun g hg => hb.block g (h.lt g hg).2)

/-- The copy of the item is made, then the place: behind them it is stored. -/
theorem keep_end_ca {c c1 : Nat → Nat} {w wc W w1 wF : World} {B : Nat} {it wi1 we : Value} {Q : Nat} {l : List Itm} {t : Itm} {d0 d1 d2 e0 e1 e2 : Value} {lo hi lo2 hi2 : Nat} {xs : List Value} {g cap : Nat} {z0 z1 z2 : Value}
    (h : KeepMid c w B it we Q l t d0 d1 d2 lo hi wc c1 wi1) (h4 : WRx wc c1 4 we l xs) (hb : Below wc.heap.size wc W)
    (hlo : wc.heap.size ≤ lo2) (hhi : hi2 ≤ W.heap.size) (hitem : Own 24 W 1001 lo2 hi2 (.agg #[e0, e1, e2]) t)
    (ho1 : w1.ownsRow 0 24 3 (.slice (some ⟨g, 0, none⟩) (l.length + 1) cap) (l.length + 1) (xs ++ [z0, z1, z2])) (hgr : W.grownBy w1 we.ownBlock) (hat : we.ownBlock = some g ∨ g = W.heap.size)
    (hst : Stored w1 wF g l.length B 8 (.slice (some ⟨g, 0, none⟩) (l.length + 1) cap) e0 e1 e2) : KeepPost c B it Q l t w (.returned (.tuple #[])) wF := by
  have hrow : ∀ g, we.ownBlock = some g → g < wc.heap.size := fun g hg => (h4.1.lt g hg).2
  refine keep_end h h4 hb hlo (Nat.le_trans hhi hgr.size) ?_ ?_ ho1 hgr hat hst
  · intro k h1 h2 e
    rcases hat with h | h
    · have := hrow g h; omega
    · omega
  · exact own_frame _ _ _ _ _ (fun k h1 h2 => hgr.block k (by omega) (fun e => by have := hrow k e.symm; omega)) hitem

/-- The place is made, then the copy. -/
theorem keep_end_ac {c c1 : Nat → Nat} {w wc W w1 w2 wF : World} {B : Nat} {it wi1 we : Value} {Q : Nat} {l : List Itm} {t : Itm} {d0 d1 d2 e0 e1 e2 : Value} {lo hi : Nat} {xs : List Value} {g cap : Nat} {z0 z1 z2 : Value}
    (h : KeepMid c w B it we Q l t d0 d1 d2 lo hi wc c1 wi1) (h4 : WRx wc c1 4 we l xs) (hb : Below wc.heap.size wc W)
    (ho1 : w1.ownsRow 0 24 3 (.slice (some ⟨g, 0, none⟩) (l.length + 1) cap) (l.length + 1) (xs ++ [z0, z1, z2])) (hgr : W.grownBy w1 we.ownBlock) (hat : we.ownBlock = some g ∨ g = W.heap.size)
    (hb2 : Below w1.heap.size w1 w2) (hitem : Own 24 w2 1001 w1.heap.size w2.heap.size (.agg #[e0, e1, e2]) t)
    (hst : Stored w2 wF g l.length B 8 (.slice (some ⟨g, 0, none⟩) (l.length + 1) cap) e0 e1 e2) : KeepPost c B it Q l t w (.returned (.tuple #[])) wF := by
  have hgl : g < w1.heap.size := (ho1.lt g rfl).2
  exact keep_end h h4 hb (Nat.le_trans hb.size hgr.size) (Nat.le_refl _) (fun k h1 _ e => by omega) hitem (owns_below ho1 hb2) (grown_below hgr hb2) hat hst

/-- The place is made and told to the book, then the copy. -/
theorem keep_end_asc {c c1 : Nat → Nat} {w wc W w1 w2 : World} {B : Nat} {it wi1 we : Value} {Q : Nat} {l : List Itm} {t : Itm} {d0 d1 d2 e0 e1 e2 : Value} {lo hi : Nat} {xs : List Value} {g cap : Nat} {z0 z1 z2 : Value}
    (h : KeepMid c w B it we Q l t d0 d1 d2 lo hi wc c1 wi1) (h4 : WRx wc c1 4 we l xs) (hb : Below wc.heap.size wc W)
    (ho1 : w1.ownsRow 0 24 3 (.slice (some ⟨g, 0, none⟩) (l.length + 1) cap) (l.length + 1) (xs ++ [z0, z1, z2])) (hgr : W.grownBy w1 we.ownBlock) (hat : we.ownBlock = some g ∨ g = W.heap.size)
    (hb2 : Below (w1.setCell ⟨B, 8, none⟩ (.slice (some ⟨g, 0, none⟩) (l.length + 1) cap)).heap.size (w1.setCell ⟨B, 8, none⟩ (.slice (some ⟨g, 0, none⟩) (l.length + 1) cap)) w2) (hitem : Own 24 w2 1001 (w1.setCell ⟨B, 8, none⟩ (.slice (some ⟨g, 0, none⟩) (l.length + 1) cap)).heap.size w2.heap.size (.agg #[e0, e1, e2]) t) :
    KeepPost c B it Q l t w (.returned (.tuple #[])) (((w2.setCell ⟨g, l.length * 3, none⟩ e0).setCell ⟨g, l.length * 3 + 1, none⟩ e1).setCell ⟨g, l.length * 3 + 2, none⟩ e2) := by
  have hgl : g < w1.heap.size := (ho1.lt g rfl).2
  have hBlt := h.book.lt
  have hBw1 : B < w1.heap.size := by have := hb.size; have := hgr.size; omega
  have hsz : (w1.setCell ⟨B, 8, none⟩ (.slice (some ⟨g, 0, none⟩) (l.length + 1) cap)).heap.size = w1.heap.size := by simp [World.setCell]
  rw [hsz] at hb2 hitem
  have hcB := h.book.cb
  have hnB : ∀ g, we.ownBlock = some g → g ≠ B := fun g hg e => by have := h4.2.1 g hg; rw [e] at this; omega
  have hgB : g ≠ B := by
    rcases hat with h | h
    · exact hnB g h
    · have := hb.size; omega
  have hbkW : W.heap[B]? = some (.cells #[.slice none 0 0, .slice none 0 0, it, .slice none 0 0, .slice none 0 0, .slice none 0 0, .slice none 0 0, wi1, we] 39 (0, 0)) := (hb.block B hBlt).trans h.book.bk
  have hbk1 : w1.heap[B]? = some (.cells #[.slice none 0 0, .slice none 0 0, it, .slice none 0 0, .slice none 0 0, .slice none 0 0, .slice none 0 0, wi1, we] 39 (0, 0)) := (hgr.block B (by have := hb.size; omega) (fun e => hnB B e.symm rfl)).trans hbkW
  have hbkX := heap_setCell_same w1 B 8 _ 39 (.slice (some ⟨g, 0, none⟩) (l.length + 1) cap) hbk1
  have hbk2 := (hb2.block B hBw1).trans hbkX
  have hbk9 := heap_setCell_same w2 B 8 _ 39 we hbk2
  have h9 : ∀ k, k ≠ B → (w2.setCell ⟨B, 8, none⟩ we).heap[k]? = w2.heap[k]? := fun k hk => setCell_block _ _ _ _ hk
  have h91 : ∀ k, k ≠ B → k < w1.heap.size → (w2.setCell ⟨B, 8, none⟩ we).heap[k]? = w1.heap[k]? := fun k hk hlt => by
    rw [h9 k hk, hb2.block k hlt]; exact setCell_block _ _ _ _ hk
  have hs9 : (w2.setCell ⟨B, 8, none⟩ we).heap.size = w2.heap.size := by simp [World.setCell]
  have hr9 : (w2.setCell ⟨B, 8, none⟩ we).os = w2.os ∧ (w2.setCell ⟨B, 8, none⟩ we).tape = w2.tape ∧ (w2.setCell ⟨B, 8, none⟩ we).output = w2.output := by simp [World.setCell]
  have hgr9 : W.grownBy (w2.setCell ⟨B, 8, none⟩ we) we.ownBlock := by
    refine ⟨?_, ?_, ?_, ?_, ?_⟩
    · rw [hr9.1, hb2.os]; simpa [World.setCell] using hgr.os
    · rw [hr9.2.1, hb2.tape]; simpa [World.setCell] using hgr.tape
    · rw [hr9.2.2, hb2.output]; simpa [World.setCell] using hgr.output
    · rw [hs9]; have h5 := hb2.size; rw [hsz] at h5; exact Nat.le_trans hgr.size h5
    · intro k hk hn
      by_cases he : k = B
      · subst he
        rw [hbkW, hbk9]; rfl
      · rw [h91 k he (Nat.lt_of_lt_of_le hk hgr.size)]; exact hgr.block k hk hn
  refine keep_end h h4 hb (Nat.le_trans hb.size hgr.size) (by rw [hs9]; exact Nat.le_refl _) (fun k h1 _ e => by omega) (own_frame _ _ _ _ _ (fun k h1 _ => h9 k (by omega)) hitem) (owns_frame ho1 (fun k hk => ?_)) hgr9 hat ?_
  · simp only [Value.ownBlock, Option.some.injEq] at hk
    exact h91 k (by omega) (by omega)
  · refine ⟨by simp [World.setCell], fun k h1 h2 => by rw [put_other h1, h9 k h2], fun cs hcs => ?_, fun cap' m ys ho => ?_, by simp [World.setCell]⟩
    · rw [put_other (Ne.symm hgB), hbk2]
      rw [hbk9] at hcs
      simp only [Option.some.injEq, Obj.cells.injEq] at hcs
      obtain ⟨rfl, _, _⟩ := hcs
      rfl
    · have s0 : w2.ownsRow 0 24 3 (.slice (some ⟨g, 0, none⟩) m cap') m ys := owns_frame ho (fun k hk => by
        simp only [Value.ownBlock, Option.some.injEq] at hk
        exact (h9 k (by omega)).symm)
      have s1 := (s0.stored (l.length * 3) e0).1
      have s2 := (s1.stored (l.length * 3 + 1) e1).1
      have s3 := (s2.stored (l.length * 3 + 2) e2).1
      exact s3

theorem own_box {E : TypeId} {w : World} {n lo hi : Nat} {v : Value} {t : Itm} (h : Own E w n lo hi v t) : ∃ d0 d1 d2, v = .agg #[d0, d1, d2] := by
  cases n with
  | zero => exact h.elim
  | succ n =>
    obtain ⟨sl, rfl, _⟩ := h
    exact ⟨_, _, _, rfl⟩

theorem own_shape {E : TypeId} {w : World} {n lo hi : Nat} {v : Value} {t : Itm} (h : Own E w n lo hi v t) : ∃ a cap, v = .agg #[.bool t.list, .string ⟨t.bytes.toArray⟩, .slice a t.items.length cap] := by
  cases n with
  | zero => exact h.elim
  | succ n =>
    obtain ⟨sl, rfl, xs, ho, _⟩ := h
    rcases ho.2 with ⟨rfl, h0⟩ | ⟨g, cap, cur, hv, _⟩
    · exact ⟨none, 0, by rw [h0]⟩
    · exact ⟨_, _, by rw [hv]⟩

/-- The append itself, at a step of a region that draws. -/
theorem step_push {ops : Array Oper} {o : Oper} {act : Act} {K : Act → World → Prop} {Q' : Exit → Act → World → Prop} {E : Prop} (hgd : o.guard = none) (s x : Operand)
    (hop : o.op = .call { callee := .builtin .append, args := #[s, x], argTypes := #[22, 22] }) {W : World} {sl : Value} {n : Nat} {xs : List Value} (L : Nat) (hs : act.eval s = sl) (hx : act.eval x = .slice (some ⟨L, 0, none⟩) 1 1)
    (ho : W.ownsRow 0 24 3 sl n xs) (hL : W.heap[L]? = some (.cells #[.bool false, .string ⟨#[]⟩, .slice none 0 0] 24 (0, 0))) (hn : n ≤ 1000)
    (h : ∀ g cap w', w'.ownsRow 0 24 3 (.slice (some ⟨g, 0, none⟩) (n + 1) cap) (n + 1) (xs ++ [.bool false, .string ⟨#[]⟩, .slice none 0 0]) → W.grownBy w' sl.ownBlock → (sl.ownBlock = some g ∨ g = W.heap.size) → g < w'.heap.size → K (act.put o.dst (.slice (some ⟨g, 0, none⟩) (n + 1) cap)) w') :
    if Region.wanted o (yielded ops act.tmps) = true then Oper.wp Try.prog o act W K Q' else E := by
  obtain ⟨i0, hi0, hz0, hz1, hz2⟩ := info_parts infoItem
  refine step_append_lies W hgd s x 22 hop 0 24 i0 _ 3 48 Try.underlying22 hi0 hz0 hz1 hz2 rfl (by decide) sl n xs hs ho ⟨L, 0, none⟩ 1 1 [.bool false, .string ⟨#[]⟩, .slice none 0 0] hx rfl (World.news_of_block hL) ?_ (by decide) ?_ ?_ (Nat.zero_le _) _ rfl h
  · intro u hu
    simp only [List.mem_cons, List.not_mem_nil, or_false] at hu
    rcases hu with rfl | rfl | rfl <;> rfl
  · unfold maxLen; omega
  · omega

/-- What is found behind the append. -/
theorem keep_app {W w1 : World} {c : Nat → Nat} {B X f col g cap : Nat} {u y : Value} {l : List Itm} {xs : List Value} {cs : Array Value} {d0 d1 d2 z0 z1 z2 : Value} (hcol : col = 3 ∨ col = 4)
    (hr : WRx W c col u l xs) (hcB : c B = 1) (hcX : c X = 0) (hbk : W.heap[B]? = some (.cells cs 39 (0, 0))) (hf : cs[f]? = some y) (hX : W.heap[X]? = some (.cells #[d0, d1, d2] 24 (0, 0)))
    (ho1 : w1.ownsRow 0 24 3 (.slice (some ⟨g, 0, none⟩) (l.length + 1) cap) (l.length + 1) (xs ++ [z0, z1, z2])) (hgr : W.grownBy w1 u.ownBlock) (hat : u.ownBlock = some g ∨ g = W.heap.size) :
    (w1.cell? ⟨g, l.length * 3, none⟩ = some z0 ∧ w1.cell? ⟨g, l.length * 3 + 1, none⟩ = some z1 ∧ w1.cell? ⟨g, l.length * 3 + 2, none⟩ = some z2) ∧
    (w1.frozen? ⟨g, l.length * 3, none⟩ = false ∧ w1.frozen? ⟨g, l.length * 3 + 1, none⟩ = false ∧ w1.frozen? ⟨g, l.length * 3 + 2, none⟩ = false) ∧
    (w1.cell? ⟨B, f, none⟩ = some y ∧ w1.frozen? ⟨B, f, none⟩ = false) ∧
    (w1.cell? ⟨X, 0, none⟩ = some d0 ∧ w1.cell? ⟨X, 1, none⟩ = some d1 ∧ w1.cell? ⟨X, 2, none⟩ = some d2) ∧
    (¬ g = B ∧ ¬ B = g ∧ ¬ g = X ∧ ¬ X = g ∧ ¬ B = X ∧ ¬ X = B) := by
  obtain ⟨r0, r1, r2, q0, q1, q2⟩ := row_last ho1 hr.1.1
  have hBlt : B < W.heap.size := (Array.getElem?_eq_some_iff.1 hbk).1
  have hXlt : X < W.heap.size := (Array.getElem?_eq_some_iff.1 hX).1
  have hn : ∀ k, k < W.heap.size → c k ≠ col → w1.heap[k]? = W.heap[k]? ∧ k ≠ g := by
    intro k hk hc
    refine ⟨hgr.block k hk (fun e => hc (hr.2.1 k e.symm)), fun e => ?_⟩
    rcases hat with h | h
    · exact hc (by rw [e]; exact hr.2.1 g h)
    · omega
  obtain ⟨hb1, hb2⟩ := hn B hBlt (by omega)
  obtain ⟨hx1, hx2⟩ := hn X hXlt (by omega)
  have hBX : B ≠ X := by intro e; rw [e, hcX] at hcB; omega
  have eB := hb1.trans hbk
  have eX := hx1.trans hX
  refine ⟨⟨r0, r1, r2⟩, ⟨q0, q1, q2⟩, ⟨?_, frozen_of_row _ _ f _ _ eB⟩, ⟨?_, ?_, ?_⟩, fun e => hb2 e.symm, hb2, fun e => hx2 e.symm, hx2, hBX, fun e => hBX e.symm⟩
  · rw [cell_of_row _ _ f _ _ _ eB]; exact hf
  · rw [cell_of_row _ _ 0 _ _ _ eX]; rfl
  · rw [cell_of_row _ _ 1 _ _ _ eX]; rfl
  · rw [cell_of_row _ _ 2 _ _ _ eX]; rfl
theorem keep_copied {wc W' : World} {d0 d1 d2 : Value} {t : Itm} {lo hi : Nat} (ho : Own 24 wc 1001 lo hi (.agg #[d0, d1, d2]) t) (hhi : hi ≤ W'.heap.size) (h : ∀ k, lo ≤ k → k < hi → W'.heap[k]? = wc.heap[k]?) (hc : Itm.cnt t ≤ 100000) :
    Calls Try.prog 47 #[.agg #[d0, d1, d2]] W' fun e w' => ∃ a5 cap5, e = .returned (.agg #[.bool t.list, .string ⟨t.bytes.toArray⟩, .slice a5 t.items.length cap5]) ∧ Own 24 w' 1001 W'.heap.size w'.heap.size (.agg #[.bool t.list, .string ⟨t.bytes.toArray⟩, .slice a5 t.items.length cap5]) t ∧ Below W'.heap.size W' w' := by
  refine (copied_any 1001 _ t W' (rep_of_own 1001 lo hi _ t hhi (own_frame _ _ _ _ _ h ho)) (by omega)).mono ?_
  rintro e w' ⟨v', rfl, how, hb⟩
  have hs : ∃ a cap, v' = .agg #[.bool t.list, .string ⟨t.bytes.toArray⟩, .slice a t.items.length cap] := by
    obtain ⟨sl, rfl, xs, ho, _⟩ := id how
    rcases ho.2 with ⟨rfl, h0⟩ | ⟨g, cap, cur, hv, _⟩
    · exact ⟨none, 0, by rw [h0]⟩
    · exact ⟨_, _, by rw [hv]⟩
  obtain ⟨a, cap, rfl⟩ := hs
  exact ⟨a, cap, rfl, how, hb⟩

theorem keep_same {c c1 : Nat → Nat} {w wc W w1 : World} {we : Value} {l : List Itm} {lo hi : Nat} {xs : List Value} (hgr : W.grownBy w1 we.ownBlock) (h4 : WRx wc c1 4 we l xs) (ht : KeepT c c1 w wc) (hhi : hi ≤ w.heap.size)
    (hcw : ∀ k, lo ≤ k → k < hi → c k = 3 + 10 * (l.length + 1)) (hb : Below wc.heap.size wc W) (k : Nat) (h1 : lo ≤ k) (h2 : k < hi) : w1.heap[k]? = wc.heap[k]? := by
  have hs := ht.size
  have hs2 := hb.size
  rw [hgr.block k (by omega) ?_, hb.block k (by omega)]
  intro e
  have := h4.2.1 k e.symm
  rw [ht.color k (by omega), hcw k h1 h2] at this
  omega

theorem keep_notB {c c1 : Nat → Nat} {w wc : World} {B : Nat} {it wi1 we : Value} {Q : Nat} {l : List Itm} {t : Itm} {d0 d1 d2 : Value} {lo hi k : Nat} (h : KeepMid c w B it we Q l t d0 d1 d2 lo hi wc c1 wi1) (hhi : hi ≤ w.heap.size)
    (hcw : ∀ k, lo ≤ k → k < hi → c k = 3 + 10 * (l.length + 1)) (h1 : lo ≤ k) (h2 : k < hi) : k ≠ B := by
  intro e
  have h5 := hcw k h1 h2
  have h6 := h.turn.color k (by omega)
  rw [h5, e, h.book.cb] at h6
  omega

theorem keep_size {wc W w1 : World} {we new : Value} {B : Nat} (hb : Below wc.heap.size wc W) (hgr : W.grownBy w1 we.ownBlock) : wc.heap.size ≤ (w1.setCell ⟨B, 8, none⟩ new).heap.size := by
  have h1 := hb.size
  have h2 := hgr.size
  have : (w1.setCell ⟨B, 8, none⟩ new).heap.size = w1.heap.size := by simp [World.setCell]
  omega

theorem keep_le (w2 : World) (O : Obj) : w2.heap.size ≤ (w2.alloc O).heap.size := by simp

theorem keep_over {w1 w2 : World} {B g X n : Nat} {new z0 z1 z2 d0 d1 d2 : Value} (hb : Below (w1.setCell ⟨B, 8, none⟩ new).heap.size (w1.setCell ⟨B, 8, none⟩ new) w2) (n1 : ¬ g = B) (n6 : ¬ X = B) (hlt : g < w1.heap.size) (hX : X < w1.heap.size)
    (r0 : w1.cell? ⟨g, n * 3, none⟩ = some z0) (r1 : w1.cell? ⟨g, n * 3 + 1, none⟩ = some z1) (r2 : w1.cell? ⟨g, n * 3 + 2, none⟩ = some z2) (q0 : w1.frozen? ⟨g, n * 3, none⟩ = false) (q1 : w1.frozen? ⟨g, n * 3 + 1, none⟩ = false) (q2 : w1.frozen? ⟨g, n * 3 + 2, none⟩ = false)
    (u0 : w1.cell? ⟨X, 0, none⟩ = some d0) (u1 : w1.cell? ⟨X, 1, none⟩ = some d1) (u2 : w1.cell? ⟨X, 2, none⟩ = some d2) :
    (w2.cell? ⟨g, n * 3, none⟩ = some z0 ∧ w2.cell? ⟨g, n * 3 + 1, none⟩ = some z1 ∧ w2.cell? ⟨g, n * 3 + 2, none⟩ = some z2 ∧ w2.frozen? ⟨g, n * 3, none⟩ = false ∧ w2.frozen? ⟨g, n * 3 + 1, none⟩ = false ∧ w2.frozen? ⟨g, n * 3 + 2, none⟩ = false) ∧
    w2.cell? ⟨X, 0, none⟩ = some d0 ∧ w2.cell? ⟨X, 1, none⟩ = some d1 ∧ w2.cell? ⟨X, 2, none⟩ = some d2 := by
  have hs : (w1.setCell ⟨B, 8, none⟩ new).heap.size = w1.heap.size := by simp [World.setCell]
  have hg : w2.heap[g]? = w1.heap[g]? := by rw [hb.block g (by omega)]; exact setCell_block _ _ _ _ n1
  have hx : w2.heap[X]? = w1.heap[X]? := by rw [hb.block X (by omega)]; exact setCell_block _ _ _ _ n6
  have cg : ∀ o, w2.cell? ⟨g, o, none⟩ = w1.cell? ⟨g, o, none⟩ := fun o => World.cell?_of_block hg
  have fg : ∀ o, w2.frozen? ⟨g, o, none⟩ = w1.frozen? ⟨g, o, none⟩ := fun o => World.frozen?_of_block hg
  have cx : ∀ o, w2.cell? ⟨X, o, none⟩ = w1.cell? ⟨X, o, none⟩ := fun o => World.cell?_of_block hx
  exact ⟨⟨by rw [cg]; exact r0, by rw [cg]; exact r1, by rw [cg]; exact r2, by rw [fg]; exact q0, by rw [fg]; exact q1, by rw [fg]; exact q2⟩, by rw [cx]; exact u0, by rw [cx]; exact u1, by rw [cx]; exact u2⟩
end Go.Proofs.Ytbmohenjphmlgaa
