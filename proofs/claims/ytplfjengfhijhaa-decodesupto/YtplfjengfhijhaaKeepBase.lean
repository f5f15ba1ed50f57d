/- An item is kept with those that wait: what that turns. -/
import Derived.Test.YtplfjengfhijhaaWaits
import Derived.Deep.RegionHeld3
import Derived.Deep.AppendLies
namespace Go.Proofs.Ytplfjengfhijhaa
open Go.RowKit

/-- A block gets a colour. -/
def setc (c : Nat → Nat) (g col : Nat) : Nat → Nat := fun k => if k = g then col else c k

/-- An item is stored behind the items that wait, in the place that an append has made. -/
def pushed (w1 : World) (g n B f cap : Nat) (d0 d1 d2 : Value) : World :=
  (((w1.setCell ⟨g, n * 3, none⟩ d0).setCell ⟨g, n * 3 + 1, none⟩ d1).setCell ⟨g, n * 3 + 2, none⟩ d2).setCell ⟨B, f, none⟩ (.slice (some ⟨g, 0, none⟩) (n + 1) cap)

theorem pushed_size (w1 : World) (g n B f cap : Nat) (d0 d1 d2 : Value) : (pushed w1 g n B f cap d0 d1 d2).heap.size = w1.heap.size := by simp [pushed, World.setCell]

theorem pushed_other {w1 : World} {g n B f cap k : Nat} {d0 d1 d2 : Value} (h1 : k ≠ g) (h2 : k ≠ B) : (pushed w1 g n B f cap d0 d1 d2).heap[k]? = w1.heap[k]? := by
  unfold pushed
  rw [setCell_block _ _ _ _ h2, put_other h1]

theorem pushed_world (w1 : World) (g n B f cap : Nat) (d0 d1 d2 : Value) : (pushed w1 g n B f cap d0 d1 d2).os = w1.os ∧ (pushed w1 g n B f cap d0 d1 d2).tape = w1.tape ∧ (pushed w1 g n B f cap d0 d1 d2).output = w1.output := by simp [pushed, World.setCell]

structure PushFacts (W wF : World) (c : Nat → Nat) (B f col g : Nat) (u : Value) (l : List Itm) (t : Itm) (new : Value) : Prop where
  row : WaitRow wF (setc c g col) col new (l ++ [t])
  block : ∀ k, k < W.heap.size → c k ≠ col → k ≠ B → wF.heap[k]? = W.heap[k]?
  color : ∀ k, k < W.heap.size → setc c g col k = c k
  book : ∀ cs, W.heap[B]? = some (.cells cs 39 (0, 0)) → wF.heap[B]? = some (.cells (cs.setIfInBounds f new) 39 (0, 0))
  size : W.heap.size ≤ wF.heap.size
  rest : wF.os = W.os ∧ wF.tape = W.tape ∧ wF.output = W.output

theorem push_facts {W w1 : World} {c : Nat → Nat} {B f col : Nat} {u : Value} {l : List Itm} {xs : List Value} {t : Itm} {g cap lo hi : Nat} {d0 d1 d2 z0 z1 z2 : Value} (hcol : col = 3 ∨ col = 4)
    (ho : W.ownsRow 0 24 3 u l.length xs) (hcu : ∀ g, u.ownBlock = some g → c g = col)
    (hk : ∀ i (h : i < l.length), ∃ lo hi, hi ≤ W.heap.size ∧ (∀ k, lo ≤ k → k < hi → c k = col + 10 * (i + 1)) ∧ Own 24 W 1001 lo hi (tri xs i) l[i])
    (hB : c B = 1) (hBlt : B < W.heap.size) (hitem : Own 24 W 1001 lo hi (.agg #[d0, d1, d2]) t) (hhi : hi ≤ W.heap.size) (hcw : ∀ k, lo ≤ k → k < hi → c k = col + 10 * (l.length + 1))
    (ho1 : w1.ownsRow 0 24 3 (.slice (some ⟨g, 0, none⟩) (l.length + 1) cap) (l.length + 1) (xs ++ [z0, z1, z2])) (hgr : W.grownBy w1 u.ownBlock) (hat : u.ownBlock = some g ∨ W.heap.size ≤ g) :
    PushFacts W (pushed w1 g l.length B f cap d0 d1 d2) c B f col g u l t (.slice (some ⟨g, 0, none⟩) (l.length + 1) cap) := by
  have hgB : B ≠ g := by
    intro e
    rcases hat with h | h
    · have := hcu g h; rw [← e] at this; omega
    · omega
  have hblk : ∀ k, k < W.heap.size → c k ≠ col → w1.heap[k]? = W.heap[k]? := fun k hk hn => hgr.block k hk (fun e => hn (hcu k e.symm))
  have hkg : ∀ k, k < W.heap.size → c k ≠ col → k ≠ g := by
    intro k hk hn e
    rcases hat with h | h
    · exact hn (by rw [e]; exact hcu g h)
    · omega
  have hcolor : ∀ k, k < W.heap.size → setc c g col k = c k := by
    intro k hk
    unfold setc
    split
    · rename_i e
      rcases hat with h | h
      · rw [e, hcu g h]
      · omega
    · rfl
  have hblock : ∀ k, k < W.heap.size → c k ≠ col → k ≠ B → (pushed w1 g l.length B f cap d0 d1 d2).heap[k]? = W.heap[k]? := fun k hk hn hb => by
    rw [pushed_other (hkg k hk hn) hb]; exact hblk k hk hn
  have hsz := hgr.size
  have hx := ho.1
  have s1 := (ho1.stored (l.length * 3) d0).1
  have s2 := (s1.stored (l.length * 3 + 1) d1).1
  have s3 := (s2.stored (l.length * 3 + 2) d2).1
  have hrow : (pushed w1 g l.length B f cap d0 d1 d2).ownsRow 0 24 3 (.slice (some ⟨g, 0, none⟩) (l.length + 1) cap) (l.length + 1) (put3 (xs ++ [z0, z1, z2]) l.length d0 d1 d2) :=
    owns_frame s3 (fun k hk => by
      simp only [Value.ownBlock, Option.some.injEq] at hk
      exact setCell_block _ _ _ _ (by simp; omega))
  refine ⟨⟨put3 (xs ++ [z0, z1, z2]) l.length d0 d1 d2, by simpa using hrow, ?_, ?_⟩, hblock, hcolor, ?_, by rw [pushed_size]; exact hsz, ?_⟩
  · intro g' hg'
    simp only [Value.ownBlock, Option.some.injEq] at hg'
    unfold setc
    rw [if_pos hg'.symm]
  · intro i hi'
    by_cases he : i = l.length
    · subst he
      refine ⟨lo, hi, by rw [pushed_size]; omega, fun k h1 h2 => by rw [hcolor k (by omega)]; exact hcw k h1 h2, ?_⟩
      rw [tri_put_same _ _ _ _ _ (by rw [List.length_append, hx]; simp)]
      simp only [List.getElem_append_right (Nat.le_refl _), Nat.sub_self, List.getElem_cons_zero]
      exact own_frame _ _ _ _ _ (fun k h1 h2 => hblock k (by omega) (by rw [hcw k h1 h2]; omega) (by intro e; have := hcw k h1 h2; rw [e, hB] at this; omega)) hitem
    · have hlt : i < l.length := by simp at hi'; omega
      obtain ⟨lo', hi2, q1, q2, q3⟩ := hk i hlt
      refine ⟨lo', hi2, by rw [pushed_size]; omega, fun k h1 h2 => by rw [hcolor k (by omega)]; exact q2 k h1 h2, ?_⟩
      rw [tri_put_other _ _ _ _ _ _ he, tri_left xs _ i l.length hx hlt, List.getElem_append_left hlt]
      exact own_frame _ _ _ _ _ (fun k h1 h2 => hblock k (by omega) (by rw [q2 k h1 h2]; omega) (by intro e; have := q2 k h1 h2; rw [e, hB] at this; omega)) q3
  · intro cs hcs
    have h1 : (((w1.setCell ⟨g, l.length * 3, none⟩ d0).setCell ⟨g, l.length * 3 + 1, none⟩ d1).setCell ⟨g, l.length * 3 + 2, none⟩ d2).heap[B]? = some (.cells cs 39 (0, 0)) := by
      rw [put_other hgB, hblk B hBlt (by omega)]; exact hcs
    exact heap_setCell_same _ B f _ 39 _ h1
  · obtain ⟨p1, p2, p3⟩ := pushed_world w1 g l.length B f cap d0 d1 d2
    exact ⟨p1.trans hgr.os, p2.trans hgr.tape, p3.trans hgr.output⟩

theorem PushFacts.book7 {W wF : World} {c : Nat → Nat} {B g : Nat} {it wi we u new : Value} {Q : Nat} {l : List Itm} {t : Itm} (h : PushFacts W wF c B 7 3 g u l t new) (hB : BookSt W c B it wi we Q) : BookSt wF (setc c g 3) B it new we Q := by
  have hcB := hB.cb
  obtain ⟨ls, ho, hl, hm⟩ := hB.row
  refine ⟨?_, by rw [h.color B hB.lt]; exact hcB, ?_, ls, ?_, hl, ?_⟩
  · rw [h.book _ hB.bk]; rfl
  · intro k hk
    rw [h.color k (ho.lt k hk).2]; exact hB.crow k hk
  · exact owns_frame ho (fun k hk => h.block k (ho.lt k hk).2 (by rw [hB.crow k hk]; omega) (by intro e; have := hB.crow k hk; rw [e] at this; omega))
  · exact fun k hk => (hm k hk).frame h.size (fun j hj hc => ⟨h.block j hj (by omega) (by intro e; rw [e] at hc; omega), by rw [h.color j hj]; exact hc⟩)

theorem PushFacts.book8 {W wF : World} {c : Nat → Nat} {B g : Nat} {it wi we u new : Value} {Q : Nat} {l : List Itm} {t : Itm} (h : PushFacts W wF c B 8 4 g u l t new) (hB : BookSt W c B it wi we Q) : BookSt wF (setc c g 4) B it wi new Q := by
  have hcB := hB.cb
  obtain ⟨ls, ho, hl, hm⟩ := hB.row
  refine ⟨?_, by rw [h.color B hB.lt]; exact hcB, ?_, ls, ?_, hl, ?_⟩
  · rw [h.book _ hB.bk]; rfl
  · intro k hk
    rw [h.color k (ho.lt k hk).2]; exact hB.crow k hk
  · exact owns_frame ho (fun k hk => h.block k (ho.lt k hk).2 (by rw [hB.crow k hk]; omega) (by intro e; have := hB.crow k hk; rw [e] at this; omega))
  · exact fun k hk => (hm k hk).frame h.size (fun j hj hc => ⟨h.block j hj (by omega) (by intro e; rw [e] at hc; omega), by rw [h.color j hj]; exact hc⟩)

/-- What keeping an item turns. -/
structure KeepT (c c' : Nat → Nat) (w w' : World) : Prop where
  os : w'.os = w.os
  tape : w'.tape = w.tape
  output : w'.output = w.output
  size : w.heap.size ≤ w'.heap.size
  block : ∀ k, k < w.heap.size → c k ≠ 1 → c k ≠ 3 → c k ≠ 4 → w'.heap[k]? = w.heap[k]?
  color : ∀ k, k < w.heap.size → c' k = c k

theorem KeepT.trans {c c' c'' : Nat → Nat} {w w' w'' : World} (h : KeepT c c' w w') (k : KeepT c' c'' w' w'') : KeepT c c'' w w'' :=
  ⟨k.os.trans h.os, k.tape.trans h.tape, k.output.trans h.output, Nat.le_trans h.size k.size,
    fun j hj h1 h2 h3 => (k.block j (Nat.lt_of_lt_of_le hj h.size) (by rw [h.color j hj]; exact h1) (by rw [h.color j hj]; exact h2) (by rw [h.color j hj]; exact h3)).trans (h.block j hj h1 h2 h3),
    fun j hj => (k.color j (Nat.lt_of_lt_of_le hj h.size)).trans (h.color j hj)⟩

theorem KeepT.of_below {c c' : Nat → Nat} {w w' : World} (h : Below w.heap.size w w') (hc : ∀ k, k < w.heap.size → c' k = c k) : KeepT c c' w w' := ⟨h.os, h.tape, h.output, h.size, fun k hk _ _ _ => h.block k hk, hc⟩

theorem PushFacts.turn {W wF : World} {c : Nat → Nat} {B f col g : Nat} {u new : Value} {l : List Itm} {t : Itm} (h : PushFacts W wF c B f col g u l t new) (hcol : col = 3 ∨ col = 4) (hB : c B = 1) : KeepT c (setc c g col) W wF :=
  ⟨h.rest.1, h.rest.2.1, h.rest.2.2, h.size, fun k hk h1 h3 h4 => h.block k hk (by omega) (by intro e; rw [e] at h1; exact h1 hB), h.color⟩

theorem PushFacts.other {W wF : World} {c : Nat → Nat} {B f col col' g : Nat} {u new sl : Value} {l l' : List Itm} {t : Itm} (h : PushFacts W wF c B f col g u l t new) (hB : c B = 1) (hne : col' ≠ col) (h3 : col = 3 ∨ col = 4) (h4 : col' = 3 ∨ col' = 4) (hw : WaitRow W c col' sl l') : WaitRow wF (setc c g col) col' sl l' :=
  hw.frame (by omega) h.size (fun k hk hc => ⟨h.block k hk (by omega) (by intro e; rw [e, hB] at hc; omega), h.color k hk⟩)

theorem WaitRow.later {w w' : World} {c c' : Nat → Nat} {col : Nat} {sl : Value} {l : List Itm} (h : WaitRow w c col sl l) (hcol : col < 10) (hb : Below w.heap.size w w') (hc : ∀ k, k < w.heap.size → c' k = c k) : WaitRow w' c' col sl l :=
  h.frame hcol hb.size (fun k hk _ => ⟨hb.block k hk, hc k hk⟩)

theorem row_last {w1 : World} {n g cap : Nat} {xs : List Value} {z0 z1 z2 : Value} (h : w1.ownsRow 0 24 3 (.slice (some ⟨g, 0, none⟩) (n + 1) cap) (n + 1) (xs ++ [z0, z1, z2])) (hx : xs.length = n * 3) :
    w1.cell? ⟨g, n * 3, none⟩ = some z0 ∧ w1.cell? ⟨g, n * 3 + 1, none⟩ = some z1 ∧ w1.cell? ⟨g, n * 3 + 2, none⟩ = some z2 ∧ w1.frozen? ⟨g, n * 3, none⟩ = false ∧ w1.frozen? ⟨g, n * 3 + 1, none⟩ = false ∧ w1.frozen? ⟨g, n * 3 + 2, none⟩ = false := by
  refine ⟨?_, ?_, ?_, h.frozenAt _, h.frozenAt _, h.frozenAt _⟩
  · rw [h.cellAt _ (by omega), List.getElem?_append_right (by omega), hx, Nat.sub_self]; rfl
  · rw [h.cellAt _ (by omega), List.getElem?_append_right (by omega), hx, Nat.add_sub_cancel_left]; rfl
  · rw [h.cellAt _ (by omega), List.getElem?_append_right (by omega), hx, Nat.add_sub_cancel_left]; rfl

theorem keep_ne {a : Option Addr} {n cap B g s : Nat} (h : ∀ g, (Value.slice a n cap).ownBlock = some g → g ≠ B ∧ g < s) (hat : (Value.slice a n cap).ownBlock = some g ∨ g = s + 2) (hB : B < s) : g ≠ B := by
  rcases hat with h1 | h1
  · exact (h g h1).1
  · omega

theorem keep_neX {a : Option Addr} {n cap B g s : Nat} (h : ∀ g, (Value.slice a n cap).ownBlock = some g → g ≠ B ∧ g < s) (hat : (Value.slice a n cap).ownBlock = some g ∨ g = s + 2) : ¬ (s = g) := by
  rcases hat with h1 | h1
  · have := (h g h1).2; omega
  · omega
end Go.Proofs.Ytplfjengfhijhaa
