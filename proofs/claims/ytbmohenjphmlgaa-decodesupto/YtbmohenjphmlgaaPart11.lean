/- Part 11 of a proof: what the last text needs. -/
import Derived.Test.YtbmohenjphmlgaaPart10
/- The walk of markItem (of the statements' own): the book of lists that came out; the lists of an item are marked, and kept as marked. -/
namespace Go.Proofs.Ytbmohenjphmlgaa
open Go.RowKit
set_option maxRecDepth 100000

theorem infoSl : (Try.prog.info? 22).map (fun i => (i.zero, i.size, i.bytes)) = some (some (.slice none 0 0), 1, 24) := by kernel_rfl

/-- A list that was marked, in a block of that colour. -/
def MarkedAt (w : World) (c : Nat → Nat) (v : Value) (q : Nat) : Prop := Mk w q v ∧ ∀ g, v.ownBlock = some g → c g = 5

theorem mk_lt {w : World} {q : Nat} {v : Value} (h : Mk w q v) : ∀ g, v.ownBlock = some g → g < w.heap.size := by
  intro g hg
  rcases h with rfl | ⟨g', n, cap, rfl, _, hlt, _⟩
  · simp [Value.ownBlock] at hg
  · simp only [Value.ownBlock, Option.some.injEq] at hg; omega

theorem MarkedAt.frame {w w' : World} {c c' : Nat → Nat} {v : Value} {q : Nat} (h : MarkedAt w c v q) (hs : w.heap.size ≤ w'.heap.size) (hb : ∀ k, k < w.heap.size → c k = 5 → w'.heap[k]? = w.heap[k]? ∧ c' k = 5) : MarkedAt w' c' v q :=
  ⟨mk_frame h.1 hs (fun g hg => (hb g (mk_lt h.1 g hg) (h.2 g hg)).1), fun g hg => (hb g (mk_lt h.1 g hg) (h.2 g hg)).2⟩

/-- The book, its marked lists; each block has a colour: 1 the book itself, 2 the row of its marked lists, 5 what was marked. -/
structure BookSt (w : World) (c : Nat → Nat) (B : Nat) (it wi we : Value) (Q : Nat) : Prop where
  bk : w.heap[B]? = some (.cells #[.slice none 0 0, .slice none 0 0, it, .slice none 0 0, .slice none 0 0, .slice none 0 0, .slice none 0 0, wi, we] 39 (0, 0))
  cb : c B = 1
  crow : ∀ g, it.ownBlock = some g → c g = 2
  row : ∃ ls : List Value, w.ownsRow 0 22 1 it ls.length ls ∧ ls.length = 4 * Q ∧ ∀ k (h : k < ls.length), MarkedAt w c ls[k] (k / 4)

theorem BookSt.lt {w : World} {c : Nat → Nat} {B : Nat} {it wi we : Value} {Q : Nat} (h : BookSt w c B it wi we Q) : B < w.heap.size := (Array.getElem?_eq_some_iff.1 h.bk).1

theorem BookSt.frame {w w' : World} {c c' : Nat → Nat} {B : Nat} {it wi we : Value} {Q : Nat} (h : BookSt w c B it wi we Q) (hs : w.heap.size ≤ w'.heap.size)
    (hb : ∀ k, k < w.heap.size → c k = 1 ∨ c k = 2 ∨ c k = 5 → w'.heap[k]? = w.heap[k]? ∧ c' k = c k) : BookSt w' c' B it wi we Q := by
  obtain ⟨ls, ho, hl, hm⟩ := h.row
  refine ⟨?_, ?_, ?_, ls, owns_frame ho (fun g hg => (hb g (ho.lt g hg).2 (.inr (.inl (h.crow g hg)))).1), hl, fun k hk => (hm k hk).frame hs (fun j hj hc => ⟨(hb j hj (.inr (.inr hc))).1, by rw [(hb j hj (.inr (.inr hc))).2, hc]⟩)⟩
  · rw [(hb B h.lt (.inl h.cb)).1]; exact h.bk
  · rw [(hb B h.lt (.inl h.cb)).2]; exact h.cb
  · intro g hg
    rw [(hb g (ho.lt g hg).2 (.inr (.inl (h.crow g hg)))).2]; exact h.crow g hg

/-- What a mark of an item turns: the book, its row, blocks from lo on and below hi; new colours of those alone. -/
structure Turn (c c' : Nat → Nat) (lo hi : Nat) (w w' : World) : Prop where
  os : w'.os = w.os
  tape : w'.tape = w.tape
  output : w'.output = w.output
  size : w.heap.size ≤ w'.heap.size
  block : ∀ k, k < w.heap.size → (k < lo ∨ hi ≤ k) → c k ≠ 1 → c k ≠ 2 → w'.heap[k]? = w.heap[k]?
  color : ∀ k, k < w.heap.size → (k < lo ∨ hi ≤ k) → c' k = c k

theorem Turn.trans {c c' c'' : Nat → Nat} {lo hi : Nat} {w w' w'' : World} (h : Turn c c' lo hi w w') (k : Turn c' c'' lo hi w' w'') : Turn c c'' lo hi w w'' :=
  ⟨k.os.trans h.os, k.tape.trans h.tape, k.output.trans h.output, Nat.le_trans h.size k.size,
    fun j hj hw h1 h2 => (k.block j (Nat.lt_of_lt_of_le hj h.size) hw (by rw [h.color j hj hw]; exact h1) (by rw [h.color j hj hw]; exact h2)).trans (h.block j hj hw h1 h2),
    fun j hj hw => (k.color j (Nat.lt_of_lt_of_le hj h.size) hw).trans (h.color j hj hw)⟩

theorem Turn.wider {c c' : Nat → Nat} {lo hi lo' hi' : Nat} {w w' : World} (h : Turn c c' lo hi w w') (h1 : lo' ≤ lo) (h2 : hi ≤ hi') : Turn c c' lo' hi' w w' :=
  ⟨h.os, h.tape, h.output, h.size, fun k hk hw => h.block k hk (by omega), fun k hk hw => h.color k hk (by omega)⟩

theorem Turn.of_below {c c' : Nat → Nat} {lo hi : Nat} {w w' : World} (h : Below w.heap.size w w') (hc : ∀ k, k < w.heap.size → c' k = c k) : Turn c c' lo hi w w' :=
  ⟨h.os, h.tape, h.output, h.size, fun k hk _ _ _ => h.block k hk, fun k hk _ => hc k hk⟩

/-- The colours of what there is; what is new has none. -/
def paint (c : Nat → Nat) (n : Nat) : Nat → Nat := fun k => if k < n then c k else 0

theorem paint_old (c : Nat → Nat) {n k : Nat} (h : k < n) : paint c n k = c k := by unfold paint; rw [if_pos h]
theorem paint_new (c : Nat → Nat) {n k : Nat} (h : n ≤ k) : paint c n k = 0 := by unfold paint; rw [if_neg (by omega)]

theorem BookSt.later {w w' : World} {c : Nat → Nat} {B : Nat} {it wi we : Value} {Q : Nat} (h : BookSt w c B it wi we Q) (hb : Below w.heap.size w w') : BookSt w' (paint c w.heap.size) B it wi we Q :=
  h.frame hb.size (fun k hk _ => ⟨hb.block k hk, paint_old c hk⟩)

/-- How far the items within an item have been marked. -/
structure MarkKids (n : Nat) (t : Itm) (w : World) (c0 : Nat → Nat) (B : Nat) (wi we : Value) (Q lo hi m : Nat) (sl : Value) (xs : List Value) (L H : Nat → Nat) (k : Nat) (wr : World) (c : Nat → Nat) (it : Value) : Prop where
  book : BookSt wr c B it wi we (Q + Itm.cntL (t.items.take k))
  turn : Turn c0 c lo hi w wr
  box : wr.heap[w.heap.size]? = some (.cells #[.bool t.list, .string ⟨t.bytes.toArray⟩, sl] 24 (0, 0))
  cbox : c w.heap.size = 0
  row : wr.ownsRow lo 24 3 sl t.items.length xs
  crow : ∀ g, sl.ownBlock = some g → c g = m
  kids : ∀ i (h : i < t.items.length), k ≤ i → (∀ j, L i ≤ j → j < H i → c j = m) ∧ Own 24 wr n (L i) (H i) (tri xs i) t.items[i]

theorem cntL_snoc (t : Itm) (k : Nat) (h : k < t.items.length) : Itm.cntL (t.items.take (k + 1)) = Itm.cntL (t.items.take k) + Itm.cnt t.items[k] := by
  unfold Itm.cntL
  rw [List.take_succ_eq_append_getElem h, List.map_append, List.sum_append]
  simp only [List.map_cons, List.map_nil, List.sum_cons, List.sum_nil, Nat.add_zero]

theorem cnt_cntL (t : Itm) : Itm.cnt t = 1 + Itm.cntL t.items := by rw [Itm.cnt_eq]; rfl

theorem cntL_take_le (t : Itm) (k : Nat) : Itm.cntL (t.items.take k) ≤ Itm.cntL t.items := by
  have h : ∀ (l : List Itm) (k : Nat), Itm.cntL (l.take k) ≤ Itm.cntL l := by
    intro l
    induction l with
    | nil => intro k; simp
    | cons x l ih =>
      intro k
      cases k with
      | zero => simp [Itm.cntL]
      | succ k => rw [List.take_succ_cons, Itm.cntL_cons, Itm.cntL_cons]; have := ih k; omega
  exact h _ _

theorem mark_start {n : Nat} {t : Itm} {w : World} {c0 : Nat → Nat} {B : Nat} {it wi we : Value} {Q lo hi m : Nat} {sl : Value} {xs : List Value} {L H : Nat → Nat} (hB : BookSt w c0 B it wi we Q) (hhi : hi ≤ w.heap.size) (hc : ∀ k, lo ≤ k → k < hi → c0 k = m)
    (ho : w.ownsRow lo 24 3 sl t.items.length xs) (hg : ∀ g, sl.ownBlock = some g → g < hi)
    (hL : ∀ i (h : i < t.items.length), lo ≤ L i ∧ H i ≤ hi ∧ (∀ g, sl.ownBlock = some g → g < L i ∨ H i ≤ g) ∧ Own 24 w n (L i) (H i) (tri xs i) t.items[i]) :
    MarkKids n t w c0 B wi we Q lo hi m sl xs L H 0 (w.alloc (.cells #[.bool t.list, .string ⟨t.bytes.toArray⟩, sl] 24)) (paint c0 w.heap.size) it := by
  have hb : Below w.heap.size w (w.alloc (.cells #[.bool t.list, .string ⟨t.bytes.toArray⟩, sl] 24)) := (Below.refl _ _).alloc (Nat.le_refl _) _
  refine ⟨?_, Turn.of_below hb (fun k hk => paint_old _ hk), heap_alloc_new _ _, paint_new _ (Nat.le_refl _), owns_frame ho (fun g hg' => hb.block g (ho.lt g hg').2), ?_, ?_⟩
  · simpa [Itm.cntL] using hB.later hb
  · intro g hg'
    rw [paint_old _ (ho.lt g hg').2]
    exact hc g (ho.lt g hg').1 (hg g hg')
  · intro i hi' _
    obtain ⟨q1, q2, q3, q4⟩ := hL i hi'
    refine ⟨fun j h1 h2 => by rw [paint_old _ (by omega)]; exact hc j (by omega) (by omega), own_frame _ _ _ _ _ (fun j _ h2 => hb.block j (by omega)) q4⟩

theorem mark_step {n : Nat} {t : Itm} {w : World} {c0 : Nat → Nat} {B : Nat} {it wi we : Value} {Q lo hi m : Nat} {sl : Value} {xs : List Value} {L H : Nat → Nat} {k : Nat} {wr w1 : World} {c c1 : Nat → Nat} {it1 : Value}
    (h : MarkKids n t w c0 B wi we Q lo hi m sl xs L H k wr c it) (hk : k < t.items.length) (hhi : hi ≤ w.heap.size) (hm : 10 ≤ m)
    (hL : ∀ i, i < t.items.length → lo ≤ L i ∧ H i ≤ hi ∧ (∀ g, sl.ownBlock = some g → g < L i ∨ H i ≤ g)) (hLH : ∀ i j, i < j → j < t.items.length → H i ≤ L j)
    (hB : BookSt w1 c1 B it1 wi we (Q + Itm.cntL (t.items.take k) + Itm.cnt t.items[k])) (hT : Turn c c1 (L k) (H k) wr w1) :
    MarkKids n t w c0 B wi we Q lo hi m sl xs L H (k + 1) w1 c1 it1 := by
  have hsz := h.turn.size
  have hwlt : w.heap.size < wr.heap.size := (Array.getElem?_eq_some_iff.1 h.box).1
  obtain ⟨q1, q2, q3⟩ := hL k hk
  refine ⟨by rw [cntL_snoc t k hk, ← Nat.add_assoc]; exact hB, h.turn.trans (hT.wider q1 q2), ?_, ?_, ?_, ?_, ?_⟩
  · rw [hT.block _ hwlt (by omega) (by rw [h.cbox]; omega) (by rw [h.cbox]; omega)]; exact h.box
  · rw [hT.color _ hwlt (by omega)]; exact h.cbox
  · refine owns_frame h.row (fun g hg => hT.block g (h.row.lt g hg).2 (q3 g hg) ?_ ?_)
    · rw [h.crow g hg]; omega
    · rw [h.crow g hg]; omega
  · intro g hg
    rw [hT.color g (h.row.lt g hg).2 (q3 g hg)]; exact h.crow g hg
  · intro i hi' hki
    obtain ⟨p1, p2⟩ := h.kids i hi' (by omega)
    obtain ⟨r1, r2, r3⟩ := hL i hi'
    have hlh := hLH k i (by omega) hi'
    refine ⟨fun j h1 h2 => ?_, own_frame _ _ _ _ _ (fun j h1 h2 => hT.block j (by omega) (by omega) (by rw [p1 j h1 h2]; omega) (by rw [p1 j h1 h2]; omega)) p2⟩
    rw [hT.color j (by omega) (by omega)]; exact p1 j h1 h2

/-- The cells of the book. -/
theorem BookSt.cells {w : World} {c : Nat → Nat} {B : Nat} {it wi we : Value} {Q : Nat} (h : BookSt w c B it wi we Q) :
    w.cell? ⟨B, 2, none⟩ = some it ∧ w.cell? ⟨B, 7, none⟩ = some wi ∧ w.cell? ⟨B, 8, none⟩ = some we ∧ ∃ a cap, it = .slice a (4 * Q) cap := by
  refine ⟨by rw [cell_of_row _ _ 2 _ _ _ h.bk]; rfl, by rw [cell_of_row _ _ 7 _ _ _ h.bk]; rfl, by rw [cell_of_row _ _ 8 _ _ _ h.bk]; rfl, ?_⟩
  obtain ⟨ls, ho, hl, _⟩ := h.row
  rw [hl] at ho
  rcases ho.2 with ⟨rfl, h0⟩ | ⟨g, cap, cur, hv, _⟩
  · exact ⟨none, 0, by rw [h0]⟩
  · exact ⟨_, _, hv⟩

theorem BookSt.nils {w : World} {c : Nat → Nat} {B : Nat} {it wi we : Value} {Q : Nat} (h : BookSt w c B it wi we Q) :
    w.cell? ⟨B, 0, none⟩ = some (.slice none 0 0) ∧ w.cell? ⟨B, 1, none⟩ = some (.slice none 0 0) ∧ w.cell? ⟨B, 3, none⟩ = some (.slice none 0 0) ∧ w.cell? ⟨B, 4, none⟩ = some (.slice none 0 0) ∧ w.cell? ⟨B, 5, none⟩ = some (.slice none 0 0) ∧ w.cell? ⟨B, 6, none⟩ = some (.slice none 0 0) ∧ ∀ j, w.frozen? ⟨B, j, none⟩ = false :=
  ⟨by rw [cell_of_row _ _ 0 _ _ _ h.bk]; rfl, by rw [cell_of_row _ _ 1 _ _ _ h.bk]; rfl, by rw [cell_of_row _ _ 3 _ _ _ h.bk]; rfl, by rw [cell_of_row _ _ 4 _ _ _ h.bk]; rfl, by rw [cell_of_row _ _ 5 _ _ _ h.bk]; rfl, by rw [cell_of_row _ _ 6 _ _ _ h.bk]; rfl, fun j => frozen_of_row _ _ j _ _ h.bk⟩

/-- How far an item's own list has been marked. -/
structure MarkRow (n : Nat) (w : World) (c0 : Nat → Nat) (B : Nat) (wi we : Value) (Q lo hi m M : Nat) (sl : Value) (i : Nat) (wr : World) (c : Nat → Nat) (it : Value) (ys : List Value) : Prop where
  book : BookSt wr c B it wi we Q
  turn : Turn c0 c lo hi w wr
  box : wr.heap[M]? = some (.cells #[.bool false, .string ⟨(markText Q).toArray⟩, .slice none 0 0] 24 (0, 0))
  cbox : c M = 0
  new : w.heap.size ≤ M
  row : wr.ownsRow lo 24 3 sl n ys
  crow : ∀ g, sl.ownBlock = some g → c g = m
  fresh : ∀ k, M < k → c k = 0
  done : ∀ j, j < i → tri ys j = markV Q

theorem markRow_start {n : Nat} {t : Itm} {w : World} {c0 : Nat → Nat} {B : Nat} {it wi we : Value} {Q lo hi m : Nat} {sl : Value} {xs : List Value} {L H : Nat → Nat} {k : Nat} {wr w2 : World} {c : Nat → Nat} {QQ : Nat}
    (h : MarkKids n t w c0 B wi we Q lo hi m sl xs L H k wr c it) (hq : QQ = Q + Itm.cntL (t.items.take k)) (hb : Below wr.heap.size wr w2) :
    MarkRow t.items.length w c0 B wi we QQ lo hi m w2.heap.size sl 0 (w2.alloc (.cells #[.bool false, .string ⟨(markText QQ).toArray⟩, .slice none 0 0] 24)) (paint c wr.heap.size) it xs := by
  subst hq
  have hb2 : Below wr.heap.size wr (w2.alloc (.cells #[.bool false, .string ⟨(markText (Q + Itm.cntL (t.items.take k))).toArray⟩, .slice none 0 0] 24)) := hb.alloc hb.size _
  refine ⟨h.book.later hb2, h.turn.trans (Turn.of_below hb2 (fun k hk => paint_old _ hk)), heap_alloc_new _ _, paint_new _ hb.size, Nat.le_trans h.turn.size hb.size, owns_frame h.row (fun g hg => hb2.block g (h.row.lt g hg).2), ?_, ?_, fun j hj => by omega⟩
  · intro g hg
    rw [paint_old _ (h.row.lt g hg).2]; exact h.crow g hg
  · intro k hk
    exact paint_new _ (by have := hb.size; omega)

theorem markRow_step {n : Nat} {w : World} {c0 : Nat → Nat} {B : Nat} {it wi we : Value} {Q lo hi m M g cap i : Nat} {wr : World} {c : Nat → Nat} {ys : List Value} (hm : 10 ≤ m) (hg : lo ≤ g ∧ g < hi)
    (h : MarkRow n w c0 B wi we Q lo hi m M (.slice (some ⟨g, 0, none⟩) n cap) i wr c it ys) (hi' : i < n) :
    MarkRow n w c0 B wi we Q lo hi m M (.slice (some ⟨g, 0, none⟩) n cap) (i + 1) (((wr.setCell ⟨g, i * 3, none⟩ (.bool false)).setCell ⟨g, i * 3 + 1, none⟩ (.string ⟨(markText Q).toArray⟩)).setCell ⟨g, i * 3 + 2, none⟩ (.slice none 0 0)) c it
      (put3 ys i (.bool false) (.string ⟨(markText Q).toArray⟩) (.slice none 0 0)) := by
  have hcg : c g = m := h.crow g rfl
  have hother : ∀ k, k ≠ g → (((wr.setCell ⟨g, i * 3, none⟩ (.bool false)).setCell ⟨g, i * 3 + 1, none⟩ (.string ⟨(markText Q).toArray⟩)).setCell ⟨g, i * 3 + 2, none⟩ (.slice none 0 0)).heap[k]? = wr.heap[k]? := fun k hk => put_other hk _ _ _
  have hMg : M ≠ g := by intro e; have := h.cbox; rw [e, hcg] at this; omega
  have h1 := (h.row.stored (i * 3) (.bool false)).1
  have h2 := (h1.stored (i * 3 + 1) (.string ⟨(markText Q).toArray⟩)).1
  have h3 := (h2.stored (i * 3 + 2) (.slice none 0 0)).1
  have hx := h.row.1
  refine ⟨h.book.frame (by rw [put_size]; exact Nat.le_refl _) (fun k _ hk => ⟨hother k (by intro e; rw [e, hcg] at hk; omega), rfl⟩), ?_, ?_, h.cbox, h.new, h3, h.crow, h.fresh, ?_⟩
  · exact ⟨h.turn.os, h.turn.tape, h.turn.output, by rw [put_size]; exact h.turn.size, fun k hk hw a b => by rw [hother k (by omega)]; exact h.turn.block k hk hw a b, h.turn.color⟩
  · rw [hother M hMg]; exact h.box
  · intro j hj
    by_cases he : j = i
    · subst he
      exact tri_put_same ys j _ _ _ (by omega)
    · rw [tri_put_other _ _ _ _ _ _ he]; exact h.done j (by omega)

theorem cells_new (w : World) (l : List Value) (e : TypeId) : ∀ j u, l[j]? = some u → (w.alloc (.cells l.toArray e)).cell? ((⟨w.heap.size, 0, none⟩ : Addr).add j) = some u := by
  intro j u hu
  have hadd : (⟨w.heap.size, 0, none⟩ : Addr).add j = ⟨w.heap.size, j, none⟩ := by unfold Addr.add; split <;> simp_all
  rw [hadd, cell_of_row _ _ j l.toArray e (0, 0) (heap_alloc_new w _)]
  simpa using hu

theorem MarkRow.lt {n : Nat} {w : World} {c0 : Nat → Nat} {B : Nat} {wi we : Value} {Q lo hi m M : Nat} {sl : Value} {i : Nat} {wr : World} {c : Nat → Nat} {it : Value} {ys : List Value}
    (h : MarkRow n w c0 B wi we Q lo hi m M sl i wr c it ys) : M < wr.heap.size := (Array.getElem?_eq_some_iff.1 h.box).1

theorem MarkRow.grow {n : Nat} {w : World} {c0 : Nat → Nat} {B : Nat} {wi we : Value} {Q lo hi m M : Nat} {sl : Value} {i : Nat} {wr w' : World} {c : Nat → Nat} {it : Value} {ys : List Value} {O : Obj}
    (h : MarkRow n w c0 B wi we Q lo hi m M sl i wr c it ys) (hm : 10 ≤ m) (hg : ∀ g, sl.ownBlock = some g → lo ≤ g ∧ g < hi) (hgr : (wr.alloc O).grownBy w' sl.ownBlock) (ho : w'.ownsRow lo 24 3 sl n ys) :
    MarkRow n w c0 B wi we Q lo hi m M sl i w' c it ys := by
  have hblk : ∀ k, k < wr.heap.size → sl.ownBlock ≠ some k → w'.heap[k]? = wr.heap[k]? := fun k hk hn => by
    rw [hgr.block k (by simp; omega) (fun e => hn e.symm), Below.heap_alloc _ _ _ hk]
  have hsz : wr.heap.size ≤ w'.heap.size := by have := hgr.size; simp at this; omega
  refine ⟨h.book.frame hsz (fun k hk hc => ⟨hblk k hk (fun e => by have := h.crow k e; omega), rfl⟩), ?_, ?_, h.cbox, h.new, ho, h.crow, h.fresh, h.done⟩
  · refine ⟨hgr.os.trans h.turn.os, hgr.tape.trans h.turn.tape, hgr.output.trans h.turn.output, Nat.le_trans h.turn.size hsz, fun k hk hw a b => ?_, h.turn.color⟩
    rw [hblk k (Nat.lt_of_lt_of_le hk h.turn.size) (fun e => by have := hg k e; omega)]
    exact h.turn.block k hk hw a b
  · rw [hblk M h.lt (fun e => by have := h.crow M e; have := h.cbox; omega)]; exact h.box

/-- Marks appended to the list that has just been marked: for a walk. -/
theorem wpList_mark {ops : Array Oper} {rest : List Oper} {o : Oper} {act : Act} {Q' : Exit → Act → World → Prop} (hgd : o.guard = none) (s x : Operand)
    (hop : o.op = .call { callee := .builtin .append, args := #[s, x], argTypes := #[22, 22] })
    {n : Nat} {w : World} {c0 : Nat → Nat} {B : Nat} {wi we : Value} {Q lo hi m M : Nat} {sl : Value} {wr : World} {c : Nat → Nat} {it : Value} {ys : List Value} (k : Nat) (news : List Value)
    (hs : act.eval s = sl) (hx : act.eval x = .slice (some ⟨wr.heap.size, 0, none⟩) k k) (h : MarkRow n w c0 B wi we Q lo hi m M sl n wr c it ys) (hm : 10 ≤ m) (hg : ∀ g, sl.ownBlock = some g → lo ≤ g ∧ g < hi)
    (hl : news.length = k * 3) (h1 : ∀ u ∈ news, u.oneCell' = true) (hq : ∀ j, j < k → tri news j = markV Q) (hn : n + k ≤ 1000000000)
    (hK : ∀ v' w', MarkRow n w c0 B wi we Q lo hi m M sl n w' c it ys → Mk w' Q v' → (∀ u, Mk wr Q u → Mk w' Q u) → (∀ h, v'.ownBlock = some h → sl.ownBlock = some h ∨ M < h) → wpList Try.prog ops Q' rest (act.put o.dst v') w') :
    wpList Try.prog ops Q' (o :: rest) act (wr.alloc (.cells news.toArray 24)) := by
  have hbW : Below wr.heap.size wr (wr.alloc (.cells news.toArray 24)) := (Below.refl _ _).alloc (Nat.le_refl _) _
  refine wpList_append_marks hgd s x hop hs (owns_frame h.row (fun g hg => hbW.block g (h.row.lt g hg).2)) h.done ⟨wr.heap.size, 0, none⟩ k k news hx hl (cells_new wr news 24) h1 hq hn ?_
  intro v' w' ho hmk hmono hgr hnew
  refine hK v' w' (h.grow hm hg hgr ho) hmk ?_ ?_
  · intro u hu
    exact hmono u (mk_frame hu hbW.size (fun g hg => hbW.block g (mk_lt hu g hg)))
  · intro g hg'
    rcases hnew with hn | ⟨g2, hn, hlt⟩
    · rw [hn] at hg'; exact .inl hg'
    · rw [hn] at hg'
      simp only [Option.some.injEq] at hg'
      have := h.lt
      simp at hlt
      exact .inr (by omega)

/-- The colours once a list and those made of it are kept as marked. -/
def recolor (c : Nat → Nat) (it : Value) (vs : List Value) : Nat → Nat := fun k => if it.ownBlock = some k then 2 else if vs.any (fun u => u.ownBlock == some k) then 5 else c k

theorem markRow_end {n : Nat} {w : World} {c0 : Nat → Nat} {B : Nat} {wi we : Value} {Q lo hi m M : Nat} {sl : Value} {wr w' : World} {c : Nat → Nat} {it it' : Value} {ys ls vs : List Value} {O : Obj}
    (h : MarkRow n w c0 B wi we Q lo hi m M sl n wr c it ys) (hm : 10 ≤ m) (hg : ∀ g, sl.ownBlock = some g → lo ≤ g ∧ g < hi)
    (hvs : ∀ u ∈ vs, Mk wr Q u ∧ ∀ h, u.ownBlock = some h → sl.ownBlock = some h ∨ M < h) (hv4 : vs.length = 4)
    (hl : ls.length = 4 * Q) (hmk : ∀ k (h : k < ls.length), MarkedAt wr c ls[k] (k / 4))
    (ho : w'.ownsRow 0 22 1 it' (4 * Q + 4) (ls ++ vs)) (hgr : (wr.alloc O).grownBy w' it.ownBlock) (hnew : Newer (wr.alloc O) it it') :
    w'.heap[B]? = wr.heap[B]? ∧ BookSt (w'.setCell ⟨B, 2, none⟩ it') (recolor c it' vs) B it' wi we (Q + 1) ∧ Turn c0 (recolor c it' vs) lo hi w (w'.setCell ⟨B, 2, none⟩ it') := by
  have hlen : ((wr.alloc O).heap.size : Nat) = wr.heap.size + 1 := by simp
  have hcit := h.book.crow
  have hcB := h.book.cb
  have hblk : ∀ k, k < wr.heap.size → c k ≠ 2 → w'.heap[k]? = wr.heap[k]? := fun k hk hn => by
    rw [hgr.block k (by omega) (fun e => hn (hcit k e.symm)), Below.heap_alloc _ _ _ hk]
  have hsz : wr.heap.size ≤ w'.heap.size := by have := hgr.size; omega
  have hit' : ∀ k, it'.ownBlock = some k → c k = 2 ∨ wr.heap.size ≤ k := by
    intro k hk
    rcases hnew with hn | ⟨g2, hn, hlt⟩
    · rw [hn] at hk; exact .inl (hcit k hk)
    · rw [hn] at hk
      simp only [Option.some.injEq] at hk
      exact .inr (by omega)
  have hvc : ∀ u ∈ vs, ∀ k, u.ownBlock = some k → k < wr.heap.size ∧ (c k = m ∨ c k = 0) := by
    intro u hu k hk
    refine ⟨mk_lt (hvs u hu).1 k hk, ?_⟩
    rcases (hvs u hu).2 k hk with hs | hs
    · exact .inl (h.crow k hs)
    · exact .inr (h.fresh k hs)
  have hBlt := h.book.lt
  have hB1 : w'.heap[B]? = wr.heap[B]? := hblk B hBlt (by omega)
  have hset : ∀ k, k ≠ B → (w'.setCell ⟨B, 2, none⟩ it').heap[k]? = w'.heap[k]? := fun k hk => setCell_block _ _ _ _ hk
  have hssz : (w'.setCell ⟨B, 2, none⟩ it').heap.size = w'.heap.size := by simp [World.setCell]
  have hnB : it'.ownBlock ≠ some B := by
    intro e
    rcases hit' B e with h1 | h1 <;> omega
  have hre : ∀ k, k < wr.heap.size → c k ≠ 2 → it'.ownBlock ≠ some k := by
    intro k hk hc e
    rcases hit' k e with h1 | h1
    · exact hc h1
    · omega
  have hin : ∀ u ∈ vs, ∀ k, u.ownBlock = some k → recolor c it' vs k = 5 := by
    intro u hu k hk
    obtain ⟨q1, q2⟩ := hvc u hu k hk
    unfold recolor
    rw [if_neg (hre k q1 (by omega)), if_pos]
    exact List.any_eq_true.2 ⟨u, hu, by simp [hk]⟩
  have hout : ∀ k, (∀ u ∈ vs, u.ownBlock ≠ some k) → it'.ownBlock ≠ some k → recolor c it' vs k = c k := by
    intro k h1 h2
    unfold recolor
    rw [if_neg h2, if_neg]
    intro e
    obtain ⟨u, hu, he⟩ := List.any_eq_true.1 e
    exact h1 u hu (by simpa using he)
  refine ⟨hB1, ⟨?_, ?_, ?_, ls ++ vs, ?_, by rw [List.length_append]; omega, ?_⟩, ?_⟩
  · rw [heap_setCell_same _ _ 2 _ _ _ (hB1.trans h.book.bk)]; rfl
  · rw [hout B (fun u hu e => by have := (hvc u hu B e).2; omega) hnB]; exact hcB
  · intro g hg'
    unfold recolor
    rw [if_pos hg']
  · have e : (ls ++ vs).length = 4 * Q + 4 := by rw [List.length_append]; omega
    rw [e]
    exact owns_frame ho (fun g hg' => hset g (fun e => hnB (by rw [← e]; exact hg')))
  · intro k hk
    by_cases hk4 : k < ls.length
    · rw [List.getElem_append_left hk4]
      refine (hmk k hk4).frame (by omega) (fun j hj hc => ⟨?_, ?_⟩)
      · rw [hset j (by intro e; subst e; omega), hblk j hj (by omega)]
      · by_cases hv : ∃ u ∈ vs, u.ownBlock = some j
        · obtain ⟨u, hu, he⟩ := hv; exact hin u hu j he
        · rw [hout j (fun u hu e => hv ⟨u, hu, e⟩) (hre j hj (by omega))]; exact hc
    · rw [List.getElem_append_right (by omega)]
      have hkq : k / 4 = Q := by rw [List.length_append] at hk; omega
      rw [hkq]
      have hmem : vs[k - ls.length]'(by rw [List.length_append] at hk; omega) ∈ vs := List.getElem_mem _
      refine ⟨mk_frame (hvs _ hmem).1 (by omega) (fun j hj => ?_), hin _ hmem⟩
      obtain ⟨q1, q2⟩ := hvc _ hmem j hj
      rw [hset j (by intro e; subst e; omega), hblk j q1 (by omega)]
  · refine ⟨hgr.os.trans h.turn.os, hgr.tape.trans h.turn.tape, hgr.output.trans h.turn.output, by have := h.turn.size; omega, fun k hk hw a b => ?_, fun k hk hw => ?_⟩
    · have hck := h.turn.color k hk hw
      have hkr : k < wr.heap.size := Nat.lt_of_lt_of_le hk h.turn.size
      rw [hset k (by intro e; subst e; omega), hblk k hkr (by omega)]
      exact h.turn.block k hk hw a b
    · have hck := h.turn.color k hk hw
      have hkr : k < wr.heap.size := Nat.lt_of_lt_of_le hk h.turn.size
      have hv : ∀ u ∈ vs, u.ownBlock ≠ some k := by
        intro u hu e
        rcases (hvs u hu).2 k e with hs | hs
        · have := hg k hs; omega
        · have := h.new; omega
      by_cases hi' : it'.ownBlock = some k
      · rcases hit' k hi' with h1 | h1
        · unfold recolor
          rw [if_pos hi']; omega
        · omega
      · rw [hout k hv hi']; exact hck

/-- The list and those made of it are kept as marked: for a walk. -/
theorem wpList_markKeep {ops : Array Oper} {rest : List Oper} {o : Oper} {act : Act} {Q' : Exit → Act → World → Prop} (hgd : o.guard = none) (s x : Operand)
    (hop : o.op = .call { callee := .builtin .append, args := #[s, x], argTypes := #[37, 37] })
    {n : Nat} {w : World} {c0 : Nat → Nat} {B : Nat} {wi we : Value} {Q lo hi m M : Nat} {sl : Value} {wr : World} {c : Nat → Nat} {it : Value} {ys : List Value} (v1 v2 v3 : Value)
    (hs : act.eval s = it) (hx : act.eval x = .slice (some ⟨wr.heap.size, 0, none⟩) 4 4) (h : MarkRow n w c0 B wi we Q lo hi m M sl n wr c it ys) (hm : 10 ≤ m) (hg : ∀ g, sl.ownBlock = some g → lo ≤ g ∧ g < hi)
    (hvs : ∀ u ∈ [sl, v1, v2, v3], Mk wr Q u ∧ ∀ h, u.ownBlock = some h → sl.ownBlock = some h ∨ M < h) (hone : ∀ u ∈ [sl, v1, v2, v3], u.oneCell' = true) (hQ : Q ≤ 100000000000)
    (hK : ∀ it' w', w'.heap[B]? = wr.heap[B]? → (∃ c', BookSt (w'.setCell ⟨B, 2, none⟩ it') c' B it' wi we (Q + 1) ∧ Turn c0 c' lo hi w (w'.setCell ⟨B, 2, none⟩ it')) → wpList Try.prog ops Q' rest (act.put o.dst it') w') :
    wpList Try.prog ops Q' (o :: rest) act (wr.alloc (.cells #[sl, v1, v2, v3] 22)) := by
  obtain ⟨i0, hi0, hz0, hz1, hz2⟩ := info_parts infoSl
  obtain ⟨ls, ho, hl, hmk⟩ := h.book.row
  have hbW : Below wr.heap.size wr (wr.alloc (.cells #[sl, v1, v2, v3] 22)) := (Below.refl _ _).alloc (Nat.le_refl _) _
  refine wpList_append_mine _ hgd s x 37 hop 0 22 i0 _ 1 24 Try.underlying37 hi0 hz0 hz1 hz2 rfl (by decide) it ls.length ls hs (owns_frame ho (fun g hg => hbW.block g (ho.lt g hg).2)) ⟨wr.heap.size, 0, none⟩ 4 4 [sl, v1, v2, v3] hx rfl (cells_new wr [sl, v1, v2, v3] 22) hone ?_ ?_ (Nat.zero_le _) ?_
  · unfold maxLen; omega
  · omega
  · intro it' w' ho' hgr hnew
    obtain ⟨q1, q2, q3⟩ := markRow_end h hm hg hvs rfl hl hmk (by rw [hl] at ho'; exact ho') hgr hnew
    exact hK it' w' q1 ⟨_, q2, q3⟩

theorem ones {k : Nat} (q : Nat) : ∀ u ∈ (List.replicate k [Value.bool false, .string ⟨(markText q).toArray⟩, .slice none 0 0]).flatten, u.oneCell' = true := by
  intro u hu
  rw [List.mem_flatten] at hu
  obtain ⟨l, hl, hu⟩ := hu
  obtain rfl := (List.mem_replicate.1 hl).2
  simp only [List.mem_cons, List.not_mem_nil, or_false] at hu
  rcases hu with rfl | rfl | rfl <;> rfl

theorem tri_marks1 (q : Nat) : ∀ j, j < 1 → tri [.bool false, .string ⟨(markText q).toArray⟩, .slice none 0 0] j = markV q := by
  intro j hj
  have : j = 0 := by omega
  subst this; rfl

theorem tri_marks2 (q : Nat) : ∀ j, j < 2 → tri [.bool false, .string ⟨(markText q).toArray⟩, .slice none 0 0, .bool false, .string ⟨(markText q).toArray⟩, .slice none 0 0] j = markV q := by
  intro j hj
  rcases (by omega : j = 0 ∨ j = 1) with h | h <;> subst h <;> rfl

theorem tri_marks3 (q : Nat) : ∀ j, j < 3 → tri [.bool false, .string ⟨(markText q).toArray⟩, .slice none 0 0, .bool false, .string ⟨(markText q).toArray⟩, .slice none 0 0, .bool false, .string ⟨(markText q).toArray⟩, .slice none 0 0] j = markV q := by
  intro j hj
  rcases (by omega : j = 0 ∨ j = 1 ∨ j = 2) with h | h | h <;> subst h <;> rfl

theorem mk_shape {w : World} {q : Nat} {v : Value} (h : Mk w q v) : ∃ a n cap, v = .slice a n cap := by
  rcases h with rfl | ⟨g, n, cap, rfl, _⟩
  · exact ⟨_, _, _, rfl⟩
  · exact ⟨_, _, _, rfl⟩

theorem mk_one {w : World} {q : Nat} {v : Value} (h : Mk w q v) : v.oneCell' = true := by
  rcases h with rfl | ⟨g, n, cap, rfl, _⟩ <;> rfl

theorem ones_four {w1 w2 w3 : World} {q : Nat} {a : Option Addr} {n cap : Nat} {v1 v2 v3 : Value} (h1 : Mk w1 q v1) (h2 : Mk w2 q v2) (h3 : Mk w3 q v3) : ∀ u ∈ [Value.slice a n cap, v1, v2, v3], u.oneCell' = true := by
  intro u hu
  simp only [List.mem_cons, List.not_mem_nil, or_false] at hu
  rcases hu with rfl | rfl | rfl | rfl
  · rfl
  · exact mk_one h1
  · exact mk_one h2
  · exact mk_one h3

theorem marks_four {w0 w1 w2 w3 : World} {q M : Nat} {sl v1 v2 v3 : Value} (h0 : Mk w0 q sl) (p1 : ∀ u, Mk w0 q u → Mk w1 q u) (h1 : Mk w1 q v1) (p2 : ∀ u, Mk w1 q u → Mk w2 q u) (h2 : Mk w2 q v2) (p3 : ∀ u, Mk w2 q u → Mk w3 q u) (h3 : Mk w3 q v3)
    (n1 : ∀ h, v1.ownBlock = some h → sl.ownBlock = some h ∨ M < h) (n2 : ∀ h, v2.ownBlock = some h → sl.ownBlock = some h ∨ M < h) (n3 : ∀ h, v3.ownBlock = some h → sl.ownBlock = some h ∨ M < h) :
    ∀ u ∈ [sl, v1, v2, v3], Mk w3 q u ∧ ∀ h, u.ownBlock = some h → sl.ownBlock = some h ∨ M < h := by
  intro u hu
  simp only [List.mem_cons, List.not_mem_nil, or_false] at hu
  rcases hu with rfl | rfl | rfl | rfl
  · exact ⟨p3 _ (p2 _ (p1 _ h0)), fun h e => .inl e⟩
  · exact ⟨p3 _ (p2 _ h1), n1⟩
  · exact ⟨p3 _ h2, n2⟩
  · exact ⟨h3, n3⟩

/-- A mark of an item. -/
def MarkPost (c : Nat → Nat) (B : Nat) (wi we : Value) (Q lo hi : Nat) (t : Itm) (w : World) (e : Ending) (w' : World) : Prop :=
  e = .returned (.tuple #[]) ∧ ∃ c' it', BookSt w' c' B it' wi we (Q + Itm.cnt t) ∧ Turn c c' lo hi w w'

set_option maxHeartbeats 1600000 in
theorem mark_any (n : Nat) : ∀ (v : Value) (t : Itm) (w : World) (c0 : Nat → Nat) (B : Nat) (it wi we : Value) (Q lo hi m : Nat), BookSt w c0 B it wi we Q → Own 24 w n lo hi v t → hi ≤ w.heap.size → (∀ k, lo ≤ k → k < hi → c0 k = m) → 10 ≤ m → Q + Itm.cnt t ≤ 100000000000 → Itm.cnt t ≤ 100000 →
    Calls Try.prog 52 #[.pointer (some ⟨B, 0, none⟩), v] w (MarkPost c0 B wi we Q lo hi t w) := by
  induction n with
  | zero => intro v t w c0 B it wi we Q lo hi m _ h; exact h.elim
  | succ n ih =>
    intro v t w c0 B it wi we Q lo hi m hB hown hhi hc hm hQ hcnt
    have hnl : t.items.length ≤ 100000 := by have := Itm.items_le_cnt t; omega
    have HCN := hid hcnt
    obtain ⟨sl, rfl, xs, ho, hg, L, H, hL, hLH⟩ := hown
    have hsl : ∃ a cap, sl = .slice a t.items.length cap := by
      rcases ho.2 with ⟨rfl, h0⟩ | ⟨g, cap, cur, hv, _⟩
      · exact ⟨none, 0, by rw [h0]⟩
      · exact ⟨_, _, hv⟩
    obtain ⟨a, cap, rfl⟩ := hsl
    have HS := hid (mark_start (m := m) hB hhi hc ho hg hL)
    have HL := hid (fun i h => And.intro (hL i h).1 (And.intro (hL i h).2.1 (hL i h).2.2.1))
    have HG : Hid (∀ g, (Value.slice a t.items.length cap).ownBlock = some g → lo ≤ g ∧ g < hi) := fun g h => ⟨(ho.lt g h).1, hg g h⟩
    have HLH := hid hLH
    have IH := hid ih
    have HQ := hid hQ
    have hlen : t.items.length ≤ maxLen := by
      rcases ho.2 with ⟨_, h0⟩ | ⟨g, cap, cur, hv, _, _, h1, h2, _⟩
      · rw [h0]; exact Nat.zero_le _
      · omega
    have HNL : Hid (t.items.length ≤ 100000) := hnl
    unfold maxLen at hlen
    clear hB ho hg hL hLH ih hQ hc hcnt hnl
    go_enter Try.func52, Try.ntmps52
    go_wp2_with fail
    go_loopw [4] (fun i wr => ∃ (k : Nat) (c : Nat → Nat) (it : Value), i = .int .i64 k ∧ k ≤ t.items.length ∧ Hid (MarkKids n t w c0 B wi we Q lo hi m (.slice a t.items.length cap) xs L H k wr c it)) (fun i _ => t.items.length - (intOf i).toNat)
    case atStart => exact ⟨0, _, _, rfl, Nat.zero_le _, HS.out⟩
    case round =>
      obtain ⟨k, c, it1, rfl, hk, HH⟩ := hrel
      have x2 := cell_of_row _ _ 2 _ _ _ HH.out.box
      by_cases hlt : k < t.items.length
      · have hshape : ∃ g, a = some ⟨g, 0, none⟩ := by
          rcases HH.out.row.2 with ⟨_, h0⟩ | ⟨g, cap', cur, hv, _⟩
          · omega
          · simp at hv; exact ⟨g, hv.1⟩
        obtain ⟨g, rfl⟩ := hshape
        obtain ⟨t0, t1, t2⟩ := tri_cells HH.out.row k hlt
        rw [Nat.zero_add] at t0 t1 t2
        obtain ⟨k1, k2⟩ := HH.out.kids k hlt (Nat.le_refl _)
        have htri : tri xs k = .agg #[xs.getD (3 * k) default, xs.getD (3 * k + 1) default, xs.getD (3 * k + 2) default] := rfl
        have hHk : H k ≤ wr.heap.size := by have := (HL.out k hlt).2.1; have := HH.out.turn.size; omega
        have hcn : Q + Itm.cntL (t.items.take k) + Itm.cnt t.items[k] ≤ 100000000000 := by
          have h1 := cntL_take_le t (k + 1)
          rw [cntL_snoc t k hlt] at h1
          have h2 := cnt_cntL t
          have h3 := HQ.out
          omega
        have HC := hid (IH.out _ t.items[k] wr c B it1 wi we _ (L k) (H k) m HH.out.book k2 hHk k1 hm hcn (by have := Itm.kid_cnt t k hlt; have := HCN.out; omega))
        rw [htri] at HC
        generalize xs.getD (3 * k) default = d0 at *
        generalize xs.getD (3 * k + 1) default = d1 at *
        generalize xs.getD (3 * k + 2) default = d2 at *
        clear k1 k2 htri hcn
        go_wp2_with fail
        refine HC.out.mono ?_
        rintro e w1 ⟨rfl, c1, it2, hb1, ht1⟩
        have HM := hid (mark_step HH.out hlt hhi hm HL.out HLH.out hb1 ht1)
        clear hb1 ht1
        go_wp2_with fail
        exact ⟨⟨k + 1, c1, it2, by go_num, by omega, HM.out⟩, by simp [intOf]; omega⟩
      · have HKE := hid (show k = t.items.length by omega)
        obtain ⟨QQ, HQQ⟩ : ∃ x, Hid (x = Q + Itm.cntL (t.items.take k)) := ⟨_, rfl⟩
        have HBK : Hid (BookSt wr c B it1 wi we QQ) := by rw [HQQ.out]; exact HH.out.book
        obtain ⟨b2, b7, b8, a4, cap4, rfl⟩ := HBK.out.cells
        have hQQ : QQ ≤ 100000000000 := by
          have h1 := cntL_take_le t k
          have h2 := cnt_cntL t
          have h3 := HQ.out
          have h4 := HQQ.out
          omega
        have HT := hid (fun w => text_any QQ w (by omega))
        go_wp2_with fail
        refine (HT.out _).mono ?_
        rintro e w2 ⟨rfl, hbel⟩
        have HR0 := hid (markRow_start HH.out HQQ.out hbel)
        clear hbel b2 b7 b8 x2
        generalize paint c wr.heap.size = c2 at HR0
        clear HBK HH
        go_wp2_with fail
        go_loopw [7] (fun i wi2 => ∃ (j : Nat) (ys : List Value), i = .int .i64 j ∧ j ≤ t.items.length ∧ Hid (MarkRow t.items.length w c0 B wi we QQ lo hi m w2.heap.size (.slice a t.items.length cap) j wi2 c2 (.slice a4 (4 * QQ) cap4) ys)) (fun i _ => t.items.length - (intOf i).toNat)
        case atStart => exact ⟨0, _, rfl, Nat.zero_le _, HR0.out⟩
        case round =>
          obtain ⟨j, ys, rfl, hj, HR⟩ := hrel
          have m0 := cell_of_row _ _ 0 _ _ _ HR.out.box
          have m1 := cell_of_row _ _ 1 _ _ _ HR.out.box
          have m2 := cell_of_row _ _ 2 _ _ _ HR.out.box
          by_cases hlt2 : j < t.items.length
          · have hshape : ∃ g, a = some ⟨g, 0, none⟩ := by
              rcases HR.out.row.2 with ⟨_, h0⟩ | ⟨g, cap', cur, hv, _⟩
              · omega
              · simp at hv; exact ⟨g, hv.1⟩
            obtain ⟨g, rfl⟩ := hshape
            obtain ⟨t0, t1, t2⟩ := tri_cells HR.out.row j hlt2
            rw [Nat.zero_add] at t0 t1 t2
            have y0 := HR.out.row.frozenAt (j * 3)
            have y1 := HR.out.row.frozenAt (j * 3 + 1)
            have y2 := HR.out.row.frozenAt (j * 3 + 2)
            have HN := hid (markRow_step hm (HG.out g rfl) HR.out hlt2)
            go_wp2_with fail
            exact ⟨⟨j + 1, _, by go_num, by omega, HN.out⟩, by simp [intOf]; omega⟩
          · have HJE := hid (show j = t.items.length by omega)
            have hn9 : t.items.length + 3 ≤ 1000000000 := by have := HNL.out; omega
            have HR' : Hid (MarkRow t.items.length w c0 B wi we QQ lo hi m w2.heap.size (.slice a t.items.length cap) t.items.length wr c2 (.slice a4 (4 * QQ) cap4) ys) := by have := HR.out; rw [HJE.out] at this; exact this
            have HK0 := hid (mk_of_owns HR'.out.row HR'.out.done)
            have HT1 := hid (tri_marks1 QQ)
            have HT2 := hid (tri_marks2 QQ)
            have HT3 := hid (tri_marks3 QQ)
            have O1 := hid (ones (k := 1) QQ)
            have O2 := hid (ones (k := 2) QQ)
            have O3 := hid (ones (k := 3) QQ)
            have N1 : Hid (t.items.length + 1 ≤ 1000000000) := by rw [Hid]; omega
            have N2 : Hid (t.items.length + 2 ≤ 1000000000) := by rw [Hid]; omega
            have N3 : Hid (t.items.length + 3 ≤ 1000000000) := by rw [Hid]; omega
            go_wp2_with (first
              | (at_builtin; refine wpList_mark (sl := .slice a t.items.length cap) rfl (.tmp 45) (.tmp 47) rfl 1 [.bool false, .string ⟨(markText QQ).toArray⟩, .slice none 0 0] rfl rfl HR'.out hm HG.out rfl O1.out HT1.out N1.out ?_; intro v1 w3 hr1 hk1 hp1 hn1; obtain ⟨p1, n1, cp1, rfl⟩ := mk_shape hk1; have HR1 := hid hr1; have HK1 := hid hk1; have HP1 := hid hp1; have HN1 := hid hn1; clear hr1 hk1 hp1 hn1; have m10 := cell_of_row _ _ 0 _ _ _ HR1.out.box; have m11 := cell_of_row _ _ 1 _ _ _ HR1.out.box; have m12 := cell_of_row _ _ 2 _ _ _ HR1.out.box)
              | (at_builtin; refine wpList_mark (sl := .slice a t.items.length cap) rfl (.tmp 49) (.tmp 52) rfl 2 [.bool false, .string ⟨(markText QQ).toArray⟩, .slice none 0 0, .bool false, .string ⟨(markText QQ).toArray⟩, .slice none 0 0] rfl rfl HR1.out hm HG.out rfl O2.out HT2.out N2.out ?_; intro v2 w4 hr2 hk2 hp2 hn2; obtain ⟨p2, n2, cp2, rfl⟩ := mk_shape hk2; have HR2 := hid hr2; have HK2 := hid hk2; have HP2 := hid hp2; have HN2 := hid hn2; clear hr2 hk2 hp2 hn2; have m20 := cell_of_row _ _ 0 _ _ _ HR2.out.box; have m21 := cell_of_row _ _ 1 _ _ _ HR2.out.box; have m22 := cell_of_row _ _ 2 _ _ _ HR2.out.box)
              | (at_builtin; refine wpList_mark (sl := .slice a t.items.length cap) rfl (.tmp 54) (.tmp 58) rfl 3 [.bool false, .string ⟨(markText QQ).toArray⟩, .slice none 0 0, .bool false, .string ⟨(markText QQ).toArray⟩, .slice none 0 0, .bool false, .string ⟨(markText QQ).toArray⟩, .slice none 0 0] rfl rfl HR2.out hm HG.out rfl O3.out HT3.out N3.out ?_; intro v3 w5 hr3 hk3 hp3 hn3; obtain ⟨p3, n3, cp3, rfl⟩ := mk_shape hk3; have HR3 := hid hr3; have HK3 := hid hk3; have HP3 := hid hp3; have HN3 := hid hn3; clear hr3 hk3 hp3 hn3; obtain ⟨b2, _, _, _⟩ := HR3.out.book.cells)
              | (at_builtin; refine wpList_markKeep (sl := .slice a t.items.length cap) (it := .slice a4 (4 * QQ) cap4) rfl (.tmp 64) (.tmp 69) rfl (.slice p1 n1 cp1) (.slice p2 n2 cp2) (.slice p3 n3 cp3) rfl rfl HR3.out hm HG.out (marks_four HK0.out HP1.out HK1.out HP2.out HK2.out HP3.out HK3.out HN1.out HN2.out HN3.out) (ones_four HK1.out HK2.out HK3.out) hQQ ?_; intro it9 w9 hB9 hE9; obtain ⟨c9, k9, T9⟩ := hE9; obtain ⟨_, _, _, a9, cp9, rfl⟩ := k9.cells; have HK9 := hid k9; have HT9 := hid T9; clear k9 T9; have b9 := cell_of_row _ _ 2 _ _ _ (hB9.trans HR3.out.book.bk); have f9 := frozen_of_row _ _ 2 _ _ (hB9.trans HR3.out.book.bk)))
            refine bodyPost_ret (v := .tuple #[]) (by simp [results, Try.results52, go_sem]) rfl ⟨rfl, c9, .slice a9 (4 * (QQ + 1)) cp9, ?_, HT9.out⟩
            have e : Q + Itm.cnt t = QQ + 1 := by rw [HQQ.out, HKE.out, List.take_length, cnt_cntL]; omega
            rw [e]; exact HK9.out
end Go.Proofs.Ytbmohenjphmlgaa
