/- Part 12 of a proof: what the last text needs. -/
import Derived.Test.YtbmohenjphmlgaaPart11
import Derived.Deep.RegionHeld3
import Derived.Deep.AppendLies
import Derived.Test.YtbmohenjphmlgaaPart2
import Derived.Deep.Cut
/- The walk of Book's 'waits' (of the statements' own): the items that wait read as they came. -/
namespace Go.Proofs.Ytbmohenjphmlgaa
open Go.RowKit
set_option maxRecDepth 100000

/-- Items that wait, in a row; of each the blocks have a colour of their own. -/
def WaitRow (w : World) (c : Nat → Nat) (col : Nat) (sl : Value) (l : List Itm) : Prop :=
  ∃ xs : List Value, w.ownsRow 0 24 3 sl l.length xs ∧ (∀ g, sl.ownBlock = some g → c g = col) ∧
    ∀ i (h : i < l.length), ∃ lo hi, hi ≤ w.heap.size ∧ (∀ k, lo ≤ k → k < hi → c k = col + 10 * (i + 1)) ∧ Own 24 w 1001 lo hi (tri xs i) l[i]

theorem waitRow_nil (w : World) (c : Nat → Nat) (col : Nat) : WaitRow w c col (.slice none 0 0) [] :=
  ⟨[], World.ownsRow_nil _ _ _ _, by simp [Value.ownBlock], fun i h => by simp at h⟩

theorem WaitRow.frame {w w' : World} {c c' : Nat → Nat} {col : Nat} {sl : Value} {l : List Itm} (h : WaitRow w c col sl l) (hcol : col < 10) (hs : w.heap.size ≤ w'.heap.size)
    (hb : ∀ k, k < w.heap.size → c k % 10 = col → w'.heap[k]? = w.heap[k]? ∧ c' k = c k) : WaitRow w' c' col sl l := by
  obtain ⟨xs, ho, hc, hk⟩ := h
  refine ⟨xs, owns_frame ho (fun g hg => (hb g (ho.lt g hg).2 (by rw [hc g hg]; omega)).1), fun g hg => ?_, fun i hi => ?_⟩
  · rw [(hb g (ho.lt g hg).2 (by rw [hc g hg]; omega)).2]; exact hc g hg
  · obtain ⟨lo, hi', q1, q2, q3⟩ := hk i hi
    refine ⟨lo, hi', by omega, fun k h1 h2 => ?_, own_frame _ _ _ _ _ (fun k h1 h2 => (hb k (by omega) (by rw [q2 k h1 h2]; omega)).1) q3⟩
    rw [(hb k (by omega) (by rw [q2 k h1 h2]; omega)).2]; exact q2 k h1 h2

theorem WaitRow.shape {w : World} {c : Nat → Nat} {col : Nat} {sl : Value} {l : List Itm} (h : WaitRow w c col sl l) : ∃ a cap, sl = .slice a l.length cap := by
  obtain ⟨xs, ho, _⟩ := h
  rcases ho.2 with ⟨rfl, h0⟩ | ⟨g, cap, cur, hv, _⟩
  · exact ⟨none, 0, by rw [h0]⟩
  · exact ⟨_, _, hv⟩

/-- The i-th of the items that wait, as it can be read. -/
theorem WaitRow.at {w : World} {c : Nat → Nat} {col : Nat} {a : Option Addr} {cap : Nat} {l : List Itm} (h : WaitRow w c col (.slice a l.length cap) l) (i : Nat) (hi : i < l.length) :
    ∃ r d0 d1 d2, a = some ⟨r, 0, none⟩ ∧ r < w.heap.size ∧ w.cell? ⟨r, i * 3, none⟩ = some d0 ∧ w.cell? ⟨r, i * 3 + 1, none⟩ = some d1 ∧ w.cell? ⟨r, i * 3 + 2, none⟩ = some d2 ∧ Rep w.heap.size w 1001 (.agg #[d0, d1, d2]) l[i] := by
  obtain ⟨xs, ho, hc, hk⟩ := h
  rcases id ho.2 with ⟨_, h0⟩ | ⟨g, cap', cur, hv, _⟩
  · omega
  · simp only [Value.slice.injEq, true_and] at hv
    obtain ⟨rfl, rfl⟩ := hv
    obtain ⟨t0, t1, t2⟩ := tri_cells ho i hi
    rw [Nat.zero_add] at t0 t1 t2
    obtain ⟨lo, hi', q1, _, q3⟩ := hk i hi
    exact ⟨g, _, _, _, rfl, (ho.lt g rfl).2, t0, t1, t2, rep_of_own _ _ _ _ _ q1 q3⟩

set_option maxHeartbeats 1600000 in
theorem waits_any (w : World) (c : Nat → Nat) (B : Nat) (it wi we : Value) (Q : Nat) (l : List Itm) (hB : BookSt w c B it wi we Q) (h3 : WaitRow w c 3 wi l) (h4 : WaitRow w c 4 we l) (hl : l.length ≤ 1000) :
    Calls Try.prog 48 #[.pointer (some ⟨B, 0, none⟩)] w fun e w' => e = .returned (.bool true) ∧ Below w.heap.size w w' := by
  obtain ⟨a3, cap3, rfl⟩ := h3.shape
  obtain ⟨a4, cap4, rfl⟩ := h4.shape
  obtain ⟨b2, b7, b8, _⟩ := hB.cells
  obtain ⟨b0, b1, b3, b4, b5, b6, bf⟩ := hB.nils
  have hBlt := hB.lt
  have H3 := hid h3
  have H4 := hid h4
  clear hB b2 b0 b1 b4 b6 bf h3 h4
  go_enter Try.func48, Try.ntmps48
  go_wp2_with fail
  refine wp_loop_rounds 1 ?_
  rw [rounds_succ]
  go_wp2_with fail
  refine wp_loop_rounds 1 ?_
  rw [rounds_succ]
  go_wp2_with fail
  go_loopw [3, 8] (fun ok k wr => ∃ j : Nat, ok = .bool true ∧ k = .int .i64 j ∧ j ≤ l.length ∧ Hid (Below w.heap.size w wr)) (fun _ k _ => l.length - (intOf k).toNat)
  case atStart => exact ⟨0, rfl, rfl, Nat.zero_le _, Below.refl _ _⟩
  case round =>
    obtain ⟨j, rfl, rfl, hj, HB⟩ := hrel
    have x7 := (HB.out.cell (p := ⟨B, 7, none⟩) hBlt).trans b7
    have x8 := (HB.out.cell (p := ⟨B, 8, none⟩) hBlt).trans b8
    have hBr : B < wr.heap.size := Nat.lt_of_lt_of_le hBlt HB.out.size
    by_cases hlt : j < l.length
    · obtain ⟨r, d0, d1, d2, rfl, hr, c0, c1, c2, rep1⟩ := H3.out.at j hlt
      obtain ⟨r', e0, e1, e2, rfl, hr', g0, g1, g2, rep2⟩ := H4.out.at j hlt
      have y0 := (HB.out.cell (p := ⟨r, j * 3, none⟩) hr).trans c0
      have y1 := (HB.out.cell (p := ⟨r, j * 3 + 1, none⟩) hr).trans c1
      have y2 := (HB.out.cell (p := ⟨r, j * 3 + 2, none⟩) hr).trans c2
      have z0 := (HB.out.cell (p := ⟨r', j * 3, none⟩) hr').trans g0
      have z1 := (HB.out.cell (p := ⟨r', j * 3 + 1, none⟩) hr').trans g1
      have z2 := (HB.out.cell (p := ⟨r', j * 3 + 2, none⟩) hr').trans g2
      have hrr : r < wr.heap.size := Nat.lt_of_lt_of_le hr HB.out.size
      have hrr' : r' < wr.heap.size := Nat.lt_of_lt_of_le hr' HB.out.size
      obtain ⟨a5, cap5, rfl, rfl, rfl⟩ := rep_shape rep1
      obtain ⟨a6, cap6, rfl, rfl, rfl⟩ := rep_shape rep2
      have HC : Hid (∀ w1, Below wr.heap.size wr w1 → Calls Try.prog 19 #[.agg #[.bool l[j].list, .string ⟨l[j].bytes.toArray⟩, .slice a5 l[j].items.length cap5], .agg #[.bool l[j].list, .string ⟨l[j].bytes.toArray⟩, .slice a6 l[j].items.length cap6]] w1 fun e w' => e = .returned (.bool true) ∧ Below w1.heap.size w1 w') := fun w1 hb =>
        sameL_two _ _ _ _ l[j] _ (rep_in (rep_in rep1 HB.out) hb) (rep_in (rep_in rep2 HB.out) hb)
      clear c0 c1 c2 g0 g1 g2 rep1 rep2 b7 b8
      have hj0 : (0 : Int) ≤ (j : Int) := by omega
      have hj1 : (j : Int) < (l.length : Int) := by omega
      go_wp2_with fail
      go_region_held3 (fun w' => w'.cell? ⟨B, 7, none⟩ = some (.slice (some ⟨r, 0, none⟩) l.length cap3) ∧ w'.cell? ⟨B, 8, none⟩ = some (.slice (some ⟨r', 0, none⟩) l.length cap4) ∧
          w'.cell? ⟨r, j * 3, none⟩ = some (.bool l[j].list) ∧ w'.cell? ⟨r, j * 3 + 1, none⟩ = some (.string ⟨l[j].bytes.toArray⟩) ∧ w'.cell? ⟨r, j * 3 + 2, none⟩ = some (.slice a5 l[j].items.length cap5) ∧
          w'.cell? ⟨r', j * 3, none⟩ = some (.bool l[j].list) ∧ w'.cell? ⟨r', j * 3 + 1, none⟩ = some (.string ⟨l[j].bytes.toArray⟩) ∧ w'.cell? ⟨r', j * 3 + 2, none⟩ = some (.slice a6 l[j].items.length cap6)) ((first | exact ⟨(hcc _ _ hBr).trans x7, (hcc _ _ hBr).trans x8, (hcc _ _ hrr).trans y0, (hcc _ _ hrr).trans y1, (hcc _ _ hrr).trans y2, (hcc _ _ hrr').trans z0, (hcc _ _ hrr').trans z1, (hcc _ _ hrr').trans z2⟩ | go_keep))
        ((go_at_call 19; refine (HC.out _ (Below.refl _ _).drew).mono ?_; rintro e w2 ⟨rfl, hbel⟩; obtain ⟨hcc, hff⟩ := bcell hbel))
      all_goals
        go_wp2_with fail
        refine ⟨⟨j + 1, rfl, by go_num, by omega, HB.out.trans ((below_undrew hbel).mono HB.out.size)⟩, by simp [intOf]; omega⟩
    · have hlt' : ¬ (j : Int) < (l.length : Int) := by omega
      go_wp2_with fail
      go_ret
      exact ⟨rfl, HB.out⟩
end Go.Proofs.Ytbmohenjphmlgaa

/- An item is kept with those that wait: what that turns. -/
namespace Go.Proofs.Ytbmohenjphmlgaa
open Go.RowKit
set_option maxRecDepth 100000

/-- A block gets a colour. -/
def setc (c : Nat → Nat) (g col : Nat) : Nat → Nat := fun k => if k = g then col else c k

/-- An item is stored behind the items that wait, in the place that an append has made. -/
def pushed (w1 : World) (g n B f cap : Nat) (d0 d1 d2 : Value) : World :=
  (((w1.setCell ⟨g, n * 3, none⟩ d0).setCell ⟨g, n * 3 + 1, none⟩ d1).setCell ⟨g, n * 3 + 2, none⟩ d2).setCell ⟨B, f, none⟩ (.slice (some ⟨g, 0, none⟩) (n + 1) cap)

theorem pushed_size (w1 : World) (g n B f cap : Nat) (d0 d1 d2 : Value) : (pushed w1 g n B f cap d0 d1 d2).heap.size = w1.heap.size := by simp [pushed, World.setCell]

theorem pushed_other {w1 : World} {g n B f cap k : Nat} {d0 d1 d2 : Value} (h1 : k ≠ g) (h2 : k ≠ B) : (pushed w1 g n B f cap d0 d1 d2).heap[k]? = w1.heap[k]? := by
  unfold pushed
  rw [setCell_block _ _ _ _ h2, put_other h1]

theorem pushed_world (w1 : World) (g n B f cap : Nat) (d0 d1 d2 : Value) : (pushed w1 g n B f cap d0 d1 d2).os = w1.os ∧ (pushed w1 g n B f cap d0 d1 d2).tape = w1.tape ∧ (pushed w1 g n B f cap d0 d1 d2).output = w1.output := by simp [pushed, World.setCell]

structure PushFacts (W wF : World) (c : Nat → Nat) (B f col g : Nat) (u : Value) (l : List Itm) (t : Itm) (new : Value) : Prop where
  row : WaitRow wF (setc c g col) col new (l ++ [t])
  block : ∀ k, k < W.heap.size → c k ≠ col → k ≠ B → wF.heap[k]? = W.heap[k]?
  color : ∀ k, k < W.heap.size → setc c g col k = c k
  book : ∀ cs, W.heap[B]? = some (.cells cs 39 (0, 0)) → wF.heap[B]? = some (.cells (cs.setIfInBounds f new) 39 (0, 0))
  size : W.heap.size ≤ wF.heap.size
  rest : wF.os = W.os ∧ wF.tape = W.tape ∧ wF.output = W.output

theorem push_facts {W w1 : World} {c : Nat → Nat} {B f col : Nat} {u : Value} {l : List Itm} {xs : List Value} {t : Itm} {g cap lo hi : Nat} {d0 d1 d2 z0 z1 z2 : Value} (hcol : col = 3 ∨ col = 4)
    (ho : W.ownsRow 0 24 3 u l.length xs) (hcu : ∀ g, u.ownBlock = some g → c g = col)
    (hk : ∀ i (h : i < l.length), ∃ lo hi, hi ≤ W.heap.size ∧ (∀ k, lo ≤ k → k < hi → c k = col + 10 * (i + 1)) ∧ Own 24 W 1001 lo hi (tri xs i) l[i])
    (hB : c B = 1) (hBlt : B < W.heap.size) (hitem : Own 24 W 1001 lo hi (.agg #[d0, d1, d2]) t) (hhi : hi ≤ W.heap.size) (hcw : ∀ k, lo ≤ k → k < hi → c k = col + 10 * (l.length + 1))
    (ho1 : w1.ownsRow 0 24 3 (.slice (some ⟨g, 0, none⟩) (l.length + 1) cap) (l.length + 1) (xs ++ [z0, z1, z2])) (hgr : W.grownBy w1 u.ownBlock) (hat : u.ownBlock = some g ∨ W.heap.size ≤ g) :
    PushFacts W (pushed w1 g l.length B f cap d0 d1 d2) c B f col g u l t (.slice (some ⟨g, 0, none⟩) (l.length + 1) cap) := by
  have hgB : B ≠ g := by
    intro e
    rcases hat with h | h
    · have := hcu g h; rw [← e] at this; omega
    · omega
  have hblk : ∀ k, k < W.heap.size → c k ≠ col → w1.heap[k]? = W.heap[k]? := fun k hk hn => hgr.block k hk (fun e => hn (hcu k e.symm))
  have hkg : ∀ k, k < W.heap.size → c k ≠ col → k ≠ g := by
    intro k hk hn e
    rcases hat with h | h
    · exact hn (by rw [e]; exact hcu g h)
    · omega
  have hcolor : ∀ k, k < W.heap.size → setc c g col k = c k := by
    intro k hk
    unfold setc
    split
    · rename_i e
      rcases hat with h | h
      · rw [e, hcu g h]
      · omega
    · rfl
  have hblock : ∀ k, k < W.heap.size → c k ≠ col → k ≠ B → (pushed w1 g l.length B f cap d0 d1 d2).heap[k]? = W.heap[k]? := fun k hk hn hb => by
    rw [pushed_other (hkg k hk hn) hb]; exact hblk k hk hn
  have hsz := hgr.size
  have hx := ho.1
  have s1 := (ho1.stored (l.length * 3) d0).1
  have s2 := (s1.stored (l.length * 3 + 1) d1).1
  have s3 := (s2.stored (l.length * 3 + 2) d2).1
  have hrow : (pushed w1 g l.length B f cap d0 d1 d2).ownsRow 0 24 3 (.slice (some ⟨g, 0, none⟩) (l.length + 1) cap) (l.length + 1) (put3 (xs ++ [z0, z1, z2]) l.length d0 d1 d2) :=
    owns_frame s3 (fun k hk => by
      simp only [Value.ownBlock, Option.some.injEq] at hk
      exact setCell_block _ _ _ _ (by simp; omega))
  refine ⟨⟨put3 (xs ++ [z0, z1, z2]) l.length d0 d1 d2, by simpa using hrow, ?_, ?_⟩, hblock, hcolor, ?_, by rw [pushed_size]; exact hsz, ?_⟩
  · intro g' hg'
    simp only [Value.ownBlock, Option.some.injEq] at hg'
    unfold setc
    rw [if_pos hg'.symm]
  · intro i hi'
    by_cases he : i = l.length
    · subst he
      refine ⟨lo, hi, by rw [pushed_size]; omega, fun k h1 h2 => by rw [hcolor k (by omega)]; exact hcw k h1 h2, ?_⟩
      rw [tri_put_same _ _ _ _ _ (by rw [List.length_append, hx]; simp)]
      simp only [List.getElem_append_right (Nat.le_refl _), Nat.sub_self, List.getElem_cons_zero]
      exact own_frame _ _ _ _ _ (fun k h1 h2 => hblock k (by omega) (by rw [hcw k h1 h2]; omega) (by intro e; have := hcw k h1 h2; rw [e, hB] at this; omega)) hitem
    · have hlt : i < l.length := by simp at hi'; omega
      obtain ⟨lo', hi2, q1, q2, q3⟩ := hk i hlt
      refine ⟨lo', hi2, by rw [pushed_size]; omega, fun k h1 h2 => by rw [hcolor k (by omega)]; exact q2 k h1 h2, ?_⟩
      rw [tri_put_other _ _ _ _ _ _ he, tri_left xs _ i l.length hx hlt, List.getElem_append_left hlt]
      exact own_frame _ _ _ _ _ (fun k h1 h2 => hblock k (by omega) (by rw [q2 k h1 h2]; omega) (by intro e; have := q2 k h1 h2; rw [e, hB] at this; omega)) q3
  · intro cs hcs
    have h1 : (((w1.setCell ⟨g, l.length * 3, none⟩ d0).setCell ⟨g, l.length * 3 + 1, none⟩ d1).setCell ⟨g, l.length * 3 + 2, none⟩ d2).heap[B]? = some (.cells cs 39 (0, 0)) := by
      rw [put_other hgB, hblk B hBlt (by omega)]; exact hcs
    exact heap_setCell_same _ B f _ 39 _ h1
  · obtain ⟨p1, p2, p3⟩ := pushed_world w1 g l.length B f cap d0 d1 d2
    exact ⟨p1.trans hgr.os, p2.trans hgr.tape, p3.trans hgr.output⟩

theorem PushFacts.book7 {W wF : World} {c : Nat → Nat} {B g : Nat} {it wi we u new : Value} {Q : Nat} {l : List Itm} {t : Itm} (h : PushFacts W wF c B 7 3 g u l t new) (hB : BookSt W c B it wi we Q) : BookSt wF (setc c g 3) B it new we Q := by
  have hcB := hB.cb
  obtain ⟨ls, ho, hl, hm⟩ := hB.row
  refine ⟨?_, by rw [h.color B hB.lt]; exact hcB, ?_, ls, ?_, hl, ?_⟩
  · rw [h.book _ hB.bk]; rfl
  · intro k hk
    rw [h.color k (ho.lt k hk).2]; exact hB.crow k hk
  · exact owns_frame ho (fun k hk => h.block k (ho.lt k hk).2 (by rw [hB.crow k hk]; omega) (by intro e; have := hB.crow k hk; rw [e] at this; omega))
  · exact fun k hk => (hm k hk).frame h.size (fun j hj hc => ⟨h.block j hj (by omega) (by intro e; rw [e] at hc; omega), by rw [h.color j hj]; exact hc⟩)

theorem PushFacts.book8 {W wF : World} {c : Nat → Nat} {B g : Nat} {it wi we u new : Value} {Q : Nat} {l : List Itm} {t : Itm} (h : PushFacts W wF c B 8 4 g u l t new) (hB : BookSt W c B it wi we Q) : BookSt wF (setc c g 4) B it wi new Q := by
  have hcB := hB.cb
  obtain ⟨ls, ho, hl, hm⟩ := hB.row
  refine ⟨?_, by rw [h.color B hB.lt]; exact hcB, ?_, ls, ?_, hl, ?_⟩
  · rw [h.book _ hB.bk]; rfl
  · intro k hk
    rw [h.color k (ho.lt k hk).2]; exact hB.crow k hk
  · exact owns_frame ho (fun k hk => h.block k (ho.lt k hk).2 (by rw [hB.crow k hk]; omega) (by intro e; have := hB.crow k hk; rw [e] at this; omega))
  · exact fun k hk => (hm k hk).frame h.size (fun j hj hc => ⟨h.block j hj (by omega) (by intro e; rw [e] at hc; omega), by rw [h.color j hj]; exact hc⟩)

/-- What keeping an item turns. -/
structure KeepT (c c' : Nat → Nat) (w w' : World) : Prop where
  os : w'.os = w.os
  tape : w'.tape = w.tape
  output : w'.output = w.output
  size : w.heap.size ≤ w'.heap.size
  block : ∀ k, k < w.heap.size → c k ≠ 1 → c k ≠ 3 → c k ≠ 4 → w'.heap[k]? = w.heap[k]?
  color : ∀ k, k < w.heap.size → c' k = c k

theorem KeepT.trans {c c' c'' : Nat → Nat} {w w' w'' : World} (h : KeepT c c' w w') (k : KeepT c' c'' w' w'') : KeepT c c'' w w'' :=
  ⟨k.os.trans h.os, k.tape.trans h.tape, k.output.trans h.output, Nat.le_trans h.size k.size,
    fun j hj h1 h2 h3 => (k.block j (Nat.lt_of_lt_of_le hj h.size) (by rw [h.color j hj]; exact h1) (by rw [h.color j hj]; exact h2) (by rw [h.color j hj]; exact h3)).trans (h.block j hj h1 h2 h3),
    fun j hj => (k.color j (Nat.lt_of_lt_of_le hj h.size)).trans (h.color j hj)⟩

theorem KeepT.of_below {c c' : Nat → Nat} {w w' : World} (h : Below w.heap.size w w') (hc : ∀ k, k < w.heap.size → c' k = c k) : KeepT c c' w w' := ⟨h.os, h.tape, h.output, h.size, fun k hk _ _ _ => h.block k hk, hc⟩

theorem PushFacts.turn {W wF : World} {c : Nat → Nat} {B f col g : Nat} {u new : Value} {l : List Itm} {t : Itm} (h : PushFacts W wF c B f col g u l t new) (hcol : col = 3 ∨ col = 4) (hB : c B = 1) : KeepT c (setc c g col) W wF :=
  ⟨h.rest.1, h.rest.2.1, h.rest.2.2, h.size, fun k hk h1 h3 h4 => h.block k hk (by omega) (by intro e; rw [e] at h1; exact h1 hB), h.color⟩

theorem PushFacts.other {W wF : World} {c : Nat → Nat} {B f col col' g : Nat} {u new sl : Value} {l l' : List Itm} {t : Itm} (h : PushFacts W wF c B f col g u l t new) (hB : c B = 1) (hne : col' ≠ col) (h3 : col = 3 ∨ col = 4) (h4 : col' = 3 ∨ col' = 4) (hw : WaitRow W c col' sl l') : WaitRow wF (setc c g col) col' sl l' :=
  hw.frame (by omega) h.size (fun k hk hc => ⟨h.block k hk (by omega) (by intro e; rw [e, hB] at hc; omega), h.color k hk⟩)

theorem WaitRow.later {w w' : World} {c c' : Nat → Nat} {col : Nat} {sl : Value} {l : List Itm} (h : WaitRow w c col sl l) (hcol : col < 10) (hb : Below w.heap.size w w') (hc : ∀ k, k < w.heap.size → c' k = c k) : WaitRow w' c' col sl l :=
  h.frame hcol hb.size (fun k hk _ => ⟨hb.block k hk, hc k hk⟩)

theorem row_last {w1 : World} {n g cap : Nat} {xs : List Value} {z0 z1 z2 : Value} (h : w1.ownsRow 0 24 3 (.slice (some ⟨g, 0, none⟩) (n + 1) cap) (n + 1) (xs ++ [z0, z1, z2])) (hx : xs.length = n * 3) :
    w1.cell? ⟨g, n * 3, none⟩ = some z0 ∧ w1.cell? ⟨g, n * 3 + 1, none⟩ = some z1 ∧ w1.cell? ⟨g, n * 3 + 2, none⟩ = some z2 ∧ w1.frozen? ⟨g, n * 3, none⟩ = false ∧ w1.frozen? ⟨g, n * 3 + 1, none⟩ = false ∧ w1.frozen? ⟨g, n * 3 + 2, none⟩ = false := by
  refine ⟨?_, ?_, ?_, h.frozenAt _, h.frozenAt _, h.frozenAt _⟩
  · rw [h.cellAt _ (by omega), List.getElem?_append_right (by omega), hx, Nat.sub_self]; rfl
  · rw [h.cellAt _ (by omega), List.getElem?_append_right (by omega), hx, Nat.add_sub_cancel_left]; rfl
  · rw [h.cellAt _ (by omega), List.getElem?_append_right (by omega), hx, Nat.add_sub_cancel_left]; rfl

theorem keep_ne {a : Option Addr} {n cap B g s : Nat} (h : ∀ g, (Value.slice a n cap).ownBlock = some g → g ≠ B ∧ g < s) (hat : (Value.slice a n cap).ownBlock = some g ∨ g = s + 2) (hB : B < s) : g ≠ B := by
  rcases hat with h1 | h1
  · exact (h g h1).1
  · omega

theorem keep_neX {a : Option Addr} {n cap B g s : Nat} (h : ∀ g, (Value.slice a n cap).ownBlock = some g → g ≠ B ∧ g < s) (hat : (Value.slice a n cap).ownBlock = some g ∨ g = s + 2) : ¬ (s = g) := by
  rcases hat with h1 | h1
  · have := (h g h1).2; omega
  · omega
end Go.Proofs.Ytbmohenjphmlgaa

/- A region that draws its order: a load is taken first that one later operation waits for, though another behind that one writes what it reads. -/
namespace Go.Proofs.Ytbmohenjphmlgaa
open Go.RowKit
set_option maxRecDepth 100000

section
variable {P : Program} {ops : Array Oper} {Q : Exit → Act → World → Prop} {md : Region.Mode} {S : World → Prop} {k : Nat}

/-- Whatever order is picked, and S holds behind every operation till number k has come up. -/
def wpAnyL (P : Program) (md : Region.Mode) (ops : Array Oper) (Q : Exit → Act → World → Prop) (S : World → Prop) (k : Nat) : Nat → Array Bool → Act → World → Prop
  | 0, listed, a, w => Region.ready md ops listed = [] ∧ Q .normal a w
  | fuel + 1, listed, a, w =>
    (Region.ready md ops listed = [] → Q .normal a w) ∧
    ∀ i ∈ Region.ready md ops listed, wpOp P ops Q i (fun a' w' => ((listed.setIfInBounds i true).getD k true = false → S w') ∧ wpAnyL P md ops Q S k fuel (listed.setIfInBounds i true) a' w') a w

theorem wpAny_of_L : ∀ (fuel : Nat) (listed : Array Bool) (a : Act) (w : World), wpAnyL P md ops Q S k fuel listed a w → wpAny P md ops Q fuel listed a w
  | 0, _, _, _, h => h
  | fuel + 1, _, _, _, h => ⟨h.1, fun i hi => wpOp_mono (fun a' w' h' => wpAny_of_L fuel _ a' w' h'.2) (h.2 i hi)⟩

theorem listed_on {listed : Array Bool} (i : Nat) (h : listed.getD k true = true) : (listed.setIfInBounds i true).getD k true = true := by
  by_cases hik : i = k
  · subst hik
    rcases Nat.lt_or_ge i listed.size with h' | h'
    · simp [h']
    · simp
  · rw [getD_set_ne true hik]; exact h

/-- Behind number k nothing is asked of S. -/
theorem wpAnyL_free : ∀ (fuel : Nat) (listed : Array Bool) (a : Act) (w : World), listed.getD k true = true → wpAny P md ops Q fuel listed a w → wpAnyL P md ops Q S k fuel listed a w
  | 0, _, _, _, _, h => h
  | fuel + 1, listed, _, _, hl, h => ⟨h.1, fun i hi => wpOp_mono (fun a' w' h' => ⟨fun hf => (by rw [listed_on i hl] at hf; cases hf), wpAnyL_free fuel _ a' w' (listed_on i hl) h'⟩) (h.2 i hi)⟩

theorem wpAnyL_first {i : Nat} {oi ok : Oper} {v : Value} (hi : ops[i]? = some oi) (hk : ops[k]? = some ok) (hki : k ≠ i) (hwait : ∃ e ∈ ok.after, Region.binds md e = true ∧ e.on = i)
    (hsel : ∀ (j : Nat) (o : Oper) cs b, ops[j]? = some o → o.op ≠ .select cs b) (hQ : ∀ c a w, Q (.panic c) (a.put oi.dst v) w → Q (.panic c) a w) :
    ∀ (fuel : Nat) (listed : Array Bool) (a : Act) (w : World),
      (∀ j oj, ops[j]? = some oj → j ≠ i → listed.getD j true = false → (∀ e ∈ oj.after, Region.binds md e = true → e.on ≠ i) → oi.apart ops oj = true) →
      i ∈ Region.ready md ops listed → listed.getD k true = false → YieldsIf P ops S oi v a → S w →
      wpAnyL P md ops Q S k fuel (listed.setIfInBounds i true) (a.put oi.dst v) w → wpAnyL P md ops Q S k (fuel + 1) listed a w := by
  intro fuel
  induction fuel with
  | zero =>
    intro listed a w _ hr _ hy hS H
    refine ⟨fun h => (by rw [h] at hr; cases hr), fun j hj => ?_⟩
    by_cases hji : j = i
    · subst hji; exact hy.wpOp hi hS ⟨fun _ => hS, H⟩
    · have := ready_mono hj hji
      rw [H.1] at this
      cases this
  | succ fuel ih =>
    intro listed a w hfree hr hlk hy hS H
    refine ⟨fun h => (by rw [h] at hr; cases hr), fun j hj => ?_⟩
    by_cases hji : j = i
    · subst hji; exact hy.wpOp hi hS ⟨fun _ => hS, H⟩
    · have h1 := H.2 j (ready_mono hj hji)
      obtain ⟨hjun, oj, hoj, hall⟩ := mem_ready.1 hj
      have h0 := (mem_ready.1 hr).1
      have hnot : ∀ e ∈ oj.after, Region.binds md e = true → e.on ≠ i := fun e he hb heq => by
        have h2 := hall e he hb
        rw [heq] at h2
        rcases Nat.lt_or_ge i listed.size with h' | h'
        · simp [h'] at h0 h2; rw [h0] at h2; cases h2
        · simp [Array.getElem?_eq_none h'] at h2
      have hjk : j ≠ k := by
        intro e
        subst e
        rw [hk] at hoj
        cases hoj
        obtain ⟨e, he, hb, hon⟩ := hwait
        exact hnot e he hb hon
      have hlk' : (listed.setIfInBounds j true).getD k true = false := by rw [getD_set_ne true hjk]; exact hlk
      have h2 := wpOp_putIf hoj (hfree j oj hoj hji hjun hnot) (fun cs b => hsel i oi cs b hi) (fun cs b => hsel j oj cs b hoj) hQ hy h1
      have hfree' : ∀ k ok, ops[k]? = some ok → k ≠ i → (listed.setIfInBounds j true).getD k true = false →
          (∀ e ∈ ok.after, Region.binds md e = true → e.on ≠ i) → oi.apart ops ok = true := fun k ok hk hki hun hno => by
        refine hfree k ok hk hki ?_ hno
        by_cases hjk : j = k
        · subst hjk; exact hjun
        · rw [getD_set_ne true hjk] at hun; exact hun
      refine wpOp_mono (fun a' w' h3 => ?_) h2
      have hS' : S w' := h3.2.1 (by rw [Array.setIfInBounds_comm _ _ (Ne.symm hji), getD_set_ne true (Ne.symm hki)]; exact hlk')
      refine ⟨fun _ => hS', ih (listed.setIfInBounds j true) a' w' hfree' (ready_mono hr (Ne.symm hji)) hlk' h3.1 hS' ?_⟩
      rw [Array.setIfInBounds_comm _ _ hji]
      exact h3.2.2

/-- Number k waits for number i. -/
def waitsFor (md : Region.Mode) (ops : Array Oper) (k i : Nat) : Bool := k != i && ((ops[k]?).map (fun o => o.after.any (fun e => Region.binds md e && e.on == i))).getD false

theorem wpAnyL_take {i : Nat} {oi : Oper} {v : Value} {fuel : Nat} {listed : Array Bool} {a : Act} {w : World} (hi : ops[i]? = some oi)
    (hs : Region.noSelect ops = true) (hf : Region.free md ops listed i = true) (hr : (Region.ready md ops listed).contains i = true) (hw : waitsFor md ops k i = true) (hlk : listed.getD k true = false)
    (hQ : ∀ c a w, Q (.panic c) (a.put oi.dst v) w → Q (.panic c) a w) (hS : S w) (hy : YieldsIf P ops S oi v a)
    (h : wpAnyL P md ops Q S k fuel (listed.setIfInBounds i true) (a.put oi.dst v) w) : wpAnyL P md ops Q S k (fuel + 1) listed a w := by
  unfold waitsFor at hw
  simp only [Bool.and_eq_true, bne_iff_ne, ne_eq] at hw
  cases hk : ops[k]? with
  | none => rw [hk] at hw; simp at hw
  | some ok =>
    rw [hk] at hw
    simp only [Option.map_some, Option.getD_some] at hw
    obtain ⟨e, he, hb⟩ := Array.any_eq_true'.1 hw.2
    simp only [Bool.and_eq_true, beq_iff_eq] at hb
    exact wpAnyL_first hi hk hw.1 ⟨e, he, hb⟩ (Region.noSelect_spec hs) hQ fuel listed a w (Region.free_spec hi hf) (by simpa using hr) hlk hy hS h

/-- Each of the operations 'rs' comes up next. -/
def AllReadyL (P : Program) (md : Region.Mode) (ops : Array Oper) (Q : Exit → Act → World → Prop) (S : World → Prop) (k fuel : Nat) (listed : Array Bool) (a : Act) (w : World) (rs : List Nat) : Prop :=
  ∀ i ∈ rs, wpOp P ops Q i (fun a' w' => ((listed.setIfInBounds i true).getD k true = false → S w') ∧ wpAnyL P md ops Q S k fuel (listed.setIfInBounds i true) a' w') a w

theorem AllReadyL.nil {fuel : Nat} {listed : Array Bool} {a : Act} {w : World} : AllReadyL P md ops Q S k fuel listed a w [] := fun _ h => by cases h

theorem AllReadyL.cons {fuel : Nat} {listed : Array Bool} {a : Act} {w : World} {i : Nat} {o : Oper} {rs : List Nat} (ho : ops[i]? = some o)
    (h : ∀ K' : Act → World → Prop, Shut (∀ a w, S w → wpAnyL P md ops Q S k fuel (listed.setIfInBounds i true) a w → K' a w) → if Region.wanted o (yielded ops a.tmps) = true then Oper.wp P o a w K' Q else K' (a.put o.dst undef) w)
    (hs : AllReadyL P md ops Q S k fuel listed a w rs) : AllReadyL P md ops Q S k fuel listed a w (i :: rs) := fun j hj => by
  rcases List.mem_cons.1 hj with rfl | hj
  · exact wpOp_step ho (fun K' hK => h K' (fun a w hS hW => hK a w ⟨fun _ => hS, hW⟩))
  · exact hs j hj

/-- Number k itself. -/
theorem AllReadyL.last {fuel : Nat} {listed : Array Bool} {a : Act} {w : World} {o : Oper} (ho : ops[k]? = some o)
    (h : ∀ K' : Act → World → Prop, Shut (∀ a w, wpAny P md ops Q fuel (listed.setIfInBounds k true) a w → K' a w) → if Region.wanted o (yielded ops a.tmps) = true then Oper.wp P o a w K' Q else K' (a.put o.dst undef) w) :
    AllReadyL P md ops Q S k fuel listed a w [k] := fun j hj => by
  rcases List.mem_cons.1 hj with rfl | hj
  · have hon : (listed.setIfInBounds j true).getD j true = true := by
      rcases Nat.lt_or_ge j listed.size with h' | h'
      · simp [h']
      · simp
    exact wpOp_step ho (fun K' hK => h K' (fun a w hW => hK a w ⟨fun hf => (by rw [hon] at hf; cases hf), wpAnyL_free _ _ _ _ hon hW⟩))
  · cases hj

theorem wpAnyL_ready {rs : List Nat} {fuel : Nat} {listed : Array Bool} {a : Act} {w : World} (hr : Region.ready md ops listed = rs) (hne : rs ≠ [])
    (h : AllReadyL P md ops Q S k fuel listed a w rs) : wpAnyL P md ops Q S k (fuel + 1) listed a w := ⟨fun h0 => absurd (hr ▸ h0) hne, hr ▸ h⟩

theorem wp_region_L {id : Nat} {a : Act} {w : World} (S : World → Prop) (k : Nat) (hm : P.follows .mixedOrders = true)
    (h : wpAnyL P .any ops Q S k ops.size (Array.replicate ops.size false) a w.drew) : (Code.region id ops true).wp P Q a w := wp_region_any hm (wpAny_of_L _ _ _ _ h)
end
end Go.Proofs.Ytbmohenjphmlgaa

/- The laws of regions (RegLaw) behind KeepBase. -/
