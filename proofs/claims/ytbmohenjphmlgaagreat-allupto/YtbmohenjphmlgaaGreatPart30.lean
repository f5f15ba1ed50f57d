/- Part 30 of a proof: what the last text needs. -/
import Derived.Test.YtbmohenjphmlgaaGreatPart29
import Derived.Deep.RegionHeld3
import Derived.Deep.AppendLies
import Derived.Test.YtbmohenjphmlgaaGreatPart9
/- The walk of Book's 'reads' (of the statements' own): all lists that were marked read as marked. -/
namespace Go.Proofs.YtbmohenjphmlgaaGreat
open Go.RowKit
set_option maxRecDepth 100000

end Go.Proofs.YtbmohenjphmlgaaGreat

/- The walk of Book's 'waits' (of the statements' own): the items that wait read as they came. -/
namespace Go.Proofs.YtbmohenjphmlgaaGreat
open Go.RowKit
set_option maxRecDepth 100000

/-- Items that wait, in a row; of each the blocks have a colour of their own. -/
def WaitRow (w : World) (c : Nat → Nat) (col : Nat) (sl : Value) (l : List Itm) : Prop :=
  ∃ xs : List Value, w.ownsRow 0 119 3 sl l.length xs ∧ (∀ g, sl.ownBlock = some g → c g = col) ∧
    ∀ i (h : i < l.length), ∃ lo hi, hi ≤ w.heap.size ∧ (∀ k, lo ≤ k → k < hi → c k = col + 10 * (i + 1)) ∧ Own 119 w 1001 lo hi (tri xs i) l[i]

end Go.Proofs.YtbmohenjphmlgaaGreat

/- The walk of Book's 'settles' (of the statements' own): what waits is marked, all reads as it should. -/
namespace Go.Proofs.YtbmohenjphmlgaaGreat
open Go.RowKit
set_option maxRecDepth 100000

/-- What has no colour is as it was. -/
structure Calm (c c' : Nat → Nat) (w w' : World) : Prop where
  os : w'.os = w.os
  tape : w'.tape = w.tape
  output : w'.output = w.output
  size : w.heap.size ≤ w'.heap.size
  keep : ∀ k, k < w.heap.size → c k = 0 → w'.heap[k]? = w.heap[k]? ∧ c' k = 0

theorem Calm.trans {c c' c'' : Nat → Nat} {w w' w'' : World} (h : Calm c c' w w') (k : Calm c' c'' w' w'') : Calm c c'' w w'' :=
  ⟨k.os.trans h.os, k.tape.trans h.tape, k.output.trans h.output, Nat.le_trans h.size k.size, fun j hj hc => by
    obtain ⟨a, b⟩ := h.keep j hj hc
    obtain ⟨a', b'⟩ := k.keep j (Nat.lt_of_lt_of_le hj h.size) b
    exact ⟨a'.trans a, b'⟩⟩

theorem Calm.of_below {c : Nat → Nat} {w w' : World} (h : Below w.heap.size w w') : Calm c c w w' := ⟨h.os, h.tape, h.output, h.size, fun k hk hc => ⟨h.block k hk, hc⟩⟩

theorem Calm.of_turn {c c' : Nat → Nat} {lo hi m : Nat} {w w' : World} (h : Turn c c' lo hi w w') (hm : 10 ≤ m) (hc : ∀ k, lo ≤ k → k < hi → c k = m) : Calm c c' w w' :=
  ⟨h.os, h.tape, h.output, h.size, fun k hk h0 => by
    have hw : k < lo ∨ hi ≤ k := by
      by_cases h1 : lo ≤ k
      · by_cases h2 : k < hi
        · have := hc k h1 h2; omega
        · omega
      · omega
    exact ⟨h.block k hk hw (by omega) (by omega), by rw [h.color k hk hw]; exact h0⟩⟩

/-- The items that wait from the j-th on. -/
def WaitFrom (j : Nat) (w : World) (c : Nat → Nat) (sl : Value) (l : List Itm) (xs : List Value) : Prop :=
  w.ownsRow 0 119 3 sl l.length xs ∧ (∀ g, sl.ownBlock = some g → c g = 3) ∧
    ∀ i (h : i < l.length), j ≤ i → ∃ lo hi, hi ≤ w.heap.size ∧ (∀ k, lo ≤ k → k < hi → c k = 3 + 10 * (i + 1)) ∧ Own 119 w 1001 lo hi (tri xs i) l[i]

/-- The book's lists of what waits are laid down. -/
def laidDown (w : World) (B : Nat) : World :=
  (((((w.setCell ⟨B, 3, none⟩ (.slice none 0 0)).setCell ⟨B, 4, none⟩ (.slice none 0 0)).setCell ⟨B, 5, none⟩ (.slice none 0 0)).setCell ⟨B, 6, none⟩ (.slice none 0 0)).setCell ⟨B, 7, none⟩ (.slice none 0 0)).setCell ⟨B, 8, none⟩ (.slice none 0 0)

/-- What 'settles' does. -/
def SettlesPost (c : Nat → Nat) (B Q : Nat) (l : List Itm) (w : World) (e : Ending) (w' : World) : Prop :=
  e = .returned (.bool true) ∧ ∃ c' it', BookSt w' c' B it' (.slice none 0 0) (.slice none 0 0) (Q + Itm.cntL l) ∧ Calm c c' w w'

end Go.Proofs.YtbmohenjphmlgaaGreat

/- An item is kept with those that wait: what that turns. -/
namespace Go.Proofs.YtbmohenjphmlgaaGreat
open Go.RowKit
set_option maxRecDepth 100000

/-- A block gets a colour. -/
def setc (c : Nat → Nat) (g col : Nat) : Nat → Nat := fun k => if k = g then col else c k

/-- An item is stored behind the items that wait, in the place that an append has made. -/
def pushed (w1 : World) (g n B f cap : Nat) (d0 d1 d2 : Value) : World :=
  (((w1.setCell ⟨g, n * 3, none⟩ d0).setCell ⟨g, n * 3 + 1, none⟩ d1).setCell ⟨g, n * 3 + 2, none⟩ d2).setCell ⟨B, f, none⟩ (.slice (some ⟨g, 0, none⟩) (n + 1) cap)

structure PushFacts (W wF : World) (c : Nat → Nat) (B f col g : Nat) (u : Value) (l : List Itm) (t : Itm) (new : Value) : Prop where
  row : WaitRow wF (setc c g col) col new (l ++ [t])
  block : ∀ k, k < W.heap.size → c k ≠ col → k ≠ B → wF.heap[k]? = W.heap[k]?
  color : ∀ k, k < W.heap.size → setc c g col k = c k
  book : ∀ cs, W.heap[B]? = some (.cells cs 59 (0, 0)) → wF.heap[B]? = some (.cells (cs.setIfInBounds f new) 59 (0, 0))
  size : W.heap.size ≤ wF.heap.size
  rest : wF.os = W.os ∧ wF.tape = W.tape ∧ wF.output = W.output

/-- What keeping an item turns. -/
structure KeepT (c c' : Nat → Nat) (w w' : World) : Prop where
  os : w'.os = w.os
  tape : w'.tape = w.tape
  output : w'.output = w.output
  size : w.heap.size ≤ w'.heap.size
  block : ∀ k, k < w.heap.size → c k ≠ 1 → c k ≠ 3 → c k ≠ 4 → w'.heap[k]? = w.heap[k]?
  color : ∀ k, k < w.heap.size → c' k = c k

theorem KeepT.trans {c c' c'' : Nat → Nat} {w w' w'' : World} (h : KeepT c c' w w') (k : KeepT c' c'' w' w'') : KeepT c c'' w w'' :=
  ⟨k.os.trans h.os, k.tape.trans h.tape, k.output.trans h.output, Nat.le_trans h.size k.size,
    fun j hj h1 h2 h3 => (k.block j (Nat.lt_of_lt_of_le hj h.size) (by rw [h.color j hj]; exact h1) (by rw [h.color j hj]; exact h2) (by rw [h.color j hj]; exact h3)).trans (h.block j hj h1 h2 h3),
    fun j hj => (k.color j (Nat.lt_of_lt_of_le hj h.size)).trans (h.color j hj)⟩

theorem KeepT.of_below {c c' : Nat → Nat} {w w' : World} (h : Below w.heap.size w w') (hc : ∀ k, k < w.heap.size → c' k = c k) : KeepT c c' w w' := ⟨h.os, h.tape, h.output, h.size, fun k hk _ _ _ => h.block k hk, hc⟩

end Go.Proofs.YtbmohenjphmlgaaGreat

/- The statements' own Book, of heads: lists that their owner has marked. -/
namespace Go.Proofs.YtbmohenjphmlgaaGreat.FlH
open Go.RowKit
set_option maxRecDepth 100000

/-- The p-th cell of a row of marks. -/
def pat (q p : Nat) : Value := if p % 2 = 0 then .int .i64 (-1 - (q : Int)) else .string ⟨#[]⟩

theorem infoHead : (Tryz.prog.info? 99).map (fun i => (i.zero, i.size, i.bytes)) = some (some (.agg #[.int .i64 0, .string ⟨#[]⟩]), 2, 24) := by kernel_rfl

theorem infoSl : (Tryz.prog.info? 51).map (fun i => (i.zero, i.size, i.bytes)) = some (some (.slice none 0 0), 1, 24) := by kernel_rfl

/-- A slice all of whose elements are marks. -/
def Mk (w : World) (q : Nat) (v : Value) : Prop := v = .slice none 0 0 ∨ ∃ g n cap, v = .slice (some ⟨g, 0, none⟩) n cap ∧ n ≤ maxLen ∧ g < w.heap.size ∧ ∀ p, p < n * 2 → w.cell? ⟨g, p, none⟩ = some (pat q p)

theorem mk_frame {w w' : World} {q : Nat} {v : Value} (h : Mk w q v) (hs : w.heap.size ≤ w'.heap.size) (hg : ∀ g, v.ownBlock = some g → w'.heap[g]? = w.heap[g]?) : Mk w' q v := by
  rcases h with h | ⟨g, n, cap, rfl, hn, hlt, hm⟩
  · exact .inl h
  · exact .inr ⟨g, n, cap, rfl, hn, by omega, fun p hp => by rw [World.cell?_of_block (a := ⟨g, p, none⟩) (hg g rfl)]; exact hm p hp⟩

theorem mk_lt {w : World} {q : Nat} {v : Value} (h : Mk w q v) : ∀ g, v.ownBlock = some g → g < w.heap.size := by
  intro g hg
  rcases h with rfl | ⟨g', n, cap, rfl, _, hlt, _⟩
  · simp [Value.ownBlock] at hg
  · simp only [Value.ownBlock, Option.some.injEq] at hg; omega

theorem mk_of_owns {w : World} {base q n : Nat} {v : Value} {xs : List Value} (h : w.ownsRow base 99 2 v n xs) (hm : ∀ p, p < n * 2 → xs[p]? = some (pat q p)) : Mk w q v := by
  rcases id h.2 with ⟨hv, _⟩ | ⟨g, cap, cur, hv, hb, hg, hnc, hcm, hcs, ht⟩
  · exact .inl hv
  · subst hv
    exact .inr ⟨g, n, cap, rfl, by omega, (h.lt g rfl).2, fun p hp => by rw [h.cellAt p hp]; exact hm p hp⟩

/-- Marks appended to a slice of marks that has its own row: the slice stays, what was marked stays marked, the new slice is marked. -/
theorem run_append_marks (w : World) (base q : Nat) (v : Value) (n : Nat) (xs : List Value) (ty : TypeId) (hown : w.ownsRow base 99 2 v n xs) (hm : ∀ p, p < n * 2 → xs[p]? = some (pat q p))
    (a : Addr) (m c : Nat) (news : List Value) (hl : news.length = m * 2) (hnews : ∀ j u, news[j]? = some u → w.cell? (a.add j) = some u) (h1 : ∀ u ∈ news, u.oneCell' = true) (hq : ∀ j, j < m * 2 → news[j]? = some (pat q (n * 2 + j)))
    (h63 : n + m ≤ 1000000000) :
    ∃ v' w', (Builtin.append_ #[51, 51] ty #[v, .slice (some a) m c]).run Tryz.prog w = .ok v' w' ∧ w'.ownsRow base 99 2 v n xs ∧ Mk w' q v' ∧ (∀ u, Mk w q u → Mk w' q u) ∧ w.grownBy w' v.ownBlock ∧ Newer w v v' := by
  obtain ⟨i0, hi, hz0, hz1, hz2⟩ := info_parts infoHead
  have h63' : n + m ≤ maxLen := by unfold maxLen; omega
  have hby : (n + m) * 24 ≤ 140737488355328 := by omega
  have hall : ∀ p, p < (n + m) * 2 → (xs ++ news)[p]? = some (pat q p) := by
    intro p hp
    have hx := hown.1
    by_cases hpn : p < n * 2
    · rw [List.getElem?_append_left (by omega)]; exact hm p hpn
    · rw [List.getElem?_append_right (by omega), hx, hq _ (by omega)]
      congr 2; omega
  rcases hown.2 with ⟨rfl, rfl⟩ | ⟨g, cap, cur, rfl, hbg, hg, hnc, hcm, hcs, htake⟩
  · have hx : xs = [] := List.eq_nil_of_length_eq_zero (by simpa using hown.1)
    subst hx
    obtain ⟨v', w', hr, ho, hgr, _⟩ := run_append_own (P := Tryz.prog) w w.heap.size 51 ty 99 i0 _ 2 24 Tryz.underlying51 hi hz0 hz1 hz2 rfl (by decide) (.slice none 0 0) 0 [] (World.ownsRow_nil w _ 99 2) a m c news hl hnews h1 h63' hby (Nat.le_refl _)
    refine ⟨v', w', hr, World.ownsRow_nil _ _ _ _, mk_of_owns ho hall, ?_, hgr, owns_newer ho (fun _ => rfl)⟩
    intro u hu
    refine mk_frame hu hgr.size (fun k hk => hgr.block k (mk_lt hu k hk) (by simp [Value.ownBlock]))
  · by_cases hroom : n + m ≤ cap
    · have hlen : (xs ++ news).length = (n + m) * 2 := by rw [List.length_append, hown.1, hl, Nat.add_mul]
      have hx := hown.1
      have hfit : n * i0.size + news.length ≤ cur.size := by rw [hl, hcs, hz1]; omega
      have hr := run_append_room (P := Tryz.prog) w 51 ty 99 i0 Tryz.underlying51 hi g n cap cur hg a m c news (by rw [hz1]; exact hl) hnews h1 hroom hfit
      rw [hz1, htake] at hr
      have hblk := setRow_heap w g cur (xs ++ news ++ cur.toList.drop (n * 2 + news.length)).toArray 99 _ hg
      have hgr : w.grownBy (w.setRow g (xs ++ news ++ cur.toList.drop (n * 2 + news.length)).toArray) (Value.slice (some ⟨g, 0, none⟩) n cap).ownBlock := ⟨rfl, rfl, rfl, by simp, fun k _ hk => setRow_other w g k _ (fun e => hk (by simp [Value.ownBlock, e]))⟩
      have hsz : (xs ++ news ++ cur.toList.drop (n * 2 + news.length)).toArray.size = cap * 2 := by
        simp only [List.size_toArray, List.length_append, List.length_drop, Array.length_toList, hx, hl, hcs]
        omega
      have hnew : (w.setRow g (xs ++ news ++ cur.toList.drop (n * 2 + news.length)).toArray).ownsRow base 99 2 (.slice (some ⟨g, 0, none⟩) (n + m) cap) (n + m) (xs ++ news) :=
        ⟨hlen, .inr ⟨g, cap, _, rfl, hbg, hblk, hroom, hcm, hsz, by rw [← hlen]; exact List.take_left⟩⟩
      have hold : (w.setRow g (xs ++ news ++ cur.toList.drop (n * 2 + news.length)).toArray).ownsRow base 99 2 (.slice (some ⟨g, 0, none⟩) n cap) n xs :=
        ⟨hx, .inr ⟨g, cap, _, rfl, hbg, hblk, hnc, hcm, hsz, by rw [← hx]; simp only [List.append_assoc]; exact List.take_left⟩⟩
      refine ⟨_, _, hr, hold, mk_of_owns hnew hall, ?_, hgr, .inl rfl⟩
      intro u hu
      rcases hu with rfl | ⟨g2, n2, cap2, rfl, hn2, hlt2, hm2⟩
      · exact .inl rfl
      · by_cases hg2 : g2 = g
        · subst hg2
          refine .inr ⟨g2, n2, cap2, rfl, hn2, by simpa [World.setRow] using hlt2, fun p hp => ?_⟩
          by_cases hpn : p < (n + m) * 2
          · rw [hnew.cellAt p hpn]; exact hall p hpn
          · rw [← hm2 p hp, cell_of_row _ _ p _ _ _ hblk, cell_of_row _ _ p _ _ _ hg]
            have e1 : (xs ++ news ++ cur.toList.drop (n * 2 + news.length)).toArray[p]? = (xs ++ news ++ cur.toList.drop (n * 2 + news.length))[p]? := by simp
            rw [e1, List.getElem?_append_right (by omega), List.getElem?_drop, hlen]
            have e2 : n * 2 + news.length + (p - (n + m) * 2) = p := by omega
            rw [e2]; simp
        · exact mk_frame (.inr ⟨g2, n2, cap2, rfl, hn2, hlt2, hm2⟩) hgr.size (fun k hk => hgr.block k (by simp only [Value.ownBlock, Option.some.injEq] at hk; omega) (by simp only [Value.ownBlock, Option.some.injEq] at hk; simp only [Value.ownBlock, ne_eq, Option.some.injEq]; omega))
    · have holds : ∀ j u, xs[j]? = some u → w.cell? ((⟨g, 0, none⟩ : Addr).add j) = some u := hown.cells (g := g) rfl
      obtain ⟨v', w', hr, ho, hgr⟩ := run_append_arg_grows (P := Tryz.prog) w 51 ty 99 i0 _ 2 24 Tryz.underlying51 hi hz0 hz1 hz2 rfl (by decide) ⟨g, 0, none⟩ n cap xs hown.1 holds a m c news hl hnews (by omega) h63' hby
      have hall2 : ∀ k, k < w.heap.size → w'.heap[k]? = w.heap[k]? := fun k hk => hgr.block k hk (by simp)
      refine ⟨v', w', hr, owns_frame hown (fun k hk => hall2 k (hown.lt k hk).2), mk_of_owns ho hall, ?_, ⟨hgr.os, hgr.tape, hgr.output, hgr.size, fun k hk _ => hall2 k hk⟩, owns_newer ho ?_⟩
      · intro u hu
        exact mk_frame hu hgr.size (fun k hk => hall2 k (mk_lt hu k hk))
      · intro hno
        rcases ho.2 with ⟨rfl, h0⟩ | ⟨g', cap', cur', rfl, _⟩
        · omega
        · simp [Value.ownBlock] at hno

theorem wpList_append_marks {ops : Array Oper} {rest : List Oper} {o : Oper} {act : Act} {Q : Exit → Act → World → Prop} (hgd : o.guard = none) (s x : Operand)
    (hop : o.op = .call { callee := .builtin .append, args := #[s, x], argTypes := #[51, 51] })
    {w : World} {base q : Nat} {v : Value} {n : Nat} {xs : List Value} (hs : act.eval s = v) (hown : w.ownsRow base 99 2 v n xs) (hm : ∀ p, p < n * 2 → xs[p]? = some (pat q p))
    (a : Addr) (m c : Nat) (news : List Value) (hx : act.eval x = .slice (some a) m c) (hl : news.length = m * 2) (hnews : ∀ j u, news[j]? = some u → w.cell? (a.add j) = some u) (h1 : ∀ u ∈ news, u.oneCell' = true) (hq : ∀ j, j < m * 2 → news[j]? = some (pat q (n * 2 + j)))
    (h63 : n + m ≤ 1000000000)
    (h : ∀ v' w', w'.ownsRow base 99 2 v n xs → Mk w' q v' → (∀ u, Mk w q u → Mk w' q u) → w.grownBy w' v.ownBlock → Newer w v v' → wpList Tryz.prog ops Q rest (act.put o.dst v') w') :
    wpList Tryz.prog ops Q (o :: rest) act w := by
  refine wpList_plain hgd fun K hK => ?_
  obtain ⟨v', w', hr, h2, h3, h4, h5, h6⟩ := run_append_marks w base q v n xs o.type hown hm a m c news hl hnews h1 hq h63
  unfold Oper.wp execOp
  simp only [hop, resolve, invoke, builtin, Sem.run_bind, Sem.run_pure, Result.andThen_ok, List.map_toArray, List.map_cons, List.map_nil, hs, hx, hr]
  exact hK _ _ (h v' w' h2 h3 h4 h5 h6)

/-- A list that was marked, in a block of that colour. -/
def MarkedAt (w : World) (c : Nat → Nat) (v : Value) (q : Nat) : Prop := Mk w q v ∧ ∀ g, v.ownBlock = some g → c g = 5

theorem MarkedAt.frame {w w' : World} {c c' : Nat → Nat} {v : Value} {q : Nat} (h : MarkedAt w c v q) (hs : w.heap.size ≤ w'.heap.size) (hb : ∀ k, k < w.heap.size → c k = 5 → w'.heap[k]? = w.heap[k]? ∧ c' k = 5) : MarkedAt w' c' v q :=
  ⟨mk_frame h.1 hs (fun g hg => (hb g (mk_lt h.1 g hg) (h.2 g hg)).1), fun g hg => (hb g (mk_lt h.1 g hg) (h.2 g hg)).2⟩

/-- The book, its marked lists; each block has a colour: 1 the book itself, 2 the row of its marked lists, 5 what was marked. -/
structure BookSt (w : World) (c : Nat → Nat) (B : Nat) (kp wp it wi we : Value) (Q : Nat) : Prop where
  bk : w.heap[B]? = some (.cells #[kp, wp, .slice none 0 0, it, .slice none 0 0, .slice none 0 0, .slice none 0 0, wi, we, .slice none 0 0, .slice none 0 0] 61 (0, 0))
  cb : c B = 1
  crow : ∀ g, it.ownBlock = some g → c g = 2
  row : ∃ ls : List Value, w.ownsRow 0 51 1 it ls.length ls ∧ ls.length = 4 * Q ∧ ∀ k (h : k < ls.length), MarkedAt w c ls[k] (k / 4)

theorem BookSt.lt {w : World} {c : Nat → Nat} {B : Nat} {kp wp it wi we : Value} {Q : Nat} (h : BookSt w c B kp wp it wi we Q) : B < w.heap.size := (Array.getElem?_eq_some_iff.1 h.bk).1

theorem BookSt.frame {w w' : World} {c c' : Nat → Nat} {B : Nat} {kp wp it wi we : Value} {Q : Nat} (h : BookSt w c B kp wp it wi we Q) (hs : w.heap.size ≤ w'.heap.size)
    (hb : ∀ k, k < w.heap.size → c k = 1 ∨ c k = 2 ∨ c k = 5 → w'.heap[k]? = w.heap[k]? ∧ c' k = c k) : BookSt w' c' B kp wp it wi we Q := by
  obtain ⟨ls, ho, hl, hm⟩ := h.row
  refine ⟨?_, ?_, ?_, ls, owns_frame ho (fun g hg => (hb g (ho.lt g hg).2 (.inr (.inl (h.crow g hg)))).1), hl, fun k hk => (hm k hk).frame hs (fun j hj hc => ⟨(hb j hj (.inr (.inr hc))).1, by rw [(hb j hj (.inr (.inr hc))).2, hc]⟩)⟩
  · rw [(hb B h.lt (.inl h.cb)).1]; exact h.bk
  · rw [(hb B h.lt (.inl h.cb)).2]; exact h.cb
  · intro g hg
    rw [(hb g (ho.lt g hg).2 (.inr (.inl (h.crow g hg)))).2]; exact h.crow g hg

theorem BookSt.later {w w' : World} {c : Nat → Nat} {B : Nat} {kp wp it wi we : Value} {Q : Nat} (h : BookSt w c B kp wp it wi we Q) (hb : Below w.heap.size w w') : BookSt w' (paint c w.heap.size) B kp wp it wi we Q :=
  h.frame hb.size (fun k hk _ => ⟨hb.block k hk, paint_old c hk⟩)

theorem BookSt.below {w w' : World} {c : Nat → Nat} {B : Nat} {kp wp it wi we : Value} {Q : Nat} (h : BookSt w c B kp wp it wi we Q) (hb : Below w.heap.size w w') : BookSt w' c B kp wp it wi we Q :=
  h.frame hb.size (fun k hk _ => ⟨hb.block k hk, rfl⟩)

/-- The cells of the book. -/
theorem BookSt.cells {w : World} {c : Nat → Nat} {B : Nat} {kp wp it wi we : Value} {Q : Nat} (h : BookSt w c B kp wp it wi we Q) :
    w.cell? ⟨B, 3, none⟩ = some it ∧ w.cell? ⟨B, 7, none⟩ = some wi ∧ w.cell? ⟨B, 8, none⟩ = some we ∧ ∃ a cap, it = .slice a (4 * Q) cap := by
  refine ⟨by rw [cell_of_row _ _ 3 _ _ _ h.bk]; rfl, by rw [cell_of_row _ _ 7 _ _ _ h.bk]; rfl, by rw [cell_of_row _ _ 8 _ _ _ h.bk]; rfl, ?_⟩
  obtain ⟨ls, ho, hl, _⟩ := h.row
  rw [hl] at ho
  rcases ho.2 with ⟨rfl, h0⟩ | ⟨g, cap, cur, hv, _⟩
  · exact ⟨none, 0, by rw [h0]⟩
  · exact ⟨_, _, hv⟩

theorem BookSt.frozen {w : World} {c : Nat → Nat} {B : Nat} {kp wp it wi we : Value} {Q : Nat} (h : BookSt w c B kp wp it wi we Q) (j : Nat) : w.frozen? ⟨B, j, none⟩ = false := frozen_of_row _ _ j _ _ h.bk

/-- How far a list has been marked. -/
structure MarkRow (n : Nat) (w : World) (c0 : Nat → Nat) (B : Nat) (kp wp wi we : Value) (Q lo hi m : Nat) (sl : Value) (i : Nat) (wr : World) (c : Nat → Nat) (it : Value) (ys : List Value) : Prop where
  book : BookSt wr c B kp wp it wi we Q
  turn : Turn c0 c lo hi w wr
  row : wr.ownsRow 0 99 2 sl n ys
  crow : ∀ g, sl.ownBlock = some g → c g = m
  fresh : ∀ k, w.heap.size ≤ k → c k = 0
  done : ∀ p, p < i * 2 → ys[p]? = some (pat Q p)

theorem markRow_start {n : Nat} {w w2 : World} {c0 : Nat → Nat} {B : Nat} {kp wp it wi we : Value} {Q lo hi m : Nat} {sl : Value} {xs : List Value} (hB : BookSt w c0 B kp wp it wi we Q) (ho : w.ownsRow 0 99 2 sl n xs) (hg : ∀ g, sl.ownBlock = some g → c0 g = m) (hb : Below w.heap.size w w2) :
    MarkRow n w c0 B kp wp wi we Q lo hi m sl 0 w2 (paint c0 w.heap.size) it xs := by
  refine ⟨hB.later hb, Turn.of_below hb (fun k hk => paint_old _ hk), owns_frame ho (fun g hg' => hb.block g (ho.lt g hg').2), ?_, fun k hk => paint_new _ hk, fun p hp => by omega⟩
  intro g hg'
  rw [paint_old _ (ho.lt g hg').2]
  exact hg g hg'

theorem markRow_step {n : Nat} {w : World} {c0 : Nat → Nat} {B : Nat} {kp wp it wi we : Value} {Q lo hi m g cap i : Nat} {wr : World} {c : Nat → Nat} {ys : List Value} (hm : 10 ≤ m) (hg : lo ≤ g ∧ g < hi)
    (h : MarkRow n w c0 B kp wp wi we Q lo hi m (.slice (some ⟨g, 0, none⟩) n cap) i wr c it ys) (hi' : i < n) :
    MarkRow n w c0 B kp wp wi we Q lo hi m (.slice (some ⟨g, 0, none⟩) n cap) (i + 1) ((wr.setCell ⟨g, i * 2, none⟩ (.int .i64 (-1 - (Q : Int)))).setCell ⟨g, i * 2 + 1, none⟩ (.string ⟨#[]⟩)) c it ((ys.set (i * 2) (.int .i64 (-1 - (Q : Int)))).set (i * 2 + 1) (.string ⟨#[]⟩)) := by
  have hcg : c g = m := h.crow g rfl
  have hother : ∀ k, k ≠ g → ((wr.setCell ⟨g, i * 2, none⟩ (.int .i64 (-1 - (Q : Int)))).setCell ⟨g, i * 2 + 1, none⟩ (.string ⟨#[]⟩)).heap[k]? = wr.heap[k]? := fun k hk => by rw [setCell_block _ _ _ _ hk, setCell_block _ _ _ _ hk]
  have hsz : ((wr.setCell ⟨g, i * 2, none⟩ (.int .i64 (-1 - (Q : Int)))).setCell ⟨g, i * 2 + 1, none⟩ (.string ⟨#[]⟩)).heap.size = wr.heap.size := by simp [World.setCell]
  have h1 := (h.row.stored (i * 2) (.int .i64 (-1 - (Q : Int)))).1
  have h2 := (h1.stored (i * 2 + 1) (.string ⟨#[]⟩)).1
  have hx := h.row.1
  refine ⟨h.book.frame (by omega) (fun k _ hk => ⟨hother k (by intro e; rw [e, hcg] at hk; omega), rfl⟩), ?_, h2, h.crow, h.fresh, ?_⟩
  · exact ⟨h.turn.os, h.turn.tape, h.turn.output, by rw [hsz]; exact h.turn.size, fun k hk hw a b => by rw [hother k (by omega)]; exact h.turn.block k hk hw a b, h.turn.color⟩
  · intro p hp
    by_cases he : p = i * 2 + 1
    · subst he
      rw [List.getElem?_set_self (by rw [List.length_set]; omega)]
      unfold pat
      rw [if_neg (by omega)]
    · rw [List.getElem?_set_ne (Ne.symm he)]
      by_cases he2 : p = i * 2
      · subst he2
        rw [List.getElem?_set_self (by omega)]
        unfold pat
        rw [if_pos (by omega)]
      · rw [List.getElem?_set_ne (Ne.symm he2)]; exact h.done p (by omega)

theorem MarkRow.grow {n : Nat} {w : World} {c0 : Nat → Nat} {B : Nat} {kp wp wi we : Value} {Q lo hi m : Nat} {sl : Value} {i : Nat} {wr w' : World} {c : Nat → Nat} {it : Value} {ys : List Value} {O : Obj}
    (h : MarkRow n w c0 B kp wp wi we Q lo hi m sl i wr c it ys) (hm : 10 ≤ m) (hg : ∀ g, sl.ownBlock = some g → lo ≤ g ∧ g < hi) (hgr : (wr.alloc O).grownBy w' sl.ownBlock) (ho : w'.ownsRow 0 99 2 sl n ys) :
    MarkRow n w c0 B kp wp wi we Q lo hi m sl i w' c it ys := by
  have hblk : ∀ k, k < wr.heap.size → sl.ownBlock ≠ some k → w'.heap[k]? = wr.heap[k]? := fun k hk hn => by
    rw [hgr.block k (by simp; omega) (fun e => hn e.symm), Below.heap_alloc _ _ _ hk]
  have hsz : wr.heap.size ≤ w'.heap.size := by have := hgr.size; simp at this; omega
  refine ⟨h.book.frame hsz (fun k hk hc => ⟨hblk k hk (fun e => by have := h.crow k e; omega), rfl⟩), ?_, ho, h.crow, h.fresh, h.done⟩
  refine ⟨hgr.os.trans h.turn.os, hgr.tape.trans h.turn.tape, hgr.output.trans h.turn.output, Nat.le_trans h.turn.size hsz, fun k hk hw a b => ?_, h.turn.color⟩
  rw [hblk k (Nat.lt_of_lt_of_le hk h.turn.size) (fun e => by have := hg k e; omega)]
  exact h.turn.block k hk hw a b

/-- Marks appended to the list that has just been marked: for a walk. -/
theorem wpList_mark {ops : Array Oper} {rest : List Oper} {o : Oper} {act : Act} {Q' : Exit → Act → World → Prop} (hgd : o.guard = none) (s x : Operand)
    (hop : o.op = .call { callee := .builtin .append, args := #[s, x], argTypes := #[51, 51] })
    {n : Nat} {w : World} {c0 : Nat → Nat} {B : Nat} {kp wp wi we : Value} {Q lo hi m : Nat} {sl : Value} {wr : World} {c : Nat → Nat} {it : Value} {ys : List Value} (k : Nat) (news : List Value)
    (hs : act.eval s = sl) (hx : act.eval x = .slice (some ⟨wr.heap.size, 0, none⟩) k k) (h : MarkRow n w c0 B kp wp wi we Q lo hi m sl n wr c it ys) (hm : 10 ≤ m) (hg : ∀ g, sl.ownBlock = some g → lo ≤ g ∧ g < hi)
    (hl : news.length = k * 2) (h1 : ∀ u ∈ news, u.oneCell' = true) (hq : ∀ j, j < k * 2 → news[j]? = some (pat Q (n * 2 + j))) (hn : n + k ≤ 1000000000)
    (hK : ∀ v' w', MarkRow n w c0 B kp wp wi we Q lo hi m sl n w' c it ys → Mk w' Q v' → (∀ u, Mk wr Q u → Mk w' Q u) → (∀ h, v'.ownBlock = some h → sl.ownBlock = some h ∨ w.heap.size ≤ h) → (∀ k, k < wr.heap.size → sl.ownBlock ≠ some k → w'.heap[k]? = wr.heap[k]?) → wpList Tryz.prog ops Q' rest (act.put o.dst v') w') :
    wpList Tryz.prog ops Q' (o :: rest) act (wr.alloc (.cells news.toArray 99)) := by
  have hbW : Below wr.heap.size wr (wr.alloc (.cells news.toArray 99)) := (Below.refl _ _).alloc (Nat.le_refl _) _
  refine wpList_append_marks hgd s x hop hs (owns_frame h.row (fun g hg => hbW.block g (h.row.lt g hg).2)) h.done ⟨wr.heap.size, 0, none⟩ k k news hx hl (cells_new wr news 99) h1 hq hn ?_
  intro v' w' ho hmk hmono hgr hnew
  refine hK v' w' (h.grow hm hg hgr ho) hmk ?_ ?_ (fun k hk hne => by rw [hgr.block k (by simp; omega) (fun e => hne e.symm), Below.heap_alloc _ _ _ hk])
  · intro u hu
    exact hmono u (mk_frame hu hbW.size (fun g hg => hbW.block g (mk_lt hu g hg)))
  · intro g hg'
    rcases hnew with hn | ⟨g2, hn, hlt⟩
    · rw [hn] at hg'; exact .inl hg'
    · rw [hn] at hg'
      simp only [Option.some.injEq] at hg'
      have := h.turn.size
      simp at hlt
      exact .inr (by omega)

theorem markRow_end {n : Nat} {w : World} {c0 : Nat → Nat} {B : Nat} {kp wp wi we : Value} {Q lo hi m : Nat} {sl : Value} {wr w' : World} {c : Nat → Nat} {it it' : Value} {ys ls vs : List Value} {O : Obj}
    (h : MarkRow n w c0 B kp wp wi we Q lo hi m sl n wr c it ys) (hm : 10 ≤ m) (hg : ∀ g, sl.ownBlock = some g → lo ≤ g ∧ g < hi)
    (hvs : ∀ u ∈ vs, Mk wr Q u ∧ ∀ h, u.ownBlock = some h → sl.ownBlock = some h ∨ w.heap.size ≤ h) (hv4 : vs.length = 4)
    (hl : ls.length = 4 * Q) (hmk : ∀ k (h : k < ls.length), MarkedAt wr c ls[k] (k / 4))
    (ho : w'.ownsRow 0 51 1 it' (4 * Q + 4) (ls ++ vs)) (hgr : (wr.alloc O).grownBy w' it.ownBlock) (hnew : Newer (wr.alloc O) it it') :
    w'.heap[B]? = wr.heap[B]? ∧ BookSt (w'.setCell ⟨B, 3, none⟩ it') (recolor c it' vs) B kp wp it' wi we (Q + 1) ∧ Turn c0 (recolor c it' vs) lo hi w (w'.setCell ⟨B, 3, none⟩ it') := by
  have hlen : ((wr.alloc O).heap.size : Nat) = wr.heap.size + 1 := by simp
  have hcit := h.book.crow
  have hcB := h.book.cb
  have hblk : ∀ k, k < wr.heap.size → c k ≠ 2 → w'.heap[k]? = wr.heap[k]? := fun k hk hn => by
    rw [hgr.block k (by omega) (fun e => hn (hcit k e.symm)), Below.heap_alloc _ _ _ hk]
  have hsz : wr.heap.size ≤ w'.heap.size := by have := hgr.size; omega
  have hit' : ∀ k, it'.ownBlock = some k → c k = 2 ∨ wr.heap.size ≤ k := by
    intro k hk
    rcases hnew with hn | ⟨g2, hn, hlt⟩
    · rw [hn] at hk; exact .inl (hcit k hk)
    · rw [hn] at hk
      simp only [Option.some.injEq] at hk
      exact .inr (by omega)
  have hvc : ∀ u ∈ vs, ∀ k, u.ownBlock = some k → k < wr.heap.size ∧ (c k = m ∨ c k = 0) := by
    intro u hu k hk
    refine ⟨mk_lt (hvs u hu).1 k hk, ?_⟩
    rcases (hvs u hu).2 k hk with hs | hs
    · exact .inl (h.crow k hs)
    · exact .inr (h.fresh k hs)
  have hBlt := h.book.lt
  have hB1 : w'.heap[B]? = wr.heap[B]? := hblk B hBlt (by omega)
  have hset : ∀ k, k ≠ B → (w'.setCell ⟨B, 3, none⟩ it').heap[k]? = w'.heap[k]? := fun k hk => setCell_block _ _ _ _ hk
  have hssz : (w'.setCell ⟨B, 3, none⟩ it').heap.size = w'.heap.size := by simp [World.setCell]
  have hnB : it'.ownBlock ≠ some B := by
    intro e
    rcases hit' B e with h1 | h1 <;> omega
  have hre : ∀ k, k < wr.heap.size → c k ≠ 2 → it'.ownBlock ≠ some k := by
    intro k hk hc e
    rcases hit' k e with h1 | h1
    · exact hc h1
    · omega
  have hin : ∀ u ∈ vs, ∀ k, u.ownBlock = some k → recolor c it' vs k = 5 := by
    intro u hu k hk
    obtain ⟨q1, q2⟩ := hvc u hu k hk
    unfold recolor
    rw [if_neg (hre k q1 (by omega)), if_pos]
    exact List.any_eq_true.2 ⟨u, hu, by simp [hk]⟩
  have hout : ∀ k, (∀ u ∈ vs, u.ownBlock ≠ some k) → it'.ownBlock ≠ some k → recolor c it' vs k = c k := by
    intro k h1 h2
    unfold recolor
    rw [if_neg h2, if_neg]
    intro e
    obtain ⟨u, hu, he⟩ := List.any_eq_true.1 e
    exact h1 u hu (by simpa using he)
  refine ⟨hB1, ⟨?_, ?_, ?_, ls ++ vs, ?_, by rw [List.length_append]; omega, ?_⟩, ?_⟩
  · rw [heap_setCell_same _ _ 3 _ _ _ (hB1.trans h.book.bk)]; rfl
  · rw [hout B (fun u hu e => by have := (hvc u hu B e).2; omega) hnB]; exact hcB
  · intro g hg'
    unfold recolor
    rw [if_pos hg']
  · have e : (ls ++ vs).length = 4 * Q + 4 := by rw [List.length_append]; omega
    rw [e]
    exact owns_frame ho (fun g hg' => hset g (fun e => hnB (by rw [← e]; exact hg')))
  · intro k hk
    by_cases hk4 : k < ls.length
    · rw [List.getElem_append_left hk4]
      refine (hmk k hk4).frame (by omega) (fun j hj hc => ⟨?_, ?_⟩)
      · rw [hset j (by intro e; subst e; omega), hblk j hj (by omega)]
      · by_cases hv : ∃ u ∈ vs, u.ownBlock = some j
        · obtain ⟨u, hu, he⟩ := hv; exact hin u hu j he
        · rw [hout j (fun u hu e => hv ⟨u, hu, e⟩) (hre j hj (by omega))]; exact hc
    · rw [List.getElem_append_right (by omega)]
      have hkq : k / 4 = Q := by rw [List.length_append] at hk; omega
      rw [hkq]
      have hmem : vs[k - ls.length]'(by rw [List.length_append] at hk; omega) ∈ vs := List.getElem_mem _
      refine ⟨mk_frame (hvs _ hmem).1 (by omega) (fun j hj => ?_), hin _ hmem⟩
      obtain ⟨q1, q2⟩ := hvc _ hmem j hj
      rw [hset j (by intro e; subst e; omega), hblk j q1 (by omega)]
  · refine ⟨hgr.os.trans h.turn.os, hgr.tape.trans h.turn.tape, hgr.output.trans h.turn.output, by have := h.turn.size; omega, fun k hk hw a b => ?_, fun k hk hw => ?_⟩
    · have hck := h.turn.color k hk hw
      have hkr : k < wr.heap.size := Nat.lt_of_lt_of_le hk h.turn.size
      rw [hset k (by intro e; subst e; omega), hblk k hkr (by omega)]
      exact h.turn.block k hk hw a b
    · have hck := h.turn.color k hk hw
      have hkr : k < wr.heap.size := Nat.lt_of_lt_of_le hk h.turn.size
      have hv : ∀ u ∈ vs, u.ownBlock ≠ some k := by
        intro u hu e
        rcases (hvs u hu).2 k e with hs | hs
        · have := hg k hs; omega
        · omega
      by_cases hi' : it'.ownBlock = some k
      · rcases hit' k hi' with h1 | h1
        · unfold recolor
          rw [if_pos hi']; omega
        · omega
      · rw [hout k hv hi']; exact hck

/-- The list and those made of it are kept as marked: for a walk. -/
theorem wpList_markKeep {ops : Array Oper} {rest : List Oper} {o : Oper} {act : Act} {Q' : Exit → Act → World → Prop} (hgd : o.guard = none) (s x : Operand)
    (hop : o.op = .call { callee := .builtin .append, args := #[s, x], argTypes := #[55, 55] })
    {n : Nat} {w : World} {c0 : Nat → Nat} {B : Nat} {kp wp wi we : Value} {Q lo hi m : Nat} {sl : Value} {wr : World} {c : Nat → Nat} {it : Value} {ys : List Value} (v1 v2 v3 : Value)
    (hs : act.eval s = it) (hx : act.eval x = .slice (some ⟨wr.heap.size, 0, none⟩) 4 4) (h : MarkRow n w c0 B kp wp wi we Q lo hi m sl n wr c it ys) (hm : 10 ≤ m) (hg : ∀ g, sl.ownBlock = some g → lo ≤ g ∧ g < hi)
    (hvs : ∀ u ∈ [sl, v1, v2, v3], Mk wr Q u ∧ ∀ h, u.ownBlock = some h → sl.ownBlock = some h ∨ w.heap.size ≤ h) (hone : ∀ u ∈ [sl, v1, v2, v3], u.oneCell' = true) (hQ : Q ≤ 100000000000)
    (hK : ∀ it' w', w'.heap[B]? = wr.heap[B]? → (∃ c', BookSt (w'.setCell ⟨B, 3, none⟩ it') c' B kp wp it' wi we (Q + 1) ∧ Turn c0 c' lo hi w (w'.setCell ⟨B, 3, none⟩ it')) → wpList Tryz.prog ops Q' rest (act.put o.dst it') w') :
    wpList Tryz.prog ops Q' (o :: rest) act (wr.alloc (.cells #[sl, v1, v2, v3] 51)) := by
  obtain ⟨i0, hi0, hz0, hz1, hz2⟩ := info_parts infoSl
  obtain ⟨ls, ho, hl, hmk⟩ := h.book.row
  have hbW : Below wr.heap.size wr (wr.alloc (.cells #[sl, v1, v2, v3] 51)) := (Below.refl _ _).alloc (Nat.le_refl _) _
  refine wpList_append_mine _ hgd s x 55 hop 0 51 i0 _ 1 24 Tryz.underlying55 hi0 hz0 hz1 hz2 rfl (by decide) it ls.length ls hs (owns_frame ho (fun g hg => hbW.block g (ho.lt g hg).2)) ⟨wr.heap.size, 0, none⟩ 4 4 [sl, v1, v2, v3] hx rfl (cells_new wr [sl, v1, v2, v3] 51) hone ?_ ?_ (Nat.zero_le _) ?_
  · unfold maxLen; omega
  · omega
  · intro it' w' ho' hgr hnew
    obtain ⟨q1, q2, q3⟩ := markRow_end h hm hg hvs rfl hl hmk (by rw [hl] at ho'; exact ho') hgr hnew
    exact hK it' w' q1 ⟨_, q2, q3⟩

theorem mk_shape {w : World} {q : Nat} {v : Value} (h : Mk w q v) : ∃ a n cap, v = .slice a n cap := by
  rcases h with rfl | ⟨g, n, cap, rfl, _⟩
  · exact ⟨_, _, _, rfl⟩
  · exact ⟨_, _, _, rfl⟩

theorem mk_one {w : World} {q : Nat} {v : Value} (h : Mk w q v) : v.oneCell' = true := by
  rcases h with rfl | ⟨g, n, cap, rfl, _⟩ <;> rfl

theorem ones_four {w1 w2 w3 : World} {q : Nat} {a : Option Addr} {n cap : Nat} {v1 v2 v3 : Value} (h1 : Mk w1 q v1) (h2 : Mk w2 q v2) (h3 : Mk w3 q v3) : ∀ u ∈ [Value.slice a n cap, v1, v2, v3], u.oneCell' = true := by
  intro u hu
  simp only [List.mem_cons, List.not_mem_nil, or_false] at hu
  rcases hu with rfl | rfl | rfl | rfl
  · rfl
  · exact mk_one h1
  · exact mk_one h2
  · exact mk_one h3

theorem marks_four {w0 w1 w2 w3 : World} {q M : Nat} {sl v1 v2 v3 : Value} (h0 : Mk w0 q sl) (p1 : ∀ u, Mk w0 q u → Mk w1 q u) (h1 : Mk w1 q v1) (p2 : ∀ u, Mk w1 q u → Mk w2 q u) (h2 : Mk w2 q v2) (p3 : ∀ u, Mk w2 q u → Mk w3 q u) (h3 : Mk w3 q v3)
    (n1 : ∀ h, v1.ownBlock = some h → sl.ownBlock = some h ∨ M ≤ h) (n2 : ∀ h, v2.ownBlock = some h → sl.ownBlock = some h ∨ M ≤ h) (n3 : ∀ h, v3.ownBlock = some h → sl.ownBlock = some h ∨ M ≤ h) :
    ∀ u ∈ [sl, v1, v2, v3], Mk w3 q u ∧ ∀ h, u.ownBlock = some h → sl.ownBlock = some h ∨ M ≤ h := by
  intro u hu
  simp only [List.mem_cons, List.not_mem_nil, or_false] at hu
  rcases hu with rfl | rfl | rfl | rfl
  · exact ⟨p3 _ (p2 _ (p1 _ h0)), fun h e => .inl e⟩
  · exact ⟨p3 _ (p2 _ h1), n1⟩
  · exact ⟨p3 _ h2, n2⟩
  · exact ⟨h3, n3⟩
end Go.Proofs.YtbmohenjphmlgaaGreat.FlH

/- The statements' own Book, of heads: the walk of markHeads. -/
namespace Go.Proofs.YtbmohenjphmlgaaGreat.FlH
open Go.RowKit
set_option maxRecDepth 100000

/-- A mark of a list. -/
def MarkPost (c : Nat → Nat) (B : Nat) (kp wp wi we : Value) (Q lo hi : Nat) (w : World) (e : Ending) (w' : World) : Prop :=
  e = .returned (.tuple #[]) ∧ ∃ c' it', BookSt w' c' B kp wp it' wi we (Q + 1) ∧ Turn c c' lo hi w w'

theorem pats1 (Q n : Nat) : ∀ j, j < 1 * 2 → [Value.int .i64 (-1 - (Q : Int)), .string ⟨#[]⟩][j]? = some (pat Q (n * 2 + j)) := by
  intro j hj
  unfold pat
  rcases (by omega : j = 0 ∨ j = 1) with rfl | rfl
  · rw [if_pos (by omega)]; rfl
  · rw [if_neg (by omega)]; rfl

theorem pats2 (Q n : Nat) : ∀ j, j < 2 * 2 → [Value.int .i64 (-1 - (Q : Int)), .string ⟨#[]⟩, .int .i64 (-1 - (Q : Int)), .string ⟨#[]⟩][j]? = some (pat Q (n * 2 + j)) := by
  intro j hj
  unfold pat
  rcases (by omega : j = 0 ∨ j = 1 ∨ j = 2 ∨ j = 3) with rfl | rfl | rfl | rfl
  · rw [if_pos (by omega)]; rfl
  · rw [if_neg (by omega)]; rfl
  · rw [if_pos (by omega)]; rfl
  · rw [if_neg (by omega)]; rfl

theorem pats3 (Q n : Nat) : ∀ j, j < 3 * 2 → [Value.int .i64 (-1 - (Q : Int)), .string ⟨#[]⟩, .int .i64 (-1 - (Q : Int)), .string ⟨#[]⟩, .int .i64 (-1 - (Q : Int)), .string ⟨#[]⟩][j]? = some (pat Q (n * 2 + j)) := by
  intro j hj
  unfold pat
  rcases (by omega : j = 0 ∨ j = 1 ∨ j = 2 ∨ j = 3 ∨ j = 4 ∨ j = 5) with rfl | rfl | rfl | rfl | rfl | rfl
  · rw [if_pos (by omega)]; rfl
  · rw [if_neg (by omega)]; rfl
  · rw [if_pos (by omega)]; rfl
  · rw [if_neg (by omega)]; rfl
  · rw [if_pos (by omega)]; rfl
  · rw [if_neg (by omega)]; rfl

theorem ones6 (Q : Nat) : ∀ u ∈ [Value.int .i64 (-1 - (Q : Int)), .string ⟨#[]⟩, .int .i64 (-1 - (Q : Int)), .string ⟨#[]⟩, .int .i64 (-1 - (Q : Int)), .string ⟨#[]⟩], u.oneCell' = true := by
  intro u hu
  simp only [List.mem_cons, List.not_mem_nil, or_false] at hu
  rcases hu with rfl | rfl | rfl | rfl | rfl | rfl <;> rfl

theorem ones4 (Q : Nat) : ∀ u ∈ [Value.int .i64 (-1 - (Q : Int)), .string ⟨#[]⟩, .int .i64 (-1 - (Q : Int)), .string ⟨#[]⟩], u.oneCell' = true := by
  intro u hu
  simp only [List.mem_cons, List.not_mem_nil, or_false] at hu
  rcases hu with rfl | rfl | rfl | rfl <;> rfl

theorem ones2 (Q : Nat) : ∀ u ∈ [Value.int .i64 (-1 - (Q : Int)), .string ⟨#[]⟩], u.oneCell' = true := by
  intro u hu
  simp only [List.mem_cons, List.not_mem_nil, or_false] at hu
  rcases hu with rfl | rfl <;> rfl

set_option maxHeartbeats 3200000 in
theorem mark_any (a : Option Addr) (n cap : Nat) (xs : List Value) (w : World) (c0 : Nat → Nat) (B : Nat) (kp wp it wi we : Value) (Q lo hi m : Nat) (hB : BookSt w c0 B kp wp it wi we Q) (ho : w.ownsRow 0 99 2 (.slice a n cap) n xs)
    (hg : ∀ g, (Value.slice a n cap).ownBlock = some g → lo ≤ g ∧ g < hi) (hc : ∀ g, (Value.slice a n cap).ownBlock = some g → c0 g = m) (hm : 10 ≤ m) (hQ : Q ≤ 99999999999) (hn : n ≤ 100000) :
    Calls Tryz.prog 78 #[.pointer (some ⟨B, 2, none⟩), .slice a n cap] w (MarkPost c0 B kp wp wi we Q lo hi w) := by
  have HS := hid (fun w2 hb => markRow_start (lo := lo) (hi := hi) (w2 := w2) hB ho hc hb)
  have HG := hid hg
  have HOL : Hid (∀ g, (Value.slice a n cap).ownBlock = some g → g < w.heap.size) := fun g hg' => (ho.lt g hg').2
  obtain ⟨b2, _, _, a4, cap4, rfl⟩ := hB.cells
  have HN := hid hn
  have eq4 : IntKind.i64.wrap (-1 - (Q : Int)) = -1 - (Q : Int) := by
    first
    | go_num
    | (simp [IntKind.wrap]; omega)
    | (simp [IntKind.wrap, IntKind.bits, IntKind.signed]; omega)
  have eq5 : IntKind.i64.wrap (Q : Int) = (Q : Int) := wrap_small _ (by omega) (by omega)
  clear hB ho hg hc
  go_enter Tryz.func78, Tryz.ntmps78
  go_wp2_with fail
  have HR0 := hid (HS.out _ ((Below.refl _ _).alloc (Nat.le_refl _) (.cells #[.int .i64 (-1 - (Q : Int)), .string ⟨#[]⟩] 99)))
  have HX0 : Hid ((w.alloc (.cells #[.int .i64 (-1 - (Q : Int)), .string ⟨#[]⟩] 99)).heap[w.heap.size]? = some (.cells #[.int .i64 (-1 - (Q : Int)), .string ⟨#[]⟩] 99 (0, 0))) := heap_alloc_new _ _
  have HNE : Hid ((Value.slice a n cap).ownBlock ≠ some w.heap.size) := fun e => by have := HOL.out _ e; omega
  clear HS b2
  generalize paint c0 w.heap.size = c2 at HR0
  go_loopw [5] (fun i wi2 => ∃ (j : Nat) (ys : List Value), i = .int .i64 j ∧ j ≤ n ∧ Hid (MarkRow n w c0 B kp wp wi we Q lo hi m (.slice a n cap) j wi2 c2 (.slice a4 (4 * Q) cap4) ys ∧ wi2.heap[w.heap.size]? = some (.cells #[.int .i64 (-1 - (Q : Int)), .string ⟨#[]⟩] 99 (0, 0)))) (fun i _ => n - (intOf i).toNat)
  case atStart => exact ⟨0, _, rfl, Nat.zero_le _, HR0.out, HX0.out⟩
  case round =>
    obtain ⟨j, ys, rfl, hj, HR⟩ := hrel
    have m0 := cell_of_row _ _ 0 _ _ _ HR.out.2
    have m1 := cell_of_row _ _ 1 _ _ _ HR.out.2
    by_cases hlt2 : j < n
    · have hshape : ∃ g, a = some ⟨g, 0, none⟩ := by
        rcases HR.out.1.row.2 with ⟨_, h0⟩ | ⟨g, cap', cur, hv, _⟩
        · omega
        · simp at hv; exact ⟨g, hv.1⟩
      obtain ⟨g, rfl⟩ := hshape
      have hgw := HOL.out g rfl
      have hx := HR.out.1.row.1
      have t0 : wr.cell? ⟨g, j * 2, none⟩ = some (ys[j * 2]'(by omega)) := by rw [HR.out.1.row.cellAt _ (by omega), List.getElem?_eq_getElem]
      have t1 : wr.cell? ⟨g, j * 2 + 1, none⟩ = some (ys[j * 2 + 1]'(by omega)) := by rw [HR.out.1.row.cellAt _ (by omega), List.getElem?_eq_getElem]
      have y0 := HR.out.1.row.frozenAt (j * 2)
      have y1 := HR.out.1.row.frozenAt (j * 2 + 1)
      have i2 : (j : Int) < (n : Int) := by omega
      have HNX := hid (markRow_step hm (HG.out g rfl) HR.out.1 hlt2)
      have HBX : Hid (((wr.setCell ⟨g, j * 2, none⟩ (.int .i64 (-1 - (Q : Int)))).setCell ⟨g, j * 2 + 1, none⟩ (.string ⟨#[]⟩)).heap[w.heap.size]? = some (.cells #[.int .i64 (-1 - (Q : Int)), .string ⟨#[]⟩] 99 (0, 0))) := by
        rw [Hid, setCell_block _ _ _ _ (show w.heap.size ≠ g by omega), setCell_block _ _ _ _ (show w.heap.size ≠ g by omega)]
        exact HR.out.2
      generalize ys[j * 2] = old0 at *
      generalize ys[j * 2 + 1] = old1 at *
      go_wp2_with fail
      exact ⟨⟨j + 1, _, by go_num, by omega, HNX.out, HBX.out⟩, by simp [intOf]; omega⟩
    · have HJE := hid (show j = n by omega)
      have i2 : ¬ (j : Int) < (n : Int) := by omega
      have HR' : Hid (MarkRow n w c0 B kp wp wi we Q lo hi m (.slice a n cap) n wr c2 (.slice a4 (4 * Q) cap4) ys) := by have := HR.out.1; rw [HJE.out] at this; exact this
      have HBX0 := hid HR.out.2
      have HK0 := hid (mk_of_owns HR'.out.row HR'.out.done)
      have N1 : Hid (n + 1 ≤ 1000000000) := by have := HN.out; rw [Hid]; omega
      have N2 : Hid (n + 2 ≤ 1000000000) := by have := HN.out; rw [Hid]; omega
      have N3 : Hid (n + 3 ≤ 1000000000) := by have := HN.out; rw [Hid]; omega
      have hQQ : Hid (Q ≤ 100000000000) := by rw [Hid]; omega
      have P1 := hid (pats1 Q n)
      have P2 := hid (pats2 Q n)
      have P3 := hid (pats3 Q n)
      have O1 := hid (ones2 Q)
      have O2 := hid (ones4 Q)
      have O3 := hid (ones6 Q)
      go_wp2_with (first
        | (at_builtin; refine wpList_mark (sl := .slice a n cap) rfl (.tmp 27) (.tmp 29) rfl 1 [.int .i64 (-1 - (Q : Int)), .string ⟨#[]⟩] rfl rfl HR'.out hm HG.out rfl O1.out P1.out N1.out ?_; intro v1 w3 hr1 hk1 hp1 hn1 hb1; obtain ⟨p1, n1, cp1, rfl⟩ := mk_shape hk1; have HR1 := hid hr1; have HK1 := hid hk1; have HP1 := hid hp1; have HN1 := hid hn1; have HBX1 := hid ((hb1 _ (Nat.lt_of_lt_of_le (Array.getElem?_eq_some_iff.1 HBX0.out).1 (Nat.le_refl _)) HNE.out).trans HBX0.out); clear hr1 hk1 hp1 hn1 hb1; have u10 := cell_of_row _ _ 0 _ _ _ HBX1.out; have u11 := cell_of_row _ _ 1 _ _ _ HBX1.out)
        | (at_builtin; refine wpList_mark (sl := .slice a n cap) rfl (.tmp 31) (.tmp 34) rfl 2 [.int .i64 (-1 - (Q : Int)), .string ⟨#[]⟩, .int .i64 (-1 - (Q : Int)), .string ⟨#[]⟩] rfl rfl HR1.out hm HG.out rfl O2.out P2.out N2.out ?_; intro v2 w4 hr2 hk2 hp2 hn2 hb2; obtain ⟨p2, n2, cp2, rfl⟩ := mk_shape hk2; have HR2 := hid hr2; have HK2 := hid hk2; have HP2 := hid hp2; have HN2 := hid hn2; have HBX2 := hid ((hb2 _ (Nat.lt_of_lt_of_le (Array.getElem?_eq_some_iff.1 HBX1.out).1 (Nat.le_refl _)) HNE.out).trans HBX1.out); clear hr2 hk2 hp2 hn2 hb2; have u20 := cell_of_row _ _ 0 _ _ _ HBX2.out; have u21 := cell_of_row _ _ 1 _ _ _ HBX2.out)
        | (at_builtin; refine wpList_mark (sl := .slice a n cap) rfl (.tmp 36) (.tmp 40) rfl 3 [.int .i64 (-1 - (Q : Int)), .string ⟨#[]⟩, .int .i64 (-1 - (Q : Int)), .string ⟨#[]⟩, .int .i64 (-1 - (Q : Int)), .string ⟨#[]⟩] rfl rfl HR2.out hm HG.out rfl O3.out P3.out N3.out ?_; intro v3 w5 hr3 hk3 hp3 hn3 hb3; obtain ⟨p3, n3, cp3, rfl⟩ := mk_shape hk3; have HR3 := hid hr3; have HK3 := hid hk3; have HP3 := hid hp3; have HN3 := hid hn3; have HBX3 := hid ((hb3 _ (Nat.lt_of_lt_of_le (Array.getElem?_eq_some_iff.1 HBX2.out).1 (Nat.le_refl _)) HNE.out).trans HBX2.out); clear hr3 hk3 hp3 hn3 hb3; have u30 := cell_of_row _ _ 0 _ _ _ HBX3.out; have u31 := cell_of_row _ _ 1 _ _ _ HBX3.out; obtain ⟨b2, _, _, _⟩ := HR3.out.book.cells)
        | (at_builtin; refine wpList_markKeep (sl := .slice a n cap) (it := .slice a4 (4 * Q) cap4) rfl (.tmp 46) (.tmp 51) rfl (.slice p1 n1 cp1) (.slice p2 n2 cp2) (.slice p3 n3 cp3) rfl rfl HR3.out hm HG.out (marks_four HK0.out HP1.out HK1.out HP2.out HK2.out HP3.out HK3.out HN1.out HN2.out HN3.out) (ones_four HK1.out HK2.out HK3.out) hQQ.out ?_; intro it9 w9 hB9 hE9; obtain ⟨c9, k9, T9⟩ := hE9; obtain ⟨_, _, _, a9, cp9, rfl⟩ := k9.cells; have HK9 := hid k9; have HT9 := hid T9; clear k9 T9; have b9 := cell_of_row _ _ 3 _ _ _ (hB9.trans HR3.out.book.bk); have f9 := frozen_of_row _ _ 3 _ _ (hB9.trans HR3.out.book.bk)))
      refine bodyPost_ret (v := .tuple #[]) (by simp [results, Tryz.results78, go_sem]) rfl ⟨rfl, c9, .slice a9 (4 * (Q + 1)) cp9, HK9.out, HT9.out⟩
end Go.Proofs.YtbmohenjphmlgaaGreat.FlH
