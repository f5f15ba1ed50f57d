/- Part 12 of a proof: what the last text needs. -/
import Derived.Test.YtbmohenjphmlgaaPart11
import Derived.Deep.RegionHeld3
import Derived.Deep.AppendLies
import Derived.Test.YtbmohenjphmlgaaPart2
/- The walk of Book's 'reads' (of the statements' own): all lists that were marked read as marked. -/
namespace Go.Proofs.Ytbmohenjphmlgaa
open Go.RowKit
set_option maxRecDepth 100000

/-- The k-th of the marked lists, as it can be read. -/
theorem BookSt.at {w : World} {c : Nat → Nat} {B : Nat} {wi we : Value} {Q : Nat} {a : Option Addr} {cap : Nat} (h : BookSt w c B (.slice a (4 * Q) cap) wi we Q) (k : Nat) (hk : k < 4 * Q) :
    ∃ r p n cp, a = some ⟨r, 0, none⟩ ∧ r < w.heap.size ∧ w.cell? ⟨r, k, none⟩ = some (.slice p n cp) ∧ Mk w (k / 4) (.slice p n cp) := by
  obtain ⟨ls, ho, hl, hm⟩ := h.row
  rw [hl] at ho
  rcases id ho.2 with ⟨_, h0⟩ | ⟨g, cap', cur, hv, _⟩
  · omega
  · simp only [Value.slice.injEq, true_and] at hv
    obtain ⟨rfl, rfl⟩ := hv
    have hmk := (hm k (by omega)).1
    obtain ⟨p, n, cp, he⟩ := mk_shape hmk
    refine ⟨g, p, n, cp, rfl, (ho.lt g rfl).2, ?_, by rw [← he]; exact hmk⟩
    rw [ho.cellAt k (by omega), List.getElem?_eq_getElem (by omega), he]

theorem mk_at {w : World} {q : Nat} {p : Option Addr} {n cp : Nat} (h : Mk w q (.slice p n cp)) (j : Nat) (hj : j < n) : ∃ g, p = some ⟨g, 0, none⟩ ∧ g < w.heap.size ∧ n ≤ maxLen ∧
    w.cell? ⟨g, j * 3, none⟩ = some (.bool false) ∧ w.cell? ⟨g, j * 3 + 1, none⟩ = some (.string ⟨(markText q).toArray⟩) ∧ w.cell? ⟨g, j * 3 + 2, none⟩ = some (.slice none 0 0) := by
  rcases h with h | ⟨g, n', cap', h, hn, hlt, hm⟩
  · simp at h; omega
  · simp only [Value.slice.injEq] at h
    obtain ⟨rfl, rfl, rfl⟩ := h
    exact ⟨g, rfl, hlt, hn, hm j hj⟩

theorem mk_len {w : World} {q : Nat} {p : Option Addr} {n cp : Nat} (h : Mk w q (.slice p n cp)) : n ≤ maxLen := by
  rcases h with h | ⟨g, n', cap', h, hn, hlt, hm⟩
  · simp at h; unfold maxLen; omega
  · simp only [Value.slice.injEq] at h
    omega

set_option maxHeartbeats 1600000 in
theorem reads_any (w : World) (c : Nat → Nat) (B : Nat) (it wi we : Value) (Q : Nat) (hB : BookSt w c B it wi we Q) (hQ : Q ≤ 100000000000) :
    Calls Try.prog 49 #[.pointer (some ⟨B, 0, none⟩)] w fun e w' => e = .returned (.bool true) ∧ Below w.heap.size w w' := by
  obtain ⟨b2, b7, b8, a, cap, rfl⟩ := hB.cells
  obtain ⟨b0, b1, b3, b4, b5, b6, bf⟩ := hB.nils
  have HB := hid hB
  have hBlt := hB.lt
  clear hB b7 b8 b3 b4 b5 b6 bf
  have HT : Hid (∀ (j : Nat), j ≤ 400000000000 → ∀ w, Calls Try.prog 71 #[.int .i64 (IntKind.i64.wrap ((j : Int) / 4))] w fun e w' => e = .returned (.string ⟨(markText (j / 4)).toArray⟩) ∧ Below w.heap.size w w') := fun j hj w => by
    have := text_any (j / 4) w (by omega)
    rwa [show ((j / 4 : Nat) : Int) = IntKind.i64.wrap ((j : Int) / 4) by rw [show IntKind.i64.wrap ((j : Int) / 4) = (j : Int) / 4 from wrap_small _ (by omega) (by omega)]; omega] at this
  go_enter Try.func49, Try.ntmps49
  go_wp2_with fail
  refine wp_loop_rounds 1 ?_
  rw [rounds_succ]
  go_wp2_with fail
  refine wp_loop_rounds 1 ?_
  rw [rounds_succ]
  go_wp2_with fail
  go_loopw [3, 8] (fun ok k wr => ∃ j : Nat, ok = .bool true ∧ k = .int .i64 j ∧ j ≤ 4 * Q ∧ Hid (Below w.heap.size w wr)) (fun _ k _ => 4 * Q - (intOf k).toNat)
  case atStart => exact ⟨0, rfl, rfl, Nat.zero_le _, Below.refl _ _⟩
  case round =>
    obtain ⟨j, rfl, rfl, hj, HBl⟩ := hrel
    have x2 := (HBl.out.cell (p := ⟨B, 2, none⟩) hBlt).trans b2
    by_cases hlt : j < 4 * Q
    · obtain ⟨r, p, n, cp, rfl, hr, hcr, hmk⟩ := HB.out.at j hlt
      have x3 := (HBl.out.cell (p := ⟨r, j, none⟩) hr).trans hcr
      have HM := hid hmk
      have hnl := mk_len hmk
      unfold maxLen at hnl
      have hlt' : (j : Int) < 4 * (Q : Int) := by omega
      clear hcr hmk
      go_wp2_with fail
      go_loopw [3, 9] (fun ok i wi2 => ∃ i' : Nat, ok = .bool true ∧ i = .int .i64 i' ∧ i' ≤ n ∧ Hid (Below w.heap.size w wi2)) (fun _ i _ => n - (intOf i).toNat)
      case atStart => exact ⟨0, rfl, rfl, Nat.zero_le _, HBl.out⟩
      case round =>
        obtain ⟨i', rfl, rfl, hi', HBi⟩ := hrel
        have y2 := (HBi.out.cell (p := ⟨B, 2, none⟩) hBlt).trans b2
        have y3 := (HBi.out.cell (p := ⟨r, j, none⟩) hr).trans ((HBl.out.cell (p := ⟨r, j, none⟩) hr).symm.trans x3)
        by_cases hlt2 : i' < n
        · obtain ⟨g, rfl, hg, _, m0, m1, m2⟩ := mk_at HM.out i' hlt2
          have z0 := (HBi.out.cell (p := ⟨g, i' * 3, none⟩) hg).trans m0
          have z1 := (HBi.out.cell (p := ⟨g, i' * 3 + 1, none⟩) hg).trans m1
          have z2 := (HBi.out.cell (p := ⟨g, i' * 3 + 2, none⟩) hg).trans m2
          clear m0 m1 m2
          go_wp2_with fail
          have HC := hid (HT.out j (by omega))
          go_region_held3 (fun w' => w'.cell? ⟨wr.heap.size, 0, none⟩ = some (.bool false) ∧ w'.cell? ⟨wr.heap.size, 1, none⟩ = some (.string ⟨(markText (j / 4)).toArray⟩) ∧ w'.cell? ⟨wr.heap.size, 2, none⟩ = some (.slice none 0 0)) (go_keep)
            ((go_at_call 71; refine (HC.out _).mono ?_; rintro e w2 ⟨rfl, hbel⟩; obtain ⟨hcc, hff⟩ := bcell hbel))
          all_goals
            go_wp2_with fail
            refine ⟨⟨i' + 1, rfl, by go_num, by omega, ?_⟩, by simp [intOf]; omega⟩
            have hb3 : Below wr.heap.size wr w2 := ((Below.refl _ _).alloc (Nat.le_refl _) _).trans ((below_undrew hbel).mono (by simp))
            exact HBi.out.trans (hb3.mono HBi.out.size)
        · have hlt2' : ¬ (i' : Int) < (n : Int) := by omega
          go_wp2_with fail
          exact ⟨⟨j + 1, rfl, by go_num, by omega, HBi.out⟩, by simp [intOf]; omega⟩
    · have hlt' : ¬ (j : Int) < 4 * (Q : Int) := by omega
      go_wp2_with fail
      go_ret
      exact ⟨rfl, HBl.out⟩
end Go.Proofs.Ytbmohenjphmlgaa

/- The walk of Book's 'waits' (of the statements' own): the items that wait read as they came. -/
namespace Go.Proofs.Ytbmohenjphmlgaa
open Go.RowKit
set_option maxRecDepth 100000

/-- Items that wait, in a row; of each the blocks have a colour of their own. -/
def WaitRow (w : World) (c : Nat → Nat) (col : Nat) (sl : Value) (l : List Itm) : Prop :=
  ∃ xs : List Value, w.ownsRow 0 24 3 sl l.length xs ∧ (∀ g, sl.ownBlock = some g → c g = col) ∧
    ∀ i (h : i < l.length), ∃ lo hi, hi ≤ w.heap.size ∧ (∀ k, lo ≤ k → k < hi → c k = col + 10 * (i + 1)) ∧ Own 24 w 1001 lo hi (tri xs i) l[i]

theorem waitRow_nil (w : World) (c : Nat → Nat) (col : Nat) : WaitRow w c col (.slice none 0 0) [] :=
  ⟨[], World.ownsRow_nil _ _ _ _, by simp [Value.ownBlock], fun i h => by simp at h⟩

theorem WaitRow.frame {w w' : World} {c c' : Nat → Nat} {col : Nat} {sl : Value} {l : List Itm} (h : WaitRow w c col sl l) (hcol : col < 10) (hs : w.heap.size ≤ w'.heap.size)
    (hb : ∀ k, k < w.heap.size → c k % 10 = col → w'.heap[k]? = w.heap[k]? ∧ c' k = c k) : WaitRow w' c' col sl l := by
  obtain ⟨xs, ho, hc, hk⟩ := h
  refine ⟨xs, owns_frame ho (fun g hg => (hb g (ho.lt g hg).2 (by rw [hc g hg]; omega)).1), fun g hg => ?_, fun i hi => ?_⟩
  · rw [(hb g (ho.lt g hg).2 (by rw [hc g hg]; omega)).2]; exact hc g hg
  · obtain ⟨lo, hi', q1, q2, q3⟩ := hk i hi
    refine ⟨lo, hi', by omega, fun k h1 h2 => ?_, own_frame _ _ _ _ _ (fun k h1 h2 => (hb k (by omega) (by rw [q2 k h1 h2]; omega)).1) q3⟩
    rw [(hb k (by omega) (by rw [q2 k h1 h2]; omega)).2]; exact q2 k h1 h2

theorem WaitRow.shape {w : World} {c : Nat → Nat} {col : Nat} {sl : Value} {l : List Itm} (h : WaitRow w c col sl l) : ∃ a cap, sl = .slice a l.length cap := by
  obtain ⟨xs, ho, _⟩ := h
  rcases ho.2 with ⟨rfl, h0⟩ | ⟨g, cap, cur, hv, _⟩
  · exact ⟨none, 0, by rw [h0]⟩
  · exact ⟨_, _, hv⟩

/-- The i-th of the items that wait, as it can be read. -/
theorem WaitRow.at {w : World} {c : Nat → Nat} {col : Nat} {a : Option Addr} {cap : Nat} {l : List Itm} (h : WaitRow w c col (.slice a l.length cap) l) (i : Nat) (hi : i < l.length) :
    ∃ r d0 d1 d2, a = some ⟨r, 0, none⟩ ∧ r < w.heap.size ∧ w.cell? ⟨r, i * 3, none⟩ = some d0 ∧ w.cell? ⟨r, i * 3 + 1, none⟩ = some d1 ∧ w.cell? ⟨r, i * 3 + 2, none⟩ = some d2 ∧ Rep w.heap.size w 1001 (.agg #[d0, d1, d2]) l[i] := by
  obtain ⟨xs, ho, hc, hk⟩ := h
  rcases id ho.2 with ⟨_, h0⟩ | ⟨g, cap', cur, hv, _⟩
  · omega
  · simp only [Value.slice.injEq, true_and] at hv
    obtain ⟨rfl, rfl⟩ := hv
    obtain ⟨t0, t1, t2⟩ := tri_cells ho i hi
    rw [Nat.zero_add] at t0 t1 t2
    obtain ⟨lo, hi', q1, _, q3⟩ := hk i hi
    exact ⟨g, _, _, _, rfl, (ho.lt g rfl).2, t0, t1, t2, rep_of_own _ _ _ _ _ q1 q3⟩

set_option maxHeartbeats 1600000 in
theorem waits_any (w : World) (c : Nat → Nat) (B : Nat) (it wi we : Value) (Q : Nat) (l : List Itm) (hB : BookSt w c B it wi we Q) (h3 : WaitRow w c 3 wi l) (h4 : WaitRow w c 4 we l) (hl : l.length ≤ 1000) :
    Calls Try.prog 48 #[.pointer (some ⟨B, 0, none⟩)] w fun e w' => e = .returned (.bool true) ∧ Below w.heap.size w w' := by
  obtain ⟨a3, cap3, rfl⟩ := h3.shape
  obtain ⟨a4, cap4, rfl⟩ := h4.shape
  obtain ⟨b2, b7, b8, _⟩ := hB.cells
  obtain ⟨b0, b1, b3, b4, b5, b6, bf⟩ := hB.nils
  have hBlt := hB.lt
  have H3 := hid h3
  have H4 := hid h4
  clear hB b2 b0 b1 b4 b6 bf h3 h4
  go_enter Try.func48, Try.ntmps48
  go_wp2_with fail
  refine wp_loop_rounds 1 ?_
  rw [rounds_succ]
  go_wp2_with fail
  refine wp_loop_rounds 1 ?_
  rw [rounds_succ]
  go_wp2_with fail
  go_loopw [3, 8] (fun ok k wr => ∃ j : Nat, ok = .bool true ∧ k = .int .i64 j ∧ j ≤ l.length ∧ Hid (Below w.heap.size w wr)) (fun _ k _ => l.length - (intOf k).toNat)
  case atStart => exact ⟨0, rfl, rfl, Nat.zero_le _, Below.refl _ _⟩
  case round =>
    obtain ⟨j, rfl, rfl, hj, HB⟩ := hrel
    have x7 := (HB.out.cell (p := ⟨B, 7, none⟩) hBlt).trans b7
    have x8 := (HB.out.cell (p := ⟨B, 8, none⟩) hBlt).trans b8
    have hBr : B < wr.heap.size := Nat.lt_of_lt_of_le hBlt HB.out.size
    by_cases hlt : j < l.length
    · obtain ⟨r, d0, d1, d2, rfl, hr, c0, c1, c2, rep1⟩ := H3.out.at j hlt
      obtain ⟨r', e0, e1, e2, rfl, hr', g0, g1, g2, rep2⟩ := H4.out.at j hlt
      have y0 := (HB.out.cell (p := ⟨r, j * 3, none⟩) hr).trans c0
      have y1 := (HB.out.cell (p := ⟨r, j * 3 + 1, none⟩) hr).trans c1
      have y2 := (HB.out.cell (p := ⟨r, j * 3 + 2, none⟩) hr).trans c2
      have z0 := (HB.out.cell (p := ⟨r', j * 3, none⟩) hr').trans g0
      have z1 := (HB.out.cell (p := ⟨r', j * 3 + 1, none⟩) hr').trans g1
      have z2 := (HB.out.cell (p := ⟨r', j * 3 + 2, none⟩) hr').trans g2
      have hrr : r < wr.heap.size := Nat.lt_of_lt_of_le hr HB.out.size
      have hrr' : r' < wr.heap.size := Nat.lt_of_lt_of_le hr' HB.out.size
      obtain ⟨a5, cap5, rfl, rfl, rfl⟩ := rep_shape rep1
      obtain ⟨a6, cap6, rfl, rfl, rfl⟩ := rep_shape rep2
      have HC : Hid (∀ w1, Below wr.heap.size wr w1 → Calls Try.prog 19 #[.agg #[.bool l[j].list, .string ⟨l[j].bytes.toArray⟩, .slice a5 l[j].items.length cap5], .agg #[.bool l[j].list, .string ⟨l[j].bytes.toArray⟩, .slice a6 l[j].items.length cap6]] w1 fun e w' => e = .returned (.bool true) ∧ Below w1.heap.size w1 w') := fun w1 hb =>
        sameL_two _ _ _ _ l[j] _ (rep_in (rep_in rep1 HB.out) hb) (rep_in (rep_in rep2 HB.out) hb)
      clear c0 c1 c2 g0 g1 g2 rep1 rep2 b7 b8
      have hj0 : (0 : Int) ≤ (j : Int) := by omega
      have hj1 : (j : Int) < (l.length : Int) := by omega
      go_wp2_with fail
      go_region_held3 (fun w' => w'.cell? ⟨B, 7, none⟩ = some (.slice (some ⟨r, 0, none⟩) l.length cap3) ∧ w'.cell? ⟨B, 8, none⟩ = some (.slice (some ⟨r', 0, none⟩) l.length cap4) ∧
          w'.cell? ⟨r, j * 3, none⟩ = some (.bool l[j].list) ∧ w'.cell? ⟨r, j * 3 + 1, none⟩ = some (.string ⟨l[j].bytes.toArray⟩) ∧ w'.cell? ⟨r, j * 3 + 2, none⟩ = some (.slice a5 l[j].items.length cap5) ∧
          w'.cell? ⟨r', j * 3, none⟩ = some (.bool l[j].list) ∧ w'.cell? ⟨r', j * 3 + 1, none⟩ = some (.string ⟨l[j].bytes.toArray⟩) ∧ w'.cell? ⟨r', j * 3 + 2, none⟩ = some (.slice a6 l[j].items.length cap6)) ((first | exact ⟨(hcc _ _ hBr).trans x7, (hcc _ _ hBr).trans x8, (hcc _ _ hrr).trans y0, (hcc _ _ hrr).trans y1, (hcc _ _ hrr).trans y2, (hcc _ _ hrr').trans z0, (hcc _ _ hrr').trans z1, (hcc _ _ hrr').trans z2⟩ | go_keep))
        ((go_at_call 19; refine (HC.out _ (Below.refl _ _).drew).mono ?_; rintro e w2 ⟨rfl, hbel⟩; obtain ⟨hcc, hff⟩ := bcell hbel))
      all_goals
        go_wp2_with fail
        refine ⟨⟨j + 1, rfl, by go_num, by omega, HB.out.trans ((below_undrew hbel).mono HB.out.size)⟩, by simp [intOf]; omega⟩
    · have hlt' : ¬ (j : Int) < (l.length : Int) := by omega
      go_wp2_with fail
      go_ret
      exact ⟨rfl, HB.out⟩
end Go.Proofs.Ytbmohenjphmlgaa

/- The walk of Book's 'settles' (of the statements' own): what waits is marked, all reads as it should. -/
namespace Go.Proofs.Ytbmohenjphmlgaa
open Go.RowKit
set_option maxRecDepth 100000

/-- What has no colour is as it was. -/
structure Calm (c c' : Nat → Nat) (w w' : World) : Prop where
  os : w'.os = w.os
  tape : w'.tape = w.tape
  output : w'.output = w.output
  size : w.heap.size ≤ w'.heap.size
  keep : ∀ k, k < w.heap.size → c k = 0 → w'.heap[k]? = w.heap[k]? ∧ c' k = 0

theorem Calm.refl (c : Nat → Nat) (w : World) : Calm c c w w := ⟨rfl, rfl, rfl, Nat.le_refl _, fun _ _ h => ⟨rfl, h⟩⟩

theorem Calm.trans {c c' c'' : Nat → Nat} {w w' w'' : World} (h : Calm c c' w w') (k : Calm c' c'' w' w'') : Calm c c'' w w'' :=
  ⟨k.os.trans h.os, k.tape.trans h.tape, k.output.trans h.output, Nat.le_trans h.size k.size, fun j hj hc => by
    obtain ⟨a, b⟩ := h.keep j hj hc
    obtain ⟨a', b'⟩ := k.keep j (Nat.lt_of_lt_of_le hj h.size) b
    exact ⟨a'.trans a, b'⟩⟩

theorem Calm.of_below {c : Nat → Nat} {w w' : World} (h : Below w.heap.size w w') : Calm c c w w' := ⟨h.os, h.tape, h.output, h.size, fun k hk hc => ⟨h.block k hk, hc⟩⟩

theorem Calm.of_turn {c c' : Nat → Nat} {lo hi m : Nat} {w w' : World} (h : Turn c c' lo hi w w') (hm : 10 ≤ m) (hc : ∀ k, lo ≤ k → k < hi → c k = m) : Calm c c' w w' :=
  ⟨h.os, h.tape, h.output, h.size, fun k hk h0 => by
    have hw : k < lo ∨ hi ≤ k := by
      by_cases h1 : lo ≤ k
      · by_cases h2 : k < hi
        · have := hc k h1 h2; omega
        · omega
      · omega
    exact ⟨h.block k hk hw (by omega) (by omega), by rw [h.color k hk hw]; exact h0⟩⟩

/-- The items that wait from the j-th on. -/
def WaitFrom (j : Nat) (w : World) (c : Nat → Nat) (sl : Value) (l : List Itm) (xs : List Value) : Prop :=
  w.ownsRow 0 24 3 sl l.length xs ∧ (∀ g, sl.ownBlock = some g → c g = 3) ∧
    ∀ i (h : i < l.length), j ≤ i → ∃ lo hi, hi ≤ w.heap.size ∧ (∀ k, lo ≤ k → k < hi → c k = 3 + 10 * (i + 1)) ∧ Own 24 w 1001 lo hi (tri xs i) l[i]

theorem waitFrom_step {j : Nat} {w w' : World} {c c' : Nat → Nat} {sl : Value} {l : List Itm} {xs : List Value} {lo hi : Nat} (h : WaitFrom j w c sl l xs) (hc : ∀ k, lo ≤ k → k < hi → c k = 3 + 10 * (j + 1)) (ht : Turn c c' lo hi w w') :
    WaitFrom (j + 1) w' c' sl l xs := by
  obtain ⟨ho, hs, hk⟩ := h
  have key : ∀ k, k < w.heap.size → c k % 10 = 3 → c k ≠ 3 + 10 * (j + 1) → w'.heap[k]? = w.heap[k]? ∧ c' k = c k := by
    intro k hk h1 h2
    have hw : k < lo ∨ hi ≤ k := by
      by_cases a : lo ≤ k
      · by_cases b : k < hi
        · exact absurd (hc k a b) h2
        · omega
      · omega
    exact ⟨ht.block k hk hw (by omega) (by omega), ht.color k hk hw⟩
  refine ⟨owns_frame ho (fun g hg => (key g (ho.lt g hg).2 (by rw [hs g hg]) (by rw [hs g hg]; omega)).1), fun g hg => ?_, fun i hi' hij => ?_⟩
  · rw [(key g (ho.lt g hg).2 (by rw [hs g hg]) (by rw [hs g hg]; omega)).2]; exact hs g hg
  · obtain ⟨lo', hi2, q1, q2, q3⟩ := hk i hi' (by omega)
    have := ht.size
    refine ⟨lo', hi2, by omega, fun k h1 h2 => ?_, own_frame _ _ _ _ _ (fun k h1 h2 => (key k (by omega) (by rw [q2 k h1 h2]; omega) (by rw [q2 k h1 h2]; omega)).1) q3⟩
    rw [(key k (by omega) (by rw [q2 k h1 h2]; omega) (by rw [q2 k h1 h2]; omega)).2]; exact q2 k h1 h2

theorem WaitFrom.later {j : Nat} {w w' : World} {c : Nat → Nat} {sl : Value} {l : List Itm} {xs : List Value} (h : WaitFrom j w c sl l xs) (hb : Below w.heap.size w w') : WaitFrom j w' c sl l xs := by
  obtain ⟨ho, hs, hk⟩ := h
  refine ⟨owns_frame ho (fun g hg => hb.block g (ho.lt g hg).2), hs, fun i hi' hij => ?_⟩
  obtain ⟨lo', hi2, q1, q2, q3⟩ := hk i hi' hij
  exact ⟨lo', hi2, Nat.le_trans q1 hb.size, q2, own_frame _ _ _ _ _ (fun k _ h2 => hb.block k (by omega)) q3⟩

theorem BookSt.below {w w' : World} {c : Nat → Nat} {B : Nat} {it wi we : Value} {Q : Nat} (h : BookSt w c B it wi we Q) (hb : Below w.heap.size w w') : BookSt w' c B it wi we Q :=
  h.frame hb.size (fun k hk _ => ⟨hb.block k hk, rfl⟩)

/-- The book's lists of what waits are laid down. -/
def laidDown (w : World) (B : Nat) : World :=
  (((((w.setCell ⟨B, 3, none⟩ (.slice none 0 0)).setCell ⟨B, 4, none⟩ (.slice none 0 0)).setCell ⟨B, 5, none⟩ (.slice none 0 0)).setCell ⟨B, 6, none⟩ (.slice none 0 0)).setCell ⟨B, 7, none⟩ (.slice none 0 0)).setCell ⟨B, 8, none⟩ (.slice none 0 0)

theorem BookSt.laid {w : World} {c : Nat → Nat} {B : Nat} {it wi we : Value} {Q : Nat} (h : BookSt w c B it wi we Q) : BookSt (laidDown w B) c B it (.slice none 0 0) (.slice none 0 0) Q ∧ Calm c c w (laidDown w B) := by
  have h1 : (w.setCell ⟨B, 3, none⟩ (.slice none 0 0)).heap[B]? = some (.cells #[.slice none 0 0, .slice none 0 0, it, .slice none 0 0, .slice none 0 0, .slice none 0 0, .slice none 0 0, wi, we] 39 (0, 0)) := by rw [heap_setCell_same _ B 3 _ 39 _ h.bk]; rfl
  have h2 : ((w.setCell ⟨B, 3, none⟩ (.slice none 0 0)).setCell ⟨B, 4, none⟩ (.slice none 0 0)).heap[B]? = some (.cells #[.slice none 0 0, .slice none 0 0, it, .slice none 0 0, .slice none 0 0, .slice none 0 0, .slice none 0 0, wi, we] 39 (0, 0)) := by rw [heap_setCell_same _ B 4 _ 39 _ h1]; rfl
  have h3 : (((w.setCell ⟨B, 3, none⟩ (.slice none 0 0)).setCell ⟨B, 4, none⟩ (.slice none 0 0)).setCell ⟨B, 5, none⟩ (.slice none 0 0)).heap[B]? = some (.cells #[.slice none 0 0, .slice none 0 0, it, .slice none 0 0, .slice none 0 0, .slice none 0 0, .slice none 0 0, wi, we] 39 (0, 0)) := by rw [heap_setCell_same _ B 5 _ 39 _ h2]; rfl
  have h4 : ((((w.setCell ⟨B, 3, none⟩ (.slice none 0 0)).setCell ⟨B, 4, none⟩ (.slice none 0 0)).setCell ⟨B, 5, none⟩ (.slice none 0 0)).setCell ⟨B, 6, none⟩ (.slice none 0 0)).heap[B]? = some (.cells #[.slice none 0 0, .slice none 0 0, it, .slice none 0 0, .slice none 0 0, .slice none 0 0, .slice none 0 0, wi, we] 39 (0, 0)) := by rw [heap_setCell_same _ B 6 _ 39 _ h3]; rfl
  have h5 : (((((w.setCell ⟨B, 3, none⟩ (.slice none 0 0)).setCell ⟨B, 4, none⟩ (.slice none 0 0)).setCell ⟨B, 5, none⟩ (.slice none 0 0)).setCell ⟨B, 6, none⟩ (.slice none 0 0)).setCell ⟨B, 7, none⟩ (.slice none 0 0)).heap[B]? = some (.cells #[.slice none 0 0, .slice none 0 0, it, .slice none 0 0, .slice none 0 0, .slice none 0 0, .slice none 0 0, (.slice none 0 0), we] 39 (0, 0)) := by rw [heap_setCell_same _ B 7 _ 39 _ h4]; rfl
  have h6 : ((((((w.setCell ⟨B, 3, none⟩ (.slice none 0 0)).setCell ⟨B, 4, none⟩ (.slice none 0 0)).setCell ⟨B, 5, none⟩ (.slice none 0 0)).setCell ⟨B, 6, none⟩ (.slice none 0 0)).setCell ⟨B, 7, none⟩ (.slice none 0 0)).setCell ⟨B, 8, none⟩ (.slice none 0 0)).heap[B]? = some (.cells #[.slice none 0 0, .slice none 0 0, it, .slice none 0 0, .slice none 0 0, .slice none 0 0, .slice none 0 0, (.slice none 0 0), (.slice none 0 0)] 39 (0, 0)) := by rw [heap_setCell_same _ B 8 _ 39 _ h5]; rfl
  have hother : ∀ k, k ≠ B → (laidDown w B).heap[k]? = w.heap[k]? := by
    intro k hk
    unfold laidDown
    rw [setCell_block _ _ _ _ hk, setCell_block _ _ _ _ hk, setCell_block _ _ _ _ hk, setCell_block _ _ _ _ hk, setCell_block _ _ _ _ hk, setCell_block _ _ _ _ hk]
  have hsz : (laidDown w B).heap.size = w.heap.size := by simp [laidDown, World.setCell]
  obtain ⟨ls, ho, hl, hm⟩ := h.row
  have hcB := h.cb
  have hos : (laidDown w B).os = w.os ∧ (laidDown w B).tape = w.tape ∧ (laidDown w B).output = w.output := by simp [laidDown, World.setCell]
  refine ⟨⟨?_, h.cb, h.crow, ls, owns_frame ho (fun g hg => hother g (fun e => by have := h.crow g hg; rw [e] at this; omega)), hl, fun k hk => (hm k hk).frame (by omega) (fun j _ hc => ⟨hother j (fun e => by rw [e] at hc; omega), hc⟩)⟩, ?_⟩
  · exact h6
  · exact ⟨hos.1, hos.2.1, hos.2.2, by omega, fun k _ h0 => ⟨hother k (fun e => by rw [e] at h0; omega), h0⟩⟩

/-- What 'settles' does. -/
def SettlesPost (c : Nat → Nat) (B Q : Nat) (l : List Itm) (w : World) (e : Ending) (w' : World) : Prop :=
  e = .returned (.bool true) ∧ ∃ c' it', BookSt w' c' B it' (.slice none 0 0) (.slice none 0 0) (Q + Itm.cntL l) ∧ Calm c c' w w'

theorem cntL_take (l : List Itm) (j : Nat) (h : j < l.length) : Itm.cntL (l.take (j + 1)) = Itm.cntL (l.take j) + Itm.cnt l[j] := cntL_snoc ⟨false, [], l⟩ j h

theorem cntL_part (l : List Itm) (j : Nat) : Itm.cntL (l.take j) ≤ Itm.cntL l := cntL_take_le ⟨false, [], l⟩ j

set_option maxHeartbeats 1600000 in
theorem settles_any (w : World) (c : Nat → Nat) (B : Nat) (it wi we : Value) (Q : Nat) (l : List Itm) (hB : BookSt w c B it wi we Q) (h3 : WaitRow w c 3 wi l) (h4 : WaitRow w c 4 we l) (hl : l.length ≤ 1000) (hQ : Q + Itm.cntL l ≤ 100000000000) (hcnt : ∀ x ∈ l, Itm.cnt x ≤ 100000) :
    Calls Try.prog 22 #[.pointer (some ⟨B, 0, none⟩)] w (SettlesPost c B Q l w) := by
  obtain ⟨a3, cap3, rfl⟩ := h3.shape
  obtain ⟨a4, cap4, rfl⟩ := h4.shape
  have HW := hid (waits_any w c B it _ _ Q l hB h3 h4 hl)
  obtain ⟨xs, hx1, hx2, hx3⟩ := h3
  have HF : Hid (WaitFrom 0 w c (.slice a3 l.length cap3) l xs) := ⟨hx1, hx2, fun i h _ => hx3 i h⟩
  have HB := hid hB
  have HQ := hid hQ
  have HC := hid hcnt
  clear hB h4 hx1 hx2 hx3 hQ hcnt
  go_enter Try.func22, Try.ntmps22
  go_wp2_with fail
  refine HW.out.mono ?_
  rintro e w1 ⟨rfl, hb1⟩
  have HB1 := hid (HB.out.below hb1)
  have HF1 := hid (HF.out.later hb1)
  have HCa := hid (Calm.of_below (c := c) hb1)
  obtain ⟨b0, b1, b3, b4, b5, b6, bf⟩ := HB1.out.nils
  clear hb1 b0 b1 b4 b6 bf
  go_wp2_with fail
  refine wp_loop_rounds 1 ?_
  rw [rounds_succ]
  go_wp2_with fail
  refine wp_loop_rounds 1 ?_
  rw [rounds_succ]
  go_wp2_with fail
  go_loopw [6] (fun k wr => ∃ (j : Nat) (c1 : Nat → Nat) (it1 : Value), k = .int .i64 j ∧ j ≤ l.length ∧ Hid (BookSt wr c1 B it1 (.slice a3 l.length cap3) (.slice a4 l.length cap4) (Q + Itm.cntL (l.take j)) ∧ WaitFrom j wr c1 (.slice a3 l.length cap3) l xs ∧ Calm c c1 w wr)) (fun k _ => l.length - (intOf k).toNat)
  case atStart => exact ⟨0, c, it, rfl, Nat.zero_le _, by simpa [Itm.cntL] using HB1.out, HF1.out, HCa.out⟩
  case round =>
    obtain ⟨j, c1, it1, rfl, hj, HH⟩ := hrel
    obtain ⟨x2, x7, x8, _⟩ := HH.out.1.cells
    by_cases hlt : j < l.length
    · obtain ⟨lo, hi, q1, q2, q3⟩ := HH.out.2.1.2.2 j hlt (Nat.le_refl _)
      have hshape : ∃ r, a3 = some ⟨r, 0, none⟩ := by
        rcases HH.out.2.1.1.2 with ⟨_, h0⟩ | ⟨g, cap', cur, hv, _⟩
        · omega
        · simp at hv; exact ⟨g, hv.1⟩
      obtain ⟨r, rfl⟩ := hshape
      obtain ⟨t0, t1, t2⟩ := tri_cells HH.out.2.1.1 j hlt
      rw [Nat.zero_add] at t0 t1 t2
      have hcn : Q + Itm.cntL (l.take j) + Itm.cnt l[j] ≤ 100000000000 := by
        have h1 := cntL_part l (j + 1)
        rw [cntL_take l j hlt] at h1
        have h2 := HQ.out
        omega
      have HM := hid (mark_any 1001 _ l[j] wr c1 B it1 _ _ _ lo hi (3 + 10 * (j + 1)) HH.out.1 q3 q1 q2 (by omega) hcn (HC.out _ (List.getElem_mem hlt)))
      have HQ2 := hid q2
      have htri : tri xs j = .agg #[xs.getD (3 * j) default, xs.getD (3 * j + 1) default, xs.getD (3 * j + 2) default] := rfl
      rw [htri] at HM
      generalize xs.getD (3 * j) default = d0 at t0 HM
      generalize xs.getD (3 * j + 1) default = d1 at t1 HM
      generalize xs.getD (3 * j + 2) default = d2 at t2 HM
      clear q1 q2 q3 hcn htri
      go_wp2_with fail
      refine HM.out.mono ?_
      rintro e w2 ⟨rfl, c2, it2, hb2, ht2⟩
      have HN : Hid (BookSt w2 c2 B it2 (.slice (some ⟨r, 0, none⟩) l.length cap3) (.slice a4 l.length cap4) (Q + Itm.cntL (l.take (j + 1))) ∧ WaitFrom (j + 1) w2 c2 (.slice (some ⟨r, 0, none⟩) l.length cap3) l xs ∧ Calm c c2 w w2) := by
        refine ⟨by rw [cntL_take l j hlt, ← Nat.add_assoc]; exact hb2, waitFrom_step HH.out.2.1 HQ2.out ht2, HH.out.2.2.trans (Calm.of_turn ht2 (by omega) HQ2.out)⟩
      clear hb2 ht2
      go_wp2_with fail
      exact ⟨⟨j + 1, c2, it2, by go_num, by omega, HN.out⟩, by simp [intOf]; omega⟩
    · have HJE := hid (show j = l.length by omega)
      obtain ⟨y0, y1, y3, y4, y5, y6, yf⟩ := HH.out.1.nils
      obtain ⟨L1, L2⟩ := HH.out.1.laid
      have HL1 := hid L1
      have HL2 := hid L2
      have HRd := hid (reads_any _ c1 B it1 _ _ _ L1 (by have := cntL_part l j; have := HQ.out; omega))
      clear L1 L2
      unfold laidDown at HRd
      go_wp2_with fail
      refine HRd.out.mono ?_
      rintro e w3 ⟨rfl, hb3⟩
      have HN : Hid (∃ c' it', BookSt w3 c' B it' (.slice none 0 0) (.slice none 0 0) (Q + Itm.cntL l) ∧ Calm c c' w w3) := by
        refine ⟨c1, it1, ?_, ?_⟩
        · have := HL1.out.below hb3
          rw [HJE.out, List.take_length] at this
          exact this
        · exact (HH.out.2.2.trans HL2.out).trans (Calm.of_below hb3)
      clear hb3
      go_wp2_with fail
      go_ret
      exact ⟨rfl, HN.out⟩
end Go.Proofs.Ytbmohenjphmlgaa

/- An item is kept with those that wait: what that turns. -/
namespace Go.Proofs.Ytbmohenjphmlgaa
open Go.RowKit
set_option maxRecDepth 100000

/-- A block gets a colour. -/
def setc (c : Nat → Nat) (g col : Nat) : Nat → Nat := fun k => if k = g then col else c k

/-- An item is stored behind the items that wait, in the place that an append has made. -/
def pushed (w1 : World) (g n B f cap : Nat) (d0 d1 d2 : Value) : World :=
  (((w1.setCell ⟨g, n * 3, none⟩ d0).setCell ⟨g, n * 3 + 1, none⟩ d1).setCell ⟨g, n * 3 + 2, none⟩ d2).setCell ⟨B, f, none⟩ (.slice (some ⟨g, 0, none⟩) (n + 1) cap)

theorem pushed_size (w1 : World) (g n B f cap : Nat) (d0 d1 d2 : Value) : (pushed w1 g n B f cap d0 d1 d2).heap.size = w1.heap.size := by simp [pushed, World.setCell]

theorem pushed_other {w1 : World} {g n B f cap k : Nat} {d0 d1 d2 : Value} (h1 : k ≠ g) (h2 : k ≠ B) : (pushed w1 g n B f cap d0 d1 d2).heap[k]? = w1.heap[k]? := by
  unfold pushed
  rw [setCell_block _ _ _ _ h2, put_other h1]

theorem pushed_world (w1 : World) (g n B f cap : Nat) (d0 d1 d2 : Value) : (pushed w1 g n B f cap d0 d1 d2).os = w1.os ∧ (pushed w1 g n B f cap d0 d1 d2).tape = w1.tape ∧ (pushed w1 g n B f cap d0 d1 d2).output = w1.output := by simp [pushed, World.setCell]

structure PushFacts (W wF : World) (c : Nat → Nat) (B f col g : Nat) (u : Value) (l : List Itm) (t : Itm) (new : Value) : Prop where
  row : WaitRow wF (setc c g col) col new (l ++ [t])
  block : ∀ k, k < W.heap.size → c k ≠ col → k ≠ B → wF.heap[k]? = W.heap[k]?
  color : ∀ k, k < W.heap.size → setc c g col k = c k
  book : ∀ cs, W.heap[B]? = some (.cells cs 39 (0, 0)) → wF.heap[B]? = some (.cells (cs.setIfInBounds f new) 39 (0, 0))
  size : W.heap.size ≤ wF.heap.size
  rest : wF.os = W.os ∧ wF.tape = W.tape ∧ wF.output = W.output

theorem push_facts {W w1 : World} {c : Nat → Nat} {B f col : Nat} {u : Value} {l : List Itm} {xs : List Value} {t : Itm} {g cap lo hi : Nat} {d0 d1 d2 z0 z1 z2 : Value} (hcol : col = 3 ∨ col = 4)
    (ho : W.ownsRow 0 24 3 u l.length xs) (hcu : ∀ g, u.ownBlock = some g → c g = col)
    (hk : ∀ i (h : i < l.length), ∃ lo hi, hi ≤ W.heap.size ∧ (∀ k, lo ≤ k → k < hi → c k = col + 10 * (i + 1)) ∧ Own 24 W 1001 lo hi (tri xs i) l[i])
    (hB : c B = 1) (hBlt : B < W.heap.size) (hitem : Own 24 W 1001 lo hi (.agg #[d0, d1, d2]) t) (hhi : hi ≤ W.heap.size) (hcw : ∀ k, lo ≤ k → k < hi → c k = col + 10 * (l.length + 1))
    (ho1 : w1.ownsRow 0 24 3 (.slice (some ⟨g, 0, none⟩) (l.length + 1) cap) (l.length + 1) (xs ++ [z0, z1, z2])) (hgr : W.grownBy w1 u.ownBlock) (hat : u.ownBlock = some g ∨ W.heap.size ≤ g) :
    PushFacts W (pushed w1 g l.length B f cap d0 d1 d2) c B f col g u l t (.slice (some ⟨g, 0, none⟩) (l.length + 1) cap) := by
  have hgB : B ≠ g := by
    intro e
    rcases hat with h | h
    · have := hcu g h; rw [← e] at this; omega
    · omega
  have hblk : ∀ k, k < W.heap.size → c k ≠ col → w1.heap[k]? = W.heap[k]? := fun k hk hn => hgr.block k hk (fun e => hn (hcu k e.symm))
  have hkg : ∀ k, k < W.heap.size → c k ≠ col → k ≠ g := by
    intro k hk hn e
    rcases hat with h | h
    · exact hn (by rw [e]; exact hcu g h)
    · omega
  have hcolor : ∀ k, k < W.heap.size → setc c g col k = c k := by
    intro k hk
    unfold setc
    split
    · rename_i e
      rcases hat with h | h
      · rw [e, hcu g h]
      · omega
    · rfl
  have hblock : ∀ k, k < W.heap.size → c k ≠ col → k ≠ B → (pushed w1 g l.length B f cap d0 d1 d2).heap[k]? = W.heap[k]? := fun k hk hn hb => by
    rw [pushed_other (hkg k hk hn) hb]; exact hblk k hk hn
  have hsz := hgr.size
  have hx := ho.1
  have s1 := (ho1.stored (l.length * 3) d0).1
  have s2 := (s1.stored (l.length * 3 + 1) d1).1
  have s3 := (s2.stored (l.length * 3 + 2) d2).1
  have hrow : (pushed w1 g l.length B f cap d0 d1 d2).ownsRow 0 24 3 (.slice (some ⟨g, 0, none⟩) (l.length + 1) cap) (l.length + 1) (put3 (xs ++ [z0, z1, z2]) l.length d0 d1 d2) :=
    owns_frame s3 (fun k hk => by
      simp only [Value.ownBlock, Option.some.injEq] at hk
      exact setCell_block _ _ _ _ (by simp; omega))
  refine ⟨⟨put3 (xs ++ [z0, z1, z2]) l.length d0 d1 d2, by simpa using hrow, ?_, ?_⟩, hblock, hcolor, ?_, by rw [pushed_size]; exact hsz, ?_⟩
  · intro g' hg'
    simp only [Value.ownBlock, Option.some.injEq] at hg'
    unfold setc
    rw [if_pos hg'.symm]
  · intro i hi'
    by_cases he : i = l.length
    · subst he
      refine ⟨lo, hi, by rw [pushed_size]; omega, fun k h1 h2 => by rw [hcolor k (by omega)]; exact hcw k h1 h2, ?_⟩
      rw [tri_put_same _ _ _ _ _ (by rw [List.length_append, hx]; simp)]
      simp only [List.getElem_append_right (Nat.le_refl _), Nat.sub_self, List.getElem_cons_zero]
      exact own_frame _ _ _ _ _ (fun k h1 h2 => hblock k (by omega) (by rw [hcw k h1 h2]; omega) (by intro e; have := hcw k h1 h2; rw [e, hB] at this; omega)) hitem
    · have hlt : i < l.length := by simp at hi'; omega
      obtain ⟨lo', hi2, q1, q2, q3⟩ := hk i hlt
      refine ⟨lo', hi2, by rw [pushed_size]; omega, fun k h1 h2 => by rw [hcolor k (by omega)]; exact q2 k h1 h2, ?_⟩
      rw [tri_put_other _ _ _ _ _ _ he, tri_left xs _ i l.length hx hlt, List.getElem_append_left hlt]
      exact own_frame _ _ _ _ _ (fun k h1 h2 => hblock k (by omega) (by rw [q2 k h1 h2]; omega) (by intro e; have := q2 k h1 h2; rw [e, hB] at this; omega)) q3
  · intro cs hcs
    have h1 : (((w1.setCell ⟨g, l.length * 3, none⟩ d0).setCell ⟨g, l.length * 3 + 1, none⟩ d1).setCell ⟨g, l.length * 3 + 2, none⟩ d2).heap[B]? = some (.cells cs 39 (0, 0)) := by
      rw [put_other hgB, hblk B hBlt (by omega)]; exact hcs
    exact heap_setCell_same _ B f _ 39 _ h1
  · obtain ⟨p1, p2, p3⟩ := pushed_world w1 g l.length B f cap d0 d1 d2
    exact ⟨p1.trans hgr.os, p2.trans hgr.tape, p3.trans hgr.output⟩

theorem PushFacts.book7 {W wF : World} {c : Nat → Nat} {B g : Nat} {it wi we u new : Value} {Q : Nat} {l : List Itm} {t : Itm} (h : PushFacts W wF c B 7 3 g u l t new) (hB : BookSt W c B it wi we Q) : BookSt wF (setc c g 3) B it new we Q := by
  have hcB := hB.cb
  obtain ⟨ls, ho, hl, hm⟩ := hB.row
  refine ⟨?_, by rw [h.color B hB.lt]; exact hcB, ?_, ls, ?_, hl, ?_⟩
  · rw [h.book _ hB.bk]; rfl
  · intro k hk
    rw [h.color k (ho.lt k hk).2]; exact hB.crow k hk
  · exact owns_frame ho (fun k hk => h.block k (ho.lt k hk).2 (by rw [hB.crow k hk]; omega) (by intro e; have := hB.crow k hk; rw [e] at this; omega))
  · exact fun k hk => (hm k hk).frame h.size (fun j hj hc => ⟨h.block j hj (by omega) (by intro e; rw [e] at hc; omega), by rw [h.color j hj]; exact hc⟩)

theorem PushFacts.book8 {W wF : World} {c : Nat → Nat} {B g : Nat} {it wi we u new : Value} {Q : Nat} {l : List Itm} {t : Itm} (h : PushFacts W wF c B 8 4 g u l t new) (hB : BookSt W c B it wi we Q) : BookSt wF (setc c g 4) B it wi new Q := by
  have hcB := hB.cb
  obtain ⟨ls, ho, hl, hm⟩ := hB.row
  refine ⟨?_, by rw [h.color B hB.lt]; exact hcB, ?_, ls, ?_, hl, ?_⟩
  · rw [h.book _ hB.bk]; rfl
  · intro k hk
    rw [h.color k (ho.lt k hk).2]; exact hB.crow k hk
  · exact owns_frame ho (fun k hk => h.block k (ho.lt k hk).2 (by rw [hB.crow k hk]; omega) (by intro e; have := hB.crow k hk; rw [e] at this; omega))
  · exact fun k hk => (hm k hk).frame h.size (fun j hj hc => ⟨h.block j hj (by omega) (by intro e; rw [e] at hc; omega), by rw [h.color j hj]; exact hc⟩)

/-- What keeping an item turns. -/
structure KeepT (c c' : Nat → Nat) (w w' : World) : Prop where
  os : w'.os = w.os
  tape : w'.tape = w.tape
  output : w'.output = w.output
  size : w.heap.size ≤ w'.heap.size
  block : ∀ k, k < w.heap.size → c k ≠ 1 → c k ≠ 3 → c k ≠ 4 → w'.heap[k]? = w.heap[k]?
  color : ∀ k, k < w.heap.size → c' k = c k

theorem KeepT.trans {c c' c'' : Nat → Nat} {w w' w'' : World} (h : KeepT c c' w w') (k : KeepT c' c'' w' w'') : KeepT c c'' w w'' :=
  ⟨k.os.trans h.os, k.tape.trans h.tape, k.output.trans h.output, Nat.le_trans h.size k.size,
    fun j hj h1 h2 h3 => (k.block j (Nat.lt_of_lt_of_le hj h.size) (by rw [h.color j hj]; exact h1) (by rw [h.color j hj]; exact h2) (by rw [h.color j hj]; exact h3)).trans (h.block j hj h1 h2 h3),
    fun j hj => (k.color j (Nat.lt_of_lt_of_le hj h.size)).trans (h.color j hj)⟩

theorem KeepT.of_below {c c' : Nat → Nat} {w w' : World} (h : Below w.heap.size w w') (hc : ∀ k, k < w.heap.size → c' k = c k) : KeepT c c' w w' := ⟨h.os, h.tape, h.output, h.size, fun k hk _ _ _ => h.block k hk, hc⟩

theorem PushFacts.turn {W wF : World} {c : Nat → Nat} {B f col g : Nat} {u new : Value} {l : List Itm} {t : Itm} (h : PushFacts W wF c B f col g u l t new) (hcol : col = 3 ∨ col = 4) (hB : c B = 1) : KeepT c (setc c g col) W wF :=
  ⟨h.rest.1, h.rest.2.1, h.rest.2.2, h.size, fun k hk h1 h3 h4 => h.block k hk (by omega) (by intro e; rw [e] at h1; exact h1 hB), h.color⟩

theorem PushFacts.other {W wF : World} {c : Nat → Nat} {B f col col' g : Nat} {u new sl : Value} {l l' : List Itm} {t : Itm} (h : PushFacts W wF c B f col g u l t new) (hB : c B = 1) (hne : col' ≠ col) (h3 : col = 3 ∨ col = 4) (h4 : col' = 3 ∨ col' = 4) (hw : WaitRow W c col' sl l') : WaitRow wF (setc c g col) col' sl l' :=
  hw.frame (by omega) h.size (fun k hk hc => ⟨h.block k hk (by omega) (by intro e; rw [e, hB] at hc; omega), h.color k hk⟩)

theorem WaitRow.later {w w' : World} {c c' : Nat → Nat} {col : Nat} {sl : Value} {l : List Itm} (h : WaitRow w c col sl l) (hcol : col < 10) (hb : Below w.heap.size w w') (hc : ∀ k, k < w.heap.size → c' k = c k) : WaitRow w' c' col sl l :=
  h.frame hcol hb.size (fun k hk _ => ⟨hb.block k hk, hc k hk⟩)

theorem row_last {w1 : World} {n g cap : Nat} {xs : List Value} {z0 z1 z2 : Value} (h : w1.ownsRow 0 24 3 (.slice (some ⟨g, 0, none⟩) (n + 1) cap) (n + 1) (xs ++ [z0, z1, z2])) (hx : xs.length = n * 3) :
    w1.cell? ⟨g, n * 3, none⟩ = some z0 ∧ w1.cell? ⟨g, n * 3 + 1, none⟩ = some z1 ∧ w1.cell? ⟨g, n * 3 + 2, none⟩ = some z2 ∧ w1.frozen? ⟨g, n * 3, none⟩ = false ∧ w1.frozen? ⟨g, n * 3 + 1, none⟩ = false ∧ w1.frozen? ⟨g, n * 3 + 2, none⟩ = false := by
  refine ⟨?_, ?_, ?_, h.frozenAt _, h.frozenAt _, h.frozenAt _⟩
  · rw [h.cellAt _ (by omega), List.getElem?_append_right (by omega), hx, Nat.sub_self]; rfl
  · rw [h.cellAt _ (by omega), List.getElem?_append_right (by omega), hx, Nat.add_sub_cancel_left]; rfl
  · rw [h.cellAt _ (by omega), List.getElem?_append_right (by omega), hx, Nat.add_sub_cancel_left]; rfl

theorem keep_ne {a : Option Addr} {n cap B g s : Nat} (h : ∀ g, (Value.slice a n cap).ownBlock = some g → g ≠ B ∧ g < s) (hat : (Value.slice a n cap).ownBlock = some g ∨ g = s + 2) (hB : B < s) : g ≠ B := by
  rcases hat with h1 | h1
  · exact (h g h1).1
  · omega

theorem keep_neX {a : Option Addr} {n cap B g s : Nat} (h : ∀ g, (Value.slice a n cap).ownBlock = some g → g ≠ B ∧ g < s) (hat : (Value.slice a n cap).ownBlock = some g ∨ g = s + 2) : ¬ (s = g) := by
  rcases hat with h1 | h1
  · have := (h g h1).2; omega
  · omega
end Go.Proofs.Ytbmohenjphmlgaa

/- The walks of IsRoot and isLongKey (of the program). -/
namespace Go.Proofs.Ytbmohenjphmlgaa
open Go.RowKit
set_option maxRecDepth 100000

theorem isRoot_any (s : ByteArray) (w : World) : Calls Try.prog 123 #[.string s] w fun e w' => e = .returned (.bool (decide ((s.size : Int) = 8))) ∧ w' = w := by
  go_enter Try.func123, Try.ntmps123
  go_wp2_with fail
  go_ret
  exact ⟨rfl, rfl⟩

theorem isLongKey_any (s : ByteArray) (w : World) : Calls Try.prog 94 #[.string s] w fun e w' => e = .returned (.bool (decide ((6 : Int) < s.size))) ∧ w' = w := by
  go_enter Try.func94, Try.ntmps94
  go_wp2_with fail
  go_ret
  exact ⟨by simp, rfl⟩

end Go.Proofs.Ytbmohenjphmlgaa
