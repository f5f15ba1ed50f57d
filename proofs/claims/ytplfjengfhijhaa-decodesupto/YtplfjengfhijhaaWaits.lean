/- The walk of Book's 'waits' (of the statements' own): the items that wait read as they came. -/
import Derived.Test.YtplfjengfhijhaaMark
import Derived.Deep.RegionHeld3
namespace Go.Proofs.Ytplfjengfhijhaa
open Go.RowKit

/-- Items that wait, in a row; of each the blocks have a colour of their own. -/
def WaitRow (w : World) (c : Nat → Nat) (col : Nat) (sl : Value) (l : List Itm) : Prop :=
  ∃ xs : List Value, w.ownsRow 0 24 3 sl l.length xs ∧ (∀ g, sl.ownBlock = some g → c g = col) ∧
    ∀ i (h : i < l.length), ∃ lo hi, hi ≤ w.heap.size ∧ (∀ k, lo ≤ k → k < hi → c k = col + 10 * (i + 1)) ∧ Own 24 w 1001 lo hi (tri xs i) l[i]

theorem waitRow_nil (w : World) (c : Nat → Nat) (col : Nat) : WaitRow w c col (.slice none 0 0) [] :=
  ⟨[], World.ownsRow_nil _ _ _ _, by simp [Value.ownBlock], fun i h => by simp at h⟩

theorem WaitRow.frame {w w' : World} {c c' : Nat → Nat} {col : Nat} {sl : Value} {l : List Itm} (h : WaitRow w c col sl l) (hcol : col < 10) (hs : w.heap.size ≤ w'.heap.size)
    (hb : ∀ k, k < w.heap.size → c k % 10 = col → w'.heap[k]? = w.heap[k]? ∧ c' k = c k) : WaitRow w' c' col sl l := by
  obtain ⟨xs, ho, hc, hk⟩ := h
  refine ⟨xs, owns_frame ho (fun g hg => (hb g (ho.lt g hg).2 (by rw [hc g hg]; omega)).1), fun g hg => ?_, fun i hi => ?_⟩
  · rw [(hb g (ho.lt g hg).2 (by rw [hc g hg]; omega)).2]; exact hc g hg
  · obtain ⟨lo, hi', q1, q2, q3⟩ := hk i hi
    refine ⟨lo, hi', by omega, fun k h1 h2 => ?_, own_frame _ _ _ _ _ (fun k h1 h2 => (hb k (by omega) (by rw [q2 k h1 h2]; omega)).1) q3⟩
    rw [(hb k (by omega) (by rw [q2 k h1 h2]; omega)).2]; exact q2 k h1 h2

theorem WaitRow.shape {w : World} {c : Nat → Nat} {col : Nat} {sl : Value} {l : List Itm} (h : WaitRow w c col sl l) : ∃ a cap, sl = .slice a l.length cap := by
  obtain ⟨xs, ho, _⟩ := h
  rcases ho.2 with ⟨rfl, h0⟩ | ⟨g, cap, cur, hv, _⟩
  · exact ⟨none, 0, by rw [h0]⟩
  · exact ⟨_, _, hv⟩

/-- The i-th of the items that wait, as it can be read. -/
theorem WaitRow.at {w : World} {c : Nat → Nat} {col : Nat} {a : Option Addr} {cap : Nat} {l : List Itm} (h : WaitRow w c col (.slice a l.length cap) l) (i : Nat) (hi : i < l.length) :
    ∃ r d0 d1 d2, a = some ⟨r, 0, none⟩ ∧ r < w.heap.size ∧ w.cell? ⟨r, i * 3, none⟩ = some d0 ∧ w.cell? ⟨r, i * 3 + 1, none⟩ = some d1 ∧ w.cell? ⟨r, i * 3 + 2, none⟩ = some d2 ∧ Rep w.heap.size w 1001 (.agg #[d0, d1, d2]) l[i] := by
  obtain ⟨xs, ho, hc, hk⟩ := h
  rcases id ho.2 with ⟨_, h0⟩ | ⟨g, cap', cur, hv, _⟩
  · omega
  · simp only [Value.slice.injEq, true_and] at hv
    obtain ⟨rfl, rfl⟩ := hv
    obtain ⟨t0, t1, t2⟩ := tri_cells ho i hi
    rw [Nat.zero_add] at t0 t1 t2
    obtain ⟨lo, hi', q1, _, q3⟩ := hk i hi
    exact ⟨g, _, _, _, rfl, (ho.lt g rfl).2, t0, t1, t2, rep_of_own _ _ _ _ _ q1 q3⟩

set_option maxRecDepth 100000 in
set_option maxHeartbeats 1600000 in
theorem waits_any (w : World) (c : Nat → Nat) (B : Nat) (it wi we : Value) (Q : Nat) (l : List Itm) (hB : BookSt w c B it wi we Q) (h3 : WaitRow w c 3 wi l) (h4 : WaitRow w c 4 we l) (hl : l.length ≤ 1000) :
    Calls Try.prog 27 #[.pointer (some ⟨B, 0, none⟩)] w fun e w' => e = .returned (.bool true) ∧ Below w.heap.size w w' := by
  obtain ⟨a3, cap3, rfl⟩ := h3.shape
  obtain ⟨a4, cap4, rfl⟩ := h4.shape
  obtain ⟨b2, b7, b8, _⟩ := hB.cells
  obtain ⟨b0, b1, b3, b4, b5, b6, bf⟩ := hB.nils
  have hBlt := hB.lt
  have H3 := hid h3
  have H4 := hid h4
  clear hB b2 b0 b1 b4 b6 bf h3 h4
  go_enter Try.func27, Try.ntmps27
  go_wp2_with fail
  refine wp_loop_rounds 1 ?_
  rw [rounds_succ]
  go_wp2_with fail
  refine wp_loop_rounds 1 ?_
  rw [rounds_succ]
  go_wp2_with fail
  go_loopw [3, 8] (fun ok k wr => ∃ j : Nat, ok = .bool true ∧ k = .int .i64 j ∧ j ≤ l.length ∧ Hid (Below w.heap.size w wr)) (fun _ k _ => l.length - (intOf k).toNat)
  case atStart => exact ⟨0, rfl, rfl, Nat.zero_le _, Below.refl _ _⟩
  case round =>
    obtain ⟨j, rfl, rfl, hj, HB⟩ := hrel
    have x7 := (HB.out.cell (p := ⟨B, 7, none⟩) hBlt).trans b7
    have x8 := (HB.out.cell (p := ⟨B, 8, none⟩) hBlt).trans b8
    have hBr : B < wr.heap.size := Nat.lt_of_lt_of_le hBlt HB.out.size
    by_cases hlt : j < l.length
    · obtain ⟨r, d0, d1, d2, rfl, hr, c0, c1, c2, rep1⟩ := H3.out.at j hlt
      obtain ⟨r', e0, e1, e2, rfl, hr', g0, g1, g2, rep2⟩ := H4.out.at j hlt
      have y0 := (HB.out.cell (p := ⟨r, j * 3, none⟩) hr).trans c0
      have y1 := (HB.out.cell (p := ⟨r, j * 3 + 1, none⟩) hr).trans c1
      have y2 := (HB.out.cell (p := ⟨r, j * 3 + 2, none⟩) hr).trans c2
      have z0 := (HB.out.cell (p := ⟨r', j * 3, none⟩) hr').trans g0
      have z1 := (HB.out.cell (p := ⟨r', j * 3 + 1, none⟩) hr').trans g1
      have z2 := (HB.out.cell (p := ⟨r', j * 3 + 2, none⟩) hr').trans g2
      have hrr : r < wr.heap.size := Nat.lt_of_lt_of_le hr HB.out.size
      have hrr' : r' < wr.heap.size := Nat.lt_of_lt_of_le hr' HB.out.size
      obtain ⟨a5, cap5, rfl, rfl, rfl⟩ := rep_shape rep1
      obtain ⟨a6, cap6, rfl, rfl, rfl⟩ := rep_shape rep2
      have HC : Hid (∀ w1, Below wr.heap.size wr w1 → Calls Try.prog 13 #[.agg #[.bool l[j].list, .string ⟨l[j].bytes.toArray⟩, .slice a5 l[j].items.length cap5], .agg #[.bool l[j].list, .string ⟨l[j].bytes.toArray⟩, .slice a6 l[j].items.length cap6]] w1 fun e w' => e = .returned (.bool true) ∧ Below w1.heap.size w1 w') := fun w1 hb =>
        sameL_two _ _ _ _ l[j] _ (rep_in (rep_in rep1 HB.out) hb) (rep_in (rep_in rep2 HB.out) hb)
      clear c0 c1 c2 g0 g1 g2 rep1 rep2 b7 b8
      have hj0 : (0 : Int) ≤ (j : Int) := by omega
      have hj1 : (j : Int) < (l.length : Int) := by omega
      go_wp2_with fail
      go_region_held3 (fun w' => w'.cell? ⟨B, 7, none⟩ = some (.slice (some ⟨r, 0, none⟩) l.length cap3) ∧ w'.cell? ⟨B, 8, none⟩ = some (.slice (some ⟨r', 0, none⟩) l.length cap4) ∧
          w'.cell? ⟨r, j * 3, none⟩ = some (.bool l[j].list) ∧ w'.cell? ⟨r, j * 3 + 1, none⟩ = some (.string ⟨l[j].bytes.toArray⟩) ∧ w'.cell? ⟨r, j * 3 + 2, none⟩ = some (.slice a5 l[j].items.length cap5) ∧
          w'.cell? ⟨r', j * 3, none⟩ = some (.bool l[j].list) ∧ w'.cell? ⟨r', j * 3 + 1, none⟩ = some (.string ⟨l[j].bytes.toArray⟩) ∧ w'.cell? ⟨r', j * 3 + 2, none⟩ = some (.slice a6 l[j].items.length cap6)) ((first | exact ⟨(hcc _ _ hBr).trans x7, (hcc _ _ hBr).trans x8, (hcc _ _ hrr).trans y0, (hcc _ _ hrr).trans y1, (hcc _ _ hrr).trans y2, (hcc _ _ hrr').trans z0, (hcc _ _ hrr').trans z1, (hcc _ _ hrr').trans z2⟩ | go_keep))
        ((go_at_call 13; refine (HC.out _ (Below.refl _ _).drew).mono ?_; rintro e w2 ⟨rfl, hbel⟩; obtain ⟨hcc, hff⟩ := bcell hbel))
      all_goals
        go_wp2_with fail
        refine ⟨⟨j + 1, rfl, by go_num, by omega, HB.out.trans ((below_undrew hbel).mono HB.out.size)⟩, by simp [intOf]; omega⟩
    · have hlt' : ¬ (j : Int) < (l.length : Int) := by omega
      go_wp2_with fail
      go_ret
      exact ⟨rfl, HB.out⟩
end Go.Proofs.Ytplfjengfhijhaa
