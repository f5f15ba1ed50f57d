/- Part 31 of a proof: what the last text needs. -/
import Derived.Test.YtbmohenjphmlgaaGreatPart30
import Derived.Test.YtbmohenjphmlgaaGreatPart12
import Derived.Deep.RegionHeld3
/- The statements' own Book, of heads: sameHeads; the lists that wait; the walks of waits and reads. -/
namespace Go.Proofs.YtbmohenjphmlgaaGreat.FlH
open Go.RowKit
set_option maxRecDepth 100000

theorem _root_.Go.Proofs.YtbmohenjphmlgaaGreat.HRd.wider {B C : Nat} {w : World} {a : Option Addr} {l : List (Int × ByteArray)} (h : HRd B w a l) (hB : B ≤ C) : HRd C w a l := by
  intro i hi
  obtain ⟨b, off, h1, h2, h3, h4⟩ := h i hi
  exact ⟨b, off, h1, Nat.lt_of_lt_of_le h2 hB, h3, h4⟩

set_option maxHeartbeats 3200000 in
theorem same_any (a b : Option Addr) (ca cb : Nat) (l : List (Int × ByteArray)) (w : World) (ha : HRd w.heap.size w a l) (hb : HRd w.heap.size w b l) (hl : l.length ≤ 8796093022208) :
    Calls Tryz.prog 65 #[.slice a l.length ca, .slice b l.length cb] w fun e w' => e = .returned (.bool true) ∧ Below w.heap.size w w' := by
  have HA := hid ha
  have HB := hid hb
  clear ha hb
  go_enter Tryz.func65, Tryz.ntmps65
  go_wp2_with fail
  go_loopw [5] (fun i wr => ∃ k : Nat, i = .int .i64 k ∧ k ≤ l.length ∧ Hid (Below w.heap.size w wr)) (fun i _ => l.length - (intOf i).toNat)
  case atStart => exact ⟨0, rfl, Nat.zero_le _, Below.refl _ _⟩
  case round =>
    obtain ⟨k, rfl, hk, HH⟩ := hrel
    by_cases hlt : k < l.length
    · obtain ⟨b1, o1, rfl, hb1, c1, c1'⟩ := HA.out k hlt
      obtain ⟨b2, o2, rfl, hb2, c2, c2'⟩ := HB.out k hlt
      have x1 := (HH.out.cell (p := ⟨b1, o1 + k * 2, none⟩) hb1).trans c1
      have x2 := (HH.out.cell (p := ⟨b1, o1 + k * 2 + 1, none⟩) hb1).trans c1'
      have x3 := (HH.out.cell (p := ⟨b2, o2 + k * 2, none⟩) hb2).trans c2
      have x4 := (HH.out.cell (p := ⟨b2, o2 + k * 2 + 1, none⟩) hb2).trans c2'
      have i1 : (0 : Int) ≤ (k : Int) := by omega
      have i2 : (k : Int) < (l.length : Int) := by omega
      generalize l[k].1 = s at *
      generalize l[k].2 = r at *
      clear c1 c2 c1' c2'
      go_wp2_with fail
      go_quiet (fail)
      go_wp2_with fail
      exact ⟨⟨k + 1, by go_num, by omega, belowN HH.out⟩, by simp [intOf]; omega⟩
    · have i2 : ¬ (k : Int) < (l.length : Int) := by omega
      go_wp2_with fail
      go_ret
      exact ⟨rfl, HH.out⟩

/-- Lists that wait, in a row; of each the block has a colour of its own. -/
def WaitRow (w : World) (c : Nat → Nat) (col : Nat) (sl : Value) (l : List (List (Int × ByteArray))) : Prop :=
  ∃ ls : List Value, w.ownsRow 0 51 1 sl l.length ls ∧ (∀ g, sl.ownBlock = some g → c g = col) ∧
    ∀ i (h : i < l.length), ∃ v, ls[i]? = some v ∧ HOwn w 0 v l[i] ∧ ∀ g, v.ownBlock = some g → c g = col + 10 * (i + 1)

theorem waitRow_nil (w : World) (c : Nat → Nat) (col : Nat) : WaitRow w c col (.slice none 0 0) [] :=
  ⟨[], World.ownsRow_nil _ _ _ _, by simp [Value.ownBlock], fun i h => by simp at h⟩

theorem WaitRow.frame {w w' : World} {c c' : Nat → Nat} {col : Nat} {sl : Value} {l : List (List (Int × ByteArray))} (h : WaitRow w c col sl l) (hcol : col < 10)
    (hb : ∀ k, k < w.heap.size → c k % 10 = col → w'.heap[k]? = w.heap[k]? ∧ c' k = c k) : WaitRow w' c' col sl l := by
  obtain ⟨ls, ho, hc, hk⟩ := h
  refine ⟨ls, owns_frame ho (fun g hg => (hb g (ho.lt g hg).2 (by rw [hc g hg]; omega)).1), fun g hg => ?_, fun i hi => ?_⟩
  · rw [(hb g (ho.lt g hg).2 (by rw [hc g hg]; omega)).2]; exact hc g hg
  · obtain ⟨v, q1, q2, q3⟩ := hk i hi
    refine ⟨v, q1, hown_frame q2 (fun g hg => (hb g (hown_lt q2 g hg).2 (by rw [q3 g hg]; omega)).1), fun g hg => ?_⟩
    rw [(hb g (hown_lt q2 g hg).2 (by rw [q3 g hg]; omega)).2]; exact q3 g hg

theorem WaitRow.later {w w' : World} {c c' : Nat → Nat} {col : Nat} {sl : Value} {l : List (List (Int × ByteArray))} (h : WaitRow w c col sl l) (hcol : col < 10) (hb : Below w.heap.size w w') (hc : ∀ k, k < w.heap.size → c' k = c k) : WaitRow w' c' col sl l :=
  h.frame hcol (fun k hk _ => ⟨hb.block k hk, hc k hk⟩)

theorem WaitRow.shape {w : World} {c : Nat → Nat} {col : Nat} {sl : Value} {l : List (List (Int × ByteArray))} (h : WaitRow w c col sl l) : ∃ a cap, sl = .slice a l.length cap := by
  obtain ⟨xs, ho, _⟩ := h
  rcases ho.2 with ⟨rfl, h0⟩ | ⟨g, cap, cur, hv, _⟩
  · exact ⟨none, 0, by rw [h0]⟩
  · exact ⟨_, _, hv⟩

/-- The i-th of the lists that wait, as it can be read. -/
theorem WaitRow.at {w : World} {c : Nat → Nat} {col : Nat} {a : Option Addr} {cap : Nat} {l : List (List (Int × ByteArray))} (h : WaitRow w c col (.slice a l.length cap) l) (i : Nat) (hi : i < l.length) :
    ∃ r p cp, a = some ⟨r, 0, none⟩ ∧ r < w.heap.size ∧ w.cell? ⟨r, i, none⟩ = some (.slice p l[i].length cp) ∧ HRd w.heap.size w p l[i] := by
  obtain ⟨ls, ho, hc, hk⟩ := h
  rcases id ho.2 with ⟨_, h0⟩ | ⟨g, cap', cur, hv, _⟩
  · omega
  · simp only [Value.slice.injEq, true_and] at hv
    obtain ⟨rfl, rfl⟩ := hv
    obtain ⟨v, q1, q2, _⟩ := hk i hi
    obtain ⟨p, cp, rfl⟩ := hown_shape q2
    exact ⟨g, p, cp, rfl, (ho.lt g rfl).2, by rw [ho.cellAt i (by omega), q1], hown_rd q2⟩

theorem BookSt.nils {w : World} {c : Nat → Nat} {B : Nat} {kp wp it wi we : Value} {Q : Nat} (h : BookSt w c B kp wp it wi we Q) :
    w.cell? ⟨B, 2, none⟩ = some (.slice none 0 0) ∧ w.cell? ⟨B, 4, none⟩ = some (.slice none 0 0) ∧ w.cell? ⟨B, 5, none⟩ = some (.slice none 0 0) ∧ w.cell? ⟨B, 6, none⟩ = some (.slice none 0 0) ∧ w.cell? ⟨B, 9, none⟩ = some (.slice none 0 0) ∧ w.cell? ⟨B, 10, none⟩ = some (.slice none 0 0) :=
  ⟨by rw [cell_of_row _ _ 2 _ _ _ h.bk]; rfl, by rw [cell_of_row _ _ 4 _ _ _ h.bk]; rfl, by rw [cell_of_row _ _ 5 _ _ _ h.bk]; rfl, by rw [cell_of_row _ _ 6 _ _ _ h.bk]; rfl, by rw [cell_of_row _ _ 9 _ _ _ h.bk]; rfl, by rw [cell_of_row _ _ 10 _ _ _ h.bk]; rfl⟩

set_option maxHeartbeats 3200000 in
theorem waits_any (w : World) (c : Nat → Nat) (B : Nat) (kp wp it wi we : Value) (Q : Nat) (l : List (List (Int × ByteArray))) (hB : BookSt w c B kp wp it wi we Q) (h3 : WaitRow w c 3 wi l) (h4 : WaitRow w c 4 we l) (hl : l.length ≤ 1000) (hll : ∀ x ∈ l, x.length ≤ 100000) :
    Calls Tryz.prog 45 #[.pointer (some ⟨B, 2, none⟩)] w fun e w' => e = .returned (.bool true) ∧ Below w.heap.size w w' := by
  obtain ⟨a3, cap3, rfl⟩ := h3.shape
  obtain ⟨a4, cap4, rfl⟩ := h4.shape
  obtain ⟨_, b7, b8, _⟩ := hB.cells
  obtain ⟨_, _, n5, _, n7, _⟩ := hB.nils
  have hBlt := hB.lt
  have H3 := hid h3
  have H4 := hid h4
  have HLL := hid hll
  clear hB h3 h4 hll
  go_enter Tryz.func45, Tryz.ntmps45
  go_wp2_with fail
  refine wp_loop_rounds 1 ?_
  rw [rounds_succ]
  go_wp2_with fail
  go_loopw [3, 6] (fun ok k wr => ∃ j : Nat, ok = .bool true ∧ k = .int .i64 j ∧ j ≤ l.length ∧ Hid (Below w.heap.size w wr)) (fun _ k _ => l.length - (intOf k).toNat)
  case atStart => exact ⟨0, rfl, rfl, Nat.zero_le _, Below.refl _ _⟩
  case round =>
    obtain ⟨j, rfl, rfl, hj, HB⟩ := hrel
    have x7 := (HB.out.cell (p := ⟨B, 7, none⟩) hBlt).trans b7
    have x8 := (HB.out.cell (p := ⟨B, 8, none⟩) hBlt).trans b8
    have hBr : B < wr.heap.size := Nat.lt_of_lt_of_le hBlt HB.out.size
    by_cases hlt : j < l.length
    · obtain ⟨r, p, cp, rfl, hr, c0, rd1⟩ := H3.out.at j hlt
      obtain ⟨r', p', cp', rfl, hr', g0, rd2⟩ := H4.out.at j hlt
      have y0 := (HB.out.cell (p := ⟨r, j, none⟩) hr).trans c0
      have z0 := (HB.out.cell (p := ⟨r', j, none⟩) hr').trans g0
      have hrr : r < wr.heap.size := Nat.lt_of_lt_of_le hr HB.out.size
      have hrr' : r' < wr.heap.size := Nat.lt_of_lt_of_le hr' HB.out.size
      have HC : Hid (∀ w1, Below wr.heap.size wr w1 → Calls Tryz.prog 65 #[.slice p l[j].length cp, .slice p' l[j].length cp'] w1 fun e w' => e = .returned (.bool true) ∧ Below w1.heap.size w1 w') := fun w1 hb =>
        same_any _ _ _ _ l[j] w1 ((((rd1.later HB.out).wider HB.out.size).later hb).wider hb.size) ((((rd2.later HB.out).wider HB.out.size).later hb).wider hb.size) (by have := HLL.out _ (List.getElem_mem hlt); omega)
      clear c0 g0 rd1 rd2 b7 b8 n5 n7
      generalize l[j].length = nj at *
      have hj0 : (0 : Int) ≤ (j : Int) := by omega
      have hj1 : (j : Int) < (l.length : Int) := by omega
      go_wp2_with fail
      go_region_held3 (fun w' => w'.cell? ⟨B, 7, none⟩ = some (.slice (some ⟨r, 0, none⟩) l.length cap3) ∧ w'.cell? ⟨B, 8, none⟩ = some (.slice (some ⟨r', 0, none⟩) l.length cap4) ∧
          w'.cell? ⟨r, j, none⟩ = some (.slice p nj cp) ∧ w'.cell? ⟨r', j, none⟩ = some (.slice p' nj cp')) ((first | exact ⟨(hcc _ _ hBr).trans x7, (hcc _ _ hBr).trans x8, (hcc _ _ hrr).trans y0, (hcc _ _ hrr').trans z0⟩ | go_keep))
        ((go_at_call 65; refine (HC.out _ (Below.refl _ _).drew).mono ?_; rintro e w2 ⟨rfl, hbel⟩; obtain ⟨hcc, hff⟩ := bcell hbel))
      all_goals
        go_wp2_with fail
        refine ⟨⟨j + 1, rfl, by go_num, by omega, HB.out.trans ((below_undrew hbel).mono HB.out.size)⟩, by simp [intOf]; omega⟩
    · have hlt' : ¬ (j : Int) < (l.length : Int) := by omega
      have m7 := (HB.out.cell (p := ⟨B, 9, none⟩) hBlt).trans n7
      clear n5 n7 b7 b8
      go_wp2_with fail
      refine wp_loop_rounds 1 ?_
      rw [rounds_succ]
      go_wp2_with fail
      go_ret
      exact ⟨rfl, HB.out⟩

/-- The k-th of the marked lists, as it can be read. -/
theorem BookSt.at {w : World} {c : Nat → Nat} {B : Nat} {kp wp wi we : Value} {Q : Nat} {a : Option Addr} {cap : Nat} (h : BookSt w c B kp wp (.slice a (4 * Q) cap) wi we Q) (k : Nat) (hk : k < 4 * Q) :
    ∃ r p n cp, a = some ⟨r, 0, none⟩ ∧ r < w.heap.size ∧ w.cell? ⟨r, k, none⟩ = some (.slice p n cp) ∧ Mk w (k / 4) (.slice p n cp) := by
  obtain ⟨ls, ho, hl, hm⟩ := h.row
  rw [hl] at ho
  rcases id ho.2 with ⟨_, h0⟩ | ⟨g, cap', cur, hv, _⟩
  · omega
  · simp only [Value.slice.injEq, true_and] at hv
    obtain ⟨rfl, rfl⟩ := hv
    have hmk := (hm k (by omega)).1
    obtain ⟨p, n, cp, he⟩ := mk_shape hmk
    refine ⟨g, p, n, cp, rfl, (ho.lt g rfl).2, ?_, by rw [← he]; exact hmk⟩
    rw [ho.cellAt k (by omega), List.getElem?_eq_getElem (by omega), he]

theorem mk_at {w : World} {q : Nat} {p : Option Addr} {n cp : Nat} (h : Mk w q (.slice p n cp)) (j : Nat) (hj : j < n) : ∃ g, p = some ⟨g, 0, none⟩ ∧ g < w.heap.size ∧ w.cell? ⟨g, j * 2, none⟩ = some (.int .i64 (-1 - (q : Int))) ∧ w.cell? ⟨g, j * 2 + 1, none⟩ = some (.string ⟨#[]⟩) := by
  rcases h with h | ⟨g, n', cap', h, hn, hlt, hm⟩
  · simp at h; omega
  · simp only [Value.slice.injEq] at h
    obtain ⟨rfl, rfl, rfl⟩ := h
    refine ⟨g, rfl, hlt, ?_, ?_⟩
    · rw [hm (j * 2) (by omega)]; unfold pat; rw [if_pos (by omega)]
    · rw [hm (j * 2 + 1) (by omega)]; unfold pat; rw [if_neg (by omega)]

theorem mk_len {w : World} {q : Nat} {p : Option Addr} {n cp : Nat} (h : Mk w q (.slice p n cp)) : n ≤ maxLen := by
  rcases h with h | ⟨g, n', cap', h, hn, hlt, hm⟩
  · simp at h; unfold maxLen; omega
  · simp only [Value.slice.injEq] at h
    omega

set_option maxHeartbeats 3200000 in
theorem reads_any (w : World) (c : Nat → Nat) (B : Nat) (kp wp it wi we : Value) (Q : Nat) (hB : BookSt w c B kp wp it wi we Q) (hQ : Q ≤ 100000000000) :
    Calls Tryz.prog 46 #[.pointer (some ⟨B, 2, none⟩)] w fun e w' => e = .returned (.bool true) ∧ Below w.heap.size w w' := by
  obtain ⟨b2, _, _, a, cap, rfl⟩ := hB.cells
  obtain ⟨n1, n2, _, _, _, _⟩ := hB.nils
  have HB := hid hB
  have hBlt := hB.lt
  clear hB
  go_enter Tryz.func46, Tryz.ntmps46
  go_wp2_with fail
  refine wp_loop_rounds 1 ?_
  rw [rounds_succ]
  go_wp2_with fail
  go_loopw [3, 6] (fun ok k wr => ∃ j : Nat, ok = .bool true ∧ k = .int .i64 j ∧ j ≤ 4 * Q ∧ Hid (Below w.heap.size w wr)) (fun _ k _ => 4 * Q - (intOf k).toNat)
  case atStart => exact ⟨0, rfl, rfl, Nat.zero_le _, Below.refl _ _⟩
  case round =>
    obtain ⟨j, rfl, rfl, hj, HBl⟩ := hrel
    have x2 := (HBl.out.cell (p := ⟨B, 3, none⟩) hBlt).trans b2
    by_cases hlt : j < 4 * Q
    · obtain ⟨r, p, n, cp, rfl, hr, hcr, hmk⟩ := HB.out.at j hlt
      have x3 := (HBl.out.cell (p := ⟨r, j, none⟩) hr).trans hcr
      have HM := hid hmk
      have hnl := mk_len hmk
      unfold maxLen at hnl
      have hlt' : (j : Int) < 4 * (Q : Int) := by omega
      have HCR := hid hcr
      clear hcr hmk n1 n2
      go_wp2_with fail
      clear x2 x3
      go_loopw [3, 7] (fun ok i wi2 => ∃ i' : Nat, ok = .bool true ∧ i = .int .i64 i' ∧ i' ≤ n ∧ Hid (Below w.heap.size w wi2)) (fun _ i _ => n - (intOf i).toNat)
      case atStart => exact ⟨0, rfl, rfl, Nat.zero_le _, HBl.out⟩
      case round =>
        obtain ⟨i', rfl, rfl, hi', HBi⟩ := hrel
        have y2 := (HBi.out.cell (p := ⟨B, 3, none⟩) hBlt).trans b2
        have y3 := (HBi.out.cell (p := ⟨r, j, none⟩) hr).trans HCR.out
        by_cases hlt2 : i' < n
        · obtain ⟨g, rfl, hg, m0, m1⟩ := mk_at HM.out i' hlt2
          have z0 := (HBi.out.cell (p := ⟨g, i' * 2, none⟩) hg).trans m0
          have z1 := (HBi.out.cell (p := ⟨g, i' * 2 + 1, none⟩) hg).trans m1
          have e1 : (j : Int) / 4 = ((j / 4 : Nat) : Int) := by omega
          have e2 : IntKind.i64.wrap ((j / 4 : Nat) : Int) = ((j / 4 : Nat) : Int) := wrap_small _ (by omega) (by omega)
          have e3 : IntKind.i64.wrap (-1 - ((j / 4 : Nat) : Int)) = -1 - ((j / 4 : Nat) : Int) := by
            first
            | go_num
            | (simp [IntKind.wrap]; omega)
            | (simp [IntKind.wrap, IntKind.bits, IntKind.signed]; omega)
          generalize hq4 : j / 4 = q4 at *
          clear m0 m1 b2
          go_wp2_with fail
          exact ⟨⟨i' + 1, rfl, by go_num, by omega, HBi.out⟩, by simp [intOf]; omega⟩
        · have hlt2' : ¬ (i' : Int) < (n : Int) := by omega
          go_wp2_with fail
          exact ⟨⟨j + 1, rfl, by go_num, by omega, HBi.out⟩, by simp [intOf]; omega⟩
    · have hlt' : ¬ (j : Int) < 4 * (Q : Int) := by omega
      have m2 := (HBl.out.cell (p := ⟨B, 4, none⟩) hBlt).trans n2
      clear n1 n2
      go_wp2_with fail
      refine wp_loop_rounds 1 ?_
      rw [rounds_succ]
      go_wp2_with fail
      go_ret
      exact ⟨rfl, HBl.out⟩
end Go.Proofs.YtbmohenjphmlgaaGreat.FlH

/- The statements' own Book, of heads: the walks of settles and looks. -/
namespace Go.Proofs.YtbmohenjphmlgaaGreat.FlH
open Go.RowKit
set_option maxRecDepth 100000

/-- The lists that wait from the j-th on. -/
def WaitFrom (j : Nat) (w : World) (c : Nat → Nat) (sl : Value) (l : List (List (Int × ByteArray))) (ls : List Value) : Prop :=
  w.ownsRow 0 51 1 sl l.length ls ∧ (∀ g, sl.ownBlock = some g → c g = 3) ∧
    ∀ i (h : i < l.length), j ≤ i → ∃ v, ls[i]? = some v ∧ HOwn w 0 v l[i] ∧ ∀ g, v.ownBlock = some g → c g = 3 + 10 * (i + 1)

theorem span (v : Value) : ∃ lo hi, (∀ g, v.ownBlock = some g → lo ≤ g ∧ g < hi) ∧ ∀ k, lo ≤ k → k < hi → v.ownBlock = some k := by
  cases h : v.ownBlock with
  | none => exact ⟨0, 0, by simp, by omega⟩
  | some g => exact ⟨g, g + 1, by simp, fun k h1 h2 => by simp; omega⟩

theorem waitFrom_step {j : Nat} {w w' : World} {c c' : Nat → Nat} {sl : Value} {l : List (List (Int × ByteArray))} {ls : List Value} {lo hi : Nat} (h : WaitFrom j w c sl l ls) (hc : ∀ k, lo ≤ k → k < hi → c k = 3 + 10 * (j + 1)) (ht : Turn c c' lo hi w w') :
    WaitFrom (j + 1) w' c' sl l ls := by
  obtain ⟨ho, hs, hk⟩ := h
  have key : ∀ k, k < w.heap.size → c k % 10 = 3 → c k ≠ 3 + 10 * (j + 1) → w'.heap[k]? = w.heap[k]? ∧ c' k = c k := by
    intro k hk h1 h2
    have hw : k < lo ∨ hi ≤ k := by
      by_cases a : lo ≤ k
      · by_cases b : k < hi
        · exact absurd (hc k a b) h2
        · omega
      · omega
    exact ⟨ht.block k hk hw (by omega) (by omega), ht.color k hk hw⟩
  refine ⟨owns_frame ho (fun g hg => (key g (ho.lt g hg).2 (by rw [hs g hg]) (by rw [hs g hg]; omega)).1), fun g hg => ?_, fun i hi' hij => ?_⟩
  · rw [(key g (ho.lt g hg).2 (by rw [hs g hg]) (by rw [hs g hg]; omega)).2]; exact hs g hg
  · obtain ⟨v, q1, q2, q3⟩ := hk i hi' (by omega)
    refine ⟨v, q1, hown_frame q2 (fun g hg => (key g (hown_lt q2 g hg).2 (by rw [q3 g hg]; omega) (by rw [q3 g hg]; omega)).1), fun g hg => ?_⟩
    rw [(key g (hown_lt q2 g hg).2 (by rw [q3 g hg]; omega) (by rw [q3 g hg]; omega)).2]; exact q3 g hg

theorem WaitFrom.later {j : Nat} {w w' : World} {c : Nat → Nat} {sl : Value} {l : List (List (Int × ByteArray))} {ls : List Value} (h : WaitFrom j w c sl l ls) (hb : Below w.heap.size w w') : WaitFrom j w' c sl l ls := by
  obtain ⟨ho, hs, hk⟩ := h
  refine ⟨owns_frame ho (fun g hg => hb.block g (ho.lt g hg).2), hs, fun i hi' hij => ?_⟩
  obtain ⟨v, q1, q2, q3⟩ := hk i hi' hij
  exact ⟨v, q1, hown_later q2 hb, q3⟩

/-- The book's lists of what waits are laid down. -/
def laidDown (w : World) (B : Nat) : World :=
  (((((w.setCell ⟨B, 5, none⟩ (.slice none 0 0)).setCell ⟨B, 6, none⟩ (.slice none 0 0)).setCell ⟨B, 7, none⟩ (.slice none 0 0)).setCell ⟨B, 8, none⟩ (.slice none 0 0)).setCell ⟨B, 9, none⟩ (.slice none 0 0)).setCell ⟨B, 10, none⟩ (.slice none 0 0)

theorem BookSt.laid {w : World} {c : Nat → Nat} {B : Nat} {kp wp it wi we : Value} {Q : Nat} (h : BookSt w c B kp wp it wi we Q) : BookSt (laidDown w B) c B kp wp it (.slice none 0 0) (.slice none 0 0) Q ∧ Calm c c w (laidDown w B) := by
  have h1 := heap_setCell_same _ B 5 _ 61 (.slice none 0 0) h.bk
  have h2 := heap_setCell_same _ B 6 _ 61 (.slice none 0 0) h1
  have h3 := heap_setCell_same _ B 7 _ 61 (.slice none 0 0) h2
  have h4 := heap_setCell_same _ B 8 _ 61 (.slice none 0 0) h3
  have h5 := heap_setCell_same _ B 9 _ 61 (.slice none 0 0) h4
  have h6 := heap_setCell_same _ B 10 _ 61 (.slice none 0 0) h5
  have hother : ∀ k, k ≠ B → (laidDown w B).heap[k]? = w.heap[k]? := by
    intro k hk
    unfold laidDown
    rw [setCell_block _ _ _ _ hk, setCell_block _ _ _ _ hk, setCell_block _ _ _ _ hk, setCell_block _ _ _ _ hk, setCell_block _ _ _ _ hk, setCell_block _ _ _ _ hk]
  have hsz : (laidDown w B).heap.size = w.heap.size := by simp [laidDown, World.setCell]
  obtain ⟨ls, ho, hl, hm⟩ := h.row
  have hcB := h.cb
  have hos : (laidDown w B).os = w.os ∧ (laidDown w B).tape = w.tape ∧ (laidDown w B).output = w.output := by simp [laidDown, World.setCell]
  refine ⟨⟨?_, h.cb, h.crow, ls, owns_frame ho (fun g hg => hother g (fun e => by have := h.crow g hg; rw [e] at this; omega)), hl, fun k hk => (hm k hk).frame (by omega) (fun j _ hc => ⟨hother j (fun e => by rw [e] at hc; omega), hc⟩)⟩, ?_⟩
  · unfold laidDown
    rw [h6]
    rfl
  · exact ⟨hos.1, hos.2.1, hos.2.2, by omega, fun k _ h0 => ⟨hother k (fun e => by rw [e] at h0; omega), h0⟩⟩

/-- What 'settles' does. -/
def SettlesPost (c : Nat → Nat) (B : Nat) (kp wp : Value) (Q n : Nat) (w : World) (e : Ending) (w' : World) : Prop :=
  e = .returned (.bool true) ∧ ∃ c' it', BookSt w' c' B kp wp it' (.slice none 0 0) (.slice none 0 0) (Q + n) ∧ Calm c c' w w'

set_option maxHeartbeats 3200000 in
theorem settles_any (w : World) (c : Nat → Nat) (B : Nat) (kp wp it wi we : Value) (Q : Nat) (l : List (List (Int × ByteArray))) (hB : BookSt w c B kp wp it wi we Q) (h3 : WaitRow w c 3 wi l) (h4 : WaitRow w c 4 we l) (hl : l.length ≤ 1000) (hQ : Q + l.length ≤ 100000000000) (hll : ∀ x ∈ l, x.length ≤ 100000) :
    Calls Tryz.prog 44 #[.pointer (some ⟨B, 2, none⟩)] w (SettlesPost c B kp wp Q l.length w) := by
  obtain ⟨a3, cap3, rfl⟩ := h3.shape
  obtain ⟨a4, cap4, rfl⟩ := h4.shape
  have HW := hid (waits_any w c B kp wp it _ _ Q l hB h3 h4 hl hll)
  obtain ⟨ls, hx1, hx2, hx3⟩ := h3
  have HF : Hid (WaitFrom 0 w c (.slice a3 l.length cap3) l ls) := ⟨hx1, hx2, fun i h _ => hx3 i h⟩
  have HB := hid hB
  have HQ := hid hQ
  have HC := hid hll
  clear hB h4 hx1 hx2 hx3 hQ hll
  go_enter Tryz.func44, Tryz.ntmps44
  go_wp2_with fail
  refine HW.out.mono ?_
  rintro e w1 ⟨rfl, hb1⟩
  have HB1 := hid (HB.out.below hb1)
  have HF1 := hid (HF.out.later hb1)
  have HCa := hid (Calm.of_below (c := c) hb1)
  clear hb1
  obtain ⟨_, _, u5, _, _, _⟩ := HB1.out.nils
  go_wp2_with fail
  refine wp_loop_rounds 1 ?_
  rw [rounds_succ]
  go_wp2_with fail
  clear u5
  go_loopw [5] (fun k wr => ∃ (j : Nat) (c1 : Nat → Nat) (it1 : Value), k = .int .i64 j ∧ j ≤ l.length ∧ Hid (BookSt wr c1 B kp wp it1 (.slice a3 l.length cap3) (.slice a4 l.length cap4) (Q + j) ∧ WaitFrom j wr c1 (.slice a3 l.length cap3) l ls ∧ Calm c c1 w wr)) (fun k _ => l.length - (intOf k).toNat)
  case atStart => exact ⟨0, c, it, rfl, Nat.zero_le _, HB1.out, HF1.out, HCa.out⟩
  case round =>
    obtain ⟨j, c1, it1, rfl, hj, HH⟩ := hrel
    obtain ⟨_, x7, _, _⟩ := HH.out.1.cells
    by_cases hlt : j < l.length
    · obtain ⟨v, q1, q2, q3⟩ := HH.out.2.1.2.2 j hlt (Nat.le_refl _)
      have hshape : ∃ r, a3 = some ⟨r, 0, none⟩ := by
        rcases HH.out.2.1.1.2 with ⟨_, h0⟩ | ⟨g, cap', cur, hv, _⟩
        · omega
        · simp at hv; exact ⟨g, hv.1⟩
      obtain ⟨r, rfl⟩ := hshape
      have t0 : wr.cell? ⟨r, j, none⟩ = some v := by rw [HH.out.2.1.1.cellAt j (by omega), q1]
      obtain ⟨av, cv, rfl⟩ := hown_shape q2
      obtain ⟨lo, hi, s1, s2⟩ := span (.slice av l[j].length cv)
      have HQ2 : Hid (∀ k, lo ≤ k → k < hi → c1 k = 3 + 10 * (j + 1)) := fun k h1 h2 => q3 k (s2 k h1 h2)
      have HM := hid (mark_any av l[j].length cv _ wr c1 B kp wp it1 _ _ (Q + j) lo hi (3 + 10 * (j + 1)) HH.out.1 q2 s1 q3 (by omega) (by have := HQ.out; omega) (HC.out _ (List.getElem_mem hlt)))
      have i2 : (j : Int) < (l.length : Int) := by omega
      clear q1 q2 q3 s1 s2
      generalize l[j].length = nj at *
      go_wp2_with fail
      refine HM.out.mono ?_
      rintro e w2 ⟨rfl, c2, it2, hb2, ht2⟩
      have HN : Hid (BookSt w2 c2 B kp wp it2 (.slice (some ⟨r, 0, none⟩) l.length cap3) (.slice a4 l.length cap4) (Q + (j + 1)) ∧ WaitFrom (j + 1) w2 c2 (.slice (some ⟨r, 0, none⟩) l.length cap3) l ls ∧ Calm c c2 w w2) := by
        refine ⟨by rw [← Nat.add_assoc]; exact hb2, waitFrom_step HH.out.2.1 HQ2.out ht2, HH.out.2.2.trans (Calm.of_turn ht2 (by omega) HQ2.out)⟩
      clear hb2 ht2
      go_wp2_with fail
      exact ⟨⟨j + 1, c2, it2, by go_num, by omega, HN.out⟩, by simp [intOf]; omega⟩
    · have HJE := hid (show j = l.length by omega)
      have i2 : ¬ (j : Int) < (l.length : Int) := by omega
      obtain ⟨_, x3, x4, _⟩ := HH.out.1.cells
      obtain ⟨_, _, y5, y6, y7, y8⟩ := HH.out.1.nils
      have yf := HH.out.1.frozen
      obtain ⟨L1, L2⟩ := HH.out.1.laid
      have HL1 := hid L1
      have HL2 := hid L2
      have HRd := hid (reads_any _ c1 B kp wp it1 _ _ _ L1 (by have := HQ.out; omega))
      clear L1 L2
      unfold laidDown at HRd
      go_wp2_with fail
      refine wp_loop_rounds 1 ?_
      rw [rounds_succ]
      go_wp2_with fail
      refine HRd.out.mono ?_
      rintro e w3 ⟨rfl, hb3⟩
      have HN : Hid (∃ c' it', BookSt w3 c' B kp wp it' (.slice none 0 0) (.slice none 0 0) (Q + l.length) ∧ Calm c c' w w3) := by
        refine ⟨c1, it1, ?_, ?_⟩
        · have := HL1.out.below hb3
          rw [HJE.out] at this
          exact this
        · exact (HH.out.2.2.trans HL2.out).trans (Calm.of_below hb3)
      clear hb3
      go_wp2_with fail
      go_ret
      exact ⟨rfl, HN.out⟩

/-- A look at what waits and at what is marked. -/
def LooksPost (c : Nat → Nat) (B : Nat) (kp wp : Value) (Q : Nat) (l : List (List (Int × ByteArray))) (w : World) (e : Ending) (w' : World) : Prop :=
  e = .returned (.bool true) ∧ ∃ c' it' wi' we' Q' l', BookSt w' c' B kp wp it' wi' we' Q' ∧ WaitRow w' c' 3 wi' l' ∧ WaitRow w' c' 4 we' l' ∧ Calm c c' w w' ∧ ((Q' = Q ∧ l' = l ∧ l.length ≤ 3) ∨ (Q' = Q + l.length ∧ l' = []))

set_option maxHeartbeats 3200000 in
theorem looks_any (w : World) (c : Nat → Nat) (B : Nat) (kp wp it wi we : Value) (Q : Nat) (l : List (List (Int × ByteArray))) (hB : BookSt w c B kp wp it wi we Q) (h3 : WaitRow w c 3 wi l) (h4 : WaitRow w c 4 we l) (hl : l.length ≤ 1000) (hQ : Q + l.length ≤ 100000000000) (hll : ∀ x ∈ l, x.length ≤ 100000) :
    Calls Tryz.prog 24 #[.pointer (some ⟨B, 2, none⟩)] w (LooksPost c B kp wp Q l w) := by
  obtain ⟨a3, cap3, rfl⟩ := h3.shape
  obtain ⟨a4, cap4, rfl⟩ := h4.shape
  obtain ⟨_, b3, _, _⟩ := hB.cells
  obtain ⟨_, _, b5, _, b7, _⟩ := hB.nils
  have HB := hid hB
  have H3 := hid h3
  have H4 := hid h4
  have HL := hid hl
  have HQ := hid hQ
  have HC := hid hll
  have e0 : IntKind.i64.wrap 0 = 0 := by decide
  have e1 : IntKind.i64.wrap (l.length : Int) = (l.length : Int) := wrap_small _ (by omega) (by omega)
  clear hB h3 h4 hl hQ hll
  go_enter Tryz.func24, Tryz.ntmps24
  by_cases hlt : (3 : Int) < (l.length : Int)
  · go_wp2_with fail
    go_region_held3 (fun w' => w'.cell? ⟨B, 7, none⟩ = some (.slice a3 l.length cap3) ∧ w'.cell? ⟨B, 5, none⟩ = some (.slice none 0 0) ∧ w'.cell? ⟨B, 9, none⟩ = some (.slice none 0 0)) (go_keep) (fail)
    go_wp2_with fail
    refine (settles_any _ c B kp wp it _ _ Q l (HB.out.below ((Below.refl _ _).drew)) (H3.out.later (by omega) ((Below.refl _ _).drew) (fun _ _ => rfl)) (H4.out.later (by omega) ((Below.refl _ _).drew) (fun _ _ => rfl)) HL.out HQ.out HC.out).mono ?_
    rintro e w' ⟨rfl, c', it', hb, hcalm⟩
    have HP : Hid (LooksPost c B kp wp Q l w (.returned (.bool true)) w') := ⟨rfl, c', it', _, _, _, [], hb, waitRow_nil _ _ _, waitRow_nil _ _ _, ⟨hcalm.os, hcalm.tape, hcalm.output, hcalm.size, hcalm.keep⟩, .inr ⟨rfl, rfl⟩⟩
    clear hb hcalm
    go_wp2_with fail
    go_ret
    exact HP.out
  · go_wp2_with fail
    go_region_held3 (fun w' => w'.cell? ⟨B, 7, none⟩ = some (.slice a3 l.length cap3) ∧ w'.cell? ⟨B, 5, none⟩ = some (.slice none 0 0) ∧ w'.cell? ⟨B, 9, none⟩ = some (.slice none 0 0)) (go_keep) (fail)
    go_wp2_with fail
    refine (waits_any _ c B kp wp it _ _ Q l (HB.out.below ((Below.refl _ _).drew)) (H3.out.later (by omega) ((Below.refl _ _).drew) (fun _ _ => rfl)) (H4.out.later (by omega) ((Below.refl _ _).drew) (fun _ _ => rfl)) HL.out HC.out).mono ?_
    rintro e w1 ⟨rfl, hb1⟩
    have HB1 : Hid (Below w.heap.size w w1) := below_undrew hb1
    clear hb1
    go_wp2_with fail
    refine (reads_any _ c B kp wp it _ _ Q (HB.out.below HB1.out) (by have := HQ.out; omega)).mono ?_
    rintro e w2 ⟨rfl, hb2⟩
    have HB2 : Hid (Below w.heap.size w w2) := HB1.out.trans (hb2.mono HB1.out.size)
    clear hb2
    go_wp2_with fail
    go_ret
    exact ⟨rfl, c, it, _, _, Q, l, HB.out.below HB2.out, H3.out.later (by omega) HB2.out (fun _ _ => rfl), H4.out.later (by omega) HB2.out (fun _ _ => rfl), Calm.of_below HB2.out, .inl ⟨rfl, rfl, by omega⟩⟩
end Go.Proofs.YtbmohenjphmlgaaGreat.FlH

/- The statements' own Book, of heads: a list is kept with those that wait: what that turns. -/
namespace Go.Proofs.YtbmohenjphmlgaaGreat.FlH
open Go.RowKit
set_option maxRecDepth 100000

theorem run_append_none (w : World) (ty : TypeId) : (Builtin.append_ #[51, 51] ty #[.slice none 0 0, .slice none 0 0]).run Tryz.prog w = .ok (.slice none 0 0) w := by
  obtain ⟨i0, hi, hz0, hz1, hz2⟩ := info_parts infoHead
  simp [Builtin.append_, run_underlying Tryz.underlying51, sizeOf, typeInfo, hi, Builtin.lenOf, run_firstCells_none]

/-- A list is copied into one of its own: for a walk. -/
theorem wpList_copied {ops : Array Oper} {rest : List Oper} {o : Oper} {act : Act} {Q' : Exit → Act → World → Prop} (hgd : o.guard = none) (s x : Operand)
    (hop : o.op = .call { callee := .builtin .append, args := #[s, x], argTypes := #[51, 51] }) {w : World} {v : Value} {l : List (Int × ByteArray)}
    (hs : act.eval s = .slice none 0 0) (hx : act.eval x = v) (ho : HOwn w 0 v l) (hl : l.length ≤ 1000000)
    (h : ∀ v' w', HOwn w' w.heap.size v' l → Below w.heap.size w w' → wpList Tryz.prog ops Q' rest (act.put o.dst v') w') : wpList Tryz.prog ops Q' (o :: rest) act w := by
  obtain ⟨i0, hi, hz0, hz1, hz2⟩ := info_parts infoHead
  rcases id ho.2 with ⟨rfl, h0⟩ | ⟨g, cap, cur, rfl, _⟩
  · have hl0 : l = [] := List.eq_nil_of_length_eq_zero h0
    subst hl0
    refine wpList_plain hgd fun K hK => ?_
    unfold Oper.wp execOp
    simp only [hop, resolve, invoke, builtin, Sem.run_bind, Sem.run_pure, Result.andThen_ok, List.map_toArray, List.map_cons, List.map_nil, hs, hx, run_append_none]
    exact hK _ _ (h _ _ (hown_nil _ _) (Below.refl _ _))
  · refine wpList_append_mine _ hgd s x 51 hop w.heap.size 99 i0 _ 2 24 Tryz.underlying51 hi hz0 hz1 hz2 rfl (by decide) (.slice none 0 0) 0 [] hs (World.ownsRow_nil _ _ _ _) ⟨g, 0, none⟩ l.length cap (hcells l) hx (hcells_len l) (World.ownsRow.cells (g := g) ho rfl) (hcells_one l) (by unfold maxLen; omega) (by omega) (Nat.le_refl _) ?_
    intro v' w' ho' hgr _
    refine h v' w' ?_ ⟨hgr.os, hgr.tape, hgr.output, hgr.size, fun k hk => hgr.block k hk (by simp [Value.ownBlock])⟩
    unfold HOwn
    simpa using ho'

/-- The colours once a row has been appended to. -/
def newcol (c : Nat → Nat) (new : Value) (col : Nat) : Nat → Nat := fun k => if new.ownBlock = some k then col else c k

structure PushFacts (W w9 wF : World) (c : Nat → Nat) (B col : Nat) (L : List (List (Int × ByteArray))) (l : List (Int × ByteArray)) (new : Value) : Prop where
  row : WaitRow wF (newcol c new col) col new (L ++ [l])
  block : ∀ k, k < W.heap.size → c k ≠ col → k ≠ B → wF.heap[k]? = W.heap[k]?
  color : ∀ k, k < W.heap.size → newcol c new col k = c k
  book : w9.heap[B]? = W.heap[B]?
  size : W.heap.size ≤ wF.heap.size
  rest : wF.os = W.os ∧ wF.tape = W.tape ∧ wF.output = W.output

theorem push_facts {W w9 : World} {c : Nat → Nat} {B f col : Nat} {u v new : Value} {L : List (List (Int × ByteArray))} {l : List (Int × ByteArray)} {ls : List Value} {O : Obj} (hcol : col = 3 ∨ col = 4)
    (ho : W.ownsRow 0 51 1 u L.length ls) (hcu : ∀ g, u.ownBlock = some g → c g = col)
    (hk : ∀ i (h : i < L.length), ∃ v, ls[i]? = some v ∧ HOwn W 0 v L[i] ∧ ∀ g, v.ownBlock = some g → c g = col + 10 * (i + 1))
    (hB : c B = 1) (hBlt : B < W.heap.size) (hv : HOwn W 0 v l) (hcv : ∀ g, v.ownBlock = some g → c g = col + 10 * (L.length + 1))
    (ho9 : w9.ownsRow 0 51 1 new (L.length + 1) (ls ++ [v])) (hgr : (W.alloc O).grownBy w9 u.ownBlock) (hnew : Newer (W.alloc O) u new) :
    PushFacts W w9 (w9.setCell ⟨B, f, none⟩ new) c B col L l new := by
  have hat : ∀ k, new.ownBlock = some k → u.ownBlock = some k ∨ W.heap.size ≤ k := by
    intro k hk
    rcases hnew with e | ⟨g, e, hlt⟩
    · rw [e] at hk; exact .inl hk
    · rw [e] at hk
      simp only [Option.some.injEq] at hk
      simp at hlt
      exact .inr (by omega)
  have hnB : new.ownBlock ≠ some B := by
    intro e
    rcases hat B e with h | h
    · have := hcu B h; omega
    · omega
  have hblk : ∀ k, k < W.heap.size → c k ≠ col → w9.heap[k]? = W.heap[k]? := fun k hk hn => by
    rw [hgr.block k (by simp; omega) (fun e => hn (hcu k e.symm)), Below.heap_alloc _ _ _ hk]
  have hset : ∀ k, k ≠ B → (w9.setCell ⟨B, f, none⟩ new).heap[k]? = w9.heap[k]? := fun k hk => setCell_block _ _ _ _ hk
  have hcolor : ∀ k, k < W.heap.size → newcol c new col k = c k := by
    intro k hk
    unfold newcol
    split
    · rename_i e
      rcases hat k e with h | h
      · rw [hcu k h]
      · omega
    · rfl
  have hblock : ∀ k, k < W.heap.size → c k ≠ col → k ≠ B → (w9.setCell ⟨B, f, none⟩ new).heap[k]? = W.heap[k]? := fun k hk hn hb => by
    rw [hset k hb]; exact hblk k hk hn
  have hx := ho.1
  have hs9 : W.heap.size ≤ w9.heap.size := by have := hgr.size; simp at this; omega
  refine ⟨⟨ls ++ [v], ?_, ?_, ?_⟩, hblock, hcolor, hblk B hBlt (by omega), by simp [World.setCell]; exact hs9, ?_⟩
  · rw [List.length_append, List.length_singleton]
    exact owns_frame ho9 (fun g hg => hset g (fun e => hnB (by rw [← e]; exact hg)))
  · intro g hg
    unfold newcol
    rw [if_pos hg]
  · intro i hi
    by_cases he : i = L.length
    · subst he
      refine ⟨v, ?_, ?_, ?_⟩
      · rw [List.getElem?_append_right (by omega)]
        simp only [Nat.mul_one] at hx
        rw [hx, Nat.sub_self]; rfl
      · simp only [List.getElem_append_right (Nat.le_refl _), Nat.sub_self, List.getElem_cons_zero]
        exact hown_frame hv (fun g hg => hblock g (hown_lt hv g hg).2 (by rw [hcv g hg]; omega) (fun e => by have := hcv g hg; rw [e, hB] at this; omega))
      · intro g hg
        rw [hcolor g (hown_lt hv g hg).2]; exact hcv g hg
    · have hlt : i < L.length := by simp at hi; omega
      obtain ⟨v0, q1, q2, q3⟩ := hk i hlt
      refine ⟨v0, ?_, ?_, ?_⟩
      · rw [List.getElem?_append_left (by omega)]; exact q1
      · rw [List.getElem_append_left hlt]
        exact hown_frame q2 (fun g hg => hblock g (hown_lt q2 g hg).2 (by rw [q3 g hg]; omega) (fun e => by have := q3 g hg; rw [e, hB] at this; omega))
      · intro g hg
        rw [hcolor g (hown_lt q2 g hg).2]; exact q3 g hg
  · exact ⟨hgr.os, hgr.tape, hgr.output⟩

theorem PushFacts.bookW {W w9 : World} {c : Nat → Nat} {B : Nat} {kp wp it wi we new : Value} {Q : Nat} {L : List (List (Int × ByteArray))} {l : List (Int × ByteArray)} (h : PushFacts W w9 (w9.setCell ⟨B, 7, none⟩ new) c B 3 L l new) (hB : BookSt W c B kp wp it wi we Q) : BookSt (w9.setCell ⟨B, 7, none⟩ new) (newcol c new 3) B kp wp it new we Q := by
  obtain ⟨ls, ho, hl, hm⟩ := hB.row
  refine ⟨?_, by rw [h.color B hB.lt]; exact hB.cb, ?_, ls, ?_, hl, ?_⟩
  · rw [heap_setCell_same _ B 7 _ 61 new (h.book.trans hB.bk)]; rfl
  · intro k hk
    rw [h.color k (ho.lt k hk).2]; exact hB.crow k hk
  · exact owns_frame ho (fun k hk => h.block k (ho.lt k hk).2 (by rw [hB.crow k hk]; omega) (by intro e; have h1 := hB.crow k hk; have h2 := hB.cb; rw [e] at h1; omega))
  · exact fun k hk => (hm k hk).frame h.size (fun j hj hc => ⟨h.block j hj (by omega) (by intro e; have h2 := hB.cb; rw [e] at hc; omega), by rw [h.color j hj]; exact hc⟩)

theorem PushFacts.bookV {W w9 : World} {c : Nat → Nat} {B : Nat} {kp wp it wi we new : Value} {Q : Nat} {L : List (List (Int × ByteArray))} {l : List (Int × ByteArray)} (h : PushFacts W w9 (w9.setCell ⟨B, 8, none⟩ new) c B 4 L l new) (hB : BookSt W c B kp wp it wi we Q) : BookSt (w9.setCell ⟨B, 8, none⟩ new) (newcol c new 4) B kp wp it wi new Q := by
  obtain ⟨ls, ho, hl, hm⟩ := hB.row
  refine ⟨?_, by rw [h.color B hB.lt]; exact hB.cb, ?_, ls, ?_, hl, ?_⟩
  · rw [heap_setCell_same _ B 8 _ 61 new (h.book.trans hB.bk)]; rfl
  · intro k hk
    rw [h.color k (ho.lt k hk).2]; exact hB.crow k hk
  · exact owns_frame ho (fun k hk => h.block k (ho.lt k hk).2 (by rw [hB.crow k hk]; omega) (by intro e; have h1 := hB.crow k hk; have h2 := hB.cb; rw [e] at h1; omega))
  · exact fun k hk => (hm k hk).frame h.size (fun j hj hc => ⟨h.block j hj (by omega) (by intro e; have h2 := hB.cb; rw [e] at hc; omega), by rw [h.color j hj]; exact hc⟩)

theorem PushFacts.turn {W w9 wF : World} {c : Nat → Nat} {B col : Nat} {new : Value} {L : List (List (Int × ByteArray))} {l : List (Int × ByteArray)} (h : PushFacts W w9 wF c B col L l new) (hcol : col = 3 ∨ col = 4) (hB : c B = 1) : KeepT c (newcol c new col) W wF :=
  ⟨h.rest.1, h.rest.2.1, h.rest.2.2, h.size, fun k hk h1 h3 h4 => h.block k hk (by omega) (by intro e; rw [e] at h1; exact h1 hB), h.color⟩

theorem PushFacts.other {W w9 wF : World} {c : Nat → Nat} {B col col' : Nat} {new sl : Value} {L L' : List (List (Int × ByteArray))} {l : List (Int × ByteArray)} (h : PushFacts W w9 wF c B col L l new) (hB : c B = 1) (hne : col' ≠ col) (h3 : col = 3 ∨ col = 4) (h4 : col' = 3 ∨ col' = 4) (hw : WaitRow W c col' sl L') : WaitRow wF (newcol c new col) col' sl L' :=
  hw.frame (by omega) (fun k hk hc => ⟨h.block k hk (by omega) (by intro e; rw [e, hB] at hc; omega), h.color k hk⟩)

/-- A list is pushed behind those that wait: for a walk. -/
theorem wpList_pushList {ops : Array Oper} {rest : List Oper} {o : Oper} {act : Act} {Q' : Exit → Act → World → Prop} (hgd : o.guard = none) (s x : Operand)
    (hop : o.op = .call { callee := .builtin .append, args := #[s, x], argTypes := #[55, 55] }) {W : World} {c : Nat → Nat} {B col : Nat} (f : Nat) {u v : Value} {L : List (List (Int × ByteArray))} {l : List (Int × ByteArray)} (hcol : col = 3 ∨ col = 4)
    (Lz : Nat) (hLz : W.heap.size = Lz) (hs : act.eval s = u) (hx : act.eval x = .slice (some ⟨Lz, 0, none⟩) 1 1) (hr : WaitRow W c col u L) (hB : c B = 1) (hBlt : B < W.heap.size) (hv : HOwn W 0 v l) (hcv : ∀ g, v.ownBlock = some g → c g = col + 10 * (L.length + 1)) (hL : L.length ≤ 1000)
    (h : ∀ new w9, PushFacts W w9 (w9.setCell ⟨B, f, none⟩ new) c B col L l new → wpList Tryz.prog ops Q' rest (act.put o.dst new) w9) : wpList Tryz.prog ops Q' (o :: rest) act (W.alloc (.cells #[v] 51)) := by
  subst hLz
  obtain ⟨i0, hi0, hz0, hz1, hz2⟩ := info_parts infoSl
  obtain ⟨ls, ho, hcu, hk⟩ := hr
  have hbW : Below W.heap.size W (W.alloc (.cells #[v] 51)) := (Below.refl _ _).alloc (Nat.le_refl _) _
  have hone : v.oneCell' = true := by
    obtain ⟨a, cap, rfl⟩ := hown_shape hv
    rfl
  refine wpList_append_mine _ hgd s x 55 hop 0 51 i0 _ 1 24 Tryz.underlying55 hi0 hz0 hz1 hz2 rfl (by decide) u L.length ls hs (owns_frame ho (fun g hg => hbW.block g (ho.lt g hg).2)) ⟨W.heap.size, 0, none⟩ 1 1 [v] hx rfl (cells_new W [v] 51) (by simpa using hone) (by unfold maxLen; omega) (by omega) (Nat.zero_le _) ?_
  intro new w9 ho9 hgr hnew
  exact h new w9 (push_facts hcol ho hcu hk hB hBlt hv hcv ho9 hgr hnew)
end Go.Proofs.YtbmohenjphmlgaaGreat.FlH

/- The statements' own Book, of heads: the walk of keepHeads. -/
namespace Go.Proofs.YtbmohenjphmlgaaGreat.FlH
open Go.RowKit
set_option maxRecDepth 100000

/-- The colours once a list has been copied. -/
def copycol (c : Nat → Nat) (n : Nat) (v : Value) (col : Nat) : Nat → Nat := fun k => if k < n then c k else if v.ownBlock = some k then col else 0

/-- What keeping a list does. -/
def KeepPost (c : Nat → Nat) (B : Nat) (kp wp it : Value) (Q : Nat) (L : List (List (Int × ByteArray))) (l : List (Int × ByteArray)) (w : World) (e : Ending) (w' : World) : Prop :=
  e = .returned (.tuple #[]) ∧ ∃ c' wi' we', BookSt w' c' B kp wp it wi' we' Q ∧ WaitRow w' c' 3 wi' (L ++ [l]) ∧ WaitRow w' c' 4 we' (L ++ [l]) ∧ KeepT c c' w w'

set_option maxHeartbeats 3200000 in
theorem keep_any (w : World) (c : Nat → Nat) (B : Nat) (kp wp it wi we : Value) (Q : Nat) (L : List (List (Int × ByteArray))) (a : Option Addr) (cap : Nat) (l : List (Int × ByteArray)) (hB : BookSt w c B kp wp it wi we Q) (h3 : WaitRow w c 3 wi L) (h4 : WaitRow w c 4 we L)
    (hv : HOwn w 0 (.slice a l.length cap) l) (hcv : ∀ g, (Value.slice a l.length cap).ownBlock = some g → c g = 3 + 10 * (L.length + 1)) (hL : L.length ≤ 1000) (hl : l.length ≤ 1000000) :
    Calls Tryz.prog 66 #[.pointer (some ⟨B, 2, none⟩), .slice a l.length cap] w (KeepPost c B kp wp it Q L l w) := by
  obtain ⟨a3, cap3, rfl⟩ := h3.shape
  obtain ⟨a4, cap4, rfl⟩ := h4.shape
  have HB := hid hB
  have H3 := hid h3
  have H4 := hid h4
  have HV := hid hv
  have HCV := hid hcv
  have HL := hid hL
  have Hl := hid hl
  clear hB h3 h4 hv hcv hL hl
  go_enter Tryz.func66, Tryz.ntmps66
  go_wp2_with (first
    | (at_builtin; refine wpList_copied rfl (.tmp 5) (.tmp 6) rfl rfl rfl HV.out Hl.out ?_; intro vw w1 ho1 hb1
       have hold : ∀ k, k < w.heap.size → copycol c w.heap.size vw (4 + 10 * (L.length + 1)) k = c k := fun k hk => (by unfold copycol; rw [if_pos hk])
       have HC1 : Hid (BookSt w1 (copycol c w.heap.size vw (4 + 10 * (L.length + 1))) B kp wp it (.slice a3 L.length cap3) (.slice a4 L.length cap4) Q) := HB.out.frame hb1.size (fun k hk _ => ⟨hb1.block k hk, hold k hk⟩)
       have H31 := hid (H3.out.later (by omega) hb1 hold)
       have H41 := hid (H4.out.later (by omega) hb1 hold)
       have HV1 := hid (hown_later HV.out hb1)
       have HCV1 : Hid (∀ g, (Value.slice a l.length cap).ownBlock = some g → copycol c w.heap.size vw (4 + 10 * (L.length + 1)) g = 3 + 10 * (L.length + 1)) := fun g hg => by rw [hold g (hown_lt HV.out g hg).2]; exact HCV.out g hg
       have HVW := hid (show HOwn w1 0 vw l from owns_base ho1 (Nat.zero_le _))
       have HCW : Hid (∀ g, vw.ownBlock = some g → copycol c w.heap.size vw (4 + 10 * (L.length + 1)) g = 4 + 10 * (L.length + 1)) := fun g hg => by
         have := (hown_lt ho1 g hg).1
         unfold copycol
         rw [if_neg (by omega), if_pos hg]
       have HK1 : Hid (KeepT c (copycol c w.heap.size vw (4 + 10 * (L.length + 1))) w w1) := KeepT.of_below hb1 hold
       obtain ⟨aw, cw, hvw⟩ := hown_shape ho1
       generalize copycol c w.heap.size vw (4 + 10 * (L.length + 1)) = c1 at *
       subst hvw
       clear ho1 hb1 hold
       obtain ⟨_, b3, _, _⟩ := HC1.out.cells)
    | (at_builtin; refine wpList_pushList (v := .slice a l.length cap) rfl (.tmp 12) (.tmp 14) rfl 7 (.inl rfl) w1.heap.size rfl rfl rfl H31.out HC1.out.cb HC1.out.lt HV1.out HCV1.out HL.out ?_; intro nw w2 hp
       obtain ⟨an, cn, hnw⟩ := hp.row.shape
       rw [List.length_append, List.length_singleton] at hnw
       subst hnw
       have b9 := cell_of_row _ _ 7 _ _ _ (hp.book.trans HC1.out.bk)
       have f9 := frozen_of_row _ _ 7 _ _ (hp.book.trans HC1.out.bk)
       have HB2 := hid (hp.bookW HC1.out)
       obtain ⟨_, _, b4, _⟩ := HB2.out.cells
       have H32 := hid hp.row
       have H42 := hid (hp.other HC1.out.cb (by omega) (.inl rfl) (.inr rfl) H41.out)
       have HK2 := hid (HK1.out.trans (hp.turn (.inl rfl) HC1.out.cb))
       have HVW2 := hid (hown_frame HVW.out (fun g hg => hp.block g (hown_lt HVW.out g hg).2 (by rw [HCW.out g hg]; omega) (fun e => by have h1 := HCW.out g hg; have h2 := HC1.out.cb; rw [e, h2] at h1; omega)))
       have HCW2 : Hid (∀ g, (Value.slice aw l.length cw).ownBlock = some g → newcol c1 (.slice an (L.length + 1) cn) 3 g = 4 + 10 * (L.length + 1)) := fun g hg => by rw [hp.color g (hown_lt HVW.out g hg).2]; exact HCW.out g hg
       generalize newcol c1 (.slice an (L.length + 1) cn) 3 = c2 at *
       clear hp)
    | (at_builtin; refine wpList_pushList (v := .slice aw l.length cw) rfl (.tmp 22) (.tmp 24) rfl 8 (.inr rfl) w2.heap.size (by simp [World.setCell]) rfl rfl H42.out HB2.out.cb HB2.out.lt HVW2.out HCW2.out HL.out ?_; intro nw w4 hp
       obtain ⟨ao, co, hnw⟩ := hp.row.shape
       rw [List.length_append, List.length_singleton] at hnw
       subst hnw
       have b10 := cell_of_row _ _ 8 _ _ _ (hp.book.trans HB2.out.bk)
       have f10 := frozen_of_row _ _ 8 _ _ (hp.book.trans HB2.out.bk)
       have HB3 := hid (hp.bookV HB2.out)
       have H43 := hid hp.row
       have H33 := hid (hp.other HB2.out.cb (by omega) (.inr rfl) (.inl rfl) H32.out)
       have HK3 := hid (HK2.out.trans (hp.turn (.inr rfl) HB2.out.cb))
       clear hp))
  refine bodyPost_ret (v := .tuple #[]) (by simp [results, Tryz.results66, go_sem]) rfl ⟨rfl, _, _, _, HB3.out, H33.out, H43.out, HK3.out⟩
end Go.Proofs.YtbmohenjphmlgaaGreat.FlH
