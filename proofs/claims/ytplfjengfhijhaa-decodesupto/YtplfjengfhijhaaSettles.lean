/- The walk of Book's 'settles' (of the statements' own): what waits is marked, all reads as it should. -/
import Derived.Test.YtplfjengfhijhaaReads
import Derived.Test.YtplfjengfhijhaaWaits
namespace Go.Proofs.Ytplfjengfhijhaa
open Go.RowKit

/-- What has no colour is as it was. -/
structure Calm (c c' : Nat → Nat) (w w' : World) : Prop where
  os : w'.os = w.os
  tape : w'.tape = w.tape
  output : w'.output = w.output
  size : w.heap.size ≤ w'.heap.size
  keep : ∀ k, k < w.heap.size → c k = 0 → w'.heap[k]? = w.heap[k]? ∧ c' k = 0

theorem Calm.refl (c : Nat → Nat) (w : World) : Calm c c w w := ⟨rfl, rfl, rfl, Nat.le_refl _, fun _ _ h => ⟨rfl, h⟩⟩

theorem Calm.trans {c c' c'' : Nat → Nat} {w w' w'' : World} (h : Calm c c' w w') (k : Calm c' c'' w' w'') : Calm c c'' w w'' :=
  ⟨k.os.trans h.os, k.tape.trans h.tape, k.output.trans h.output, Nat.le_trans h.size k.size, fun j hj hc => by
    obtain ⟨a, b⟩ := h.keep j hj hc
    obtain ⟨a', b'⟩ := k.keep j (Nat.lt_of_lt_of_le hj h.size) b
    exact ⟨a'.trans a, b'⟩⟩

theorem Calm.of_below {c : Nat → Nat} {w w' : World} (h : Below w.heap.size w w') : Calm c c w w' := ⟨h.os, h.tape, h.output, h.size, fun k hk hc => ⟨h.block k hk, hc⟩⟩

theorem Calm.of_turn {c c' : Nat → Nat} {lo hi m : Nat} {w w' : World} (h : Turn c c' lo hi w w') (hm : 10 ≤ m) (hc : ∀ k, lo ≤ k → k < hi → c k = m) : Calm c c' w w' :=
  ⟨h.os, h.tape, h.output, h.size, fun k hk h0 => by
    have hw : k < lo ∨ hi ≤ k := by
      by_cases h1 : lo ≤ k
      · by_cases h2 : k < hi
        · have := hc k h1 h2; omega
        · omega
      · omega
    exact ⟨h.block k hk hw (by omega) (by omega), by rw [h.color k hk hw]; exact h0⟩⟩

/-- The items that wait from the j-th on. -/
def WaitFrom (j : Nat) (w : World) (c : Nat → Nat) (sl : Value) (l : List Itm) (xs : List Value) : Prop :=
  w.ownsRow 0 24 3 sl l.length xs ∧ (∀ g, sl.ownBlock = some g → c g = 3) ∧
    ∀ i (h : i < l.length), j ≤ i → ∃ lo hi, hi ≤ w.heap.size ∧ (∀ k, lo ≤ k → k < hi → c k = 3 + 10 * (i + 1)) ∧ Own 24 w 1001 lo hi (tri xs i) l[i]

theorem waitFrom_step {j : Nat} {w w' : World} {c c' : Nat → Nat} {sl : Value} {l : List Itm} {xs : List Value} {lo hi : Nat} (h : WaitFrom j w c sl l xs) (hc : ∀ k, lo ≤ k → k < hi → c k = 3 + 10 * (j + 1)) (ht : Turn c c' lo hi w w') :
    WaitFrom (j + 1) w' c' sl l xs := by
  obtain ⟨ho, hs, hk⟩ := h
  have key : ∀ k, k < w.heap.size → c k % 10 = 3 → c k ≠ 3 + 10 * (j + 1) → w'.heap[k]? = w.heap[k]? ∧ c' k = c k := by
    intro k hk h1 h2
    have hw : k < lo ∨ hi ≤ k := by
      by_cases a : lo ≤ k
      · by_cases b : k < hi
        · exact absurd (hc k a b) h2
        · omega
      · omega
    exact ⟨ht.block k hk hw (by omega) (by omega), ht.color k hk hw⟩
  refine ⟨owns_frame ho (fun g hg => (key g (ho.lt g hg).2 (by rw [hs g hg]) (by rw [hs g hg]; omega)).1), fun g hg => ?_, fun i hi' hij => ?_⟩
  · rw [(key g (ho.lt g hg).2 (by rw [hs g hg]) (by rw [hs g hg]; omega)).2]; exact hs g hg
  · obtain ⟨lo', hi2, q1, q2, q3⟩ := hk i hi' (by omega)
    have := ht.size
    refine ⟨lo', hi2, by omega, fun k h1 h2 => ?_, own_frame _ _ _ _ _ (fun k h1 h2 => (key k (by omega) (by rw [q2 k h1 h2]; omega) (by rw [q2 k h1 h2]; omega)).1) q3⟩
    rw [(key k (by omega) (by rw [q2 k h1 h2]; omega) (by rw [q2 k h1 h2]; omega)).2]; exact q2 k h1 h2

theorem WaitFrom.later {j : Nat} {w w' : World} {c : Nat → Nat} {sl : Value} {l : List Itm} {xs : List Value} (h : WaitFrom j w c sl l xs) (hb : Below w.heap.size w w') : WaitFrom j w' c sl l xs := by
  obtain ⟨ho, hs, hk⟩ := h
  refine ⟨owns_frame ho (fun g hg => hb.block g (ho.lt g hg).2), hs, fun i hi' hij => ?_⟩
  obtain ⟨lo', hi2, q1, q2, q3⟩ := hk i hi' hij
  exact ⟨lo', hi2, Nat.le_trans q1 hb.size, q2, own_frame _ _ _ _ _ (fun k _ h2 => hb.block k (by omega)) q3⟩

theorem BookSt.below {w w' : World} {c : Nat → Nat} {B : Nat} {it wi we : Value} {Q : Nat} (h : BookSt w c B it wi we Q) (hb : Below w.heap.size w w') : BookSt w' c B it wi we Q :=
  h.frame hb.size (fun k hk _ => ⟨hb.block k hk, rfl⟩)

/-- The book's lists of what waits are laid down. -/
def laidDown (w : World) (B : Nat) : World :=
  (((((w.setCell ⟨B, 3, none⟩ (.slice none 0 0)).setCell ⟨B, 4, none⟩ (.slice none 0 0)).setCell ⟨B, 5, none⟩ (.slice none 0 0)).setCell ⟨B, 6, none⟩ (.slice none 0 0)).setCell ⟨B, 7, none⟩ (.slice none 0 0)).setCell ⟨B, 8, none⟩ (.slice none 0 0)

theorem BookSt.laid {w : World} {c : Nat → Nat} {B : Nat} {it wi we : Value} {Q : Nat} (h : BookSt w c B it wi we Q) : BookSt (laidDown w B) c B it (.slice none 0 0) (.slice none 0 0) Q ∧ Calm c c w (laidDown w B) := by
  have h1 : (w.setCell ⟨B, 3, none⟩ (.slice none 0 0)).heap[B]? = some (.cells #[.slice none 0 0, .slice none 0 0, it, .slice none 0 0, .slice none 0 0, .slice none 0 0, .slice none 0 0, wi, we] 39 (0, 0)) := by rw [heap_setCell_same _ B 3 _ 39 _ h.bk]; rfl
  have h2 : ((w.setCell ⟨B, 3, none⟩ (.slice none 0 0)).setCell ⟨B, 4, none⟩ (.slice none 0 0)).heap[B]? = some (.cells #[.slice none 0 0, .slice none 0 0, it, .slice none 0 0, .slice none 0 0, .slice none 0 0, .slice none 0 0, wi, we] 39 (0, 0)) := by rw [heap_setCell_same _ B 4 _ 39 _ h1]; rfl
  have h3 : (((w.setCell ⟨B, 3, none⟩ (.slice none 0 0)).setCell ⟨B, 4, none⟩ (.slice none 0 0)).setCell ⟨B, 5, none⟩ (.slice none 0 0)).heap[B]? = some (.cells #[.slice none 0 0, .slice none 0 0, it, .slice none 0 0, .slice none 0 0, .slice none 0 0, .slice none 0 0, wi, we] 39 (0, 0)) := by rw [heap_setCell_same _ B 5 _ 39 _ h2]; rfl
  have h4 : ((((w.setCell ⟨B, 3, none⟩ (.slice none 0 0)).setCell ⟨B, 4, none⟩ (.slice none 0 0)).setCell ⟨B, 5, none⟩ (.slice none 0 0)).setCell ⟨B, 6, none⟩ (.slice none 0 0)).heap[B]? = some (.cells #[.slice none 0 0, .slice none 0 0, it, .slice none 0 0, .slice none 0 0, .slice none 0 0, .slice none 0 0, wi, we] 39 (0, 0)) := by rw [heap_setCell_same _ B 6 _ 39 _ h3]; rfl
  have h5 : (((((w.setCell ⟨B, 3, none⟩ (.slice none 0 0)).setCell ⟨B, 4, none⟩ (.slice none 0 0)).setCell ⟨B, 5, none⟩ (.slice none 0 0)).setCell ⟨B, 6, none⟩ (.slice none 0 0)).setCell ⟨B, 7, none⟩ (.slice none 0 0)).heap[B]? = some (.cells #[.slice none 0 0, .slice none 0 0, it, .slice none 0 0, .slice none 0 0, .slice none 0 0, .slice none 0 0, (.slice none 0 0), we] 39 (0, 0)) := by rw [heap_setCell_same _ B 7 _ 39 _ h4]; rfl
  have h6 : ((((((w.setCell ⟨B, 3, none⟩ (.slice none 0 0)).setCell ⟨B, 4, none⟩ (.slice none 0 0)).setCell ⟨B, 5, none⟩ (.slice none 0 0)).setCell ⟨B, 6, none⟩ (.slice none 0 0)).setCell ⟨B, 7, none⟩ (.slice none 0 0)).setCell ⟨B, 8, none⟩ (.slice none 0 0)).heap[B]? = some (.cells #[.slice none 0 0, .slice none 0 0, it, .slice none 0 0, .slice none 0 0, .slice none 0 0, .slice none 0 0, (.slice none 0 0), (.slice none 0 0)] 39 (0, 0)) := by rw [heap_setCell_same _ B 8 _ 39 _ h5]; rfl
  have hother : ∀ k, k ≠ B → (laidDown w B).heap[k]? = w.heap[k]? := by
    intro k hk
    unfold laidDown
    rw [setCell_block _ _ _ _ hk, setCell_block _ _ _ _ hk, setCell_block _ _ _ _ hk, setCell_block _ _ _ _ hk, setCell_block _ _ _ _ hk, setCell_block _ _ _ _ hk]
  have hsz : (laidDown w B).heap.size = w.heap.size := by simp [laidDown, World.setCell]
  obtain ⟨ls, ho, hl, hm⟩ := h.row
  have hcB := h.cb
  have hos : (laidDown w B).os = w.os ∧ (laidDown w B).tape = w.tape ∧ (laidDown w B).output = w.output := by simp [laidDown, World.setCell]
  refine ⟨⟨?_, h.cb, h.crow, ls, owns_frame ho (fun g hg => hother g (fun e => by have := h.crow g hg; rw [e] at this; omega)), hl, fun k hk => (hm k hk).frame (by omega) (fun j _ hc => ⟨hother j (fun e => by rw [e] at hc; omega), hc⟩)⟩, ?_⟩
  · exact h6
  · exact ⟨hos.1, hos.2.1, hos.2.2, by omega, fun k _ h0 => ⟨hother k (fun e => by rw [e] at h0; omega), h0⟩⟩

/-- What 'settles' does. -/
def SettlesPost (c : Nat → Nat) (B Q : Nat) (l : List Itm) (w : World) (e : Ending) (w' : World) : Prop :=
  e = .returned (.bool true) ∧ ∃ c' it', BookSt w' c' B it' (.slice none 0 0) (.slice none 0 0) (Q + Itm.cntL l) ∧ Calm c c' w w'

theorem cntL_take (l : List Itm) (j : Nat) (h : j < l.length) : Itm.cntL (l.take (j + 1)) = Itm.cntL (l.take j) + Itm.cnt l[j] := cntL_snoc ⟨false, [], l⟩ j h

theorem cntL_part (l : List Itm) (j : Nat) : Itm.cntL (l.take j) ≤ Itm.cntL l := cntL_take_le ⟨false, [], l⟩ j

set_option maxRecDepth 100000 in
set_option maxHeartbeats 1600000 in
theorem settles_any (w : World) (c : Nat → Nat) (B : Nat) (it wi we : Value) (Q : Nat) (l : List Itm) (hB : BookSt w c B it wi we Q) (h3 : WaitRow w c 3 wi l) (h4 : WaitRow w c 4 we l) (hl : l.length ≤ 1000) (hQ : Q + Itm.cntL l ≤ 100000000000) (hcnt : ∀ x ∈ l, Itm.cnt x ≤ 100000) :
    Calls Try.prog 16 #[.pointer (some ⟨B, 0, none⟩)] w (SettlesPost c B Q l w) := by
  obtain ⟨a3, cap3, rfl⟩ := h3.shape
  obtain ⟨a4, cap4, rfl⟩ := h4.shape
  have HW := hid (waits_any w c B it _ _ Q l hB h3 h4 hl)
  obtain ⟨xs, hx1, hx2, hx3⟩ := h3
  have HF : Hid (WaitFrom 0 w c (.slice a3 l.length cap3) l xs) := ⟨hx1, hx2, fun i h _ => hx3 i h⟩
  have HB := hid hB
  have HQ := hid hQ
  have HC := hid hcnt
  clear hB h4 hx1 hx2 hx3 hQ hcnt
  go_enter Try.func16, Try.ntmps16
  go_wp2_with fail
  refine HW.out.mono ?_
  rintro e w1 ⟨rfl, hb1⟩
  have HB1 := hid (HB.out.below hb1)
  have HF1 := hid (HF.out.later hb1)
  have HCa := hid (Calm.of_below (c := c) hb1)
  obtain ⟨b0, b1, b3, b4, b5, b6, bf⟩ := HB1.out.nils
  clear hb1 b0 b1 b4 b6 bf
  go_wp2_with fail
  refine wp_loop_rounds 1 ?_
  rw [rounds_succ]
  go_wp2_with fail
  refine wp_loop_rounds 1 ?_
  rw [rounds_succ]
  go_wp2_with fail
  go_loopw [6] (fun k wr => ∃ (j : Nat) (c1 : Nat → Nat) (it1 : Value), k = .int .i64 j ∧ j ≤ l.length ∧ Hid (BookSt wr c1 B it1 (.slice a3 l.length cap3) (.slice a4 l.length cap4) (Q + Itm.cntL (l.take j)) ∧ WaitFrom j wr c1 (.slice a3 l.length cap3) l xs ∧ Calm c c1 w wr)) (fun k _ => l.length - (intOf k).toNat)
  case atStart => exact ⟨0, c, it, rfl, Nat.zero_le _, by simpa [Itm.cntL] using HB1.out, HF1.out, HCa.out⟩
  case round =>
    obtain ⟨j, c1, it1, rfl, hj, HH⟩ := hrel
    obtain ⟨x2, x7, x8, _⟩ := HH.out.1.cells
    by_cases hlt : j < l.length
    · obtain ⟨lo, hi, q1, q2, q3⟩ := HH.out.2.1.2.2 j hlt (Nat.le_refl _)
      have hshape : ∃ r, a3 = some ⟨r, 0, none⟩ := by
        rcases HH.out.2.1.1.2 with ⟨_, h0⟩ | ⟨g, cap', cur, hv, _⟩
        · omega
        · simp at hv; exact ⟨g, hv.1⟩
      obtain ⟨r, rfl⟩ := hshape
      obtain ⟨t0, t1, t2⟩ := tri_cells HH.out.2.1.1 j hlt
      rw [Nat.zero_add] at t0 t1 t2
      have hcn : Q + Itm.cntL (l.take j) + Itm.cnt l[j] ≤ 100000000000 := by
        have h1 := cntL_part l (j + 1)
        rw [cntL_take l j hlt] at h1
        have h2 := HQ.out
        omega
      have HM := hid (mark_any 1001 _ l[j] wr c1 B it1 _ _ _ lo hi (3 + 10 * (j + 1)) HH.out.1 q3 q1 q2 (by omega) hcn (HC.out _ (List.getElem_mem hlt)))
      have HQ2 := hid q2
      have htri : tri xs j = .agg #[xs.getD (3 * j) default, xs.getD (3 * j + 1) default, xs.getD (3 * j + 2) default] := rfl
      rw [htri] at HM
      generalize xs.getD (3 * j) default = d0 at t0 HM
      generalize xs.getD (3 * j + 1) default = d1 at t1 HM
      generalize xs.getD (3 * j + 2) default = d2 at t2 HM
      clear q1 q2 q3 hcn htri
      go_wp2_with fail
      refine HM.out.mono ?_
      rintro e w2 ⟨rfl, c2, it2, hb2, ht2⟩
      have HN : Hid (BookSt w2 c2 B it2 (.slice (some ⟨r, 0, none⟩) l.length cap3) (.slice a4 l.length cap4) (Q + Itm.cntL (l.take (j + 1))) ∧ WaitFrom (j + 1) w2 c2 (.slice (some ⟨r, 0, none⟩) l.length cap3) l xs ∧ Calm c c2 w w2) := by
        refine ⟨by rw [cntL_take l j hlt, ← Nat.add_assoc]; exact hb2, waitFrom_step HH.out.2.1 HQ2.out ht2, HH.out.2.2.trans (Calm.of_turn ht2 (by omega) HQ2.out)⟩
      clear hb2 ht2
      go_wp2_with fail
      exact ⟨⟨j + 1, c2, it2, by go_num, by omega, HN.out⟩, by simp [intOf]; omega⟩
    · have HJE := hid (show j = l.length by omega)
      obtain ⟨y0, y1, y3, y4, y5, y6, yf⟩ := HH.out.1.nils
      obtain ⟨L1, L2⟩ := HH.out.1.laid
      have HL1 := hid L1
      have HL2 := hid L2
      have HRd := hid (reads_any _ c1 B it1 _ _ _ L1 (by have := cntL_part l j; have := HQ.out; omega))
      clear L1 L2
      unfold laidDown at HRd
      go_wp2_with fail
      refine HRd.out.mono ?_
      rintro e w3 ⟨rfl, hb3⟩
      have HN : Hid (∃ c' it', BookSt w3 c' B it' (.slice none 0 0) (.slice none 0 0) (Q + Itm.cntL l) ∧ Calm c c' w w3) := by
        refine ⟨c1, it1, ?_, ?_⟩
        · have := HL1.out.below hb3
          rw [HJE.out, List.take_length] at this
          exact this
        · exact (HH.out.2.2.trans HL2.out).trans (Calm.of_below hb3)
      clear hb3
      go_wp2_with fail
      go_ret
      exact ⟨rfl, HN.out⟩
end Go.Proofs.Ytplfjengfhijhaa
