/- The walk of Book's 'reads' (of the statements' own): all lists that were marked read as marked. -/
import Derived.Test.YtplfjengfhijhaaMark
import Derived.Deep.RegionHeld3
namespace Go.Proofs.Ytplfjengfhijhaa
open Go.RowKit

/-- The k-th of the marked lists, as it can be read. -/
theorem BookSt.at {w : World} {c : Nat → Nat} {B : Nat} {wi we : Value} {Q : Nat} {a : Option Addr} {cap : Nat} (h : BookSt w c B (.slice a (4 * Q) cap) wi we Q) (k : Nat) (hk : k < 4 * Q) :
    ∃ r p n cp, a = some ⟨r, 0, none⟩ ∧ r < w.heap.size ∧ w.cell? ⟨r, k, none⟩ = some (.slice p n cp) ∧ Mk w (k / 4) (.slice p n cp) := by
  obtain ⟨ls, ho, hl, hm⟩ := h.row
  rw [hl] at ho
  rcases id ho.2 with ⟨_, h0⟩ | ⟨g, cap', cur, hv, _⟩
  · omega
  · simp only [Value.slice.injEq, true_and] at hv
    obtain ⟨rfl, rfl⟩ := hv
    have hmk := (hm k (by omega)).1
    obtain ⟨p, n, cp, he⟩ := mk_shape hmk
    refine ⟨g, p, n, cp, rfl, (ho.lt g rfl).2, ?_, by rw [← he]; exact hmk⟩
    rw [ho.cellAt k (by omega), List.getElem?_eq_getElem (by omega), he]

theorem mk_at {w : World} {q : Nat} {p : Option Addr} {n cp : Nat} (h : Mk w q (.slice p n cp)) (j : Nat) (hj : j < n) : ∃ g, p = some ⟨g, 0, none⟩ ∧ g < w.heap.size ∧ n ≤ maxLen ∧
    w.cell? ⟨g, j * 3, none⟩ = some (.bool false) ∧ w.cell? ⟨g, j * 3 + 1, none⟩ = some (.string ⟨(markText q).toArray⟩) ∧ w.cell? ⟨g, j * 3 + 2, none⟩ = some (.slice none 0 0) := by
  rcases h with h | ⟨g, n', cap', h, hn, hlt, hm⟩
  · simp at h; omega
  · simp only [Value.slice.injEq] at h
    obtain ⟨rfl, rfl, rfl⟩ := h
    exact ⟨g, rfl, hlt, hn, hm j hj⟩

theorem mk_len {w : World} {q : Nat} {p : Option Addr} {n cp : Nat} (h : Mk w q (.slice p n cp)) : n ≤ maxLen := by
  rcases h with h | ⟨g, n', cap', h, hn, hlt, hm⟩
  · simp at h; unfold maxLen; omega
  · simp only [Value.slice.injEq] at h
    omega

set_option maxRecDepth 100000 in
set_option maxHeartbeats 1600000 in
theorem reads_any (w : World) (c : Nat → Nat) (B : Nat) (it wi we : Value) (Q : Nat) (hB : BookSt w c B it wi we Q) (hQ : Q ≤ 100000000000) :
    Calls Try.prog 28 #[.pointer (some ⟨B, 0, none⟩)] w fun e w' => e = .returned (.bool true) ∧ Below w.heap.size w w' := by
  obtain ⟨b2, b7, b8, a, cap, rfl⟩ := hB.cells
  obtain ⟨b0, b1, b3, b4, b5, b6, bf⟩ := hB.nils
  have HB := hid hB
  have hBlt := hB.lt
  clear hB b7 b8 b3 b4 b5 b6 bf
  have HT : Hid (∀ (j : Nat), j ≤ 400000000000 → ∀ w, Calls Try.prog 40 #[.int .i64 (IntKind.i64.wrap ((j : Int) / 4))] w fun e w' => e = .returned (.string ⟨(markText (j / 4)).toArray⟩) ∧ Below w.heap.size w w') := fun j hj w => by
    have := text_any (j / 4) w (by omega)
    rwa [show ((j / 4 : Nat) : Int) = IntKind.i64.wrap ((j : Int) / 4) by rw [show IntKind.i64.wrap ((j : Int) / 4) = (j : Int) / 4 from wrap_small _ (by omega) (by omega)]; omega] at this
  go_enter Try.func28, Try.ntmps28
  go_wp2_with fail
  refine wp_loop_rounds 1 ?_
  rw [rounds_succ]
  go_wp2_with fail
  refine wp_loop_rounds 1 ?_
  rw [rounds_succ]
  go_wp2_with fail
  go_loopw [3, 8] (fun ok k wr => ∃ j : Nat, ok = .bool true ∧ k = .int .i64 j ∧ j ≤ 4 * Q ∧ Hid (Below w.heap.size w wr)) (fun _ k _ => 4 * Q - (intOf k).toNat)
  case atStart => exact ⟨0, rfl, rfl, Nat.zero_le _, Below.refl _ _⟩
  case round =>
    obtain ⟨j, rfl, rfl, hj, HBl⟩ := hrel
    have x2 := (HBl.out.cell (p := ⟨B, 2, none⟩) hBlt).trans b2
    by_cases hlt : j < 4 * Q
    · obtain ⟨r, p, n, cp, rfl, hr, hcr, hmk⟩ := HB.out.at j hlt
      have x3 := (HBl.out.cell (p := ⟨r, j, none⟩) hr).trans hcr
      have HM := hid hmk
      have hnl := mk_len hmk
      unfold maxLen at hnl
      have hlt' : (j : Int) < 4 * (Q : Int) := by omega
      clear hcr hmk
      go_wp2_with fail
      go_loopw [3, 9] (fun ok i wi2 => ∃ i' : Nat, ok = .bool true ∧ i = .int .i64 i' ∧ i' ≤ n ∧ Hid (Below w.heap.size w wi2)) (fun _ i _ => n - (intOf i).toNat)
      case atStart => exact ⟨0, rfl, rfl, Nat.zero_le _, HBl.out⟩
      case round =>
        obtain ⟨i', rfl, rfl, hi', HBi⟩ := hrel
        have y2 := (HBi.out.cell (p := ⟨B, 2, none⟩) hBlt).trans b2
        have y3 := (HBi.out.cell (p := ⟨r, j, none⟩) hr).trans ((HBl.out.cell (p := ⟨r, j, none⟩) hr).symm.trans x3)
        by_cases hlt2 : i' < n
        · obtain ⟨g, rfl, hg, _, m0, m1, m2⟩ := mk_at HM.out i' hlt2
          have z0 := (HBi.out.cell (p := ⟨g, i' * 3, none⟩) hg).trans m0
          have z1 := (HBi.out.cell (p := ⟨g, i' * 3 + 1, none⟩) hg).trans m1
          have z2 := (HBi.out.cell (p := ⟨g, i' * 3 + 2, none⟩) hg).trans m2
          clear m0 m1 m2
          go_wp2_with fail
          have HC := hid (HT.out j (by omega))
          go_region_held3 (fun w' => w'.cell? ⟨wr.heap.size, 0, none⟩ = some (.bool false) ∧ w'.cell? ⟨wr.heap.size, 1, none⟩ = some (.string ⟨(markText (j / 4)).toArray⟩) ∧ w'.cell? ⟨wr.heap.size, 2, none⟩ = some (.slice none 0 0)) (go_keep)
            ((go_at_call 40; refine (HC.out _).mono ?_; rintro e w2 ⟨rfl, hbel⟩; obtain ⟨hcc, hff⟩ := bcell hbel))
          all_goals
            go_wp2_with fail
            refine ⟨⟨i' + 1, rfl, by go_num, by omega, ?_⟩, by simp [intOf]; omega⟩
            have hb3 : Below wr.heap.size wr w2 := ((Below.refl _ _).alloc (Nat.le_refl _) _).trans ((below_undrew hbel).mono (by simp))
            exact HBi.out.trans (hb3.mono HBi.out.size)
        · have hlt2' : ¬ (i' : Int) < (n : Int) := by omega
          go_wp2_with fail
          exact ⟨⟨j + 1, rfl, by go_num, by omega, HBi.out⟩, by simp [intOf]; omega⟩
    · have hlt' : ¬ (j : Int) < 4 * (Q : Int) := by omega
      go_wp2_with fail
      go_ret
      exact ⟨rfl, HBl.out⟩
end Go.Proofs.Ytplfjengfhijhaa
