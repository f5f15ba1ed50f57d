/- The walks of newEmpty and newLeaf (of the program). -/
import Derived.Test.YtbmohenjphmlgaaPrBranch
namespace Go.Proofs.Ytbmohenjphmlgaa
open Go.RowKit
set_option maxRecDepth 100000

theorem kept_block {W w2 : World} {g : Nat} {O : Obj} (hb : Below W.heap.size W w2) (hW : W.heap[g]? = some O) : w2.heap[g]? = some O := (hb.block g (Array.getElem?_eq_some_iff.1 hW).1).trans hW

theorem block_alloc {w : World} {g : Nat} {O O' : Obj} (h : w.heap[g]? = some O) : (w.alloc O').heap[g]? = some O := (Below.heap_alloc _ _ _ (Array.getElem?_eq_some_iff.1 h).1).trans h

theorem block_alloc2 (w : World) (O O' : Obj) : ((w.alloc O).alloc O').heap[w.heap.size + 1]? = some O' := by
  have := heap_alloc_new (w.alloc O) O'
  rwa [alloc_size] at this

theorem far_ne {w : World} {g : Nat} {O : Obj} (h : w.heap[g]? = some O) : (¬ g = w.heap.size + 1) ∧ (¬ w.heap.size + 1 = g) ∧ (¬ g = w.heap.size) ∧ (¬ w.heap.size = g) ∧ g < w.heap.size := by
  have := (Array.getElem?_eq_some_iff.1 h).1
  exact ⟨by omega, by omega, by omega, by omega, this⟩

theorem belowA {w W : World} (h : Below w.heap.size w W) (O : Obj) : Below w.heap.size w (W.alloc O) := h.alloc h.size O
theorem belowC {w W w2 : World} (h : Below w.heap.size w W) (b : Below W.heap.size W w2) : Below w.heap.size w w2 := h.trans (b.mono h.size)

theorem pair_cells {w : World} {g : Nat} {x y : Value} {T : TypeId} {fr : Nat × Nat} (h : w.heap[g]? = some (.cells #[x, y] T fr)) : w.cell? ⟨g, 0, none⟩ = some x ∧ w.cell? ⟨g, 1, none⟩ = some y :=
  ⟨cell_of_row _ _ 0 _ _ _ h, cell_of_row _ _ 1 _ _ _ h⟩

set_option maxHeartbeats 1600000 in
theorem newEmpty_any (w : World) : Calls Try.prog 95 #[] w fun e w' => e = .returned (.iface 158 (.agg #[.int .i64 0, .bool false, .string ⟨#[]⟩, .slice none 0 0])) ∧ Below w.heap.size w w' := by
  have HBI := hid (fun s w => bytesItem_any s w)
  go_enter Try.func95, Try.ntmps95
  go_wp2_with fail
  refine (HBI.out _ _).mono ?_
  rintro e w1 ⟨rfl, b1⟩
  go_wp2_with fail
  go_ret
  exact ⟨rfl, b1⟩

theorem flat_two (p q : List UInt8) : ∀ u ∈ (Tr.itL [Tr.itB p, Tr.itB q]).items, u.items = [] := by
  intro u hu
  simp only [Tr.itL, List.mem_cons, List.not_mem_nil, or_false] at hu
  rcases hu with rfl | rfl <;> rfl

set_option maxHeartbeats 1600000 in
theorem newLeaf_any (d x : ByteArray) (m : Nat) (w : World) (hs : d.size ≤ 10000000) (hd : ∀ c ∈ d.data.toList, c.toNat < 16) : Calls Try.prog 96 #[.string d, .string x] w fun e w' => ∃ a cap, e = .returned (.iface 162 (.agg #[.int .i64 1, .bool true, .string ⟨#[]⟩, .slice a 2 cap, .string d, .string x])) ∧ RepW w.heap.size w'.heap.size w' (m + 2) (.agg #[.bool true, .string ⟨#[]⟩, .slice a 2 cap]) (Tr.itL [Tr.itB (Tr.path d.data.toList true), Tr.itB x.data.toList]) ∧ Below w.heap.size w w' := by
  have HP := hid (fun w => pathOf_any d true w hs hd)
  have HBI := hid (fun s w => bytesItem_any s w)
  have HLI := hid (fun a n cap w => listItem_any a n cap w)
  go_enter Try.func96, Try.ntmps96
  go_wp2_with fail
  refine (HP.out _).mono ?_
  rintro e w1 ⟨rfl, b1⟩
  go_wp2_with fail
  refine (HBI.out _ _).mono ?_
  rintro e w2 ⟨rfl, b2⟩
  go_wp2_with fail
  refine (HBI.out _ _).mono ?_
  rintro e w3 ⟨rfl, b3⟩
  have HB : Hid (Below w.heap.size w w3) := (b1.trans (b2.mono b1.size)).trans (b3.mono (Nat.le_trans b1.size b2.size))
  have HR : Hid (RowR (w3.alloc (.cells #[.bool false, .string ⟨(Tr.path d.data.toList true).toArray⟩, .slice none 0 0, .bool false, .string x, .slice none 0 0] 24)) w3.heap.size (m + 1) (.slice (some ⟨w3.heap.size, 0, none⟩) 2 2) [Tr.itB (Tr.path d.data.toList true), Tr.itB x.data.toList]) :=
    rowR_two (Nat.le_refl _) (rep_bytes _ _ _ _) (rep_string _ _ _ _)
  clear b1 b2 b3
  go_wp2_with fail
  refine (HLI.out _ _ _ _).mono ?_
  rintro e w4 ⟨rfl, b4⟩
  have HR4 := hid (rowR_rep (rowR_later HR.out b4 (by simp)) (Nat.le_trans (by simp : w3.heap.size ≤ _) b4.size) (by simp [maxLen]))
  have HB4 : Hid (Below w.heap.size w w4) := (HB.out.alloc HB.out.size _).trans (b4.mono (by have := HB.out.size; simp; omega))
  clear b4
  go_wp2_with fail
  go_ret
  exact ⟨_, _, rfl, repW_flat (rep_later ((Below.refl _ _).alloc (Nat.le_refl _) _) HR4.out) (flat_two _ _) (fun b off e => by cases e; exact HB.out.size), HB4.out.alloc HB4.out.size _⟩

/-- Two items in a row that lies there. -/
theorem rowR_of_block {w : World} {base r m : Nat} {a b c a' b' c' : Value} {t t' : Itm} (h : w.heap[r]? = some (.cells #[a, b, c, a', b', c'] 24 (0, 0))) (hb : base ≤ r) (h1 : Rep base w m (.agg #[a, b, c]) t) (h2 : Rep base w m (.agg #[a', b', c']) t') : RowR w base m (.slice (some ⟨r, 0, none⟩) 2 2) [t, t'] := by
  refine ⟨[a, b, c, a', b', c'], ⟨rfl, .inr ⟨r, 2, _, rfl, hb, h, Nat.le_refl _, by unfold maxLen; omega, rfl, rfl⟩⟩, ?_⟩
  intro i hi
  match i, hi with
  | 0, _ => exact h1
  | 1, _ => exact h2

theorem set3_other {w : World} {g r : Nat} {O : Obj} {a b c : Value} (h : w.heap[r]? = some O) (hne : g ≠ r) : (((w.setCell ⟨g, 0, none⟩ a).setCell ⟨g, 1, none⟩ b).setCell ⟨g, 2, none⟩ c).heap[r]? = some O := by
  simp [World.setCell, Array.getElem?_modify, hne, h]

end Go.Proofs.Ytbmohenjphmlgaa
