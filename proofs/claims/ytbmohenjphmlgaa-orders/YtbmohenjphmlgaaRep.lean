/- Items as they lie in memory, to be read: whoever made them, in blocks below some number. -/
import Derived.Test.YtbmohenjphmlgaaMem
namespace Go.Proofs.Ytbmohenjphmlgaa
open Go.RowKit
set_option maxRecDepth 100000

/-- v is the item t, as it reads in w; all its lists lie in blocks below B; at most n levels. -/
def Rep (B : Nat) (w : World) : Nat → Value → Itm → Prop
  | 0 => fun _ _ => False
  | n + 1 => fun v t => ∃ a cap, v = .agg #[.bool t.list, .string ⟨t.bytes.toArray⟩, .slice a t.items.length cap] ∧ t.items.length ≤ maxLen ∧
      ∀ i (h : i < t.items.length), ∃ b off c0 c1 c2, a = some ⟨b, off, none⟩ ∧ b < B ∧ w.cell? ⟨b, off + i * 3, none⟩ = some c0 ∧ w.cell? ⟨b, off + i * 3 + 1, none⟩ = some c1 ∧ w.cell? ⟨b, off + i * 3 + 2, none⟩ = some c2 ∧
        Rep B w n (.agg #[c0, c1, c2]) t.items[i]

theorem rep_frame {B : Nat} {w w' : World} (hb : Below B w w') : ∀ (n : Nat) (v : Value) (t : Itm), Rep B w n v t → Rep B w' n v t := by
  intro n
  induction n with
  | zero => intro v t h; exact h
  | succ n ih =>
    intro v t h
    obtain ⟨a, cap, hv, hm, h⟩ := h
    refine ⟨a, cap, hv, hm, fun i hi => ?_⟩
    obtain ⟨b, off, c0, c1, c2, ha, hlt, e0, e1, e2, hr⟩ := h i hi
    exact ⟨b, off, c0, c1, c2, ha, hlt, by rw [hb.cell hlt]; exact e0, by rw [hb.cell hlt]; exact e1, by rw [hb.cell hlt]; exact e2, ih _ _ hr⟩

theorem rep_wider {B B' : Nat} {w : World} (hB : B ≤ B') : ∀ (n : Nat) (v : Value) (t : Itm), Rep B w n v t → Rep B' w n v t := by
  intro n
  induction n with
  | zero => intro v t h; exact h
  | succ n ih =>
    intro v t h
    obtain ⟨a, cap, hv, hm, h⟩ := h
    refine ⟨a, cap, hv, hm, fun i hi => ?_⟩
    obtain ⟨b, off, c0, c1, c2, ha, hlt, e0, e1, e2, hr⟩ := h i hi
    exact ⟨b, off, c0, c1, c2, ha, by omega, e0, e1, e2, ih _ _ hr⟩

/-- The three cells of an item that is read. -/
theorem rep_shape {B : Nat} {w : World} {n : Nat} {c0 c1 c2 : Value} {t : Itm} (h : Rep B w n (.agg #[c0, c1, c2]) t) :
    ∃ a cap, c0 = .bool t.list ∧ c1 = .string ⟨t.bytes.toArray⟩ ∧ c2 = .slice a t.items.length cap := by
  cases n with
  | zero => exact h.elim
  | succ n =>
    obtain ⟨a, cap, hv, _⟩ := h
    simp at hv
    exact ⟨a, cap, hv.1, hv.2.1, hv.2.2⟩

/-- What is read in one world is read in a later one. -/
theorem rep_later {w w' : World} (hb : Below w.heap.size w w') {n : Nat} {v : Value} {t : Itm} (h : Rep w.heap.size w n v t) : Rep w'.heap.size w' n v t :=
  rep_wider hb.size n v t (rep_frame hb n v t h)

theorem tri_cells {w : World} {E base g cap n : Nat} {xs : List Value} (ho : w.ownsRow base E 3 (.slice (some ⟨g, 0, none⟩) n cap) n xs) (i : Nat) (hi : i < n) :
    w.cell? ⟨g, 0 + i * 3, none⟩ = some (xs.getD (3 * i) default) ∧ w.cell? ⟨g, 0 + i * 3 + 1, none⟩ = some (xs.getD (3 * i + 1) default) ∧ w.cell? ⟨g, 0 + i * 3 + 2, none⟩ = some (xs.getD (3 * i + 2) default) := by
  have hx := ho.1
  have key : ∀ j, j < n * 3 → w.cell? ⟨g, j, none⟩ = some (xs.getD j default) := by
    intro j hj
    rw [ho.cellAt j hj, List.getD_eq_getElem?_getD, List.getElem?_eq_getElem (by omega)]
    rfl
  exact ⟨by rw [Nat.zero_add, Nat.mul_comm i 3]; exact key _ (by omega), by rw [Nat.zero_add, Nat.mul_comm i 3]; exact key _ (by omega), by rw [Nat.zero_add, Nat.mul_comm i 3]; exact key _ (by omega)⟩

/-- What is owned can be read. -/
theorem rep_of_own {E : TypeId} {w : World} {B : Nat} : ∀ (n lo hi : Nat) (v : Value) (t : Itm), hi ≤ B → Own E w n lo hi v t → Rep B w n v t := by
  intro n
  induction n with
  | zero => intro lo hi v t _ h; exact h
  | succ n ih =>
    intro lo hi v t hB h
    obtain ⟨sl, hv, xs, ho, hg, L, H, hL, _⟩ := h
    rcases ho.2 with ⟨rfl, h0⟩ | ⟨g, cap, cur, rfl, _, _, hnc, hcm, _⟩
    · refine ⟨none, 0, by rw [hv, h0], by rw [h0]; exact Nat.zero_le _, fun i hi => ?_⟩
      omega
    · refine ⟨some ⟨g, 0, none⟩, cap, hv, Nat.le_trans hnc hcm, fun i hi => ?_⟩
      obtain ⟨q1, q2, q3, q4⟩ := hL i hi
      obtain ⟨e0, e1, e2⟩ := tri_cells ho i hi
      have hgl := hg g rfl
      exact ⟨g, 0, _, _, _, rfl, by omega, e0, e1, e2, ih (L i) (H i) _ _ (by omega) q4⟩

end Go.Proofs.Ytbmohenjphmlgaa
