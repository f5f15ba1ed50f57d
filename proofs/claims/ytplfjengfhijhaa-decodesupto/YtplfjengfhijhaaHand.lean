/- Items that are handed in: each list in a row of its own with eight marked places behind it; storing an item into a row. -/
import Derived.Test.YtplfjengfhijhaaRefEnc
namespace Go.Proofs.Ytplfjengfhijhaa
open Go.RowKit

/-- A row with its k-th three cells written. -/
def put3 (xs : List Value) (k : Nat) (a b c : Value) : List Value := ((xs.set (k * 3) a).set (k * 3 + 1) b).set (k * 3 + 2) c

theorem put3_len (xs : List Value) (k : Nat) (a b c : Value) : (put3 xs k a b c).length = xs.length := by simp [put3]

theorem tri_put_same (xs : List Value) (k : Nat) (a b c : Value) (h : k * 3 + 2 < xs.length) : tri (put3 xs k a b c) k = .agg #[a, b, c] := by
  unfold tri put3
  simp only [List.getD_eq_getElem?_getD]
  have e : 3 * k = k * 3 := Nat.mul_comm 3 k
  rw [e]
  simp only [List.getElem?_set, List.length_set]
  have l0 : k * 3 < xs.length := by omega
  have l1 : k * 3 + 1 < xs.length := by omega
  simp [l0, l1, h]

theorem tri_put_other (xs : List Value) (k i : Nat) (a b c : Value) (h : i ≠ k) : tri (put3 xs k a b c) i = tri xs i := by
  unfold tri put3
  simp only [List.getD_eq_getElem?_getD, List.getElem?_set]
  repeat rw [if_neg (by omega)]

theorem row_put {w : World} {g k : Nat} {xs : List Value} {E : TypeId} (h : w.heap[g]? = some (.cells xs.toArray E (0, 0))) (a b c : Value) :
    (((w.setCell ⟨g, k * 3, none⟩ a).setCell ⟨g, k * 3 + 1, none⟩ b).setCell ⟨g, k * 3 + 2, none⟩ c).heap[g]? = some (.cells (put3 xs k a b c).toArray E (0, 0)) := by
  have h1 := heap_setCell_same w g (k * 3) xs.toArray E a h
  have h2 := heap_setCell_same _ g (k * 3 + 1) _ E b h1
  have h3 := heap_setCell_same _ g (k * 3 + 2) _ E c h2
  rw [h3]
  simp [put3]

theorem put_other {w1 : World} {g k j : Nat} (h : k ≠ g) (a b c : Value) :
    (((w1.setCell ⟨g, j * 3, none⟩ a).setCell ⟨g, j * 3 + 1, none⟩ b).setCell ⟨g, j * 3 + 2, none⟩ c).heap[k]? = w1.heap[k]? := by
  rw [setCell_block _ _ _ _ h, setCell_block _ _ _ _ h, setCell_block _ _ _ _ h]

theorem put_size (w1 : World) (g j : Nat) (a b c : Value) :
    (((w1.setCell ⟨g, j * 3, none⟩ a).setCell ⟨g, j * 3 + 1, none⟩ b).setCell ⟨g, j * 3 + 2, none⟩ c).heap.size = w1.heap.size := by simp [World.setCell]

theorem put_below {B : Nat} {w w1 : World} (hb : Below B w w1) {g j : Nat} (hg : B ≤ g) (a b c : Value) :
    Below B w (((w1.setCell ⟨g, j * 3, none⟩ a).setCell ⟨g, j * 3 + 1, none⟩ b).setCell ⟨g, j * 3 + 2, none⟩ c) :=
  ((hb.setCell (p := ⟨g, j * 3, none⟩) hg a).setCell (p := ⟨g, j * 3 + 1, none⟩) hg b).setCell (p := ⟨g, j * 3 + 2, none⟩) hg c

theorem row_cell {w : World} {g : Nat} {xs : List Value} {E : TypeId} (h : w.heap[g]? = some (.cells xs.toArray E (0, 0))) (j : Nat) (hj : j < xs.length) : w.cell? ⟨g, j, none⟩ = some (xs.getD j default) := by
  rw [cell_of_row _ _ j _ _ _ h, List.getD_eq_getElem?_getD]
  simp [hj]

theorem row_frozen {w : World} {g : Nat} {xs : List Value} {E : TypeId} (h : w.heap[g]? = some (.cells xs.toArray E (0, 0))) (j : Nat) : w.frozen? ⟨g, j, none⟩ = false := frozen_of_row w g j _ E h

/-- The mark of spare room. -/
def bang : Value := .agg #[.bool false, .string ⟨#[33]⟩, .slice none 0 0]

/-- An item in lists of its own, each with eight marked places behind it. -/
def Hand (E : TypeId) (w : World) : Nat → Nat → Nat → Value → Itm → Prop
  | 0 => fun _ _ _ _ => False
  | n + 1 => fun lo hi v t => ∃ (g : Nat) (xs : List Value) (L H : Nat → Nat),
      v = .agg #[.bool t.list, .string ⟨t.bytes.toArray⟩, .slice (some ⟨g, 0, none⟩) t.items.length (t.items.length + 8)] ∧ lo ≤ g ∧ g < hi ∧
      w.heap[g]? = some (.cells xs.toArray E (0, 0)) ∧ xs.length = (t.items.length + 8) * 3 ∧
      (∀ i (h : i < t.items.length), lo ≤ L i ∧ H i ≤ hi ∧ (g < L i ∨ H i ≤ g) ∧ Hand E w n (L i) (H i) (tri xs i) t.items[i]) ∧
      (∀ i j, i < j → j < t.items.length → H i ≤ L j) ∧ (∀ i, t.items.length ≤ i → i < t.items.length + 8 → tri xs i = bang)

theorem hand_frame {E : TypeId} {w w' : World} : ∀ (n lo hi : Nat) (v : Value) (t : Itm), (∀ k, lo ≤ k → k < hi → w'.heap[k]? = w.heap[k]?) → Hand E w n lo hi v t → Hand E w' n lo hi v t := by
  intro n
  induction n with
  | zero => intro lo hi v t _ h; exact h
  | succ n ih =>
    intro lo hi v t hk h
    obtain ⟨g, xs, L, H, hv, h1, h2, h3, h4, h5, h6, h7⟩ := h
    refine ⟨g, xs, L, H, hv, h1, h2, by rw [hk g h1 h2]; exact h3, h4, fun i hi' => ?_, h6, h7⟩
    obtain ⟨q1, q2, q3, q4⟩ := h5 i hi'
    exact ⟨q1, q2, q3, ih _ _ _ _ (fun k a b => hk k (by omega) (by omega)) q4⟩

theorem hand_widen {E : TypeId} {w : World} {n lo hi lo' hi' : Nat} {v : Value} {t : Itm} (h : Hand E w n lo hi v t) (a : lo' ≤ lo) (b : hi ≤ hi') : Hand E w n lo' hi' v t := by
  cases n with
  | zero => exact h
  | succ n =>
    obtain ⟨g, xs, L, H, hv, h1, h2, h3, h4, h5, h6, h7⟩ := h
    refine ⟨g, xs, L, H, hv, by omega, by omega, h3, h4, fun i hi' => ?_, h6, h7⟩
    obtain ⟨q1, q2, q3, q4⟩ := h5 i hi'
    exact ⟨by omega, by omega, q3, q4⟩

theorem hand_shape {E : TypeId} {w : World} {n lo hi : Nat} {v : Value} {t : Itm} (h : Hand E w n lo hi v t) : ∃ g, v = .agg #[.bool t.list, .string ⟨t.bytes.toArray⟩, .slice (some ⟨g, 0, none⟩) t.items.length (t.items.length + 8)] := by
  cases n with
  | zero => exact h.elim
  | succ n => obtain ⟨g, xs, L, H, hv, _⟩ := h; exact ⟨g, hv⟩

theorem rep_of_hand {E : TypeId} {w : World} {B : Nat} : ∀ (n lo hi : Nat) (v : Value) (t : Itm), hi ≤ B → Itm.wt t ≤ 1000000000 → Hand E w n lo hi v t → Rep B w n v t := by
  intro n
  induction n with
  | zero => intro lo hi v t _ _ h; exact h
  | succ n ih =>
    intro lo hi v t hB hw h
    obtain ⟨g, xs, L, H, hv, h1, h2, h3, h4, h5, h6, h7⟩ := h
    have hlen : t.items.length ≤ maxLen := by
      have a := Itm.cntL_len t.items
      have b := Itm.cnt_le_wt t
      rw [Itm.cnt_eq] at b
      unfold Itm.cntL at a
      unfold maxLen
      omega
    refine ⟨some ⟨g, 0, none⟩, _, hv, hlen, fun i hi' => ?_⟩
    obtain ⟨q1, q2, q3, q4⟩ := h5 i hi'
    have c0 := row_cell h3 (3 * i) (by omega)
    have c1 := row_cell h3 (3 * i + 1) (by omega)
    have c2 := row_cell h3 (3 * i + 2) (by omega)
    have e : 0 + i * 3 = 3 * i := by omega
    refine ⟨g, 0, _, _, _, rfl, by omega, by rw [e]; exact c0, by rw [e]; exact c1, by rw [e]; exact c2, ih _ _ _ _ (by omega) ?_ q4⟩
    have := Itm.kid_wt t i hi'
    omega

end Go.Proofs.Ytplfjengfhijhaa
