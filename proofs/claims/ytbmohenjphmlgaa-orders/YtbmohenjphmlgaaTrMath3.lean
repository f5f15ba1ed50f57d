/- Plain mathematics of ways down. Nothing of the program is in here. -/
import Derived.Test.YtbmohenjphmlgaaTrMath
namespace Go.Proofs.Ytbmohenjphmlgaa
set_option maxRecDepth 100000

namespace Tr

theorem digits_lt (l : List UInt8) : ∀ c ∈ digits l, c.toNat < 16 := by
  intro c hc
  unfold digits at hc
  rw [List.mem_flatMap] at hc
  obtain ⟨b, _, hb⟩ := hc
  have hlt := b.toNat_lt
  simp only [List.mem_cons, List.not_mem_nil, or_false] at hb
  rcases hb with rfl | rfl
  · simp; omega
  · simp; omega

theorem goes_sub : ∀ (t : Itm) (k : List UInt8) (br : Bool) (y : Way), goes t k br = some y → (∀ c ∈ y.digits, c ∈ k) ∧ y.digits.length ≤ k.length := by
  intro t
  refine Itm.ind (p := fun t => ∀ (k : List UInt8) (br : Bool) (y : Way), goes t k br = some y → (∀ c ∈ y.digits, c ∈ k) ∧ y.digits.length ≤ k.length) ?_ t
  intro t ih k br y h
  have hnone : (some Way.none = some y) → (∀ c ∈ y.digits, c ∈ k) ∧ y.digits.length ≤ k.length := by
    intro e; cases e; exact ⟨fun c hc => (by simp [Way.none] at hc), by simp [Way.none]⟩
  have htells : ∀ v b, (some (Way.tells v b) = some y) → (∀ c ∈ y.digits, c ∈ k) ∧ y.digits.length ≤ k.length := by
    intro v b e; cases e; exact ⟨fun c hc => (by simp [Way.tells] at hc), by simp [Way.tells]⟩
  have hdown : ∀ (i : Nat) (r : List UInt8) (b : Bool), refersOf (kid t i) (fun k b => if i < t.items.length then goes (kid t i) k b else none) r b = some y → (∀ c ∈ r, c ∈ k) → r.length ≤ k.length → (∀ c ∈ y.digits, c ∈ k) ∧ y.digits.length ≤ k.length := by
    intro i r b e hr hl
    unfold refersOf at e
    split at e
    · cases e; exact ⟨hr, hl⟩
    · by_cases hi : i < t.items.length
      · simp only [hi, if_true] at e
        have hm : kid t i ∈ t.items := by
          unfold kid
          rw [List.getD_eq_getElem?_getD, List.getElem?_eq_getElem hi]
          exact List.getElem_mem hi
        obtain ⟨q1, q2⟩ := ih _ hm r b y e
        exact ⟨fun c hc => hr c (q1 c hc), Nat.le_trans q2 hl⟩
      · simp only [hi, if_false] at e
        cases e
  rw [goes_eq] at h
  unfold goesOf at h
  split at h
  · cases h
  · split at h
    · exact hnone h
    · split at h
      · split at h
        · exact htells _ _ h
        · exact hdown _ _ _ h (fun c hc => by simp [hc]) (by simp)
      · dsimp only at h
        split at h
        · split at h
          · exact htells _ _ h
          · exact hnone h
        · split at h
          · exact hnone h
          · exact hdown 1 _ _ h (fun c hc => List.mem_of_mem_drop hc) (by simp)

theorem whole_some {s : List UInt8} {t : Itm} (h : whole s = some t) : Itm.parse s.length s = some (t, []) := by
  unfold whole at h
  split at h
  · rename_i t' h'
    cases h
    exact h'
  · cases h

theorem whole_none {s : List UInt8} (h : whole s = none) : ∀ t, Itm.parse s.length s ≠ some (t, []) := by
  intro t e
  unfold whole at h
  rw [e] at h
  cases h

end Tr
end Go.Proofs.Ytbmohenjphmlgaa
