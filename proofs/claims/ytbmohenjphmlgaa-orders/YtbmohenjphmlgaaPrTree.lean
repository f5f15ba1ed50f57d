/- A tree of nodes as the program builds it, and what is left of it when memory turns. -/
import Derived.Test.YtbmohenjphmlgaaPrMake
import Derived.Test.YtbmohenjphmlgaaTrProve
namespace Go.Proofs.Ytbmohenjphmlgaa
open Go.RowKit
set_option maxRecDepth 100000

theorem branchCells_at (a : Option Addr) (cap : Nat) (cs : Array Value) (x : ByteArray) : (branchCells a cap cs x)[0]? = some (.int .i64 3) ∧ (branchCells a cap cs x)[1]? = some (.bool true) ∧ (branchCells a cap cs x)[2]? = some (.string ⟨#[]⟩) ∧ (branchCells a cap cs x)[3]? = some (.slice a 17 cap) := by
  unfold branchCells
  refine ⟨?_, ?_, ?_, ?_⟩ <;> rw [Array.append_assoc, Array.getElem?_append_left (by simp)] <;> rfl

theorem branchCells_head (a : Option Addr) (cap : Nat) (cs : Array Value) (x : ByteArray) : (branchCells a cap cs x).extract 0 4 = #[.int .i64 3, .bool true, .string ⟨#[]⟩, .slice a 17 cap] := by
  unfold branchCells
  rw [Array.append_assoc, Array.extract_append]
  simp

theorem nd_branch (a : Option Addr) (cap : Nat) (cs : Array Value) (x : ByteArray) : Nd (.iface 143 (.agg (branchCells a cap cs x))) 3 true ⟨#[]⟩ a 17 cap :=
  ⟨_, _, .inr (.inr (.inr rfl)), rfl, branchCells_head a cap cs x⟩

def emptyV : Value := .iface 158 (.agg #[.int .i64 0, .bool false, .string ⟨#[]⟩, .slice none 0 0])
def leafV (a : Option Addr) (cap : Nat) (d x : ByteArray) : Value := .iface 162 (.agg #[.int .i64 1, .bool true, .string ⟨#[]⟩, .slice a 2 cap, .string d, .string x])
def branchV (a : Option Addr) (cap : Nat) (cs : Array Value) (x : ByteArray) : Value := .iface 143 (.agg (branchCells a cap cs x))
def extV (a : Option Addr) (cap : Nat) (d s : ByteArray) (v : Value) : Value := .iface 165 (.agg #[.int .i64 2, .bool true, .string ⟨#[]⟩, .slice a 2 cap, .string d, .string s, v])

/-- v is the node of entries, as it was built, with at most f steps down; what is in it lies in blocks from lo on. -/
def BT (lo : Nat) (w : World) : Nat → Value → List Tr.Ent → Prop
  | 0 => fun v l => l = [] ∧ v = emptyV
  | f + 1 => fun v l =>
    (l = [] ∧ v = emptyV) ∨
    (∃ e a cap d x, l = [e] ∧ v = leafV a cap d x ∧ d.data.toList = e.dig ∧ x.data.toList = e.val ∧ RepW lo w.heap.size w (f + 3) (.agg #[.bool true, .string ⟨#[]⟩, .slice a 2 cap]) (Tr.node (f + 1) l)) ∨
    (∃ p q r, l = p :: q :: r ∧ Tr.shared l ≠ [] ∧ ∃ a cap d a2 c2 cs x, v = extV a cap d (refSum (Tr.node f (Tr.behind (Tr.shared l) l))) (branchV a2 c2 cs x) ∧ d.data.toList = Tr.shared l ∧ RepW lo w.heap.size w (f + 3) (.agg #[.bool true, .string ⟨#[]⟩, .slice a 2 cap]) (Tr.node (f + 1) l) ∧ BT lo w f (branchV a2 c2 cs x) (Tr.behind (Tr.shared l) l)) ∨
    (Tr.Forks l ∧ ∃ a cap cs x, v = branchV a cap cs x ∧ cs.size = 32 ∧ x.data.toList = Tr.valOf l ∧ RepW lo w.heap.size w (f + 3) (.agg #[.bool true, .string ⟨#[]⟩, .slice a 17 cap]) (Tr.node (f + 1) l) ∧
      ∀ d, d < 16 → ∃ vd, cs[2 * d]? = some (.string (refSum (Tr.node f (Tr.behind [UInt8.ofNat d] l)))) ∧ cs[2 * d + 1]? = some vd ∧ BT lo w f vd (Tr.behind [UInt8.ofNat d] l))

theorem bt_turn {lo lo' : Nat} {w w' : World} (hlo : lo' ≤ lo) (hs : w.heap.size ≤ w'.heap.size) (hb : ∀ k, lo ≤ k → k < w.heap.size → w'.heap[k]? = w.heap[k]?) : ∀ (f : Nat) (v : Value) (l : List Tr.Ent), BT lo w f v l → BT lo' w' f v l := by
  intro f
  induction f with
  | zero => intro v l h; exact h
  | succ f ih =>
    intro v l h
    rcases h with h | ⟨e, a, cap, d, x, h1, h2, h3, h4, h5⟩ | ⟨p, q, r, h1, h2, a, cap, d, a2, c2, cs, x, h3, h4, h5, h6⟩ | ⟨h1, a, cap, cs, x, h2, h3, h4, h5, h6⟩
    · exact .inl h
    · exact .inr (.inl ⟨e, a, cap, d, x, h1, h2, h3, h4, repW_turn hlo hs hb _ _ _ h5⟩)
    · exact .inr (.inr (.inl ⟨p, q, r, h1, h2, a, cap, d, a2, c2, cs, x, h3, h4, repW_turn hlo hs hb _ _ _ h5, ih _ _ h6⟩))
    · exact .inr (.inr (.inr ⟨h1, a, cap, cs, x, h2, h3, h4, repW_turn hlo hs hb _ _ _ h5, fun d hd => by
        obtain ⟨vd, g1, g2, g3⟩ := h6 d hd
        exact ⟨vd, g1, g2, ih _ _ g3⟩⟩))

theorem bt_later {lo : Nat} {w w' : World} {f : Nat} {v : Value} {l : List Tr.Ent} (h : BT lo w f v l) (hb : Below w.heap.size w w') : BT lo w' f v l := bt_turn (Nat.le_refl _) hb.size (fun k _ hk => hb.block k hk) f v l h
theorem bt_low {lo lo' : Nat} {w : World} {f : Nat} {v : Value} {l : List Tr.Ent} (h : BT lo w f v l) (hlo : lo' ≤ lo) : BT lo' w f v l := bt_turn hlo (Nat.le_refl _) (fun _ _ _ => rfl) f v l h

theorem nd_empty : Nd emptyV 0 false ⟨#[]⟩ none 0 0 := ⟨_, _, .inl rfl, rfl, rfl⟩
theorem nd_leaf (a : Option Addr) (cap : Nat) (d x : ByteArray) : Nd (leafV a cap d x) 1 true ⟨#[]⟩ a 2 cap := ⟨_, _, .inr (.inl rfl), rfl, rfl⟩
theorem nd_ext (a : Option Addr) (cap : Nat) (d s : ByteArray) (v : Value) : Nd (extV a cap d s v) 2 true ⟨#[]⟩ a 2 cap := ⟨_, _, .inr (.inr (.inl rfl)), rfl, rfl⟩

theorem node_nil_is (f : Nat) : Tr.node f [] = Tr.itB [] := by cases f <;> rfl

theorem repW_empty (lo B : Nat) (w : World) (m : Nat) : RepW lo B w (m + 1) (.agg #[.bool false, .string ⟨#[]⟩, .slice none 0 0]) (Tr.itB []) := ⟨none, 0, rfl, by simp [Tr.itB], fun i hi => by simp [Tr.itB] at hi⟩

/-- Of whatever kind: what it begins with, and its item. -/
theorem bt_nd {lo : Nat} {w : World} {f : Nat} {v : Value} {l : List Tr.Ent} (h : BT lo w f v l) : ∃ k l0 s a n cap, Nd v k l0 s a n cap ∧ RepW lo w.heap.size w (f + 2) (.agg #[.bool l0, .string s, .slice a n cap]) (Tr.node f l) := by
  cases f with
  | zero =>
    obtain ⟨rfl, rfl⟩ := h
    exact ⟨_, _, _, _, _, _, nd_empty, repW_empty _ _ _ _⟩
  | succ f =>
    rcases h with ⟨rfl, rfl⟩ | ⟨e, a, cap, d, x, h1, rfl, h3, h4, h5⟩ | ⟨p, q, r, h1, h2, a, cap, d, a2, c2, cs, x, rfl, h4, h5, h6⟩ | ⟨h1, a, cap, cs, x, rfl, h3, h4, h5, h6⟩
    · exact ⟨_, _, _, _, _, _, nd_empty, repW_empty _ _ _ _⟩
    · exact ⟨_, _, _, _, _, _, nd_leaf _ _ _ _, h5⟩
    · exact ⟨_, _, _, _, _, _, nd_ext _ _ _ _ _, h5⟩
    · exact ⟨_, _, _, _, _, _, nd_branch _ _ _ _, h5⟩

end Go.Proofs.Ytbmohenjphmlgaa
