/- Part 24 of a proof: what the last text needs. -/
import Derived.Test.YtbmohenjphmlgaaPart5
import Derived.Test.YtbmohenjphmlgaaPart19
import Derived.Test.YtbmohenjphmlgaaPart20
/- The walks of Root, Prove, Verify that are refused (of the program). -/
namespace Go.Proofs.Ytbmohenjphmlgaa
open Go.RowKit
set_option maxRecDepth 100000

theorem root_fault {a : Option Addr} {n cap : Nat} {w : World} {N : Nat} (hN : N ≠ 0) (h : Calls Try.prog 72 #[.slice a n cap, .string ⟨#[]⟩] w fun e w' => e = .returned (.int .i64 N) ∧ Below w.heap.size w w') :
    Calls Try.prog 24 #[.slice a n cap] w fun e w' => e = .returned (.tuple #[.string ⟨#[]⟩, .int .i64 N]) ∧ Below w.heap.size w w' := by
  have H1 : Calls Try.prog 53 #[.slice a n cap] w fun e w' => e = .returned (.tuple #[.string ⟨#[]⟩, .int .i64 N]) ∧ Below w.heap.size w w' := by
    have H := hid h
    have hN' : ¬ (N : Int) = 0 := by omega
    clear h hN
    go_enter Try.func53, Try.ntmps53
    go_wp2_with fail
    refine H.out.mono ?_
    rintro e w1 ⟨rfl, b1⟩
    have HB := hid b1
    clear b1
    go_wp2_with fail
    go_ret2
    exact ⟨rfl, HB.out⟩
  have H := hid H1
  clear h H1
  go_enter Try.func24, Try.ntmps24
  go_wp2_with fail
  refine H.out.mono ?_
  rintro e w1 ⟨rfl, b1⟩
  have HB := hid b1
  clear b1
  go_wp2_with fail
  go_ret2
  exact ⟨rfl, HB.out⟩

theorem prove_fault {a : Option Addr} {n cap : Nat} {key : ByteArray} {w : World} {N : Nat} (hN : N ≠ 0) (h : Calls Try.prog 72 #[.slice a n cap, .string key] w fun e w' => e = .returned (.int .i64 N) ∧ Below w.heap.size w w') :
    Calls Try.prog 27 #[.slice a n cap, .string key] w fun e w' => e = .returned (.tuple #[.slice none 0 0, .int .i64 N]) ∧ Below w.heap.size w w' := by
  have H1 : Calls Try.prog 57 #[.slice a n cap, .string key] w fun e w' => e = .returned (.tuple #[.slice none 0 0, .int .i64 N]) ∧ Below w.heap.size w w' := by
    have H := hid h
    have hN' : ¬ (N : Int) = 0 := by omega
    clear h hN
    go_enter Try.func57, Try.ntmps57
    go_wp2_with fail
    refine H.out.mono ?_
    rintro e w1 ⟨rfl, b1⟩
    have HB := hid b1
    clear b1
    go_wp2_with fail
    go_ret2
    exact ⟨rfl, HB.out⟩
  have H := hid H1
  clear h H1
  go_enter Try.func27, Try.ntmps27
  go_wp2_with fail
  refine H.out.mono ?_
  rintro e w1 ⟨rfl, b1⟩
  have HB := hid b1
  clear b1
  go_wp2_with fail
  go_ret2
  exact ⟨rfl, HB.out⟩

/-- Verify hands on what check tells. -/
theorem verify_out {root key : ByteArray} {v : Value} {w : World} {Q : ByteArray → Int → World → Prop} (h : Calls Try.prog 80 #[.string root, .string key, v] w fun e w' => ∃ a n cap s m, e = .returned (.tuple #[.slice a n cap, .string s, .int .i64 m]) ∧ Q s m w') :
    Calls Try.prog 32 #[.string root, .string key, v] w fun e w' => ∃ s m, e = .returned (.tuple #[.string s, .bool (!(s.toList == [])), .int .i64 m]) ∧ Q s m w' := by
  have H1 : Calls Try.prog 61 #[.string root, .string key, v] w fun e w' => ∃ s m, e = .returned (.tuple #[.string s, .bool (!(s.toList == [])), .int .i64 m]) ∧ Q s m w' := by
    have H := hid h
    clear h
    go_enter Try.func61, Try.ntmps61
    go_wp2_with fail
    refine H.out.mono ?_
    rintro e w1 ⟨a, n, cap, s, m, rfl, q⟩
    have HQ := hid q
    clear q
    go_wp2_with fail
    refine bodyPost_ret (v := .tuple #[.string s, .bool (!(s.toList == [])), .int .i64 m]) (by simp [results, Try.results61, go_sem]) rfl ?_
    exact ⟨s, m, rfl, HQ.out⟩
  have H := hid H1
  clear h H1
  go_enter Try.func32, Try.ntmps32
  go_wp2_with fail
  refine H.out.mono ?_
  rintro e w1 ⟨s, m, rfl, q⟩
  have HQ := hid q
  clear q
  go_wp2_with fail
  refine bodyPost_ret (v := .tuple #[.string s, .bool (!(s.toList == [])), .int .i64 m]) (by simp [results, Try.results32, go_sem]) rfl ?_
  exact ⟨s, m, rfl, HQ.out⟩

theorem check_fault {root key : ByteArray} {v : Value} {w : World} {N : Nat} (hN : N ≠ 0) (h : Calls Try.prog 103 #[.string root, .string key, v] w fun e w' => e = .returned (.int .i64 N) ∧ w' = w) :
    Calls Try.prog 80 #[.string root, .string key, v] w fun e w' => e = .returned (.tuple #[.slice none 0 0, .string ⟨#[]⟩, .int .i64 N]) ∧ Below w.heap.size w w' := by
  have H := hid h
  have hN' : ¬ (N : Int) = 0 := by omega
  clear h hN
  go_enter Try.func80, Try.ntmps80
  go_wp2_with fail
  refine H.out.mono ?_
  rintro e w1 ⟨rfl, hw⟩
  obtain rfl := hw.symm
  go_wp2_with fail
  refine bodyPost_ret (v := .tuple #[.slice none 0 0, .string ⟨#[]⟩, .int .i64 N]) (by simp [results, Try.results80, go_sem]) rfl ?_
  exact ⟨rfl, Below.refl _ _⟩

theorem verify_fault {root key : ByteArray} {v : Value} {w : World} {N : Nat} (hN : N ≠ 0) (h : Calls Try.prog 103 #[.string root, .string key, v] w fun e w' => e = .returned (.int .i64 N) ∧ w' = w) :
    Calls Try.prog 32 #[.string root, .string key, v] w fun e w' => ∃ s b, e = .returned (.tuple #[.string s, .bool b, .int .i64 N]) ∧ Below w.heap.size w w' := by
  refine (verify_out (Q := fun s m w' => m = N ∧ Below w.heap.size w w') ((check_fault hN h).mono ?_)).mono ?_
  · rintro e w' ⟨rfl, hb⟩; exact ⟨_, _, _, _, _, rfl, rfl, hb⟩
  · rintro e w' ⟨s, m, rfl, rfl, hb⟩; exact ⟨s, _, rfl, hb⟩

end Go.Proofs.Ytbmohenjphmlgaa

/- A tree of nodes as the program builds it, and what is left of it when memory turns. -/
namespace Go.Proofs.Ytbmohenjphmlgaa
open Go.RowKit
set_option maxRecDepth 100000

theorem branchCells_at (a : Option Addr) (cap : Nat) (cs : Array Value) (x : ByteArray) : (branchCells a cap cs x)[0]? = some (.int .i64 3) ∧ (branchCells a cap cs x)[1]? = some (.bool true) ∧ (branchCells a cap cs x)[2]? = some (.string ⟨#[]⟩) ∧ (branchCells a cap cs x)[3]? = some (.slice a 17 cap) := by
  unfold branchCells
  refine ⟨?_, ?_, ?_, ?_⟩ <;> rw [Array.append_assoc, Array.getElem?_append_left (by simp)] <;> rfl

theorem branchCells_head (a : Option Addr) (cap : Nat) (cs : Array Value) (x : ByteArray) : (branchCells a cap cs x).extract 0 4 = #[.int .i64 3, .bool true, .string ⟨#[]⟩, .slice a 17 cap] := by
  unfold branchCells
  rw [Array.append_assoc, Array.extract_append]
  simp

theorem nd_branch (a : Option Addr) (cap : Nat) (cs : Array Value) (x : ByteArray) : Nd (.iface 143 (.agg (branchCells a cap cs x))) 3 true ⟨#[]⟩ a 17 cap :=
  ⟨_, _, .inr (.inr (.inr rfl)), rfl, branchCells_head a cap cs x⟩

def emptyV : Value := .iface 158 (.agg #[.int .i64 0, .bool false, .string ⟨#[]⟩, .slice none 0 0])
def leafV (a : Option Addr) (cap : Nat) (d x : ByteArray) : Value := .iface 162 (.agg #[.int .i64 1, .bool true, .string ⟨#[]⟩, .slice a 2 cap, .string d, .string x])
def branchV (a : Option Addr) (cap : Nat) (cs : Array Value) (x : ByteArray) : Value := .iface 143 (.agg (branchCells a cap cs x))
def extV (a : Option Addr) (cap : Nat) (d s : ByteArray) (v : Value) : Value := .iface 165 (.agg #[.int .i64 2, .bool true, .string ⟨#[]⟩, .slice a 2 cap, .string d, .string s, v])

/-- v is the node of entries, as it was built, with at most f steps down; what is in it lies in blocks from lo on. -/
def BT (lo : Nat) (w : World) : Nat → Value → List Tr.Ent → Prop
  | 0 => fun v l => l = [] ∧ v = emptyV
  | f + 1 => fun v l =>
    (l = [] ∧ v = emptyV) ∨
    (∃ e a cap d x, l = [e] ∧ v = leafV a cap d x ∧ d.data.toList = e.dig ∧ x.data.toList = e.val ∧ RepW lo w.heap.size w (f + 3) (.agg #[.bool true, .string ⟨#[]⟩, .slice a 2 cap]) (Tr.node (f + 1) l)) ∨
    (∃ p q r, l = p :: q :: r ∧ Tr.shared l ≠ [] ∧ ∃ a cap d a2 c2 cs x, v = extV a cap d (refSum (Tr.node f (Tr.behind (Tr.shared l) l))) (branchV a2 c2 cs x) ∧ d.data.toList = Tr.shared l ∧ RepW lo w.heap.size w (f + 3) (.agg #[.bool true, .string ⟨#[]⟩, .slice a 2 cap]) (Tr.node (f + 1) l) ∧ BT lo w f (branchV a2 c2 cs x) (Tr.behind (Tr.shared l) l)) ∨
    (Tr.Forks l ∧ ∃ a cap cs x, v = branchV a cap cs x ∧ cs.size = 32 ∧ x.data.toList = Tr.valOf l ∧ RepW lo w.heap.size w (f + 3) (.agg #[.bool true, .string ⟨#[]⟩, .slice a 17 cap]) (Tr.node (f + 1) l) ∧
      ∀ d, d < 16 → ∃ vd, cs[2 * d]? = some (.string (refSum (Tr.node f (Tr.behind [UInt8.ofNat d] l)))) ∧ cs[2 * d + 1]? = some vd ∧ BT lo w f vd (Tr.behind [UInt8.ofNat d] l))

theorem bt_turn {lo lo' : Nat} {w w' : World} (hlo : lo' ≤ lo) (hs : w.heap.size ≤ w'.heap.size) (hb : ∀ k, lo ≤ k → k < w.heap.size → w'.heap[k]? = w.heap[k]?) : ∀ (f : Nat) (v : Value) (l : List Tr.Ent), BT lo w f v l → BT lo' w' f v l := by
  intro f
  induction f with
  | zero => intro v l h; exact h
  | succ f ih =>
    intro v l h
    rcases h with h | ⟨e, a, cap, d, x, h1, h2, h3, h4, h5⟩ | ⟨p, q, r, h1, h2, a, cap, d, a2, c2, cs, x, h3, h4, h5, h6⟩ | ⟨h1, a, cap, cs, x, h2, h3, h4, h5, h6⟩
    · exact .inl h
    · exact .inr (.inl ⟨e, a, cap, d, x, h1, h2, h3, h4, repW_turn hlo hs hb _ _ _ h5⟩)
    · exact .inr (.inr (.inl ⟨p, q, r, h1, h2, a, cap, d, a2, c2, cs, x, h3, h4, repW_turn hlo hs hb _ _ _ h5, ih _ _ h6⟩))
    · exact .inr (.inr (.inr ⟨h1, a, cap, cs, x, h2, h3, h4, repW_turn hlo hs hb _ _ _ h5, fun d hd => by
        obtain ⟨vd, g1, g2, g3⟩ := h6 d hd
        exact ⟨vd, g1, g2, ih _ _ g3⟩⟩))

theorem bt_later {lo : Nat} {w w' : World} {f : Nat} {v : Value} {l : List Tr.Ent} (h : BT lo w f v l) (hb : Below w.heap.size w w') : BT lo w' f v l := bt_turn (Nat.le_refl _) hb.size (fun k _ hk => hb.block k hk) f v l h
theorem bt_low {lo lo' : Nat} {w : World} {f : Nat} {v : Value} {l : List Tr.Ent} (h : BT lo w f v l) (hlo : lo' ≤ lo) : BT lo' w f v l := bt_turn hlo (Nat.le_refl _) (fun _ _ _ => rfl) f v l h

theorem nd_empty : Nd emptyV 0 false ⟨#[]⟩ none 0 0 := ⟨_, _, .inl rfl, rfl, rfl⟩
theorem nd_leaf (a : Option Addr) (cap : Nat) (d x : ByteArray) : Nd (leafV a cap d x) 1 true ⟨#[]⟩ a 2 cap := ⟨_, _, .inr (.inl rfl), rfl, rfl⟩
theorem nd_ext (a : Option Addr) (cap : Nat) (d s : ByteArray) (v : Value) : Nd (extV a cap d s v) 2 true ⟨#[]⟩ a 2 cap := ⟨_, _, .inr (.inr (.inl rfl)), rfl, rfl⟩

theorem node_nil_is (f : Nat) : Tr.node f [] = Tr.itB [] := by cases f <;> rfl

theorem repW_empty (lo B : Nat) (w : World) (m : Nat) : RepW lo B w (m + 1) (.agg #[.bool false, .string ⟨#[]⟩, .slice none 0 0]) (Tr.itB []) := ⟨none, 0, rfl, by simp [Tr.itB], fun i hi => by simp [Tr.itB] at hi⟩

/-- Of whatever kind: what it begins with, and its item. -/
theorem bt_nd {lo : Nat} {w : World} {f : Nat} {v : Value} {l : List Tr.Ent} (h : BT lo w f v l) : ∃ k l0 s a n cap, Nd v k l0 s a n cap ∧ RepW lo w.heap.size w (f + 2) (.agg #[.bool l0, .string s, .slice a n cap]) (Tr.node f l) := by
  cases f with
  | zero =>
    obtain ⟨rfl, rfl⟩ := h
    exact ⟨_, _, _, _, _, _, nd_empty, repW_empty _ _ _ _⟩
  | succ f =>
    rcases h with ⟨rfl, rfl⟩ | ⟨e, a, cap, d, x, h1, rfl, h3, h4, h5⟩ | ⟨p, q, r, h1, h2, a, cap, d, a2, c2, cs, x, rfl, h4, h5, h6⟩ | ⟨h1, a, cap, cs, x, rfl, h3, h4, h5, h6⟩
    · exact ⟨_, _, _, _, _, _, nd_empty, repW_empty _ _ _ _⟩
    · exact ⟨_, _, _, _, _, _, nd_leaf _ _ _ _, h5⟩
    · exact ⟨_, _, _, _, _, _, nd_ext _ _ _ _ _, h5⟩
    · exact ⟨_, _, _, _, _, _, nd_branch _ _ _ _, h5⟩

end Go.Proofs.Ytbmohenjphmlgaa

/- The walk of buildBranch (of the program), once build of what is behind each digit is known. -/
namespace Go.Proofs.Ytbmohenjphmlgaa
open Go.RowKit
set_option maxRecDepth 100000

/-- build answers with the tree of these pairs. -/
def BuildOk (f : Nat) : Prop := ∀ (w : World) (a : Option Addr) (cap : Nat) (l : List (ByteArray × ByteArray)), PRd w.heap.size w a l → l.length ≤ 1000 → Tr.Fits f (ents l) → Tr.Apart (ents l) →
  Calls Try.prog 73 #[.slice a l.length cap] w fun e w' => ∃ v, e = .returned v ∧ BT w.heap.size w' f v (ents l) ∧ Below w.heap.size w w'

def BranchOk (f : Nat) : Prop := ∀ (w : World) (a : Option Addr) (cap : Nat) (l : List (ByteArray × ByteArray)), PRd w.heap.size w a l → l.length ≤ 1000 → Tr.Fits f (ents l) → Tr.Apart (ents l) → Tr.Forks (ents l) →
  Calls Try.prog 99 #[.slice a l.length cap] w fun e w' => ∃ a2 c2 cs x, e = .returned (.agg (branchCells a2 c2 cs x)) ∧ BT w.heap.size w' f (branchV a2 c2 cs x) (ents l) ∧ Below w.heap.size w w'

/-- The row of references, of which the first k are there. -/
def RefsTo (lo : Nat) (w : World) (f : Nat) (l : List Tr.Ent) (k : Nat) (cs : Array Value) : Prop :=
  cs.size = 32 ∧ ∀ d, d < k → ∃ vd, cs[2 * d]? = some (.string (refSum (Tr.node f (Tr.behind [UInt8.ofNat d] l)))) ∧ cs[2 * d + 1]? = some vd ∧ BT lo w f vd (Tr.behind [UInt8.ofNat d] l)

def refsZero : Array Value := #[.string ⟨#[]⟩, .nilIface, .string ⟨#[]⟩, .nilIface, .string ⟨#[]⟩, .nilIface, .string ⟨#[]⟩, .nilIface, .string ⟨#[]⟩, .nilIface, .string ⟨#[]⟩, .nilIface, .string ⟨#[]⟩, .nilIface, .string ⟨#[]⟩, .nilIface, .string ⟨#[]⟩, .nilIface, .string ⟨#[]⟩, .nilIface, .string ⟨#[]⟩, .nilIface, .string ⟨#[]⟩, .nilIface, .string ⟨#[]⟩, .nilIface, .string ⟨#[]⟩, .nilIface, .string ⟨#[]⟩, .nilIface, .string ⟨#[]⟩, .nilIface]

theorem refsTo_zero (lo : Nat) (w : World) (f : Nat) (l : List Tr.Ent) : RefsTo lo w f l 0 refsZero := ⟨rfl, fun d hd => by omega⟩

/-- One reference more. -/
theorem refsTo_succ {lo : Nat} {w w' : World} {f : Nat} {l : List Tr.Ent} {k : Nat} {cs : Array Value} {T : TypeId} {A : Array Value} (h : RefsTo lo w f l k cs) (hk : k < 16) (hs : w.heap.size ≤ w'.heap.size) (hb : ∀ k, lo ≤ k → k < w.heap.size → w'.heap[k]? = w.heap[k]?)
    (hv : BT lo w' f (.iface T (.agg A)) (Tr.behind [UInt8.ofNat k] l)) : RefsTo lo w' f l (k + 1) ((cs.setIfInBounds (k * 2) (.string (refSum (Tr.node f (Tr.behind [UInt8.ofNat k] l))))).setIfInBounds (k * 2 + 1) (.iface T (.agg A))) := by
  obtain ⟨h1, h3⟩ := h
  refine ⟨by simp [h1], ?_⟩
  intro d hd
  by_cases e : d = k
  · subst e
    refine ⟨_, ?_, ?_, hv⟩
    · rw [Array.getElem?_setIfInBounds, if_neg (by omega), Array.getElem?_setIfInBounds, if_pos (by omega), if_pos (by omega)]
    · rw [Array.getElem?_setIfInBounds, if_pos (by omega), if_pos (by simp; omega)]
  · obtain ⟨vd, g1, g2, g3⟩ := h3 d (by omega)
    refine ⟨vd, ?_, ?_, bt_turn (Nat.le_refl _) hs hb _ _ _ g3⟩
    · rw [Array.getElem?_setIfInBounds, if_neg (by omega), Array.getElem?_setIfInBounds, if_neg (by omega)]; exact g1
    · rw [Array.getElem?_setIfInBounds, if_neg (by omega), Array.getElem?_setIfInBounds, if_neg (by omega)]; exact g2

theorem two_set_at {W : World} {g i : Nat} {cs : Array Value} {a b : Value} {e : TypeId} {fz : Nat × Nat} (h : W.heap[g]? = some (.cells cs e fz)) : ((W.setCell ⟨g, i, none⟩ a).setCell ⟨g, i + 1, none⟩ b).heap[g]? = some (.cells ((cs.setIfInBounds i a).setIfInBounds (i + 1) b) e fz) := by
  simp [World.setCell, Array.getElem?_modify, h]

theorem two_set_other {W : World} {g i k : Nat} {a b : Value} (h : k ≠ g) : ((W.setCell ⟨g, i, none⟩ a).setCell ⟨g, i + 1, none⟩ b).heap[k]? = W.heap[k]? := by
  simp [World.setCell, Array.getElem?_modify, Ne.symm h]

/-- What stands while the references are made. -/
structure Mid (w : World) (f : Nat) (l : List Tr.Ent) (k : Nat) (wr : World) (cs : Array Value) : Prop where
  below : Below w.heap.size w wr
  res : wr.heap[w.heap.size]? = some (.cells branchZero 143 (0, 0))
  row : wr.heap[w.heap.size + 1]? = some (.cells cs 141 (0, 0))
  refs : RefsTo (w.heap.size + 1 + 1) wr f l k cs

theorem mid_start {w : World} {f : Nat} {l : List Tr.Ent} : Mid w f l 0 ((w.alloc (.cells branchZero 143)).alloc (.cells refsZero 141)) refsZero :=
  ⟨((Below.refl _ _).alloc (Nat.le_refl _) _).alloc (by rw [alloc_size]; omega) _, (Below.heap_alloc _ _ _ (by rw [alloc_size]; omega)).trans (heap_alloc_new w _), by
    have := heap_alloc_new (w.alloc (.cells branchZero 143)) (.cells refsZero 141)
    rwa [alloc_size] at this, refsTo_zero _ _ _ _⟩

theorem mid_next {w wr w5 : World} {f k : Nat} {l : List Tr.Ent} {cs A : Array Value} {T : TypeId} (h : Mid w f l k wr cs) (hk : k < 16) (hb : Below wr.heap.size wr w5) (hv : BT (w.heap.size + 1 + 1) w5 f (.iface T (.agg A)) (Tr.behind [UInt8.ofNat k] l)) :
    ∃ cs', Mid w f l (k + 1) ((w5.setCell ⟨w.heap.size + 1, k * 2, none⟩ (.string (refSum (Tr.node f (Tr.behind [UInt8.ofNat k] l))))).setCell ⟨w.heap.size + 1, k * 2 + 1, none⟩ (.iface T (.agg A))) cs' := by
  have r5 := (hb.block _ (Array.getElem?_eq_some_iff.1 h.row).1).trans h.row
  have z5 := (hb.block _ (Array.getElem?_eq_some_iff.1 h.res).1).trans h.res
  have hsz : ((w5.setCell ⟨w.heap.size + 1, k * 2, none⟩ (.string (refSum (Tr.node f (Tr.behind [UInt8.ofNat k] l))))).setCell ⟨w.heap.size + 1, k * 2 + 1, none⟩ (.iface T (.agg A))).heap.size = w5.heap.size := by simp [World.setCell]
  refine ⟨_, ⟨?_, ?_, two_set_at r5, refsTo_succ h.refs hk (by rw [hsz]; exact hb.size) (fun j hj hj2 => ?_) (bt_turn (Nat.le_refl _) (by rw [hsz]; exact Nat.le_refl _) (fun j hj _ => two_set_other (by omega)) _ _ _ hv)⟩⟩
  · exact ((h.below.trans (hb.mono h.below.size)).setCell (p := ⟨w.heap.size + 1, k * 2, none⟩) (Nat.le_succ _) _).setCell (p := ⟨w.heap.size + 1, k * 2 + 1, none⟩) (Nat.le_succ _) _
  · rw [two_set_other (by omega)]; exact z5
  · rw [two_set_other (by omega)]; exact hb.block j hj2

theorem Mid.later {w wr w' : World} {f k : Nat} {l : List Tr.Ent} {cs : Array Value} (h : Mid w f l k wr cs) (hb : Below wr.heap.size wr w') : Mid w f l k w' cs :=
  ⟨h.below.trans (hb.mono h.below.size), (hb.block _ (Array.getElem?_eq_some_iff.1 h.res).1).trans h.res, (hb.block _ (Array.getElem?_eq_some_iff.1 h.row).1).trans h.row, h.refs.1, fun d hd => by
    obtain ⟨vd, g1, g2, g3⟩ := h.refs.2 d hd
    exact ⟨vd, g1, g2, bt_later g3 hb⟩⟩

theorem valOf_take (l : List (ByteArray × ByteArray)) (k : Nat) (h : k < l.length) : Tr.valOf (ents (l.take (k + 1))) = if l[k].1.data.toList = [] then l[k].2.data.toList else Tr.valOf (ents (l.take k)) := by
  unfold ents Tr.valOf
  rw [List.take_succ_eq_append_getElem h, List.map_append, List.foldl_append]
  rfl

theorem mid_refs {w wr : World} {f : Nat} {l : List Tr.Ent} {cs : Array Value} (h : Mid w f l 16 wr cs) : Refs (w.heap.size + 1 + 1) wr (f + 1) cs ((List.range 16).map fun d => Tr.node f (Tr.behind [UInt8.ofNat d] l)) := by
  refine ⟨h.refs.1, by simp, fun d hd => ?_⟩
  have hd16 : d < 16 := by simpa using hd
  obtain ⟨vd, g1, g2, g3⟩ := h.refs.2 d hd16
  obtain ⟨k, l0, s, a, n, cap, hn, hr⟩ := bt_nd g3
  refine ⟨vd, k, l0, s, a, n, cap, ?_, g2, hn, ?_⟩
  · simpa using g1
  · simpa using hr

/-- What comes out. -/
theorem mid_end {w wr w5 : World} {f : Nat} {l : List Tr.Ent} {cs BB : Array Value} {a2 : Option Addr} {c2 : Nat} {x : ByteArray} (h : Mid w f l 16 wr cs) (hfk : Tr.Forks l) (hx : x.data.toList = Tr.valOf l) (hb : Below wr.heap.size wr w5)
    (hr : RepW (w.heap.size + 1 + 1) w5.heap.size w5 (f + 1 + 2) (.agg #[.bool true, .string ⟨#[]⟩, .slice a2 17 c2]) (Tr.itL (((List.range 16).map fun d => Tr.node f (Tr.behind [UInt8.ofNat d] l)).map Tr.ref ++ [Tr.itB x.data.toList]))) :
    BT w.heap.size (w5.setRow w.heap.size BB) (f + 1) (branchV a2 c2 cs x) l ∧ Below w.heap.size w (w5.setRow w.heap.size BB) := by
  have hsz : (w5.setRow w.heap.size BB).heap.size = w5.heap.size := by simp [World.setRow]
  have hn : Tr.node (f + 1) l = Tr.itL (((List.range 16).map fun d => Tr.node f (Tr.behind [UInt8.ofNat d] l)).map Tr.ref ++ [Tr.itB x.data.toList]) := by
    rw [Tr.node_fork f hfk, hx, List.map_map]; rfl
  refine ⟨.inr (.inr (.inr ⟨hfk, a2, c2, cs, x, rfl, h.refs.1, hx, ?_, fun d hd => ?_⟩)), setRow_below (h.below.trans (hb.mono h.below.size)) (Nat.le_refl _)⟩
  · rw [hn]
    exact repW_turn (by omega) (by rw [hsz]; exact Nat.le_refl _) (fun j hj _ => setRow_other _ _ _ _ (by omega)) _ _ _ hr
  · obtain ⟨vd, g1, g2, g3⟩ := h.refs.2 d hd
    exact ⟨vd, g1, g2, bt_turn (by omega) (by rw [hsz]; exact hb.size) (fun j hj hj2 => by rw [setRow_other _ _ _ _ (by omega)]; exact hb.block j hj2) _ _ _ g3⟩

set_option maxHeartbeats 6400000 in
theorem branch_ok (f : Nat) (hf : f ≤ 50) (hP : BuildOk f) : BranchOk (f + 1) := by
  intro w a cap l hr hl hfit hap hfk
  have HR := hid hr
  have HPF := hid hP
  have HOD := hid (fun n w h => oneDigit_any n w h)
  have HBH := hid (fun p a cap l w h1 h2 => behindP_any p a cap l w h1 h2)
  have HFIT := hid hfit
  have HAP := hid hap
  have HFK := hid hfk
  clear hr hP hfit hap hfk
  go_enter Try.func99, Try.ntmps99
  go_upto_region 2 with fail
  have HM0 : Hid (Mid w f (ents l) 0 ((w.alloc (.cells #[.int .i64 0, .bool false, .string ⟨#[]⟩, .slice none 0 0, .string ⟨#[]⟩, .nilIface, .string ⟨#[]⟩, .nilIface, .string ⟨#[]⟩, .nilIface, .string ⟨#[]⟩, .nilIface, .string ⟨#[]⟩, .nilIface, .string ⟨#[]⟩, .nilIface, .string ⟨#[]⟩, .nilIface, .string ⟨#[]⟩, .nilIface, .string ⟨#[]⟩, .nilIface, .string ⟨#[]⟩, .nilIface, .string ⟨#[]⟩, .nilIface, .string ⟨#[]⟩, .nilIface, .string ⟨#[]⟩, .nilIface, .string ⟨#[]⟩, .nilIface, .string ⟨#[]⟩, .nilIface, .string ⟨#[]⟩, .nilIface, .string ⟨#[]⟩] 143)).alloc (.cells #[.string ⟨#[]⟩, .nilIface, .string ⟨#[]⟩, .nilIface, .string ⟨#[]⟩, .nilIface, .string ⟨#[]⟩, .nilIface, .string ⟨#[]⟩, .nilIface, .string ⟨#[]⟩, .nilIface, .string ⟨#[]⟩, .nilIface, .string ⟨#[]⟩, .nilIface, .string ⟨#[]⟩, .nilIface, .string ⟨#[]⟩, .nilIface, .string ⟨#[]⟩, .nilIface, .string ⟨#[]⟩, .nilIface, .string ⟨#[]⟩, .nilIface, .string ⟨#[]⟩, .nilIface, .string ⟨#[]⟩, .nilIface, .string ⟨#[]⟩, .nilIface] 141)) refsZero) := mid_start
  generalize (w.alloc (.cells #[.int .i64 0, .bool false, .string ⟨#[]⟩, .slice none 0 0, .string ⟨#[]⟩, .nilIface, .string ⟨#[]⟩, .nilIface, .string ⟨#[]⟩, .nilIface, .string ⟨#[]⟩, .nilIface, .string ⟨#[]⟩, .nilIface, .string ⟨#[]⟩, .nilIface, .string ⟨#[]⟩, .nilIface, .string ⟨#[]⟩, .nilIface, .string ⟨#[]⟩, .nilIface, .string ⟨#[]⟩, .nilIface, .string ⟨#[]⟩, .nilIface, .string ⟨#[]⟩, .nilIface, .string ⟨#[]⟩, .nilIface, .string ⟨#[]⟩, .nilIface, .string ⟨#[]⟩, .nilIface, .string ⟨#[]⟩, .nilIface, .string ⟨#[]⟩] 143)).alloc (.cells #[.string ⟨#[]⟩, .nilIface, .string ⟨#[]⟩, .nilIface, .string ⟨#[]⟩, .nilIface, .string ⟨#[]⟩, .nilIface, .string ⟨#[]⟩, .nilIface, .string ⟨#[]⟩, .nilIface, .string ⟨#[]⟩, .nilIface, .string ⟨#[]⟩, .nilIface, .string ⟨#[]⟩, .nilIface, .string ⟨#[]⟩, .nilIface, .string ⟨#[]⟩, .nilIface, .string ⟨#[]⟩, .nilIface, .string ⟨#[]⟩, .nilIface, .string ⟨#[]⟩, .nilIface, .string ⟨#[]⟩, .nilIface, .string ⟨#[]⟩, .nilIface] 141) = W at *
  go_wp2_with fail
  go_loopw [8] (fun i wr => ∃ k : Nat, i = .int .i64 k ∧ k ≤ 16 ∧ Hid (∃ cs, Mid w f (ents l) k wr cs)) (fun i _ => 16 - (intOf i).toNat)
  case atStart => exact ⟨0, rfl, Nat.zero_le _, _, HM0.out⟩
  case round =>
    obtain ⟨k, rfl, hk, HH⟩ := hrel
    by_cases hlt : k < 16
    · have i1 : (0 : Int) ≤ (k : Int) := by omega
      have i2 : (k : Int) < 16 := by omega
      go_wp2_with fail
      refine (HOD.out _ _ (by omega)).mono ?_
      rintro e w1 ⟨rfl, b1⟩
      have HB1 := hid b1
      clear b1
      go_wp2_with fail
      have HB1W : Hid (Below w.heap.size w w1) := HH.out.elim fun _ h => h.below.trans (HB1.out.mono h.below.size)
      refine (HBH.out _ _ _ _ _ ((HR.out.later HB1W.out).wider HB1W.out.size) (by omega)).mono ?_
      rintro e w2 ⟨v2, rfl, o2, b2⟩
      obtain ⟨a2, c2, hv2, p2⟩ := prd_of_pown o2
      subst hv2
      have HP2 := hid p2
      have HB2 : Hid (Below wr.heap.size wr w2) := HB1.out.trans (b2.mono HB1.out.size)
      have HE2 : Hid (ents (behindB ⟨#[UInt8.ofNat k]⟩ l) = Tr.behind [UInt8.ofNat k] (ents l)) := behindB_ents _ _
      have HL2 : Hid ((behindB ⟨#[UInt8.ofNat k]⟩ l).length ≤ 1000) := Nat.le_trans (behindB_le _ _) hl
      clear b2 o2 p2
      generalize behindB ⟨#[UInt8.ofNat k]⟩ l = lk at *
      go_wp2_with fail
      refine (HPF.out _ _ _ _ HP2.out HL2.out (by rw [HE2.out]; exact HFIT.out.behind (by simp)) (by rw [HE2.out]; exact HAP.out.behind)).mono ?_
      rintro e w3 ⟨v3, rfl, t3, b3⟩
      have HB3 : Hid (Below wr.heap.size wr w3) := HB2.out.trans (b3.mono HB2.out.size)
      rw [HE2.out] at t3
      have HT3 : Hid (BT (w.heap.size + 1 + 1) w3 f v3 (Tr.behind [UInt8.ofNat k] (ents l))) := bt_low t3 (by obtain ⟨_, hmid⟩ := HH.out; have := (Array.getElem?_eq_some_iff.1 hmid.row).1; have := HB2.out.size; omega)
      obtain ⟨kk, l0, s0, aa, nn, cc, hnd, hrep⟩ := bt_nd t3
      have HRT := hid (referenceTo_any w3 hnd (node_small f _ (by omega) (HFIT.out.behind (s := [UInt8.ofNat k]) (by simp))) (repW_rep _ _ _ hrep))
      obtain ⟨T, A, _, rfl, _⟩ := hnd
      clear t3 b3 hrep
      go_wp2_with fail
      refine HRT.out.mono ?_
      rintro e w4 ⟨rfl, b4⟩
      have HB4 : Hid (Below wr.heap.size wr w4) := HB3.out.trans (b4.mono HB3.out.size)
      have HT4 : Hid (BT (w.heap.size + 1 + 1) w4 f (.iface T (.agg A)) (Tr.behind [UInt8.ofNat k] (ents l))) := bt_later HT3.out b4
      obtain ⟨cs, hmid⟩ := HH.out
      have HRW : Hid (w4.heap[w.heap.size + 1]? = some (.cells cs 141 (0, 0))) := (HB4.out.block _ (Array.getElem?_eq_some_iff.1 hmid.row).1).trans hmid.row
      obtain ⟨u0, hu0⟩ : ∃ u, cs[k * 2]? = some u := ⟨_, Array.getElem?_eq_getElem (by rw [hmid.refs.1]; omega)⟩
      obtain ⟨u1, hu1⟩ : ∃ u, cs[k * 2 + 1]? = some u := ⟨_, Array.getElem?_eq_getElem (by rw [hmid.refs.1]; omega)⟩
      have q0 := (cell_of_row _ _ (k * 2) _ _ _ HRW.out).trans hu0
      have q1 := (cell_of_row _ _ (k * 2 + 1) _ _ _ HRW.out).trans hu1
      have f0 := frozen_of_row _ _ (k * 2) _ _ HRW.out
      have f1 := frozen_of_row _ _ (k * 2 + 1) _ _ HRW.out
      have HN := hid (mid_next hmid hlt HB4.out HT4.out)
      clear b4 hmid hu0 hu1
      generalize refSum (Tr.node f (Tr.behind [UInt8.ofNat k] (ents l))) = sk at *
      go_wp2_with fail
      exact ⟨⟨k + 1, by go_num, by omega, HN.out⟩, by simp [intOf]; omega⟩
    · have i2 : ¬ (k : Int) < 16 := by omega
      obtain rfl : k = 16 := by omega
      obtain ⟨cs, hmid⟩ := HH.out
      have HMD := hid hmid
      clear HH hmid hk hlt
      go_wp2_with fail
      go_loopw [5, 22] (fun v i wx => ∃ (m : Nat) (x : ByteArray), v = .string x ∧ i = .int .i64 m ∧ m ≤ l.length ∧ Hid (x.data.toList = Tr.valOf (ents (l.take m)) ∧ Mid w f (ents l) 16 wx cs)) (fun _ i _ => l.length - (intOf i).toNat)
      case atStart => exact ⟨0, ⟨#[]⟩, rfl, rfl, Nat.zero_le _, rfl, HMD.out⟩
      case round =>
        obtain ⟨m, x, rfl, rfl, hm, HV⟩ := hrel
        by_cases hlt : m < l.length
        · obtain ⟨b, off, rfl, hb, e0, e1⟩ := HR.out m hlt
          have g0 := (HV.out.2.below.cell (p := ⟨b, off + m * 2, none⟩) hb).trans e0
          have g1 := (HV.out.2.below.cell (p := ⟨b, off + m * 2 + 1, none⟩) hb).trans e1
          have j1 : (0 : Int) ≤ (m : Int) := by omega
          have j2 : (m : Int) < (l.length : Int) := by omega
          have HVT := hid (valOf_take l m hlt)
          clear e0 e1
          by_cases hz : l[m].1.data.toList = []
          · have hz' : (l[m].1.toList == []) = true := by rw [ByteArray.toList_eq, hz]; rfl
            have HX : Hid (l[m].2.data.toList = Tr.valOf (ents (l.take (m + 1)))) := by rw [Hid, HVT.out, if_pos hz]
            clear hz
            go_wp2_with fail
            exact ⟨⟨m + 1, _, rfl, by go_num, by omega, HX.out, HV.out.2.later ((Below.refl _ _).alloc (Nat.le_refl _) _)⟩, by simp [intOf]; omega⟩
          · have hz' : (l[m].1.toList == []) = false := by rw [ByteArray.toList_eq, beq_eq_false_iff_ne]; exact hz
            have HX : Hid (x.data.toList = Tr.valOf (ents (l.take (m + 1)))) := by rw [Hid, HVT.out, if_neg hz]; exact HV.out.1
            clear hz
            go_wp2_with fail
            exact ⟨⟨m + 1, _, rfl, by go_num, by omega, HX.out, HV.out.2.later ((Below.refl _ _).alloc (Nat.le_refl _) _)⟩, by simp [intOf]; omega⟩
        · have j2 : ¬ (m : Int) < (l.length : Int) := by omega
          have HX : Hid (x.data.toList = Tr.valOf (ents l)) := by
            have := HV.out.1
            rwa [List.take_of_length_le (by omega)] at this
          have HM2 := hid HV.out.2
          clear HV hm
          go_upto_region 14 with fail
          refine wp_region_list ?_
          refine wpList_load_row rfl 141 (.tmp 3) rfl (w.heap.size + 1) rfl 141 cs (0, 0) _ HM2.out.row Try.underlying141 rfl (by rw [HM2.out.refs.1]; kernel_rfl) ?_
          try simp only [Act.put]
          go_wp2_with fail
          have HNB := hid (newBranch_any cs x _ (f + 1) (w.heap.size + 1 + 1) _ (by have := (Array.getElem?_eq_some_iff.1 HM2.out.row).1; omega) (mid_refs HM2.out))
          refine HNB.out.mono ?_
          rintro e w5 ⟨a2, c2, rfl, r5, b5⟩
          have HSZ := hid (branchCells_size a2 c2 cs x HM2.out.refs.1)
          have HONE := hid (branchCells_one a2 c2 cs x (refs_one (mid_refs HM2.out)))
          have HZ5 : Hid (w5.heap[w.heap.size]? = some (.cells branchZero 143 (0, 0))) := (b5.block _ (Array.getElem?_eq_some_iff.1 HM2.out.res).1).trans HM2.out.res
          have HE := hid (mid_end (BB := branchCells a2 c2 cs x) HM2.out HFK.out HX.out b5 r5)
          have HGE : Hid ((w5.setRow w.heap.size (branchCells a2 c2 cs x)).heap[w.heap.size]? = some (.cells (branchCells a2 c2 cs x) 143 (0, 0))) := setRow_heap _ _ _ _ _ _ HZ5.out
          clear b5 r5 HNB
          have HBV : Hid (branchV a2 c2 cs x = branchV a2 c2 cs x) := rfl
          obtain ⟨BB, hBB⟩ : ∃ B, B = branchCells a2 c2 cs x := ⟨_, rfl⟩
          have HBB : Hid (BB = branchCells a2 c2 cs x) := hBB
          rw [← hBB] at HSZ HONE HE HGE ⊢
          clear hBB HMD HM2 HBV
          go_wp2_with (refine wpList_store_row rfl 143 (.tmp 2) (.tmp 34) rfl w.heap.size BB rfl rfl 143 branchZero HZ5.out (by rw [HSZ.out]; kernel_rfl) (by rw [HSZ.out]; rfl) HONE.out ?_)
          refine bodyPost_ret (v := .agg BB) (results_cell_row Try.results99 _ _ w.heap.size 143 BB (0, 0) _ rfl HGE.out Try.underlying143 rfl (by rw [HSZ.out]; kernel_rfl)) rfl ?_
          exact ⟨a2, c2, cs, x, by rw [HBB.out], HE.out.1, HE.out.2⟩
end Go.Proofs.Ytbmohenjphmlgaa
