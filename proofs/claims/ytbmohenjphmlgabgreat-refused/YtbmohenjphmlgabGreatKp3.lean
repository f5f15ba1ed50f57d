/- What a keeper has in memory; Open; the calls of Trust that change nothing (of the program). -/
import Derived.Test.YtbmohenjphmlgabGreatKp2
import Derived.Test.YtbmohenjphmlgabGreatRegLaw
namespace Go.Proofs.YtbmohenjphmlgabGreat
open Go.RowKit
set_option maxRecDepth 100000

/-- Only blocks of 'own' have turned. -/
structure Turns (own : Nat → Prop) (w w' : World) : Prop where
  os : w'.os = w.os
  tape : w'.tape = w.tape
  output : w'.output = w.output
  size : w.heap.size ≤ w'.heap.size
  block : ∀ k, k < w.heap.size → ¬ own k → w'.heap[k]? = w.heap[k]?

theorem Turns.refl (own : Nat → Prop) (w : World) : Turns own w w := ⟨rfl, rfl, rfl, Nat.le_refl _, fun _ _ _ => rfl⟩
theorem Turns.of_below {own : Nat → Prop} {w w' : World} (h : Below w.heap.size w w') : Turns own w w' := ⟨h.os, h.tape, h.output, h.size, fun k hk _ => h.block k hk⟩
theorem Turns.trans {own : Nat → Prop} {a b c : World} (h : Turns own a b) (k : Turns own b c) : Turns own a c :=
  ⟨k.os.trans h.os, k.tape.trans h.tape, k.output.trans h.output, Nat.le_trans h.size k.size, fun i hi ho => (k.block i (Nat.lt_of_lt_of_le hi h.size) ho).trans (h.block i hi ho)⟩
theorem Turns.wider {own own' : Nat → Prop} {w w' : World} (h : Turns own w w') (ho : ∀ k, k < w.heap.size → own k → own' k) : Turns own' w w' := ⟨h.os, h.tape, h.output, h.size, fun k hk hn => h.block k hk fun x => hn (ho k hk x)⟩
theorem Turns.below {own : Nat → Prop} {W w w' : World} {B : Nat} (h : Turns own w w') (hb : Below B W w) (hB : B ≤ w.heap.size) (ho : ∀ k, own k → B ≤ k) : Below B W w' :=
  hb.trans ⟨h.os, h.tape, h.output, h.size, fun k hk => h.block k (by omega) fun x => by have := ho k x; omega⟩

/-- Heads in a row of its own. -/
def hcells (l : List (Int × ByteArray)) : List Value := l.flatMap fun p => [.int .i64 p.1, .string p.2]
theorem hcells_len (l : List (Int × ByteArray)) : (hcells l).length = l.length * 2 := by
  induction l with
  | nil => rfl
  | cons x l ih =>
    have e : hcells (x :: l) = .int .i64 x.1 :: .string x.2 :: hcells l := rfl
    rw [e]; simp only [List.length_cons, ih]; omega
theorem hcells_at (l : List (Int × ByteArray)) (i : Nat) (h : i < l.length) : (hcells l)[i * 2]? = some (.int .i64 l[i].1) ∧ (hcells l)[i * 2 + 1]? = some (.string l[i].2) := by
  induction l generalizing i with
  | nil => simp at h
  | cons x l ih =>
    cases i with
    | zero => exact ⟨rfl, rfl⟩
    | succ i =>
      have := ih i (by simpa using h)
      have e : hcells (x :: l) = .int .i64 x.1 :: .string x.2 :: hcells l := rfl
      rw [e, show (i + 1) * 2 = i * 2 + 1 + 1 by omega, show i * 2 + 1 + 1 + 1 = (i * 2 + 1) + 1 + 1 by omega]
      simpa using this

def HOwn (w : World) (base : Nat) (v : Value) (l : List (Int × ByteArray)) : Prop := w.ownsRow base 58 2 v l.length (hcells l)

theorem hown_nil (w : World) (base : Nat) : HOwn w base (.slice none 0 0) [] := World.ownsRow_nil _ _ _ _

theorem hown_shape {w : World} {base : Nat} {v : Value} {l : List (Int × ByteArray)} (h : HOwn w base v l) : ∃ a cap, v = .slice a l.length cap := by
  rcases h.2 with ⟨rfl, h0⟩ | ⟨g, cap, cur, rfl, _⟩
  · exact ⟨none, 0, by rw [h0]⟩
  · exact ⟨_, cap, rfl⟩

theorem hown_lt {w : World} {b : Nat} {v : Value} {l : List (Int × ByteArray)} (h : HOwn w b v l) : ∀ g, v.ownBlock = some g → b ≤ g ∧ g < w.heap.size := World.ownsRow.lt h

theorem hown_frame {w w' : World} {b : Nat} {v : Value} {l : List (Int × ByteArray)} (h : HOwn w b v l) (hg : ∀ g, v.ownBlock = some g → w'.heap[g]? = w.heap[g]?) : HOwn w' b v l := owns_frame h hg

theorem hown_later {w w' : World} {b : Nat} {v : Value} {l : List (Int × ByteArray)} (h : HOwn w b v l) (hb : Below w.heap.size w w') : HOwn w' b v l := hown_frame h fun g hg => hb.block g (hown_lt h g hg).2

theorem hown_rd {w : World} {b : Nat} {a : Option Addr} {n cap : Nat} {l : List (Int × ByteArray)} (h : HOwn w b (.slice a n cap) l) : HRd w.heap.size w a l := by
  intro i hi
  rcases h.2 with ⟨_, h0⟩ | ⟨g, cap', cur, hv, hbg, hg, _⟩
  · omega
  · have hlt := (Array.getElem?_eq_some_iff.1 hg).1
    simp only [Value.slice.injEq] at hv
    obtain ⟨rfl, _, _⟩ := hv
    have hc := World.ownsRow.cells (g := g) h rfl
    have e := hcells_at l i hi
    have a0 : ((⟨g, 0, none⟩ : Addr).add (i * 2)) = ⟨g, 0 + i * 2, none⟩ := by unfold Addr.add; split <;> simp_all
    have a1 : ((⟨g, 0, none⟩ : Addr).add (i * 2 + 1)) = ⟨g, 0 + i * 2 + 1, none⟩ := by unfold Addr.add; split <;> simp_all <;> omega
    exact ⟨g, 0, rfl, hlt, a0 ▸ hc _ _ e.1, a1 ▸ hc _ _ e.2⟩

/-- A keeper's blocks: it, what is within, its heads, its store, the store's map. -/
structure Kb (w : World) (k0 k1 k2 k3 : Nat) (hv : Value) (M : Obj) : Prop where
  outer : w.heap[k0]? = some (.cells #[.pointer (some ⟨k1, 0, none⟩)] 63 (0, 0))
  inner : w.heap[k1]? = some (.cells #[hv, .pointer (some ⟨k2, 0, none⟩)] 77 (0, 0))
  store : w.heap[k2]? = some (.cells #[.map (some k3)] 118 (0, 0))
  map : w.heap[k3]? = some M

theorem Kb.later {w w' : World} {k0 k1 k2 k3 : Nat} {hv : Value} {M : Obj} (h : Kb w k0 k1 k2 k3 hv M) (hb : Below w.heap.size w w') : Kb w' k0 k1 k2 k3 hv M :=
  ⟨(hb.block _ (Array.getElem?_eq_some_iff.1 h.outer).1).trans h.outer, (hb.block _ (Array.getElem?_eq_some_iff.1 h.inner).1).trans h.inner, (hb.block _ (Array.getElem?_eq_some_iff.1 h.store).1).trans h.store, (hb.block _ (Array.getElem?_eq_some_iff.1 h.map).1).trans h.map⟩

theorem newStore_any (w : World) : Calls Tryz.prog 42 #[] w fun e w' => e = .returned (.pointer (some ⟨w.heap.size + 1, 0, none⟩)) ∧ w' = (w.alloc (.map #[] 0)).alloc (.cells #[.map (some w.heap.size)] 118) := by
  have hmm := @run_makeMap Tryz.prog
  go_enter Tryz.func42, Tryz.ntmps42
  go_wp2_with fail
  go_ret
  exact ⟨by simp, rfl⟩

/-- Three blocks laid one behind the other. -/
theorem laid3 (w : World) (A B C : Obj) : ((((w.alloc A).alloc B).alloc C).heap[w.heap.size]? = some A ∧ (((w.alloc A).alloc B).alloc C).heap[w.heap.size + 1]? = some B ∧ (((w.alloc A).alloc B).alloc C).heap[w.heap.size + 2]? = some C) ∧ (((w.alloc A).alloc B).alloc C).heap.size = w.heap.size + 3 ∧ Below w.heap.size w (((w.alloc A).alloc B).alloc C) := by
  have s1 : (w.alloc A).heap.size = w.heap.size + 1 := Array.size_push _
  have s2 : ((w.alloc A).alloc B).heap.size = w.heap.size + 1 + 1 := (Array.size_push _).trans (congrArg (· + 1) s1)
  have s3 : (((w.alloc A).alloc B).alloc C).heap.size = w.heap.size + 1 + 1 + 1 := (Array.size_push _).trans (congrArg (· + 1) s2)
  have b0 : Below w.heap.size w (w.alloc A) := (Below.refl _ _).alloc (Nat.le_refl _) _
  have b1 := b0.alloc b0.size B
  have n1 := heap_alloc_new (w.alloc A) B
  have n2 := heap_alloc_new ((w.alloc A).alloc B) C
  rw [s1] at n1
  rw [s2] at n2
  refine ⟨⟨?_, ?_, n2⟩, s3, b1.alloc b1.size C⟩
  · rw [Below.heap_alloc _ _ _ (by omega), Below.heap_alloc _ _ _ (by omega)]; exact heap_alloc_new w A
  · rw [Below.heap_alloc _ _ _ (by omega)]; exact n1

theorem newKeeper_any (w : World) : Calls Tryz.prog 26 #[] w fun e w' => e = .returned (.pointer (some ⟨w.heap.size + 2, 0, none⟩)) ∧
    Hid ((w'.heap[w.heap.size]? = some (.map #[] 0) ∧ w'.heap[w.heap.size + 1]? = some (.cells #[.map (some w.heap.size)] 118) ∧ w'.heap[w.heap.size + 2]? = some (.cells #[.slice none 0 0, .pointer (some ⟨w.heap.size + 1, 0, none⟩)] 77)) ∧ w'.heap.size = w.heap.size + 3 ∧ Below w.heap.size w w') := by
  have HN := hid (fun w => newStore_any w)
  go_enter Tryz.func26, Tryz.ntmps26
  go_wp2_with fail
  refine (HN.out _).mono ?_
  rintro e w1 ⟨rfl, rfl⟩
  go_wp2_with fail
  go_ret
  exact ⟨by simp, laid3 _ _ _ _⟩

theorem open_any (w : World) : Calls Tryz.prog 8 #[] w fun e w' => e = .returned (.pointer (some ⟨w.heap.size + 3, 0, none⟩)) ∧ Hid (Kb w' (w.heap.size + 3) (w.heap.size + 2) (w.heap.size + 1) w.heap.size (.slice none 0 0) (.map #[] 0) ∧ Below w.heap.size w w') := by
  have HN := hid (fun w => newKeeper_any w)
  go_enter Tryz.func8, Tryz.ntmps8
  go_wp2_with fail
  refine (HN.out _).mono ?_
  rintro e w1 ⟨rfl, H1⟩
  go_wp2_with fail
  go_ret
  obtain ⟨⟨h0, h1, h2⟩, hs, hb⟩ := H1.out
  refine ⟨by rw [hs]; rfl, ⟨?_, ?_, ?_, ?_⟩, hb.alloc hb.size _⟩
  · rw [← hs]; exact heap_alloc_new w1 _
  · exact (Below.heap_alloc _ _ _ (by omega)).trans h2
  · exact (Below.heap_alloc _ _ _ (by omega)).trans h1
  · exact (Below.heap_alloc _ _ _ (by omega)).trans h0

end Go.Proofs.YtbmohenjphmlgabGreat
