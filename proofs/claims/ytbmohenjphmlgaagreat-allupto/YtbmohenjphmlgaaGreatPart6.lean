/- Part 6 of a proof: what the last text needs. -/
import Derived.Test.YtbmohenjphmlgaaGreatPart5
import Derived.Test.YtbmohenjphmlgaaGreatPart2
import Derived.Deep.RegionHeld3
import Derived.Deep.Cut
import Derived.Test.YtbmohenjphmlgaaGreatPart1
import Derived.Test.YtbmohenjphmlgaaGreatPart4
/- The walk of item (of a reference of the program); a node's value as the program builds it. -/
namespace Go.Proofs.YtbmohenjphmlgaaGreat
open Go.RowKit
set_option maxRecDepth 100000

theorem old_block2 {w w1 : World} {X Y : Obj} (hb : Below ((w.alloc X).alloc Y).heap.size ((w.alloc X).alloc Y) w1) : w1.heap[w.heap.size + 1]? = some Y := by
  have := old_block hb
  rwa [alloc_size] at this

/-- v is the item t, as it reads in w; all its lists lie in blocks from lo on, below B; at most n levels. -/
def RepW (lo B : Nat) (w : World) : Nat → Value → Itm → Prop
  | 0 => fun _ _ => False
  | n + 1 => fun v t => ∃ a cap, v = .agg #[.bool t.list, .string ⟨t.bytes.toArray⟩, .slice a t.items.length cap] ∧ t.items.length ≤ maxLen ∧
      ∀ i (h : i < t.items.length), ∃ b off c0 c1 c2, a = some ⟨b, off, none⟩ ∧ lo ≤ b ∧ b < B ∧ w.cell? ⟨b, off + i * 3, none⟩ = some c0 ∧ w.cell? ⟨b, off + i * 3 + 1, none⟩ = some c1 ∧ w.cell? ⟨b, off + i * 3 + 2, none⟩ = some c2 ∧
        RepW lo B w n (.agg #[c0, c1, c2]) t.items[i]

theorem repW_rep {lo B : Nat} {w : World} : ∀ (n : Nat) (v : Value) (t : Itm), RepW lo B w n v t → Rep B w n v t := by
  intro n
  induction n with
  | zero => intro v t h; exact h
  | succ n ih =>
    rintro v t ⟨a, cap, h1, h2, h3⟩
    refine ⟨a, cap, h1, h2, fun i hi => ?_⟩
    obtain ⟨b, off, c0, c1, c2, e, _, hlt, d0, d1, d2, hk⟩ := h3 i hi
    exact ⟨b, off, c0, c1, c2, e, hlt, d0, d1, d2, ih _ _ hk⟩

theorem repW_turn {lo lo' B B' : Nat} {w w' : World} (hlo : lo' ≤ lo) (hB : B ≤ B') (hb : ∀ k, lo ≤ k → k < B → w'.heap[k]? = w.heap[k]?) : ∀ (n : Nat) (v : Value) (t : Itm), RepW lo B w n v t → RepW lo' B' w' n v t := by
  intro n
  induction n with
  | zero => intro v t h; exact h
  | succ n ih =>
    rintro v t ⟨a, cap, h1, h2, h3⟩
    refine ⟨a, cap, h1, h2, fun i hi => ?_⟩
    obtain ⟨b, off, c0, c1, c2, e, hl, hlt, d0, d1, d2, hk⟩ := h3 i hi
    have hblk := hb b hl hlt
    exact ⟨b, off, c0, c1, c2, e, Nat.le_trans hlo hl, Nat.lt_of_lt_of_le hlt hB, (World.cell?_of_block (w := w) hblk).trans d0, (World.cell?_of_block (w := w) hblk).trans d1, (World.cell?_of_block (w := w) hblk).trans d2, ih _ _ hk⟩

end Go.Proofs.YtbmohenjphmlgaaGreat

/- A region that draws its order: a load is taken first that one later operation waits for, though another behind that one writes what it reads. -/
namespace Go.Proofs.YtbmohenjphmlgaaGreat
open Go.RowKit
set_option maxRecDepth 100000

section
variable {P : Program} {ops : Array Oper} {Q : Exit → Act → World → Prop} {md : Region.Mode} {S : World → Prop} {k : Nat}

/-- Whatever order is picked, and S holds behind every operation till number k has come up. -/
def wpAnyL (P : Program) (md : Region.Mode) (ops : Array Oper) (Q : Exit → Act → World → Prop) (S : World → Prop) (k : Nat) : Nat → Array Bool → Act → World → Prop
  | 0, listed, a, w => Region.ready md ops listed = [] ∧ Q .normal a w
  | fuel + 1, listed, a, w =>
    (Region.ready md ops listed = [] → Q .normal a w) ∧
    ∀ i ∈ Region.ready md ops listed, wpOp P ops Q i (fun a' w' => ((listed.setIfInBounds i true).getD k true = false → S w') ∧ wpAnyL P md ops Q S k fuel (listed.setIfInBounds i true) a' w') a w

theorem wpAny_of_L : ∀ (fuel : Nat) (listed : Array Bool) (a : Act) (w : World), wpAnyL P md ops Q S k fuel listed a w → wpAny P md ops Q fuel listed a w
  | 0, _, _, _, h => h
  | fuel + 1, _, _, _, h => ⟨h.1, fun i hi => wpOp_mono (fun a' w' h' => wpAny_of_L fuel _ a' w' h'.2) (h.2 i hi)⟩

theorem listed_on {listed : Array Bool} (i : Nat) (h : listed.getD k true = true) : (listed.setIfInBounds i true).getD k true = true := by
  by_cases hik : i = k
  · subst hik
    rcases Nat.lt_or_ge i listed.size with h' | h'
    · simp [h']
    · simp
  · rw [getD_set_ne true hik]; exact h

/-- Behind number k nothing is asked of S. -/
theorem wpAnyL_free : ∀ (fuel : Nat) (listed : Array Bool) (a : Act) (w : World), listed.getD k true = true → wpAny P md ops Q fuel listed a w → wpAnyL P md ops Q S k fuel listed a w
  | 0, _, _, _, _, h => h
  | fuel + 1, listed, _, _, hl, h => ⟨h.1, fun i hi => wpOp_mono (fun a' w' h' => ⟨fun hf => (by rw [listed_on i hl] at hf; cases hf), wpAnyL_free fuel _ a' w' (listed_on i hl) h'⟩) (h.2 i hi)⟩

theorem wpAnyL_first {i : Nat} {oi ok : Oper} {v : Value} (hi : ops[i]? = some oi) (hk : ops[k]? = some ok) (hki : k ≠ i) (hwait : ∃ e ∈ ok.after, Region.binds md e = true ∧ e.on = i)
    (hsel : ∀ (j : Nat) (o : Oper) cs b, ops[j]? = some o → o.op ≠ .select cs b) (hQ : ∀ c a w, Q (.panic c) (a.put oi.dst v) w → Q (.panic c) a w) :
    ∀ (fuel : Nat) (listed : Array Bool) (a : Act) (w : World),
      (∀ j oj, ops[j]? = some oj → j ≠ i → listed.getD j true = false → (∀ e ∈ oj.after, Region.binds md e = true → e.on ≠ i) → oi.apart ops oj = true) →
      i ∈ Region.ready md ops listed → listed.getD k true = false → YieldsIf P ops S oi v a → S w →
      wpAnyL P md ops Q S k fuel (listed.setIfInBounds i true) (a.put oi.dst v) w → wpAnyL P md ops Q S k (fuel + 1) listed a w := by
  intro fuel
  induction fuel with
  | zero =>
    intro listed a w _ hr _ hy hS H
    refine ⟨fun h => (by rw [h] at hr; cases hr), fun j hj => ?_⟩
    by_cases hji : j = i
    · subst hji; exact hy.wpOp hi hS ⟨fun _ => hS, H⟩
    · have := ready_mono hj hji
      rw [H.1] at this
      cases this
  | succ fuel ih =>
    intro listed a w hfree hr hlk hy hS H
    refine ⟨fun h => (by rw [h] at hr; cases hr), fun j hj => ?_⟩
    by_cases hji : j = i
    · subst hji; exact hy.wpOp hi hS ⟨fun _ => hS, H⟩
    · have h1 := H.2 j (ready_mono hj hji)
      obtain ⟨hjun, oj, hoj, hall⟩ := mem_ready.1 hj
      have h0 := (mem_ready.1 hr).1
      have hnot : ∀ e ∈ oj.after, Region.binds md e = true → e.on ≠ i := fun e he hb heq => by
        have h2 := hall e he hb
        rw [heq] at h2
        rcases Nat.lt_or_ge i listed.size with h' | h'
        · simp [h'] at h0 h2; rw [h0] at h2; cases h2
        · simp [Array.getElem?_eq_none h'] at h2
      have hjk : j ≠ k := by
        intro e
        subst e
        rw [hk] at hoj
        cases hoj
        obtain ⟨e, he, hb, hon⟩ := hwait
        exact hnot e he hb hon
      have hlk' : (listed.setIfInBounds j true).getD k true = false := by rw [getD_set_ne true hjk]; exact hlk
      have h2 := wpOp_putIf hoj (hfree j oj hoj hji hjun hnot) (fun cs b => hsel i oi cs b hi) (fun cs b => hsel j oj cs b hoj) hQ hy h1
      have hfree' : ∀ k ok, ops[k]? = some ok → k ≠ i → (listed.setIfInBounds j true).getD k true = false →
          (∀ e ∈ ok.after, Region.binds md e = true → e.on ≠ i) → oi.apart ops ok = true := fun k ok hk hki hun hno => by
        refine hfree k ok hk hki ?_ hno
        by_cases hjk : j = k
        · subst hjk; exact hjun
        · rw [getD_set_ne true hjk] at hun; exact hun
      refine wpOp_mono (fun a' w' h3 => ?_) h2
      have hS' : S w' := h3.2.1 (by rw [Array.setIfInBounds_comm _ _ (Ne.symm hji), getD_set_ne true (Ne.symm hki)]; exact hlk')
      refine ⟨fun _ => hS', ih (listed.setIfInBounds j true) a' w' hfree' (ready_mono hr (Ne.symm hji)) hlk' h3.1 hS' ?_⟩
      rw [Array.setIfInBounds_comm _ _ hji]
      exact h3.2.2

/-- Number k waits for number i. -/
def waitsFor (md : Region.Mode) (ops : Array Oper) (k i : Nat) : Bool := k != i && ((ops[k]?).map (fun o => o.after.any (fun e => Region.binds md e && e.on == i))).getD false

theorem wpAnyL_take {i : Nat} {oi : Oper} {v : Value} {fuel : Nat} {listed : Array Bool} {a : Act} {w : World} (hi : ops[i]? = some oi)
    (hs : Region.noSelect ops = true) (hf : Region.free md ops listed i = true) (hr : (Region.ready md ops listed).contains i = true) (hw : waitsFor md ops k i = true) (hlk : listed.getD k true = false)
    (hQ : ∀ c a w, Q (.panic c) (a.put oi.dst v) w → Q (.panic c) a w) (hS : S w) (hy : YieldsIf P ops S oi v a)
    (h : wpAnyL P md ops Q S k fuel (listed.setIfInBounds i true) (a.put oi.dst v) w) : wpAnyL P md ops Q S k (fuel + 1) listed a w := by
  unfold waitsFor at hw
  simp only [Bool.and_eq_true, bne_iff_ne, ne_eq] at hw
  cases hk : ops[k]? with
  | none => rw [hk] at hw; simp at hw
  | some ok =>
    rw [hk] at hw
    simp only [Option.map_some, Option.getD_some] at hw
    obtain ⟨e, he, hb⟩ := Array.any_eq_true'.1 hw.2
    simp only [Bool.and_eq_true, beq_iff_eq] at hb
    exact wpAnyL_first hi hk hw.1 ⟨e, he, hb⟩ (Region.noSelect_spec hs) hQ fuel listed a w (Region.free_spec hi hf) (by simpa using hr) hlk hy hS h

/-- Each of the operations 'rs' comes up next. -/
def AllReadyL (P : Program) (md : Region.Mode) (ops : Array Oper) (Q : Exit → Act → World → Prop) (S : World → Prop) (k fuel : Nat) (listed : Array Bool) (a : Act) (w : World) (rs : List Nat) : Prop :=
  ∀ i ∈ rs, wpOp P ops Q i (fun a' w' => ((listed.setIfInBounds i true).getD k true = false → S w') ∧ wpAnyL P md ops Q S k fuel (listed.setIfInBounds i true) a' w') a w

theorem AllReadyL.nil {fuel : Nat} {listed : Array Bool} {a : Act} {w : World} : AllReadyL P md ops Q S k fuel listed a w [] := fun _ h => by cases h

theorem AllReadyL.cons {fuel : Nat} {listed : Array Bool} {a : Act} {w : World} {i : Nat} {o : Oper} {rs : List Nat} (ho : ops[i]? = some o)
    (h : ∀ K' : Act → World → Prop, Shut (∀ a w, S w → wpAnyL P md ops Q S k fuel (listed.setIfInBounds i true) a w → K' a w) → if Region.wanted o (yielded ops a.tmps) = true then Oper.wp P o a w K' Q else K' (a.put o.dst undef) w)
    (hs : AllReadyL P md ops Q S k fuel listed a w rs) : AllReadyL P md ops Q S k fuel listed a w (i :: rs) := fun j hj => by
  rcases List.mem_cons.1 hj with rfl | hj
  · exact wpOp_step ho (fun K' hK => h K' (fun a w hS hW => hK a w ⟨fun _ => hS, hW⟩))
  · exact hs j hj

/-- Number k itself. -/
theorem AllReadyL.last {fuel : Nat} {listed : Array Bool} {a : Act} {w : World} {o : Oper} (ho : ops[k]? = some o)
    (h : ∀ K' : Act → World → Prop, Shut (∀ a w, wpAny P md ops Q fuel (listed.setIfInBounds k true) a w → K' a w) → if Region.wanted o (yielded ops a.tmps) = true then Oper.wp P o a w K' Q else K' (a.put o.dst undef) w) :
    AllReadyL P md ops Q S k fuel listed a w [k] := fun j hj => by
  rcases List.mem_cons.1 hj with rfl | hj
  · have hon : (listed.setIfInBounds j true).getD j true = true := by
      rcases Nat.lt_or_ge j listed.size with h' | h'
      · simp [h']
      · simp
    exact wpOp_step ho (fun K' hK => h K' (fun a w hW => hK a w ⟨fun hf => (by rw [hon] at hf; cases hf), wpAnyL_free _ _ _ _ hon hW⟩))
  · cases hj

theorem wpAnyL_ready {rs : List Nat} {fuel : Nat} {listed : Array Bool} {a : Act} {w : World} (hr : Region.ready md ops listed = rs) (hne : rs ≠ [])
    (h : AllReadyL P md ops Q S k fuel listed a w rs) : wpAnyL P md ops Q S k (fuel + 1) listed a w := ⟨fun h0 => absurd (hr ▸ h0) hne, hr ▸ h⟩

theorem wp_region_L {id : Nat} {a : Act} {w : World} (S : World → Prop) (k : Nat) (hm : P.follows .mixedOrders = true)
    (h : wpAnyL P .any ops Q S k ops.size (Array.replicate ops.size false) a w.drew) : (Code.region id ops true).wp P Q a w := wp_region_any hm (wpAny_of_L _ _ _ _ h)
end
end Go.Proofs.YtbmohenjphmlgaaGreat

/- The walk of newBranch (of the program). -/
namespace Go.Proofs.YtbmohenjphmlgaaGreat
open Go.RowKit
set_option maxRecDepth 100000

/-- The references of a branch: of each the sum, or none, and the node. -/
def Refs (lo : Nat) (w : World) (m : Nat) (cs : Array Value) (ts : List Itm) : Prop :=
  cs.size = 32 ∧ ts.length = 16 ∧ ∀ d, (h : d < ts.length) → ∃ v k l s a n cap, cs[2 * d]? = some (.string (refSum ts[d])) ∧ cs[2 * d + 1]? = some v ∧ Nd v k l s a n cap ∧ RepW lo w.heap.size w (m + 1) (.agg #[.bool l, .string s, .slice a n cap]) ts[d]

/-- A branch of nothing, as it lies in memory. -/
def branchZero : Array Value := #[.int .i64 0, .bool false, .string ⟨#[]⟩, .slice none 0 0, .string ⟨#[]⟩, .nilIface, .string ⟨#[]⟩, .nilIface, .string ⟨#[]⟩, .nilIface, .string ⟨#[]⟩, .nilIface, .string ⟨#[]⟩, .nilIface, .string ⟨#[]⟩, .nilIface, .string ⟨#[]⟩, .nilIface, .string ⟨#[]⟩, .nilIface, .string ⟨#[]⟩, .nilIface, .string ⟨#[]⟩, .nilIface, .string ⟨#[]⟩, .nilIface, .string ⟨#[]⟩, .nilIface, .string ⟨#[]⟩, .nilIface, .string ⟨#[]⟩, .nilIface, .string ⟨#[]⟩, .nilIface, .string ⟨#[]⟩, .nilIface, .string ⟨#[]⟩]

theorem wpList_build2 {P : Program} {ops : Array Oper} {rest : List Oper} {o : Oper} {a : Act} {w : World} {Q : Exit → Act → World → Prop} (hg : o.guard = none) (t : TypeId) (x0 x1 : Operand) (ho : o.op = .build t #[(0, x0), (1, x1)]) (v0 v1 : Value) (h0 : a.eval x0 = v0) (h1 : a.eval x1 = v1) (cs : Array Value)
    (hb : P.built t [(0, v0), (1, v1)] = some cs) (h : wpList P ops Q rest (a.put o.dst (.agg cs)) w) : wpList P ops Q (o :: rest) a w := by
  have e : P.built t ((#[(0, x0), (1, x1)] : Array (Nat × Operand)).map fun (i, x) => (i, a.eval x)).toList = some cs := by simpa [h0, h1] using hb
  exact wpList_build hg t _ ho (by rw [e]; rfl) (by rw [e]; exact h)

/-- A branch as a value: what it has in common with other nodes, its references, its value. -/
def branchCells (a : Option Addr) (cap : Nat) (cs : Array Value) (x : ByteArray) : Array Value := #[Value.int .i64 3, Value.bool true, Value.string ⟨#[]⟩, Value.slice a 17 cap] ++ cs ++ #[Value.string x]

theorem branchCells_size (a : Option Addr) (cap : Nat) (cs : Array Value) (x : ByteArray) (h : cs.size = 32) : (branchCells a cap cs x).size = 37 := by
  unfold branchCells
  rw [Array.size_append, Array.size_append, h]; rfl

theorem index_ref (cs : Array Value) (k : Nat) (hk : k < 16) (s : Value) (v : Value) (hcs : cs.size = 32) (w : World) (h0 : cs[2 * k]? = some s) (h1 : cs[2 * k + 1]? = some v) : (Instr.index 140 (.agg cs) (.int .i64 k)).run Tryz.prog w = .ok (.agg #[s, v]) w := by
  have hn : (0 ≤ (k : Int) ∧ (k : Int) < ((16 : Nat) : Int)) := by omega
  have hu := Tryz.underlying140
  have a1 := Tryz.isAgg139
  have a2 := Tryz.sizeOf139
  simp [Instr.index, run_underlying hu, asIntOf, hn, go_sem, a1, a2]
  rw [if_pos hk]
  congr 2
  apply Array.ext
  · simp; omega
  · intro i h2 h3
    have : i < 2 := by simpa using h3
    match i, this with
    | 0, _ => simp only [Array.getElem_extract, Nat.add_zero]; rw [Nat.mul_comm] at h0; exact (Array.getElem?_eq_some_iff.1 h0).2
    | 1, _ => simp only [Array.getElem_extract]; rw [Nat.mul_comm] at h1; exact (Array.getElem?_eq_some_iff.1 h1).2

/-- Items in a row of its own from base on; what is within them lies from lo on, below kb. -/
def RowK (w : World) (base lo kb : Nat) (m : Nat) (v : Value) (ts : List Itm) : Prop :=
  ∃ xs, w.ownsRow base 119 3 v ts.length xs ∧ ∀ i (h : i < ts.length), RepW lo kb w m (tri xs i) ts[i]

theorem setRow_below {B g : Nat} {w a : World} {cs : Array Value} (h : Below B w a) (hg : B ≤ g) : Below B w (a.setRow g cs) :=
  h.trans ⟨rfl, rfl, rfl, by simp [World.setRow], fun k hk => setRow_other a g k _ (by omega)⟩

end Go.Proofs.YtbmohenjphmlgaaGreat

/- The walks of newEmpty and newLeaf (of the program). -/
namespace Go.Proofs.YtbmohenjphmlgaaGreat
open Go.RowKit
set_option maxRecDepth 100000

theorem kept_block {W w2 : World} {g : Nat} {O : Obj} (hb : Below W.heap.size W w2) (hW : W.heap[g]? = some O) : w2.heap[g]? = some O := (hb.block g (Array.getElem?_eq_some_iff.1 hW).1).trans hW

theorem block_alloc {w : World} {g : Nat} {O O' : Obj} (h : w.heap[g]? = some O) : (w.alloc O').heap[g]? = some O := (Below.heap_alloc _ _ _ (Array.getElem?_eq_some_iff.1 h).1).trans h

theorem block_alloc2 (w : World) (O O' : Obj) : ((w.alloc O).alloc O').heap[w.heap.size + 1]? = some O' := by
  have := heap_alloc_new (w.alloc O) O'
  rwa [alloc_size] at this

theorem belowA {w W : World} (h : Below w.heap.size w W) (O : Obj) : Below w.heap.size w (W.alloc O) := h.alloc h.size O
set_option maxHeartbeats 1600000 in
theorem newEmpty_any (w : World) : Calls Tryz.prog 84 #[] w fun e w' => e = .returned (.iface 168 (.agg #[.int .i64 0, .bool false, .string ⟨#[]⟩, .slice none 0 0])) ∧ Below w.heap.size w w' := by
  have HBI := hid (fun s w => bytesItem_any s w)
  go_enter Tryz.func84, Tryz.ntmps84
  go_wp2_with fail
  refine (HBI.out _ _).mono ?_
  rintro e w1 ⟨rfl, b1⟩
  go_wp2_with fail
  go_ret
  exact ⟨rfl, b1⟩

end Go.Proofs.YtbmohenjphmlgaaGreat

/- Plain mathematics of trees: a node hangs on its entries, not on their order; a table's root hangs on what it has for each key. Nothing of the program is in here. -/
namespace Go.Proofs.YtbmohenjphmlgaaGreat
set_option maxRecDepth 100000

namespace Tr

/-- No two entries have the same digits. -/
def Apart (l : List Ent) : Prop := l.Pairwise fun a b => a.dig ≠ b.dig

/-- What pairs have for a key: the value of the last one with it. -/
def value (ps : List (List UInt8 × List UInt8)) (k : List UInt8) : List UInt8 := ps.foldl (fun v p => if p.1 = k then p.2 else v) []

end Tr
end Go.Proofs.YtbmohenjphmlgaaGreat

/- Plain mathematics of trees: the proof for a key in a table, that it is sound, and what it tells. Nothing of the program is in here. -/
namespace Go.Proofs.YtbmohenjphmlgaaGreat
set_option maxRecDepth 100000

namespace Tr

/-- What entries have for digits. -/
def look (l : List Ent) (k : List UInt8) : List UInt8 := match l.find? (fun e => e.dig = k) with | some e => e.val | none => []

/-- The elements of a proof below a node, on the way of the digits k. -/
def elems : Nat → List Ent → List UInt8 → List (List UInt8)
  | 0, _, _ => []
  | f + 1, l, k =>
    match l with
    | [] => []
    | [_] => []
    | _ => if shared l = [] then (match k with
             | [] => []
             | c :: r => (if (Itm.enc (node f (behind [c] l))).length < 8 then [] else [Itm.enc (node f (behind [c] l))]) ++ elems f (behind [c] l) r)
           else if (shared l).isPrefixOf k then Itm.enc (node f (behind (shared l) l)) :: elems f (behind (shared l) l) (k.drop (shared l).length) else []

/-- The proof for digits. -/
def proofOf (f : Nat) (l : List Ent) (k : List UInt8) : List (List UInt8) := Itm.enc (node f l) :: elems f l k

/-- Entries whose values are not empty. -/
def Full (l : List Ent) : Prop := ∀ e ∈ l, e.val ≠ []

/-- Several entries that begin with nothing alike. -/
def Forks (l : List Ent) : Prop := ∃ a b r, l = a :: b :: r ∧ shared l = []

theorem flatMap_pos (l : List Itm) : l.length ≤ (l.flatMap Itm.enc).length := by
  induction l with
  | nil => simp
  | cons x l ih =>
    have := Itm.enc_ne x
    have : 1 ≤ (Itm.enc x).length := by
      cases h : Itm.enc x with
      | nil => exact absurd h this
      | cons => simp
    simp only [List.length_cons, List.flatMap_cons, List.length_append]; omega

theorem isSum_short {t : Itm} (h : (Itm.enc t).length < 8) : isSum t = false := by
  by_cases ht : t.list = true
  · unfold isSum; rw [ht]; rfl
  · have : t.list = false := by simpa using ht
    unfold isSum
    rw [this]
    have h8 : ¬ t.bytes.length = 8 := by
      intro h8
      rw [Itm.enc_eq, if_neg ht] at h
      unfold Itm.encB at h
      split at h
      · omega
      · have := Itm.headed_len 128 t.bytes; omega
    simp [h8]

end Tr
end Go.Proofs.YtbmohenjphmlgaaGreat

/- A tree of nodes as the program builds it, and what is left of it when memory turns. -/
namespace Go.Proofs.YtbmohenjphmlgaaGreat
open Go.RowKit
set_option maxRecDepth 100000

theorem branchCells_head (a : Option Addr) (cap : Nat) (cs : Array Value) (x : ByteArray) : (branchCells a cap cs x).extract 0 4 = #[.int .i64 3, .bool true, .string ⟨#[]⟩, .slice a 17 cap] := by
  unfold branchCells
  rw [Array.append_assoc, Array.extract_append]
  simp

theorem nd_branch (a : Option Addr) (cap : Nat) (cs : Array Value) (x : ByteArray) : Nd (.iface 142 (.agg (branchCells a cap cs x))) 3 true ⟨#[]⟩ a 17 cap :=
  ⟨_, _, .inr (.inr (.inr rfl)), rfl, branchCells_head a cap cs x⟩

def emptyV : Value := .iface 168 (.agg #[.int .i64 0, .bool false, .string ⟨#[]⟩, .slice none 0 0])
def leafV (a : Option Addr) (cap : Nat) (d x : ByteArray) : Value := .iface 172 (.agg #[.int .i64 1, .bool true, .string ⟨#[]⟩, .slice a 2 cap, .string d, .string x])
def branchV (a : Option Addr) (cap : Nat) (cs : Array Value) (x : ByteArray) : Value := .iface 142 (.agg (branchCells a cap cs x))
def extV (a : Option Addr) (cap : Nat) (d s : ByteArray) (v : Value) : Value := .iface 176 (.agg #[.int .i64 2, .bool true, .string ⟨#[]⟩, .slice a 2 cap, .string d, .string s, v])

/-- v is the node of entries, as it was built, with at most f steps down; what is in it lies in blocks from lo on. -/
def BT (lo : Nat) (w : World) : Nat → Value → List Tr.Ent → Prop
  | 0 => fun v l => l = [] ∧ v = emptyV
  | f + 1 => fun v l =>
    (l = [] ∧ v = emptyV) ∨
    (∃ e a cap d x, l = [e] ∧ v = leafV a cap d x ∧ d.data.toList = e.dig ∧ x.data.toList = e.val ∧ RepW lo w.heap.size w (f + 3) (.agg #[.bool true, .string ⟨#[]⟩, .slice a 2 cap]) (Tr.node (f + 1) l)) ∨
    (∃ p q r, l = p :: q :: r ∧ Tr.shared l ≠ [] ∧ ∃ a cap d a2 c2 cs x, v = extV a cap d (refSum (Tr.node f (Tr.behind (Tr.shared l) l))) (branchV a2 c2 cs x) ∧ d.data.toList = Tr.shared l ∧ RepW lo w.heap.size w (f + 3) (.agg #[.bool true, .string ⟨#[]⟩, .slice a 2 cap]) (Tr.node (f + 1) l) ∧ BT lo w f (branchV a2 c2 cs x) (Tr.behind (Tr.shared l) l)) ∨
    (Tr.Forks l ∧ ∃ a cap cs x, v = branchV a cap cs x ∧ cs.size = 32 ∧ x.data.toList = Tr.valOf l ∧ RepW lo w.heap.size w (f + 3) (.agg #[.bool true, .string ⟨#[]⟩, .slice a 17 cap]) (Tr.node (f + 1) l) ∧
      ∀ d, d < 16 → ∃ vd, cs[2 * d]? = some (.string (refSum (Tr.node f (Tr.behind [UInt8.ofNat d] l)))) ∧ cs[2 * d + 1]? = some vd ∧ BT lo w f vd (Tr.behind [UInt8.ofNat d] l))

theorem nd_empty : Nd emptyV 0 false ⟨#[]⟩ none 0 0 := ⟨_, _, .inl rfl, rfl, rfl⟩
theorem nd_leaf (a : Option Addr) (cap : Nat) (d x : ByteArray) : Nd (leafV a cap d x) 1 true ⟨#[]⟩ a 2 cap := ⟨_, _, .inr (.inl rfl), rfl, rfl⟩
theorem nd_ext (a : Option Addr) (cap : Nat) (d s : ByteArray) (v : Value) : Nd (extV a cap d s v) 2 true ⟨#[]⟩ a 2 cap := ⟨_, _, .inr (.inr (.inl rfl)), rfl, rfl⟩

end Go.Proofs.YtbmohenjphmlgaaGreat

/- One step of a way through nodes (of the program): next and valueAt, by the kind of the node. -/
namespace Go.Proofs.YtbmohenjphmlgaaGreat
open Go.RowKit
set_option maxRecDepth 100000

theorem belowAA (w : World) (a b : Obj) : Below w.heap.size w ((w.alloc a).alloc b) := ((Below.refl _ _).alloc (Nat.le_refl _) _).alloc (by simp) _

theorem commonNext_any (k : Int) (l : Bool) (s : ByteArray) (x : Value) (d : ByteArray) (w : World) : Calls Tryz.prog 186 #[.agg #[.int .i64 k, .bool l, .string s, x], .string d] w fun e w' => e = .returned (.tuple #[.agg #[.string ⟨#[]⟩, .nilIface], .string ⟨#[]⟩, .bool false]) ∧ Below w.heap.size w w' := by
  go_enter Tryz.func186, Tryz.ntmps186
  go_wp2_with fail
  exact bodyPost_ret (v := .tuple #[.agg #[.string ⟨#[]⟩, .nilIface], .string ⟨#[]⟩, .bool false]) (by simp [results, Tryz.results186, go_sem]) rfl ⟨rfl, belowAA _ _ _⟩

theorem commonValueAt_any (k : Int) (l : Bool) (s : ByteArray) (x : Value) (d : ByteArray) (w : World) : Calls Tryz.prog 188 #[.agg #[.int .i64 k, .bool l, .string s, x], .string d] w fun e w' => e = .returned (.string ⟨#[]⟩) ∧ Below w.heap.size w w' := by
  go_enter Tryz.func188, Tryz.ntmps188
  go_wp2_with fail
  go_ret
  exact ⟨rfl, (Below.refl _ _).alloc (Nat.le_refl _) _⟩

theorem leafValueAt_any (a : Option Addr) (n cap : Nat) (k : Int) (l : Bool) (s t x : ByteArray) (d : ByteArray) (w : World) : Calls Tryz.prog 192 #[.agg #[.int .i64 k, .bool l, .string s, .slice a n cap, .string t, .string x], .string d] w fun e w' => e = .returned (.string (if d = t then x else ⟨#[]⟩)) ∧ Below w.heap.size w w' := by
  by_cases h : d = t
  · rw [if_pos h]
    have he : (d.toList == t.toList) = true := by rw [h]; exact beq_self_eq_true _
    clear h
    go_enter Tryz.func192, Tryz.ntmps192
    go_wp2_with fail
    go_ret
    exact ⟨rfl, (Below.refl _ _).alloc (Nat.le_refl _) _⟩
  · rw [if_neg h]
    have he : (d.toList == t.toList) = false := by
      rw [beq_eq_false_iff_ne]
      intro e
      apply h
      rw [ByteArray.toList_eq, ByteArray.toList_eq] at e
      cases d; cases t
      simp only [Array.toList_inj] at e
      rw [e]
    clear h
    go_enter Tryz.func192, Tryz.ntmps192
    go_wp2_with fail
    go_ret
    exact ⟨rfl, (Below.refl _ _).alloc (Nat.le_refl _) _⟩

/-- A node or none. -/
def IsNode (v : Value) : Prop := v = .nilIface ∨ ∃ T x, v = .iface T x

theorem extNext_any (a : Option Addr) (n cap : Nat) (k : Int) (l : Bool) (s t x : ByteArray) (v : Value) (d : ByteArray) (w : World) (hv : IsNode v) : Calls Tryz.prog 193 #[.agg #[.int .i64 k, .bool l, .string s, .slice a n cap, .string t, .string x, v], .string d] w fun e w' => e = .returned (.tuple #[.agg #[.string x, v], .string (cutP t d), .bool (pre t d)]) ∧ Below w.heap.size w w' := by
  have HC := hid (fun w => cutPrefix_any d t w)
  rcases hv with rfl | ⟨T, y, rfl⟩
  all_goals
    go_enter Tryz.func193, Tryz.ntmps193
    go_wp2_with fail
    refine (HC.out _).mono ?_
    rintro e w1 ⟨rfl, rfl⟩
    go_wp2_with fail
  · exact bodyPost_ret (v := .tuple #[.agg #[.string x, .nilIface], .string (cutP t d), .bool (pre t d)]) (by simp [results, Tryz.results193, go_sem]) rfl ⟨rfl, belowAA _ _ _⟩
  · exact bodyPost_ret (v := .tuple #[.agg #[.string x, .iface T y], .string (cutP t d), .bool (pre t d)]) (by simp [results, Tryz.results193, go_sem]) rfl ⟨rfl, belowAA _ _ _⟩

theorem branchCells_to (a : Option Addr) (cap : Nat) (cs : Array Value) (x : ByteArray) (i : Nat) (hi : i < cs.size) : (branchCells a cap cs x)[4 + i]? = cs[i]? := by
  unfold branchCells
  rw [Array.getElem?_append_left (by simp; omega), Array.getElem?_append_right (by simp)]
  simp

theorem branchCells_last (a : Option Addr) (cap : Nat) (cs : Array Value) (x : ByteArray) (hcs : cs.size = 32) : (branchCells a cap cs x)[36]? = some (.string x) := by
  unfold branchCells
  rw [Array.getElem?_append_right (by simp [hcs])]
  simp [hcs]

theorem branchValueAt_any (a : Option Addr) (cap : Nat) (cs : Array Value) (x d : ByteArray) (w : World) (hcs : cs.size = 32) : Calls Tryz.prog 191 #[.agg (branchCells a cap cs x), .string d] w fun e w' => e = .returned (.string x) ∧ Below w.heap.size w w' := by
  have h36 := branchCells_last a cap cs x hcs
  generalize branchCells a cap cs x = BB at *
  have hc := (cell_of_row (w.alloc (.cells BB 142)) _ 36 _ _ _ (heap_alloc_new w _)).trans h36
  go_enter Tryz.func191, Tryz.ntmps191
  go_wp2_with fail
  go_ret
  exact ⟨rfl, (Below.refl _ _).alloc (Nat.le_refl _) _⟩

theorem branchNext_nil (a : Option Addr) (cap : Nat) (cs : Array Value) (x : ByteArray) (w : World) : Calls Tryz.prog 189 #[.agg (branchCells a cap cs x), .string ⟨#[]⟩] w fun e w' => e = .returned (.tuple #[.agg #[.string ⟨#[]⟩, .nilIface], .string ⟨#[]⟩, .bool false]) ∧ Below w.heap.size w w' := by
  generalize branchCells a cap cs x = BB at *
  go_enter Tryz.func189, Tryz.ntmps189
  go_wp2_with fail
  exact bodyPost_ret (v := .tuple #[.agg #[.string ⟨#[]⟩, .nilIface], .string ⟨#[]⟩, .bool false]) (by simp [results, Tryz.results189, go_sem]) rfl ⟨rfl, belowAA _ _ _⟩

theorem branchNext_any (a : Option Addr) (cap : Nat) (cs : Array Value) (x d : ByteArray) (w : World) (hd : 0 < d.size) (c : UInt8) (r : List UInt8) (hcr : d.data.toList = c :: r) (hc : c.toNat < 16) (s : ByteArray) (v : Value) (hv : IsNode v)
    (h0 : cs[2 * c.toNat]? = some (.string s)) (h1 : cs[2 * c.toNat + 1]? = some v) :
    Calls Tryz.prog 189 #[.agg (branchCells a cap cs x), .string d] w fun e w' => e = .returned (.tuple #[.agg #[.string s, v], .string ⟨r.toArray⟩, .bool true]) ∧ Below w.heap.size w w' := by
  have k0 := (branchCells_to a cap cs x _ (Array.getElem?_eq_some_iff.1 h0).1).trans h0
  have k1 := (branchCells_to a cap cs x _ (Array.getElem?_eq_some_iff.1 h1).1).trans h1
  generalize branchCells a cap cs x = BB at *
  have he : d.toList.isEmpty = false := by rw [ByteArray.toList_eq, hcr]; rfl
  have HD0 : Hid (∀ h : 0 < d.size, d[0] = c) := fun h => by
    have e : d.data.toList[0]? = some c := by rw [hcr]; rfl
    rw [Array.getElem?_toList] at e
    exact (Array.getElem?_eq_some_iff.1 e).2
  have k0 : BB[4 + c.toNat * 2]? = some (.string s) := by rw [Nat.mul_comm]; exact k0
  have k1 : BB[4 + c.toNat * 2 + 1]? = some v := by rw [Nat.mul_comm, Nat.add_assoc]; exact k1
  have HDR : Hid (d.extract 1 d.size = ⟨r.toArray⟩) := by
    rw [Hid]
    have e : (d.extract 1 d.size).data.toList = r := by rw [Lib.extract_to_end, hcr]; rfl
    have e2 : (d.extract 1 d.size).data = r.toArray := by rw [← e]
    generalize d.extract 1 d.size = u at *
    cases u
    rw [← e2]
  have i1 : (0 : Int) < (d.size : Int) := by omega
  have hc1 : (c.toNat : Int) < 16 := by omega
  have hc0 : (0 : Int) ≤ (c.toNat : Int) := by omega
  have i2 : (1 : Int) ≤ (d.size : Int) := by omega
  have HG : Hid ((w.alloc (.cells BB 142)).heap[w.heap.size]? = some (.cells BB 142 (0, 0))) := heap_alloc_new w _
  clear h0 h1 hd
  go_enter Tryz.func189, Tryz.ntmps189
  go_wp2_with fail
  refine wp_region_L (fun w' => w'.heap[w.heap.size]? = some (.cells BB 142 (0, 0))) 9 (by kernel_rfl) ?_
  have hS : (fun w' : World => w'.heap[w.heap.size]? = some (.cells BB 142 (0, 0))) (((w.alloc (.cells BB 142)).alloc (.cells #[.string ⟨#[]⟩, .nilIface] 139)).drew) := (Below.heap_alloc _ _ _ (by rw [alloc_size]; omega)).trans HG.out
  refine wpAnyL_take (i := 0) (v := .string d) rfl (by kernel_rfl) (by kernel_rfl) (by kernel_rfl) (by kernel_rfl) (by kernel_rfl) (fun _ _ _ h => h) hS (Or.inl ⟨by kernel_rfl, ?_⟩) ?_
  · (intro w' hSw; go_simp)
  try simp only [Act.put]
  refine wpAnyL_take (i := 1) (v := .int .u8 c.toNat) rfl (by kernel_rfl) (by kernel_rfl) (by kernel_rfl) (by kernel_rfl) (by kernel_rfl) (fun _ _ _ h => h) hS (Or.inl ⟨by kernel_rfl, ?_⟩) ?_
  · intro w' hSw
    go_simp
    rw [dif_pos (by omega)]
    rw [HD0.out]
    rfl
  try simp only [Act.put]
  refine wpAnyL_take (i := 2) (v := .pointer (some ⟨w.heap.size, 4, none⟩)) rfl (by kernel_rfl) (by kernel_rfl) (by kernel_rfl) (by kernel_rfl) (by kernel_rfl) (fun _ _ _ h => h) hS (Or.inl ⟨by kernel_rfl, ?_⟩) ?_
  · (intro w' hSw; go_simp)
  try simp only [Act.put]
  refine wpAnyL_take (i := 3) (v := .pointer (some ⟨w.heap.size, 4 + c.toNat * 2, none⟩)) rfl (by kernel_rfl) (by kernel_rfl) (by kernel_rfl) (by kernel_rfl) (by kernel_rfl) (fun _ _ _ h => h) hS (Or.inl ⟨by kernel_rfl, ?_⟩) ?_
  · intro w' hSw
    go_simp
  try simp only [Act.put]
  refine wpAnyL_take (i := 4) (v := .agg #[.string s, v]) rfl (by kernel_rfl) (by kernel_rfl) (by kernel_rfl) (by kernel_rfl) (by kernel_rfl) (fun _ _ _ h => h) hS (Or.inl ⟨by kernel_rfl, ?_⟩) ?_
  · intro w' hSw
    have z0 := (cell_of_row w' _ (4 + c.toNat * 2) _ _ _ hSw).trans k0
    have z1 := (cell_of_row w' _ (4 + c.toNat * 2 + 1) _ _ _ hSw).trans k1
    go_simp
  try simp only [Act.put]
  refine wpAnyL_take (i := 5) (v := .string d) rfl (by kernel_rfl) (by kernel_rfl) (by kernel_rfl) (by kernel_rfl) (by kernel_rfl) (fun _ _ _ h => h) hS (Or.inl ⟨by kernel_rfl, ?_⟩) ?_
  · (intro w' hSw; go_simp)
  try simp only [Act.put]
  refine wpAnyL_take (i := 6) (v := .string (d.extract 1 d.size)) rfl (by kernel_rfl) (by kernel_rfl) (by kernel_rfl) (by kernel_rfl) (by kernel_rfl) (fun _ _ _ h => h) hS (Or.inl ⟨by kernel_rfl, ?_⟩) ?_
  · (intro w' hSw; go_simp)
  try simp only [Act.put]
  rcases hv with rfl | ⟨T, y, rfl⟩
  all_goals
    refine wpAnyL_ready (rs := [7]) (by kernel_rfl) (by simp) ?_
    refine AllReadyL.cons rfl (fun K hK => ?_) AllReadyL.nil
    go_simp
    refine hK.out _ _ ((Below.heap_alloc _ _ _ (by rw [alloc_size]; omega)).trans HG.out) ?_
    clear hK K
    try simp only [Act.put]
    refine wpAnyL_ready (rs := [8]) (by kernel_rfl) (by simp) ?_
    refine AllReadyL.cons rfl (fun K hK => ?_) AllReadyL.nil
    go_simp
    refine hK.out _ _ ((Below.heap_alloc _ _ _ (by rw [alloc_size]; omega)).trans HG.out) ?_
    clear hK K
    try simp only [Act.put]
    refine wpAnyL_ready (rs := [9]) (by kernel_rfl) (by simp) ?_
    refine AllReadyL.last rfl (fun K hK => ?_)
    go_simp
    refine hK.out _ _ ?_
    clear hK K
    try simp only [Act.put]
    refine wpAny_done (by kernel_rfl) ?_ _
    go_wp2_with fail
  · exact bodyPost_ret (v := .tuple #[.agg #[.string s, .nilIface], .string (d.extract 1 d.size), .bool true]) (by simp [results, Tryz.results189, go_sem]) rfl ⟨by rw [HDR.out], (belowAA _ _ _).drew⟩
  · exact bodyPost_ret (v := .tuple #[.agg #[.string s, .iface T y], .string (d.extract 1 d.size), .bool true]) (by simp [results, Tryz.results189, go_sem]) rfl ⟨by rw [HDR.out], (belowAA _ _ _).drew⟩

end Go.Proofs.YtbmohenjphmlgaaGreat

/- The walk of walk (of the program), for any finder that keeps what it must. -/
namespace Go.Proofs.YtbmohenjphmlgaaGreat
open Go.RowKit
set_option maxRecDepth 100000

/-- A function that is entered when it is called. -/
def Enters (F : Nat) : Prop := ∀ (args : Array Value) (w : World), (callFunc F args).run Tryz.prog w = .ok (.enter F args) w

theorem enters_check : Enters 125 := fun args w => by kernel_rfl

/-- What next and valueAt of a node tell, for digits. -/
def Steps (v : Value) (d s : ByteArray) (n : Value) (rest : ByteArray) (on : Bool) (x : ByteArray) : Prop :=
  ∃ T A f1 r1 f2 r2, v = .iface T A ∧ Enters f1 ∧ Enters f2 ∧
    (∀ w, (method 334 T A "witness/tree.next").run Tryz.prog w = .ok (f1, r1) w) ∧ (∀ w, Calls Tryz.prog f1 #[r1, .string d] w fun e w' => e = .returned (.tuple #[.agg #[.string s, n], .string rest, .bool on]) ∧ Below w.heap.size w w') ∧
    (∀ w, (method 334 T A "witness/tree.valueAt").run Tryz.prog w = .ok (f2, r2) w) ∧ (on = false → ∀ w, Calls Tryz.prog f2 #[r2, .string d] w fun e w' => e = .returned (.string x) ∧ Below w.heap.size w w')

theorem steps_empty (d : ByteArray) : Steps emptyV d ⟨#[]⟩ .nilIface ⟨#[]⟩ false ⟨#[]⟩ :=
  ⟨_, _, 186, .agg #[.int .i64 0, .bool false, .string ⟨#[]⟩, .slice none 0 0], 188, .agg #[.int .i64 0, .bool false, .string ⟨#[]⟩, .slice none 0 0], rfl, fun _ _ => by kernel_rfl, fun _ _ => by kernel_rfl, fun _ => by kernel_rfl, fun w => commonNext_any _ _ _ _ _ w, fun _ => by kernel_rfl, fun _ w => commonValueAt_any _ _ _ _ _ w⟩

theorem steps_leaf (a : Option Addr) (cap : Nat) (t x d : ByteArray) : Steps (leafV a cap t x) d ⟨#[]⟩ .nilIface ⟨#[]⟩ false (if d = t then x else ⟨#[]⟩) :=
  ⟨_, _, 186, .agg #[.int .i64 1, .bool true, .string ⟨#[]⟩, .slice a 2 cap], 192, .agg #[.int .i64 1, .bool true, .string ⟨#[]⟩, .slice a 2 cap, .string t, .string x], rfl, fun _ _ => by kernel_rfl, fun _ _ => by kernel_rfl, fun _ => by kernel_rfl, fun w => commonNext_any _ _ _ _ _ w, fun _ => by kernel_rfl, fun _ w => leafValueAt_any _ _ _ _ _ _ _ _ _ w⟩

theorem steps_ext (a : Option Addr) (cap : Nat) (t s d : ByteArray) (v : Value) (hv : IsNode v) : Steps (extV a cap t s v) d s v (cutP t d) (pre t d) ⟨#[]⟩ :=
  ⟨_, _, 193, .agg #[.int .i64 2, .bool true, .string ⟨#[]⟩, .slice a 2 cap, .string t, .string s, v], 188, .agg #[.int .i64 2, .bool true, .string ⟨#[]⟩, .slice a 2 cap], rfl, fun _ _ => by kernel_rfl, fun _ _ => by kernel_rfl, fun _ => by kernel_rfl, fun w => extNext_any _ _ _ _ _ _ _ _ _ _ w hv, fun _ => by kernel_rfl, fun _ w => commonValueAt_any _ _ _ _ _ w⟩

theorem steps_end (a : Option Addr) (cap : Nat) (cs : Array Value) (x : ByteArray) (hcs : cs.size = 32) : Steps (branchV a cap cs x) ⟨#[]⟩ ⟨#[]⟩ .nilIface ⟨#[]⟩ false x :=
  ⟨_, _, 189, .agg (branchCells a cap cs x), 191, .agg (branchCells a cap cs x), rfl, fun _ _ => by kernel_rfl, fun _ _ => by kernel_rfl, fun _ => by kernel_rfl, fun w => branchNext_nil _ _ _ _ w, fun _ => by kernel_rfl, fun _ w => branchValueAt_any _ _ _ _ _ w hcs⟩

theorem steps_branch (a : Option Addr) (cap : Nat) (cs : Array Value) (x d : ByteArray) (hcs : cs.size = 32) (c : UInt8) (r : List UInt8) (hcr : d.data.toList = c :: r) (hc : c.toNat < 16) (s : ByteArray) (v : Value) (hv : IsNode v)
    (h0 : cs[2 * c.toNat]? = some (.string s)) (h1 : cs[2 * c.toNat + 1]? = some v) : Steps (branchV a cap cs x) d s v ⟨r.toArray⟩ true x :=
  ⟨_, _, 189, .agg (branchCells a cap cs x), 191, .agg (branchCells a cap cs x), rfl, fun _ _ => by kernel_rfl, fun _ _ => by kernel_rfl, fun _ => by kernel_rfl, fun w => branchNext_any _ _ _ _ _ w (by rw [← ba_len, hcr]; simp) c r hcr hc s v hv h0 h1, fun _ => by kernel_rfl, fun _ w => branchValueAt_any _ _ _ _ _ w hcs⟩

/-- What a way does at a node: it ends there, or goes on by a reference. -/
structure Way (F : Nat) (c : Addr) (J : World → Value → ByteArray → Prop) (Q : ByteArray → Bool → World → Prop) (w : World) (v : Value) (d : ByteArray) : Prop where
  step : ∃ s n rest on x, Steps v d s n rest on x ∧ IsNode n ∧
    (on = false → ∀ w', Below w.heap.size w w' → Q x true w') ∧
    (on = true → rest.size < d.size ∧ ∀ w', Below w.heap.size w w' → Calls Tryz.prog 122 #[v, .agg #[.string s, n], .func (.func F) #[] #[.pointer (some c)]] w' fun e w'' => ∃ v' ok, e = .returned (.tuple #[v', .bool ok]) ∧ (ok = true → J w'' v' rest) ∧ (ok = false → Q ⟨#[]⟩ false w''))

set_option maxHeartbeats 3200000 in
theorem walk_any (F : Nat) (hF : Enters F) (c : Addr) (s : ByteArray) (n : Value) (hn : IsNode n) (d : ByteArray) (w : World) (J : World → Value → ByteArray → Prop) (Q : ByteArray → Bool → World → Prop)
    (h0 : ∀ w', Below w.heap.size w w' → Calls Tryz.prog F #[.agg #[.string s, n], .pointer (some c)] w' fun e w'' => ∃ v' ok, e = .returned (.tuple #[v', .bool ok]) ∧ (ok = true → J w'' v' d) ∧ (ok = false → Q ⟨#[]⟩ false w''))
    (hJ : ∀ w v d, J w v d → Way F c J Q w v d) :
    Calls Tryz.prog 96 #[.agg #[.string s, n], .string d, .func (.func F) #[] #[.pointer (some c)]] w fun e w' => ∃ x ok, e = .returned (.tuple #[.string x, .bool ok]) ∧ Q x ok w' := by
  have H0 := hid h0
  have HJ := hid hJ
  clear h0 hJ
  unfold Enters at hF
  rcases hn with rfl | ⟨T, y, rfl⟩
  all_goals
    go_enter Tryz.func96, Tryz.ntmps96
    go_wp2_with fail
    refine (H0.out _ ((Below.refl _ _).alloc (Nat.le_refl _) _)).mono ?_
    rintro e w1 ⟨v1, ok, rfl, g1, g2⟩
    have HG1 := hid g1
    have HG2 := hid g2
    clear g1 g2
    go_wp2_with fail
    go_loopw [1, 7, 8] (fun dd oo vv wr => ∃ d' ok', dd = .string d' ∧ oo = .bool ok' ∧ (ok' = true → J wr vv d') ∧ (ok' = false → Q ⟨#[]⟩ false wr)) (fun dd _ _ _ => (match dd with | .string d' => d'.size | _ => 0))
    case atStart => exact ⟨d, ok, rfl, rfl, HG1.out, HG2.out⟩
    case round =>
      obtain ⟨d', ok', rfl, rfl, hg1, hg2⟩ := hrel
      cases ok' with
      | false =>
        have HQ := hid (hg2 rfl)
        clear hg1 hg2
        go_wp2_with fail
        exact bodyPost_ret (v := .tuple #[.string ⟨#[]⟩, .bool false]) (by simp [results, Tryz.results96, go_sem]) rfl ⟨_, _, rfl, HQ.out⟩
      | true =>
        obtain ⟨⟨s', n', rest, on, x, hst, hn', hq, hf⟩⟩ := HJ.out _ _ _ (hg1 rfl)
        obtain ⟨T', A', f1, r1, f2, r2, rfl, e1, e2, m1, c1, m2, c2⟩ := hst
        unfold Enters at e1 e2
        have HC1 := hid c1
        have HC2 := hid c2
        have HQ := hid hq
        have HF := hid hf
        clear c1 c2 hq hf hg1 hg2
        rcases hn' with rfl | ⟨T2, y2, rfl⟩
        all_goals
          cases on with
          | false =>
            go_wp2_with fail
            refine (HC1.out _).mono ?_
            rintro e w2 ⟨rfl, b2⟩
            have HB2 := hid b2
            clear b2
            go_wp2_with fail
            refine (HC2.out (by trivial) _).mono ?_
            rintro e w3 ⟨rfl, b3⟩
            have HB3 := hid b3
            clear b3
            go_wp2_with fail
            exact bodyPost_ret (v := .tuple #[.string x, .bool true]) (by simp [results, Tryz.results96, go_sem]) rfl ⟨_, _, rfl, HQ.out (by trivial) _ ((HB2.out.alloc HB2.out.size _).trans (HB3.out.mono (by simp; exact Nat.le_succ_of_le HB2.out.size)))⟩
          | true =>
            go_wp2_with fail
            refine (HC1.out _).mono ?_
            rintro e w2 ⟨rfl, b2⟩
            have HB2 := hid b2
            clear b2
            go_wp2_with fail
            refine ((HF.out (by trivial)).2 _ (HB2.out.alloc HB2.out.size _)).mono ?_
            rintro e w3 ⟨v3, ok3, rfl, g1, g2⟩
            have HG1 := hid g1
            have HG2 := hid g2
            clear g1 g2
            go_wp2_with fail
            exact ⟨⟨rest, ok3, rfl, rfl, HG1.out, HG2.out⟩, (HF.out (by trivial)).1⟩
end Go.Proofs.YtbmohenjphmlgaaGreat
