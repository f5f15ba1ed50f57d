/- Part 8 of a proof: what the last text needs. -/
import Derived.Test.YtbmohenjphmlgabGreatPart3
import Derived.Deep.RegionHeld3
import Derived.Deep.Cut
import Derived.Test.YtbmohenjphmlgabGreatPart7
/- A region that draws its order: a load is taken first that one later operation waits for, though another behind that one writes what it reads. -/
namespace Go.Proofs.YtbmohenjphmlgabGreat
open Go.RowKit
set_option maxRecDepth 100000

section
variable {P : Program} {ops : Array Oper} {Q : Exit → Act → World → Prop} {md : Region.Mode} {S : World → Prop} {k : Nat}

/-- Whatever order is picked, and S holds behind every operation till number k has come up. -/
def wpAnyL (P : Program) (md : Region.Mode) (ops : Array Oper) (Q : Exit → Act → World → Prop) (S : World → Prop) (k : Nat) : Nat → Array Bool → Act → World → Prop
  | 0, listed, a, w => Region.ready md ops listed = [] ∧ Q .normal a w
  | fuel + 1, listed, a, w =>
    (Region.ready md ops listed = [] → Q .normal a w) ∧
    ∀ i ∈ Region.ready md ops listed, wpOp P ops Q i (fun a' w' => ((listed.setIfInBounds i true).getD k true = false → S w') ∧ wpAnyL P md ops Q S k fuel (listed.setIfInBounds i true) a' w') a w

theorem wpAny_of_L : ∀ (fuel : Nat) (listed : Array Bool) (a : Act) (w : World), wpAnyL P md ops Q S k fuel listed a w → wpAny P md ops Q fuel listed a w
  | 0, _, _, _, h => h
  | fuel + 1, _, _, _, h => ⟨h.1, fun i hi => wpOp_mono (fun a' w' h' => wpAny_of_L fuel _ a' w' h'.2) (h.2 i hi)⟩

theorem listed_on {listed : Array Bool} (i : Nat) (h : listed.getD k true = true) : (listed.setIfInBounds i true).getD k true = true := by
  by_cases hik : i = k
  · subst hik
    rcases Nat.lt_or_ge i listed.size with h' | h'
    · simp [h']
    · simp
  · rw [getD_set_ne true hik]; exact h

/-- Behind number k nothing is asked of S. -/
theorem wpAnyL_free : ∀ (fuel : Nat) (listed : Array Bool) (a : Act) (w : World), listed.getD k true = true → wpAny P md ops Q fuel listed a w → wpAnyL P md ops Q S k fuel listed a w
  | 0, _, _, _, _, h => h
  | fuel + 1, listed, _, _, hl, h => ⟨h.1, fun i hi => wpOp_mono (fun a' w' h' => ⟨fun hf => (by rw [listed_on i hl] at hf; cases hf), wpAnyL_free fuel _ a' w' (listed_on i hl) h'⟩) (h.2 i hi)⟩

theorem wpAnyL_first {i : Nat} {oi ok : Oper} {v : Value} (hi : ops[i]? = some oi) (hk : ops[k]? = some ok) (hki : k ≠ i) (hwait : ∃ e ∈ ok.after, Region.binds md e = true ∧ e.on = i)
    (hsel : ∀ (j : Nat) (o : Oper) cs b, ops[j]? = some o → o.op ≠ .select cs b) (hQ : ∀ c a w, Q (.panic c) (a.put oi.dst v) w → Q (.panic c) a w) :
    ∀ (fuel : Nat) (listed : Array Bool) (a : Act) (w : World),
      (∀ j oj, ops[j]? = some oj → j ≠ i → listed.getD j true = false → (∀ e ∈ oj.after, Region.binds md e = true → e.on ≠ i) → oi.apart ops oj = true) →
      i ∈ Region.ready md ops listed → listed.getD k true = false → YieldsIf P ops S oi v a → S w →
      wpAnyL P md ops Q S k fuel (listed.setIfInBounds i true) (a.put oi.dst v) w → wpAnyL P md ops Q S k (fuel + 1) listed a w := by
  intro fuel
  induction fuel with
  | zero =>
    intro listed a w _ hr _ hy hS H
    refine ⟨fun h => (by rw [h] at hr; cases hr), fun j hj => ?_⟩
    by_cases hji : j = i
    · subst hji; exact hy.wpOp hi hS ⟨fun _ => hS, H⟩
    · have := ready_mono hj hji
      rw [H.1] at this
      cases this
  | succ fuel ih =>
    intro listed a w hfree hr hlk hy hS H
    refine ⟨fun h => (by rw [h] at hr; cases hr), fun j hj => ?_⟩
    by_cases hji : j = i
    · subst hji; exact hy.wpOp hi hS ⟨fun _ => hS, H⟩
    · have h1 := H.2 j (ready_mono hj hji)
      obtain ⟨hjun, oj, hoj, hall⟩ := mem_ready.1 hj
      have h0 := (mem_ready.1 hr).1
      have hnot : ∀ e ∈ oj.after, Region.binds md e = true → e.on ≠ i := fun e he hb heq => by
        have h2 := hall e he hb
        rw [heq] at h2
        rcases Nat.lt_or_ge i listed.size with h' | h'
        · simp [h'] at h0 h2; rw [h0] at h2; cases h2
        · simp [Array.getElem?_eq_none h'] at h2
      have hjk : j ≠ k := by
        intro e
        subst e
        rw [hk] at hoj
        cases hoj
        obtain ⟨e, he, hb, hon⟩ := hwait
        exact hnot e he hb hon
      have hlk' : (listed.setIfInBounds j true).getD k true = false := by rw [getD_set_ne true hjk]; exact hlk
      have h2 := wpOp_putIf hoj (hfree j oj hoj hji hjun hnot) (fun cs b => hsel i oi cs b hi) (fun cs b => hsel j oj cs b hoj) hQ hy h1
      have hfree' : ∀ k ok, ops[k]? = some ok → k ≠ i → (listed.setIfInBounds j true).getD k true = false →
          (∀ e ∈ ok.after, Region.binds md e = true → e.on ≠ i) → oi.apart ops ok = true := fun k ok hk hki hun hno => by
        refine hfree k ok hk hki ?_ hno
        by_cases hjk : j = k
        · subst hjk; exact hjun
        · rw [getD_set_ne true hjk] at hun; exact hun
      refine wpOp_mono (fun a' w' h3 => ?_) h2
      have hS' : S w' := h3.2.1 (by rw [Array.setIfInBounds_comm _ _ (Ne.symm hji), getD_set_ne true (Ne.symm hki)]; exact hlk')
      refine ⟨fun _ => hS', ih (listed.setIfInBounds j true) a' w' hfree' (ready_mono hr (Ne.symm hji)) hlk' h3.1 hS' ?_⟩
      rw [Array.setIfInBounds_comm _ _ hji]
      exact h3.2.2

/-- Number k waits for number i. -/
def waitsFor (md : Region.Mode) (ops : Array Oper) (k i : Nat) : Bool := k != i && ((ops[k]?).map (fun o => o.after.any (fun e => Region.binds md e && e.on == i))).getD false

theorem wpAnyL_take {i : Nat} {oi : Oper} {v : Value} {fuel : Nat} {listed : Array Bool} {a : Act} {w : World} (hi : ops[i]? = some oi)
    (hs : Region.noSelect ops = true) (hf : Region.free md ops listed i = true) (hr : (Region.ready md ops listed).contains i = true) (hw : waitsFor md ops k i = true) (hlk : listed.getD k true = false)
    (hQ : ∀ c a w, Q (.panic c) (a.put oi.dst v) w → Q (.panic c) a w) (hS : S w) (hy : YieldsIf P ops S oi v a)
    (h : wpAnyL P md ops Q S k fuel (listed.setIfInBounds i true) (a.put oi.dst v) w) : wpAnyL P md ops Q S k (fuel + 1) listed a w := by
  unfold waitsFor at hw
  simp only [Bool.and_eq_true, bne_iff_ne, ne_eq] at hw
  cases hk : ops[k]? with
  | none => rw [hk] at hw; simp at hw
  | some ok =>
    rw [hk] at hw
    simp only [Option.map_some, Option.getD_some] at hw
    obtain ⟨e, he, hb⟩ := Array.any_eq_true'.1 hw.2
    simp only [Bool.and_eq_true, beq_iff_eq] at hb
    exact wpAnyL_first hi hk hw.1 ⟨e, he, hb⟩ (Region.noSelect_spec hs) hQ fuel listed a w (Region.free_spec hi hf) (by simpa using hr) hlk hy hS h

/-- Each of the operations 'rs' comes up next. -/
def AllReadyL (P : Program) (md : Region.Mode) (ops : Array Oper) (Q : Exit → Act → World → Prop) (S : World → Prop) (k fuel : Nat) (listed : Array Bool) (a : Act) (w : World) (rs : List Nat) : Prop :=
  ∀ i ∈ rs, wpOp P ops Q i (fun a' w' => ((listed.setIfInBounds i true).getD k true = false → S w') ∧ wpAnyL P md ops Q S k fuel (listed.setIfInBounds i true) a' w') a w

theorem AllReadyL.nil {fuel : Nat} {listed : Array Bool} {a : Act} {w : World} : AllReadyL P md ops Q S k fuel listed a w [] := fun _ h => by cases h

theorem AllReadyL.cons {fuel : Nat} {listed : Array Bool} {a : Act} {w : World} {i : Nat} {o : Oper} {rs : List Nat} (ho : ops[i]? = some o)
    (h : ∀ K' : Act → World → Prop, Shut (∀ a w, S w → wpAnyL P md ops Q S k fuel (listed.setIfInBounds i true) a w → K' a w) → if Region.wanted o (yielded ops a.tmps) = true then Oper.wp P o a w K' Q else K' (a.put o.dst undef) w)
    (hs : AllReadyL P md ops Q S k fuel listed a w rs) : AllReadyL P md ops Q S k fuel listed a w (i :: rs) := fun j hj => by
  rcases List.mem_cons.1 hj with rfl | hj
  · exact wpOp_step ho (fun K' hK => h K' (fun a w hS hW => hK a w ⟨fun _ => hS, hW⟩))
  · exact hs j hj

/-- Number k itself. -/
theorem AllReadyL.last {fuel : Nat} {listed : Array Bool} {a : Act} {w : World} {o : Oper} (ho : ops[k]? = some o)
    (h : ∀ K' : Act → World → Prop, Shut (∀ a w, wpAny P md ops Q fuel (listed.setIfInBounds k true) a w → K' a w) → if Region.wanted o (yielded ops a.tmps) = true then Oper.wp P o a w K' Q else K' (a.put o.dst undef) w) :
    AllReadyL P md ops Q S k fuel listed a w [k] := fun j hj => by
  rcases List.mem_cons.1 hj with rfl | hj
  · have hon : (listed.setIfInBounds j true).getD j true = true := by
      rcases Nat.lt_or_ge j listed.size with h' | h'
      · simp [h']
      · simp
    exact wpOp_step ho (fun K' hK => h K' (fun a w hW => hK a w ⟨fun hf => (by rw [hon] at hf; cases hf), wpAnyL_free _ _ _ _ hon hW⟩))
  · cases hj

theorem wpAnyL_ready {rs : List Nat} {fuel : Nat} {listed : Array Bool} {a : Act} {w : World} (hr : Region.ready md ops listed = rs) (hne : rs ≠ [])
    (h : AllReadyL P md ops Q S k fuel listed a w rs) : wpAnyL P md ops Q S k (fuel + 1) listed a w := ⟨fun h0 => absurd (hr ▸ h0) hne, hr ▸ h⟩

theorem wp_region_L {id : Nat} {a : Act} {w : World} (S : World → Prop) (k : Nat) (hm : P.follows .mixedOrders = true)
    (h : wpAnyL P .any ops Q S k ops.size (Array.replicate ops.size false) a w.drew) : (Code.region id ops true).wp P Q a w := wp_region_any hm (wpAny_of_L _ _ _ _ h)
end
end Go.Proofs.YtbmohenjphmlgabGreat

/- The walk of newBranch (of the program). -/
namespace Go.Proofs.YtbmohenjphmlgabGreat
open Go.RowKit
set_option maxRecDepth 100000

/-- The references of a branch: of each the sum, or none, and the node. -/
def Refs (lo : Nat) (w : World) (m : Nat) (cs : Array Value) (ts : List Itm) : Prop :=
  cs.size = 32 ∧ ts.length = 16 ∧ ∀ d, (h : d < ts.length) → ∃ v k l s a n cap, cs[2 * d]? = some (.string (refSum ts[d])) ∧ cs[2 * d + 1]? = some v ∧ Nd v k l s a n cap ∧ RepW lo w.heap.size w (m + 1) (.agg #[.bool l, .string s, .slice a n cap]) ts[d]

/-- A branch of nothing, as it lies in memory. -/
def branchZero : Array Value := #[.int .i64 0, .bool false, .string ⟨#[]⟩, .slice none 0 0, .string ⟨#[]⟩, .nilIface, .string ⟨#[]⟩, .nilIface, .string ⟨#[]⟩, .nilIface, .string ⟨#[]⟩, .nilIface, .string ⟨#[]⟩, .nilIface, .string ⟨#[]⟩, .nilIface, .string ⟨#[]⟩, .nilIface, .string ⟨#[]⟩, .nilIface, .string ⟨#[]⟩, .nilIface, .string ⟨#[]⟩, .nilIface, .string ⟨#[]⟩, .nilIface, .string ⟨#[]⟩, .nilIface, .string ⟨#[]⟩, .nilIface, .string ⟨#[]⟩, .nilIface, .string ⟨#[]⟩, .nilIface, .string ⟨#[]⟩, .nilIface, .string ⟨#[]⟩]

theorem branchZero_size : branchZero.size = 37 := rfl

theorem wpList_move_is {P : Program} {ops : Array Oper} {rest : List Oper} {o : Oper} {a : Act} {w : World} {Q : Exit → Act → World → Prop} (hg : o.guard = none) (x : Operand) (ho : o.op = .move x)
    (h : wpList P ops Q rest (a.put o.dst (a.eval x)) w) : wpList P ops Q (o :: rest) a w := by
  refine wpList_plain hg fun K hK => ?_
  unfold Oper.wp execOp
  simp only [ho, Sem.run_pure]
  exact hK _ _ h

theorem wpList_build2 {P : Program} {ops : Array Oper} {rest : List Oper} {o : Oper} {a : Act} {w : World} {Q : Exit → Act → World → Prop} (hg : o.guard = none) (t : TypeId) (x0 x1 : Operand) (ho : o.op = .build t #[(0, x0), (1, x1)]) (v0 v1 : Value) (h0 : a.eval x0 = v0) (h1 : a.eval x1 = v1) (cs : Array Value)
    (hb : P.built t [(0, v0), (1, v1)] = some cs) (h : wpList P ops Q rest (a.put o.dst (.agg cs)) w) : wpList P ops Q (o :: rest) a w := by
  have e : P.built t ((#[(0, x0), (1, x1)] : Array (Nat × Operand)).map fun (i, x) => (i, a.eval x)).toList = some cs := by simpa [h0, h1] using hb
  exact wpList_build hg t _ ho (by rw [e]; rfl) (by rw [e]; exact h)

theorem wpList_build3 {P : Program} {ops : Array Oper} {rest : List Oper} {o : Oper} {a : Act} {w : World} {Q : Exit → Act → World → Prop} (hg : o.guard = none) (t : TypeId) (x0 x1 x2 : Operand) (ho : o.op = .build t #[(0, x0), (1, x1), (2, x2)]) (v0 v1 v2 : Value) (h0 : a.eval x0 = v0) (h1 : a.eval x1 = v1) (h2 : a.eval x2 = v2) (cs : Array Value)
    (hb : P.built t [(0, v0), (1, v1), (2, v2)] = some cs) (h : wpList P ops Q rest (a.put o.dst (.agg cs)) w) : wpList P ops Q (o :: rest) a w := by
  have e : P.built t ((#[(0, x0), (1, x1), (2, x2)] : Array (Nat × Operand)).map fun (i, x) => (i, a.eval x)).toList = some cs := by simpa [h0, h1, h2] using hb
  exact wpList_build hg t _ ho (by rw [e]; rfl) (by rw [e]; exact h)

theorem refs_one {lo : Nat} {w : World} {m : Nat} {cs : Array Value} {ts : List Itm} (h : Refs lo w m cs ts) : ∀ v ∈ cs.toList, v.oneCell' = true := by
  intro v hv
  obtain ⟨i, hi, hiv⟩ := List.getElem_of_mem hv
  have hi32 : i < 32 := by rw [← h.1]; simpa using hi
  obtain ⟨u, _, _, _, _, _, _, c0, c1, hn, _⟩ := h.2.2 (i / 2) (by rw [h.2.1]; omega)
  obtain ⟨T, A, _, rfl, _⟩ := hn
  have e : cs[i]? = some v := by rw [← hiv]; simp
  rcases Nat.mod_two_eq_zero_or_one i with h0 | h0
  · rw [show i = 2 * (i / 2) by omega, c0] at e
    cases e; rfl
  · rw [show i = 2 * (i / 2) + 1 by omega, c1] at e
    cases e; rfl

theorem arr32 (cs : Array Value) (h : cs.size = 32) : ∃ c0 c1 c2 c3 c4 c5 c6 c7 c8 c9 c10 c11 c12 c13 c14 c15 c16 c17 c18 c19 c20 c21 c22 c23 c24 c25 c26 c27 c28 c29 c30 c31 : Value, cs = #[c0, c1, c2, c3, c4, c5, c6, c7, c8, c9, c10, c11, c12, c13, c14, c15, c16, c17, c18, c19, c20, c21, c22, c23, c24, c25, c26, c27, c28, c29, c30, c31] := by
  obtain ⟨l⟩ := cs
  have hl : l.length = 32 := h
  clear h
  rcases l with _ | ⟨c0, l⟩
  · simp at hl
  have hl : l.length = 31 := by simpa using hl
  rcases l with _ | ⟨c1, l⟩
  · simp at hl
  have hl : l.length = 30 := by simpa using hl
  rcases l with _ | ⟨c2, l⟩
  · simp at hl
  have hl : l.length = 29 := by simpa using hl
  rcases l with _ | ⟨c3, l⟩
  · simp at hl
  have hl : l.length = 28 := by simpa using hl
  rcases l with _ | ⟨c4, l⟩
  · simp at hl
  have hl : l.length = 27 := by simpa using hl
  rcases l with _ | ⟨c5, l⟩
  · simp at hl
  have hl : l.length = 26 := by simpa using hl
  rcases l with _ | ⟨c6, l⟩
  · simp at hl
  have hl : l.length = 25 := by simpa using hl
  rcases l with _ | ⟨c7, l⟩
  · simp at hl
  have hl : l.length = 24 := by simpa using hl
  rcases l with _ | ⟨c8, l⟩
  · simp at hl
  have hl : l.length = 23 := by simpa using hl
  rcases l with _ | ⟨c9, l⟩
  · simp at hl
  have hl : l.length = 22 := by simpa using hl
  rcases l with _ | ⟨c10, l⟩
  · simp at hl
  have hl : l.length = 21 := by simpa using hl
  rcases l with _ | ⟨c11, l⟩
  · simp at hl
  have hl : l.length = 20 := by simpa using hl
  rcases l with _ | ⟨c12, l⟩
  · simp at hl
  have hl : l.length = 19 := by simpa using hl
  rcases l with _ | ⟨c13, l⟩
  · simp at hl
  have hl : l.length = 18 := by simpa using hl
  rcases l with _ | ⟨c14, l⟩
  · simp at hl
  have hl : l.length = 17 := by simpa using hl
  rcases l with _ | ⟨c15, l⟩
  · simp at hl
  have hl : l.length = 16 := by simpa using hl
  rcases l with _ | ⟨c16, l⟩
  · simp at hl
  have hl : l.length = 15 := by simpa using hl
  rcases l with _ | ⟨c17, l⟩
  · simp at hl
  have hl : l.length = 14 := by simpa using hl
  rcases l with _ | ⟨c18, l⟩
  · simp at hl
  have hl : l.length = 13 := by simpa using hl
  rcases l with _ | ⟨c19, l⟩
  · simp at hl
  have hl : l.length = 12 := by simpa using hl
  rcases l with _ | ⟨c20, l⟩
  · simp at hl
  have hl : l.length = 11 := by simpa using hl
  rcases l with _ | ⟨c21, l⟩
  · simp at hl
  have hl : l.length = 10 := by simpa using hl
  rcases l with _ | ⟨c22, l⟩
  · simp at hl
  have hl : l.length = 9 := by simpa using hl
  rcases l with _ | ⟨c23, l⟩
  · simp at hl
  have hl : l.length = 8 := by simpa using hl
  rcases l with _ | ⟨c24, l⟩
  · simp at hl
  have hl : l.length = 7 := by simpa using hl
  rcases l with _ | ⟨c25, l⟩
  · simp at hl
  have hl : l.length = 6 := by simpa using hl
  rcases l with _ | ⟨c26, l⟩
  · simp at hl
  have hl : l.length = 5 := by simpa using hl
  rcases l with _ | ⟨c27, l⟩
  · simp at hl
  have hl : l.length = 4 := by simpa using hl
  rcases l with _ | ⟨c28, l⟩
  · simp at hl
  have hl : l.length = 3 := by simpa using hl
  rcases l with _ | ⟨c29, l⟩
  · simp at hl
  have hl : l.length = 2 := by simpa using hl
  rcases l with _ | ⟨c30, l⟩
  · simp at hl
  have hl : l.length = 1 := by simpa using hl
  rcases l with _ | ⟨c31, l⟩
  · simp at hl
  have hl : l.length = 0 := by simpa using hl
  obtain rfl : l = [] := List.eq_nil_of_length_eq_zero hl
  exact ⟨c0, c1, c2, c3, c4, c5, c6, c7, c8, c9, c10, c11, c12, c13, c14, c15, c16, c17, c18, c19, c20, c21, c22, c23, c24, c25, c26, c27, c28, c29, c30, c31, rfl⟩

theorem built_branch (cs : Array Value) (h : cs.size = 32) (k b s sl : Value) (x : ByteArray) : Tryz.prog.built 112 [(0, .agg #[k, b, s, sl]), (1, .agg cs), (2, .string x)] = some (#[k, b, s, sl] ++ cs ++ #[.string x]) := by
  obtain ⟨c0, c1, c2, c3, c4, c5, c6, c7, c8, c9, c10, c11, c12, c13, c14, c15, c16, c17, c18, c19, c20, c21, c22, c23, c24, c25, c26, c27, c28, c29, c30, c31, rfl⟩ := arr32 cs h
  kernel_rfl

/-- A branch as a value: what it has in common with other nodes, its references, its value. -/
def branchCells (a : Option Addr) (cap : Nat) (cs : Array Value) (x : ByteArray) : Array Value := #[Value.int .i64 3, Value.bool true, Value.string ⟨#[]⟩, Value.slice a 17 cap] ++ cs ++ #[Value.string x]

theorem branchCells_size (a : Option Addr) (cap : Nat) (cs : Array Value) (x : ByteArray) (h : cs.size = 32) : (branchCells a cap cs x).size = 37 := by
  unfold branchCells
  rw [Array.size_append, Array.size_append, h]; rfl

theorem branchCells_one (a : Option Addr) (cap : Nat) (cs : Array Value) (x : ByteArray) (h : ∀ v ∈ cs.toList, v.oneCell' = true) : (branchCells a cap cs x).all (·.oneCell') = true := by
  unfold branchCells
  rw [Array.all_eq_true_iff_forall_mem]
  intro v hv
  simp only [Array.mem_append, List.mem_toArray, List.mem_cons, List.not_mem_nil, or_false] at hv
  rcases hv with (hv | hv) | hv
  · rcases hv with rfl | rfl | rfl | rfl <;> rfl
  · exact h v (by simpa using hv)
  · subst hv; rfl

theorem index_ref (cs : Array Value) (k : Nat) (hk : k < 16) (s : Value) (v : Value) (hcs : cs.size = 32) (w : World) (h0 : cs[2 * k]? = some s) (h1 : cs[2 * k + 1]? = some v) : (Instr.index 110 (.agg cs) (.int .i64 k)).run Tryz.prog w = .ok (.agg #[s, v]) w := by
  have hn : (0 ≤ (k : Int) ∧ (k : Int) < ((16 : Nat) : Int)) := by omega
  have hu := Tryz.underlying110
  have a1 := Tryz.isAgg109
  have a2 := Tryz.sizeOf109
  simp [Instr.index, run_underlying hu, asIntOf, hn, go_sem, a1, a2]
  rw [if_pos hk]
  congr 2
  apply Array.ext
  · simp; omega
  · intro i h2 h3
    have : i < 2 := by simpa using h3
    match i, this with
    | 0, _ => simp only [Array.getElem_extract, Nat.add_zero]; rw [Nat.mul_comm] at h0; exact (Array.getElem?_eq_some_iff.1 h0).2
    | 1, _ => simp only [Array.getElem_extract]; rw [Nat.mul_comm] at h1; exact (Array.getElem?_eq_some_iff.1 h1).2

theorem rep_string (B : Nat) (w : World) (m : Nat) (x : ByteArray) : Rep B w (m + 1) (.agg #[.bool false, .string x, .slice none 0 0]) (Tr.itB x.data.toList) := ⟨none, 0, by cases x; simp [Tr.itB], by simp [Tr.itB], fun i hi => by simp [Tr.itB] at hi⟩

/-- Items in a row of its own from base on; what is within them lies from lo on, below kb. -/
def RowK (w : World) (base lo kb : Nat) (m : Nat) (v : Value) (ts : List Itm) : Prop :=
  ∃ xs, w.ownsRow base 50 3 v ts.length xs ∧ ∀ i (h : i < ts.length), RepW lo kb w m (tri xs i) ts[i]

theorem rowK_nil (w : World) (base lo kb m : Nat) : RowK w base lo kb m (.slice none 0 0) [] := ⟨[], World.ownsRow_nil _ _ _ _, fun i hi => by simp at hi⟩

theorem rowK_shape {w : World} {base lo kb m : Nat} {v : Value} {ts : List Itm} (h : RowK w base lo kb m v ts) : ∃ a cap, v = .slice a ts.length cap := by
  obtain ⟨xs, ho, _⟩ := h
  rcases ho.2 with ⟨rfl, h0⟩ | ⟨g, cap, cur, rfl, _⟩
  · exact ⟨none, 0, by rw [h0]⟩
  · exact ⟨_, cap, rfl⟩

theorem rowK_later {w w' : World} {base lo kb m : Nat} {v : Value} {ts : List Itm} (h : RowK w base lo kb m v ts) (hb : Below w.heap.size w w') (hB : kb ≤ w.heap.size) : RowK w' base lo kb m v ts := by
  obtain ⟨xs, ho, hr⟩ := h
  exact ⟨xs, owns_frame ho (fun g hg => hb.block g (ho.lt g hg).2), fun i hi => repW_turn (Nat.le_refl _) (Nat.le_refl _) (fun k _ hk => hb.block k (Nat.lt_of_lt_of_le hk hB)) _ _ _ (hr i hi)⟩

/-- An item that was just laid is appended to such a row: for a walk. -/
theorem wpList_push_itemK {ops : Array Oper} {rest : List Oper} {o : Oper} {act : Act} {Q' : Exit → Act → World → Prop} (hgd : o.guard = none) (s x : Operand)
    (hop : o.op = .call { callee := .builtin .append, args := #[s, x], argTypes := #[48, 48] }) {W wr : World} {base lo kb m : Nat} {v1 a b c : Value} {ts : List Itm} {t : Itm} (L : Nat) (hL : wr.heap.size = L)
    (hs : act.eval s = v1) (hx : act.eval x = .slice (some ⟨L, 0, none⟩) 1 1) (ho : RowK wr base lo kb m v1 ts) (hb : Below base W wr) (hB : base ≤ W.heap.size) (hkb : kb ≤ base) (hr : RepW lo kb wr m (.agg #[a, b, c]) t) (hlen : ts.length ≤ 1000000)
    (h : ∀ v' w', RowK w' base lo kb m v' (ts ++ [t]) → Below base W w' → wpList Tryz.prog ops Q' rest (act.put o.dst v') w') : wpList Tryz.prog ops Q' (o :: rest) act (wr.alloc (.cells #[a, b, c] 50)) := by
  subst hL
  obtain ⟨i0, hi, hz0, hz1, hz2⟩ := info_parts infoItem
  have hbW : Below wr.heap.size wr (wr.alloc (.cells #[a, b, c] 50)) := (Below.refl _ _).alloc (Nat.le_refl _) _
  have hBr : base ≤ wr.heap.size := Nat.le_trans hB hb.size
  have hBw : base ≤ (wr.alloc (.cells #[a, b, c] 50)).heap.size := by rw [alloc_size]; omega
  obtain ⟨xs, hrow, hrs⟩ := rowK_later ho hbW (Nat.le_trans hkb hBr)
  have hone := rep_one (repW_rep _ _ _ hr)
  refine wpList_append_mine _ hgd s x 48 hop base 50 i0 _ 3 48 Tryz.underlying48 hi hz0 hz1 hz2 rfl (by decide) v1 ts.length xs hs hrow ⟨wr.heap.size, 0, none⟩ 1 1 [a, b, c] hx rfl (cells_three wr a b c 50) ?_ (by unfold maxLen; omega) (by omega) hBw ?_
  · intro u hu
    simp only [List.mem_cons, List.not_mem_nil, or_false] at hu
    rcases hu with rfl | rfl | rfl
    · exact hone.1
    · exact hone.2.1
    · exact hone.2.2
  · intro v' w' ho' hg _
    have hb3 : Below base (wr.alloc (.cells #[a, b, c] 50)) w' := (Below.refl _ _).grown hg hBw (fun g hgg => (hrow.lt g hgg).1)
    refine h v' w' ⟨xs ++ [a, b, c], ?_, ?_⟩ ((hb.trans (hbW.mono hBr)).trans hb3)
    · rw [List.length_append]; exact ho'
    · intro i hi
      rw [List.length_append, List.length_singleton] at hi
      by_cases hlt : i < ts.length
      · rw [tri_left xs [a, b, c] i ts.length hrow.1 hlt, List.getElem_append_left hlt]
        exact repW_turn (Nat.le_refl _) (Nat.le_refl _) (fun k _ hk => hb3.block k (Nat.lt_of_lt_of_le hk hkb)) _ _ _ (hrs i hlt)
      · obtain rfl : i = ts.length := by omega
        rw [tri_new xs a b c ts.length hrow.1]
        simp only [List.getElem_append_right (Nat.le_refl _), Nat.sub_self, List.getElem_cons_zero]
        exact repW_turn (Nat.le_refl _) (Nat.le_refl _) (fun k _ hk => ((hbW.mono hBr).trans hb3).block k (Nat.lt_of_lt_of_le hk hkb)) _ _ _ hr

/-- A list of these items can be read, also where blocks have turned that none of them lies in. -/
theorem rowK_rep {w w' : World} {base lo kb m : Nat} {a : Option Addr} {n cap : Nat} {ts : List Itm} (h : RowK w base lo kb m (.slice a n cap) ts) (hk : kb ≤ w'.heap.size) (hlo : lo ≤ base) (hb : ∀ k, lo ≤ k → k < kb → w'.heap[k]? = w.heap[k]?) (ho' : ∀ g, base ≤ g → g < w.heap.size → w'.heap[g]? = w.heap[g]?) (hl : ts.length ≤ maxLen) : RepW lo w'.heap.size w' (m + 1) (.agg #[.bool true, .string ⟨#[]⟩, .slice a n cap]) (Tr.itL ts) := by
  obtain ⟨xs, ho, hr⟩ := h
  have ho2 : w'.ownsRow base 50 3 (.slice a n cap) ts.length xs := owns_frame ho (fun g hg => ho' g (ho.lt g hg).1 (ho.lt g hg).2)
  rcases ho2.2 with ⟨he, h0⟩ | ⟨g, cap', cur, he, hbg, hg, _⟩
  · have : ts = [] := List.eq_nil_of_length_eq_zero h0
    subst this
    simp only [Value.slice.injEq] at he
    obtain ⟨rfl, rfl, rfl⟩ := he
    exact ⟨none, 0, rfl, by simp [Tr.itL], fun i hi => by simp [Tr.itL] at hi⟩
  · simp only [Value.slice.injEq] at he
    obtain ⟨rfl, rfl, rfl⟩ := he
    refine ⟨_, _, rfl, hl, fun i hi => ?_⟩
    have hi' : i < ts.length := hi
    obtain ⟨c0, c1, c2⟩ := tri_cells ho2 i hi'
    exact ⟨g, 0, _, _, _, rfl, Nat.le_trans hlo hbg, (Array.getElem?_eq_some_iff.1 hg).1, c0, c1, c2, repW_turn (Nat.le_refl _) hk hb _ _ _ (hr i hi')⟩

theorem setRow_below {B g : Nat} {w a : World} {cs : Array Value} (h : Below B w a) (hg : B ≤ g) : Below B w (a.setRow g cs) :=
  h.trans ⟨rfl, rfl, rfl, by simp [World.setRow], fun k hk => setRow_other a g k _ (by omega)⟩

theorem branch_end {w W w2 : World} {a2 : Option Addr} {c2 m lo : Nat} {cs BB : Array Value} {x : ByteArray} {ts : List Itm} {O : Obj} (hlo : lo ≤ w.heap.size) (hWB : Below w.heap.size w W) (hWS : W.heap.size = w.heap.size + 1 + 1) (hB2 : Below W.heap.size W w2) (hl : ts.length = 17) (hr : RowK w2 W.heap.size lo w.heap.size (m + 1) (.slice a2 17 c2) ts) :
    ∃ a cap, Ending.returned (.agg (branchCells a2 c2 cs x)) = .returned (.agg (branchCells a cap cs x)) ∧ RepW lo ((w2.alloc O).setRow (w.heap.size + 1) BB).heap.size ((w2.alloc O).setRow (w.heap.size + 1) BB) (m + 2) (.agg #[.bool true, .string ⟨#[]⟩, .slice a 17 cap]) (Tr.itL ts) ∧ Below w.heap.size w ((w2.alloc O).setRow (w.heap.size + 1) BB) := by
  have hs2 := hB2.size
  have b1 : Below w.heap.size w (w2.alloc O) := (hWB.trans (hB2.mono (by omega))).alloc (by omega) O
  have bF := setRow_below (cs := BB) b1 (Nat.le_succ w.heap.size)
  have hsF : ((w2.alloc O).setRow (w.heap.size + 1) BB).heap.size = w2.heap.size + 1 := by simp [World.setRow]
  have bG : Below w.heap.size w2 ((w2.alloc O).setRow (w.heap.size + 1) BB) := setRow_below ((Below.refl _ _).alloc (by omega) O) (Nat.le_succ _)
  refine ⟨a2, c2, rfl, rowK_rep hr (by omega) (by omega) (fun k _ hk => bG.block k hk) ?_ (by rw [hl]; unfold maxLen; omega), bF⟩
  intro g h1 h2
  rw [setRow_other _ _ _ _ (by omega)]
  exact Below.heap_alloc _ _ _ h2

set_option maxHeartbeats 3200000 in
theorem newBranch_any (cs : Array Value) (x : ByteArray) (ts : List Itm) (m lo : Nat) (w : World) (hlo : lo ≤ w.heap.size) (hR : Refs lo w m cs ts) : Calls Tryz.prog 96 #[.agg cs, .string x] w fun e w' => ∃ a cap, e = .returned (.agg (branchCells a cap cs x)) ∧ RepW lo w'.heap.size w' (m + 2) (.agg #[.bool true, .string ⟨#[]⟩, .slice a 17 cap]) (Tr.itL (ts.map Tr.ref ++ [Tr.itB x.data.toList])) ∧ Below w.heap.size w w' := by
  have HR := hid hR
  have hcs := hR.1
  clear hR
  go_enter Tryz.func96, Tryz.ntmps96
  go_upto_region 2 with fail
  generalize hW : (w.alloc (.cells cs 110)).alloc (.cells #[.int .i64 0, .bool false, .string ⟨#[]⟩, .slice none 0 0, .string ⟨#[]⟩, .nilIface, .string ⟨#[]⟩, .nilIface, .string ⟨#[]⟩, .nilIface, .string ⟨#[]⟩, .nilIface, .string ⟨#[]⟩, .nilIface, .string ⟨#[]⟩, .nilIface, .string ⟨#[]⟩, .nilIface, .string ⟨#[]⟩, .nilIface, .string ⟨#[]⟩, .nilIface, .string ⟨#[]⟩, .nilIface, .string ⟨#[]⟩, .nilIface, .string ⟨#[]⟩, .nilIface, .string ⟨#[]⟩, .nilIface, .string ⟨#[]⟩, .nilIface, .string ⟨#[]⟩, .nilIface, .string ⟨#[]⟩, .nilIface, .string ⟨#[]⟩] 112) = W
  have hWs : W.heap.size = w.heap.size + 1 + 1 := by rw [← hW, alloc_size, alloc_size]
  have HB0 : Hid (W.heap[w.heap.size]? = some (.cells cs 110 (0, 0))) := by rw [Hid, ← hW, Below.heap_alloc _ _ _ (by rw [alloc_size]; omega)]; exact heap_alloc_new w _
  have HB1 : Hid (W.heap[w.heap.size + 1]? = some (.cells branchZero 112 (0, 0))) := by rw [Hid, ← hW, ← alloc_size w (.cells cs 110)]; exact heap_alloc_new _ _
  have HWB : Hid (Below w.heap.size w W) := by rw [Hid, ← hW]; exact ((Below.refl _ _).alloc (Nat.le_refl _) _).alloc (by rw [alloc_size]; omega) _
  clear hW
  have HWS := hid hWs
  clear hWs
  refine wp_region_list ?_
  refine wpList_load_row rfl 110 (.tmp 2) rfl w.heap.size rfl 110 cs (0, 0) _ HB0.out Tryz.underlying110 rfl (by rw [hcs]; kernel_rfl) ?_
  try simp only [Act.put]
  go_wp2_with fail
  go_loopw [5, 10] (fun v i wr => ∃ k : Nat, i = .int .i64 k ∧ k ≤ 16 ∧ Hid (RowK wr W.heap.size lo w.heap.size (m + 1) v ((ts.take k).map Tr.ref) ∧ Below W.heap.size W wr)) (fun _ i _ => 16 - (intOf i).toNat)
  case atStart => exact ⟨0, rfl, Nat.zero_le _, rowK_nil _ _ _ _ _, Below.refl _ _⟩
  case round =>
    obtain ⟨k, rfl, hk, HH⟩ := hrel
    obtain ⟨av, cv, hv⟩ := rowK_shape HH.out.1
    subst hv
    by_cases hlt : k < 16
    · have i1 : (0 : Int) ≤ (k : Int) := by omega
      have i2 : (k : Int) < 16 := by omega
      have hkt : k < ts.length := by rw [HR.out.2.1]; exact hlt
      obtain ⟨v, kk, l, s, a, n, cap, c0, c1, hnd, hrep⟩ := HR.out.2.2 k hkt
      have HI := hid (fun w' => refItem_of (fun v t => RepW lo w.heap.size w (m + 1) v t) (fun s => repW_bytes _ _ _ _ s) w' hnd hrep)
      have hix := fun W' => index_ref cs k hlt _ _ hcs W' c0 c1
      have HTK : Hid ((ts.take (k + 1)).map Tr.ref = (ts.take k).map Tr.ref ++ [Tr.ref ts[k]]) := by rw [Hid, List.take_succ_eq_append_getElem hkt, List.map_append]; rfl
      have HLT : Hid (((ts.take k).map Tr.ref).length ≤ 1000000) := by rw [Hid, List.length_map, List.length_take]; omega
      obtain ⟨T, A, _, rfl, _⟩ := hnd
      clear hrep c0 c1
      generalize (ts.take k).map Tr.ref = rk at *
      generalize refSum ts[k] = sk at *
      go_wp2_with fail
      refine (HI.out _).mono ?_
      rintro e w1 ⟨l', s', a', n', cap', rfl, r1, b1⟩
      have HB1' : Hid (Below W.heap.size W w1) := (HH.out.2.alloc HH.out.2.size _).trans (b1.mono (by have := HH.out.2.size; rw [alloc_size]; omega))
      have HRow : Hid (RowK w1 W.heap.size lo w.heap.size (m + 1) (.slice av rk.length cv) rk) := rowK_later (rowK_later HH.out.1 ((Below.refl _ _).alloc (Nat.le_refl _) _) (by have := HH.out.2.size; have := HWS.out; omega)) b1 (by have := HH.out.2.size; have := HWS.out; rw [alloc_size]; omega)
      have HR1 : Hid (RepW lo w.heap.size w1 (m + 1) (.agg #[.bool l', .string s', .slice a' n' cap']) (Tr.ref ts[k])) := repW_turn (Nat.le_refl _) (Nat.le_refl _) (fun j _ hj => (HWB.out.trans (HB1'.out.mono (by have := HWS.out; omega))).block j hj) _ _ _ r1
      clear b1 r1
      go_wp2_with (at_builtin; go_loud (refine wpList_push_itemK rfl (.tmp 13) (.tmp 16) rfl w1.heap.size rfl rfl rfl HRow.out HB1'.out (Nat.le_refl _) (by have := HWS.out; omega) HR1.out HLT.out ?_); intro v' w' ho' hb'; have HO' := hid ho'; have HB' := hid hb'; clear ho' hb')
      exact ⟨⟨k + 1, by go_num, by omega, by rw [HTK.out]; exact HO'.out, HB'.out⟩, by simp [intOf]; omega⟩
    · have i2 : ¬ (k : Int) < 16 := by omega
      have HK : Hid ((ts.take k).map Tr.ref = ts.map Tr.ref) := by rw [Hid, List.take_of_length_le (by rw [HR.out.2.1]; omega)]
      have HLN : Hid ((ts.map Tr.ref).length = 16) := by rw [Hid, List.length_map, HR.out.2.1]
      rw [HK.out] at HH
      rw [HK.out]
      clear HK
      obtain ⟨rk, hrk⟩ : ∃ r, r = ts.map Tr.ref := ⟨_, rfl⟩
      have HRK : Hid (rk = ts.map Tr.ref) := hrk
      rw [← hrk] at HH HLN
      rw [← hrk]
      clear hrk
      have HBI := hid (fun s w => bytesItem_any s w)
      have HLI := hid (fun a n cap w => listItem_any a n cap w)
      go_wp2_with fail
      refine (HBI.out _ _).mono ?_
      rintro e w1 ⟨rfl, b1⟩
      have HB1' : Hid (Below W.heap.size W w1) := HH.out.2.trans (b1.mono HH.out.2.size)
      have HRow : Hid (RowK w1 W.heap.size lo w.heap.size (m + 1) (.slice av rk.length cv) rk) := rowK_later HH.out.1 b1 (by have := HH.out.2.size; have := HWS.out; omega)
      have HR1 : Hid (RepW lo w.heap.size w1 (m + 1) (.agg #[.bool false, .string x, .slice none 0 0]) (Tr.itB x.data.toList)) := repW_string _ _ _ _ _
      have HL1 : Hid (rk.length ≤ 1000000) := by rw [Hid, HLN.out]; decide
      clear b1 HH
      go_wp2_with (at_builtin; go_loud (refine wpList_push_itemK rfl (.tmp 19) (.tmp 22) rfl w1.heap.size rfl rfl rfl HRow.out HB1'.out (Nat.le_refl _) (by have := HWS.out; omega) HR1.out HL1.out ?_); intro v' w' ho' hb'; have HO' := hid ho'; have HB' := hid hb'; clear ho' hb')
      obtain ⟨a2, c2, hv2⟩ := rowK_shape HO'.out
      subst hv2
      refine (HLI.out _ _ _ _).mono ?_
      rintro e w2 ⟨rfl, b2⟩
      have HLN2 : Hid ((rk ++ [Tr.itB x.data.toList]).length = 17) := by rw [Hid, List.length_append, HLN.out]; rfl
      have HB2 : Hid (Below W.heap.size W w2) := HB'.out.trans (b2.mono HB'.out.size)
      have HRow2 : Hid (RowK w2 W.heap.size lo w.heap.size (m + 1) (.slice a2 (rk ++ [Tr.itB x.data.toList]).length c2) (rk ++ [Tr.itB x.data.toList])) := rowK_later HO'.out b2 (by have := HB'.out.size; have := HWS.out; omega)
      rw [HLN2.out]
      rw [HLN2.out] at HRow2
      clear b2 HB' HO' HRow HR1 HB1'
      have HX1 : Hid ((w2.alloc (.cells #[.bool true, .string ⟨#[]⟩, .slice a2 17 c2] 50)).heap[w.heap.size + 1]? = some (.cells branchZero 112 (0, 0))) := (Below.heap_alloc _ _ _ (by have := HB2.out.size; have := HWS.out; omega)).trans ((HB2.out.block _ (by have := HWS.out; omega)).trans HB1.out)
      have HX0 : Hid ((w2.alloc (.cells #[.bool true, .string ⟨#[]⟩, .slice a2 17 c2] 50)).heap[w.heap.size]? = some (.cells cs 110 (0, 0))) := (Below.heap_alloc _ _ _ (by have := HB2.out.size; have := HWS.out; omega)).trans ((HB2.out.block _ (by have := HWS.out; omega)).trans HB0.out)
      have HONE := hid (refs_one HR.out)
      go_upto_region 8 with fail
      refine wp_region_list ?_
      refine wpList_load_row rfl 50 (.tmp 8) rfl w2.heap.size rfl 50 #[.bool true, .string ⟨#[]⟩, .slice a2 17 c2] (0, 0) _ (heap_alloc_new w2 _) Tryz.underlying50 rfl (by kernel_rfl) ?_
      refine wpList_build2 rfl 107 _ _ rfl (.int .i64 3) (.agg #[.bool true, .string ⟨#[]⟩, .slice a2 17 c2]) rfl rfl #[.int .i64 3, .bool true, .string ⟨#[]⟩, .slice a2 17 c2] (by kernel_rfl) ?_
      refine wpList_load_row rfl 110 (.tmp 2) rfl w.heap.size rfl 110 cs (0, 0) _ HX0.out Tryz.underlying110 rfl (by rw [hcs]; kernel_rfl) ?_
      refine wpList_move_is rfl (.tmp 1) rfl ?_
      refine wpList_build3 rfl 112 _ _ _ rfl (.agg #[.int .i64 3, .bool true, .string ⟨#[]⟩, .slice a2 17 c2]) (.agg cs) (.string x) rfl rfl rfl (branchCells a2 c2 cs x) (built_branch cs hcs _ _ _ _ x) ?_
      have HSZ := hid (branchCells_size a2 c2 cs x hcs)
      have HALL := hid (branchCells_one a2 c2 cs x HONE.out)
      refine wpList_store_row rfl 112 (.tmp 4) (.tmp 29) rfl (w.heap.size + 1) (branchCells a2 c2 cs x) rfl rfl 112 branchZero HX1.out (by rw [HSZ.out]; kernel_rfl) (by rw [HSZ.out]; rfl) HALL.out ?_
      have HE : Hid (∃ a cap, Ending.returned (.agg (branchCells a2 c2 cs x)) = .returned (.agg (branchCells a cap cs x)) ∧ RepW lo ((w2.alloc (.cells #[.bool true, .string ⟨#[]⟩, .slice a2 17 c2] 50)).setRow (w.heap.size + 1) (branchCells a2 c2 cs x)).heap.size ((w2.alloc (.cells #[.bool true, .string ⟨#[]⟩, .slice a2 17 c2] 50)).setRow (w.heap.size + 1) (branchCells a2 c2 cs x)) (m + 2) (.agg #[.bool true, .string ⟨#[]⟩, .slice a 17 cap]) (Tr.itL (rk ++ [Tr.itB x.data.toList])) ∧ Below w.heap.size w ((w2.alloc (.cells #[.bool true, .string ⟨#[]⟩, .slice a2 17 c2] 50)).setRow (w.heap.size + 1) (branchCells a2 c2 cs x))) :=
        branch_end hlo HWB.out HWS.out HB2.out HLN2.out HRow2.out
      have HG : Hid (((w2.alloc (.cells #[.bool true, .string ⟨#[]⟩, .slice a2 17 c2] 50)).setRow (w.heap.size + 1) (branchCells a2 c2 cs x)).heap[w.heap.size + 1]? = some (.cells (branchCells a2 c2 cs x) 112 (0, 0))) := setRow_heap _ _ _ _ _ _ HX1.out
      clear HX0 HX1 HONE HALL HRow2 HB2 HLN2 HLN HR HB0 HB1 HWB HWS HBI HLI HL1
      generalize (w2.alloc (.cells #[.bool true, .string ⟨#[]⟩, .slice a2 17 c2] 50)).setRow (w.heap.size + 1) (branchCells a2 c2 cs x) = wF at *
      generalize branchCells a2 c2 cs x = BB at *
      go_wp2_with fail
      refine bodyPost_ret (v := .agg BB) (results_cell_row Tryz.results96 _ _ (w.heap.size + 1) 112 BB (0, 0) _ rfl HG.out Tryz.underlying112 rfl (by rw [HSZ.out]; kernel_rfl)) rfl ?_
      have HEE := HE.out
      rw [HRK.out] at HEE
      exact HEE
end Go.Proofs.YtbmohenjphmlgabGreat

/- The walks of newEmpty and newLeaf (of the program). -/
namespace Go.Proofs.YtbmohenjphmlgabGreat
open Go.RowKit
set_option maxRecDepth 100000

theorem kept_block {W w2 : World} {g : Nat} {O : Obj} (hb : Below W.heap.size W w2) (hW : W.heap[g]? = some O) : w2.heap[g]? = some O := (hb.block g (Array.getElem?_eq_some_iff.1 hW).1).trans hW

theorem block_alloc {w : World} {g : Nat} {O O' : Obj} (h : w.heap[g]? = some O) : (w.alloc O').heap[g]? = some O := (Below.heap_alloc _ _ _ (Array.getElem?_eq_some_iff.1 h).1).trans h

theorem block_alloc2 (w : World) (O O' : Obj) : ((w.alloc O).alloc O').heap[w.heap.size + 1]? = some O' := by
  have := heap_alloc_new (w.alloc O) O'
  rwa [alloc_size] at this

theorem far_ne {w : World} {g : Nat} {O : Obj} (h : w.heap[g]? = some O) : (¬ g = w.heap.size + 1) ∧ (¬ w.heap.size + 1 = g) ∧ (¬ g = w.heap.size) ∧ (¬ w.heap.size = g) ∧ g < w.heap.size := by
  have := (Array.getElem?_eq_some_iff.1 h).1
  exact ⟨by omega, by omega, by omega, by omega, this⟩

theorem belowA {w W : World} (h : Below w.heap.size w W) (O : Obj) : Below w.heap.size w (W.alloc O) := h.alloc h.size O
theorem belowC {w W w2 : World} (h : Below w.heap.size w W) (b : Below W.heap.size W w2) : Below w.heap.size w w2 := h.trans (b.mono h.size)

theorem pair_cells {w : World} {g : Nat} {x y : Value} {T : TypeId} {fr : Nat × Nat} (h : w.heap[g]? = some (.cells #[x, y] T fr)) : w.cell? ⟨g, 0, none⟩ = some x ∧ w.cell? ⟨g, 1, none⟩ = some y :=
  ⟨cell_of_row _ _ 0 _ _ _ h, cell_of_row _ _ 1 _ _ _ h⟩

set_option maxHeartbeats 1600000 in
theorem newEmpty_any (w : World) : Calls Tryz.prog 62 #[] w fun e w' => e = .returned (.iface 141 (.agg #[.int .i64 0, .bool false, .string ⟨#[]⟩, .slice none 0 0])) ∧ Below w.heap.size w w' := by
  have HBI := hid (fun s w => bytesItem_any s w)
  go_enter Tryz.func62, Tryz.ntmps62
  go_wp2_with fail
  refine (HBI.out _ _).mono ?_
  rintro e w1 ⟨rfl, b1⟩
  go_wp2_with fail
  go_ret
  exact ⟨rfl, b1⟩

theorem flat_two (p q : List UInt8) : ∀ u ∈ (Tr.itL [Tr.itB p, Tr.itB q]).items, u.items = [] := by
  intro u hu
  simp only [Tr.itL, List.mem_cons, List.not_mem_nil, or_false] at hu
  rcases hu with rfl | rfl <;> rfl

set_option maxHeartbeats 1600000 in
theorem newLeaf_any (d x : ByteArray) (m : Nat) (w : World) (hs : d.size ≤ 10000000) (hd : ∀ c ∈ d.data.toList, c.toNat < 16) : Calls Tryz.prog 63 #[.string d, .string x] w fun e w' => ∃ a cap, e = .returned (.iface 145 (.agg #[.int .i64 1, .bool true, .string ⟨#[]⟩, .slice a 2 cap, .string d, .string x])) ∧ RepW w.heap.size w'.heap.size w' (m + 2) (.agg #[.bool true, .string ⟨#[]⟩, .slice a 2 cap]) (Tr.itL [Tr.itB (Tr.path d.data.toList true), Tr.itB x.data.toList]) ∧ Below w.heap.size w w' := by
  have HP := hid (fun w => pathOf_any d true w hs hd)
  have HBI := hid (fun s w => bytesItem_any s w)
  have HLI := hid (fun a n cap w => listItem_any a n cap w)
  go_enter Tryz.func63, Tryz.ntmps63
  go_wp2_with fail
  refine (HP.out _).mono ?_
  rintro e w1 ⟨rfl, b1⟩
  go_wp2_with fail
  refine (HBI.out _ _).mono ?_
  rintro e w2 ⟨rfl, b2⟩
  go_wp2_with fail
  refine (HBI.out _ _).mono ?_
  rintro e w3 ⟨rfl, b3⟩
  have HB : Hid (Below w.heap.size w w3) := (b1.trans (b2.mono b1.size)).trans (b3.mono (Nat.le_trans b1.size b2.size))
  have HR : Hid (RowR (w3.alloc (.cells #[.bool false, .string ⟨(Tr.path d.data.toList true).toArray⟩, .slice none 0 0, .bool false, .string x, .slice none 0 0] 50)) w3.heap.size (m + 1) (.slice (some ⟨w3.heap.size, 0, none⟩) 2 2) [Tr.itB (Tr.path d.data.toList true), Tr.itB x.data.toList]) :=
    rowR_two (Nat.le_refl _) (rep_bytes _ _ _ _) (rep_string _ _ _ _)
  clear b1 b2 b3
  go_wp2_with fail
  refine (HLI.out _ _ _ _).mono ?_
  rintro e w4 ⟨rfl, b4⟩
  have HR4 := hid (rowR_rep (rowR_later HR.out b4 (by simp)) (Nat.le_trans (by simp : w3.heap.size ≤ _) b4.size) (by simp [maxLen]))
  have HB4 : Hid (Below w.heap.size w w4) := (HB.out.alloc HB.out.size _).trans (b4.mono (by have := HB.out.size; simp; omega))
  clear b4
  go_wp2_with fail
  go_ret
  exact ⟨_, _, rfl, repW_flat (rep_later ((Below.refl _ _).alloc (Nat.le_refl _) _) HR4.out) (flat_two _ _) (fun b off e => by cases e; exact HB.out.size), HB4.out.alloc HB4.out.size _⟩

/-- Two items in a row that lies there. -/
theorem rowR_of_block {w : World} {base r m : Nat} {a b c a' b' c' : Value} {t t' : Itm} (h : w.heap[r]? = some (.cells #[a, b, c, a', b', c'] 50 (0, 0))) (hb : base ≤ r) (h1 : Rep base w m (.agg #[a, b, c]) t) (h2 : Rep base w m (.agg #[a', b', c']) t') : RowR w base m (.slice (some ⟨r, 0, none⟩) 2 2) [t, t'] := by
  refine ⟨[a, b, c, a', b', c'], ⟨rfl, .inr ⟨r, 2, _, rfl, hb, h, Nat.le_refl _, by unfold maxLen; omega, rfl, rfl⟩⟩, ?_⟩
  intro i hi
  match i, hi with
  | 0, _ => exact h1
  | 1, _ => exact h2

theorem set3_other {w : World} {g r : Nat} {O : Obj} {a b c : Value} (h : w.heap[r]? = some O) (hne : g ≠ r) : (((w.setCell ⟨g, 0, none⟩ a).setCell ⟨g, 1, none⟩ b).setCell ⟨g, 2, none⟩ c).heap[r]? = some O := by
  simp [World.setCell, Array.getElem?_modify, hne, h]

end Go.Proofs.YtbmohenjphmlgabGreat
