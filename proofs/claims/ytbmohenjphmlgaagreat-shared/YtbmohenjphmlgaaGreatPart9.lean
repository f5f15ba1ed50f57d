/- Part 9 of a proof: what the last text needs. -/
import Derived.Test.YtbmohenjphmlgaaGreatPart8
import Derived.Test.YtbmohenjphmlgaaGreatPart2
/- The walk of newBranch (of the program). -/
namespace Go.Proofs.YtbmohenjphmlgaaGreat
open Go.RowKit
set_option maxRecDepth 100000

/-- The references of a branch: of each the sum, or none, and the node. -/
def Refs (lo : Nat) (w : World) (m : Nat) (cs : Array Value) (ts : List Itm) : Prop :=
  cs.size = 32 ∧ ts.length = 16 ∧ ∀ d, (h : d < ts.length) → ∃ v k l s a n cap, cs[2 * d]? = some (.string (refSum ts[d])) ∧ cs[2 * d + 1]? = some v ∧ Nd v k l s a n cap ∧ RepW lo w.heap.size w (m + 1) (.agg #[.bool l, .string s, .slice a n cap]) ts[d]

/-- A branch of nothing, as it lies in memory. -/
def branchZero : Array Value := #[.int .i64 0, .bool false, .string ⟨#[]⟩, .slice none 0 0, .string ⟨#[]⟩, .nilIface, .string ⟨#[]⟩, .nilIface, .string ⟨#[]⟩, .nilIface, .string ⟨#[]⟩, .nilIface, .string ⟨#[]⟩, .nilIface, .string ⟨#[]⟩, .nilIface, .string ⟨#[]⟩, .nilIface, .string ⟨#[]⟩, .nilIface, .string ⟨#[]⟩, .nilIface, .string ⟨#[]⟩, .nilIface, .string ⟨#[]⟩, .nilIface, .string ⟨#[]⟩, .nilIface, .string ⟨#[]⟩, .nilIface, .string ⟨#[]⟩, .nilIface, .string ⟨#[]⟩, .nilIface, .string ⟨#[]⟩, .nilIface, .string ⟨#[]⟩]

theorem branchZero_size : branchZero.size = 37 := rfl

theorem wpList_move_is {P : Program} {ops : Array Oper} {rest : List Oper} {o : Oper} {a : Act} {w : World} {Q : Exit → Act → World → Prop} (hg : o.guard = none) (x : Operand) (ho : o.op = .move x)
    (h : wpList P ops Q rest (a.put o.dst (a.eval x)) w) : wpList P ops Q (o :: rest) a w := by
  refine wpList_plain hg fun K hK => ?_
  unfold Oper.wp execOp
  simp only [ho, Sem.run_pure]
  exact hK _ _ h

theorem wpList_build2 {P : Program} {ops : Array Oper} {rest : List Oper} {o : Oper} {a : Act} {w : World} {Q : Exit → Act → World → Prop} (hg : o.guard = none) (t : TypeId) (x0 x1 : Operand) (ho : o.op = .build t #[(0, x0), (1, x1)]) (v0 v1 : Value) (h0 : a.eval x0 = v0) (h1 : a.eval x1 = v1) (cs : Array Value)
    (hb : P.built t [(0, v0), (1, v1)] = some cs) (h : wpList P ops Q rest (a.put o.dst (.agg cs)) w) : wpList P ops Q (o :: rest) a w := by
  have e : P.built t ((#[(0, x0), (1, x1)] : Array (Nat × Operand)).map fun (i, x) => (i, a.eval x)).toList = some cs := by simpa [h0, h1] using hb
  exact wpList_build hg t _ ho (by rw [e]; rfl) (by rw [e]; exact h)

theorem wpList_build3 {P : Program} {ops : Array Oper} {rest : List Oper} {o : Oper} {a : Act} {w : World} {Q : Exit → Act → World → Prop} (hg : o.guard = none) (t : TypeId) (x0 x1 x2 : Operand) (ho : o.op = .build t #[(0, x0), (1, x1), (2, x2)]) (v0 v1 v2 : Value) (h0 : a.eval x0 = v0) (h1 : a.eval x1 = v1) (h2 : a.eval x2 = v2) (cs : Array Value)
    (hb : P.built t [(0, v0), (1, v1), (2, v2)] = some cs) (h : wpList P ops Q rest (a.put o.dst (.agg cs)) w) : wpList P ops Q (o :: rest) a w := by
  have e : P.built t ((#[(0, x0), (1, x1), (2, x2)] : Array (Nat × Operand)).map fun (i, x) => (i, a.eval x)).toList = some cs := by simpa [h0, h1, h2] using hb
  exact wpList_build hg t _ ho (by rw [e]; rfl) (by rw [e]; exact h)

theorem refs_one {lo : Nat} {w : World} {m : Nat} {cs : Array Value} {ts : List Itm} (h : Refs lo w m cs ts) : ∀ v ∈ cs.toList, v.oneCell' = true := by
  intro v hv
  obtain ⟨i, hi, hiv⟩ := List.getElem_of_mem hv
  have hi32 : i < 32 := by rw [← h.1]; simpa using hi
  obtain ⟨u, _, _, _, _, _, _, c0, c1, hn, _⟩ := h.2.2 (i / 2) (by rw [h.2.1]; omega)
  obtain ⟨T, A, _, rfl, _⟩ := hn
  have e : cs[i]? = some v := by rw [← hiv]; simp
  rcases Nat.mod_two_eq_zero_or_one i with h0 | h0
  · rw [show i = 2 * (i / 2) by omega, c0] at e
    cases e; rfl
  · rw [show i = 2 * (i / 2) + 1 by omega, c1] at e
    cases e; rfl

theorem arr32 (cs : Array Value) (h : cs.size = 32) : ∃ c0 c1 c2 c3 c4 c5 c6 c7 c8 c9 c10 c11 c12 c13 c14 c15 c16 c17 c18 c19 c20 c21 c22 c23 c24 c25 c26 c27 c28 c29 c30 c31 : Value, cs = #[c0, c1, c2, c3, c4, c5, c6, c7, c8, c9, c10, c11, c12, c13, c14, c15, c16, c17, c18, c19, c20, c21, c22, c23, c24, c25, c26, c27, c28, c29, c30, c31] := by
  obtain ⟨l⟩ := cs
  have hl : l.length = 32 := h
  clear h
  rcases l with _ | ⟨c0, l⟩
  · simp at hl
  have hl : l.length = 31 := by simpa using hl
  rcases l with _ | ⟨c1, l⟩
  · simp at hl
  have hl : l.length = 30 := by simpa using hl
  rcases l with _ | ⟨c2, l⟩
  · simp at hl
  have hl : l.length = 29 := by simpa using hl
  rcases l with _ | ⟨c3, l⟩
  · simp at hl
  have hl : l.length = 28 := by simpa using hl
  rcases l with _ | ⟨c4, l⟩
  · simp at hl
  have hl : l.length = 27 := by simpa using hl
  rcases l with _ | ⟨c5, l⟩
  · simp at hl
  have hl : l.length = 26 := by simpa using hl
  rcases l with _ | ⟨c6, l⟩
  · simp at hl
  have hl : l.length = 25 := by simpa using hl
  rcases l with _ | ⟨c7, l⟩
  · simp at hl
  have hl : l.length = 24 := by simpa using hl
  rcases l with _ | ⟨c8, l⟩
  · simp at hl
  have hl : l.length = 23 := by simpa using hl
  rcases l with _ | ⟨c9, l⟩
  · simp at hl
  have hl : l.length = 22 := by simpa using hl
  rcases l with _ | ⟨c10, l⟩
  · simp at hl
  have hl : l.length = 21 := by simpa using hl
  rcases l with _ | ⟨c11, l⟩
  · simp at hl
  have hl : l.length = 20 := by simpa using hl
  rcases l with _ | ⟨c12, l⟩
  · simp at hl
  have hl : l.length = 19 := by simpa using hl
  rcases l with _ | ⟨c13, l⟩
  · simp at hl
  have hl : l.length = 18 := by simpa using hl
  rcases l with _ | ⟨c14, l⟩
  · simp at hl
  have hl : l.length = 17 := by simpa using hl
  rcases l with _ | ⟨c15, l⟩
  · simp at hl
  have hl : l.length = 16 := by simpa using hl
  rcases l with _ | ⟨c16, l⟩
  · simp at hl
  have hl : l.length = 15 := by simpa using hl
  rcases l with _ | ⟨c17, l⟩
  · simp at hl
  have hl : l.length = 14 := by simpa using hl
  rcases l with _ | ⟨c18, l⟩
  · simp at hl
  have hl : l.length = 13 := by simpa using hl
  rcases l with _ | ⟨c19, l⟩
  · simp at hl
  have hl : l.length = 12 := by simpa using hl
  rcases l with _ | ⟨c20, l⟩
  · simp at hl
  have hl : l.length = 11 := by simpa using hl
  rcases l with _ | ⟨c21, l⟩
  · simp at hl
  have hl : l.length = 10 := by simpa using hl
  rcases l with _ | ⟨c22, l⟩
  · simp at hl
  have hl : l.length = 9 := by simpa using hl
  rcases l with _ | ⟨c23, l⟩
  · simp at hl
  have hl : l.length = 8 := by simpa using hl
  rcases l with _ | ⟨c24, l⟩
  · simp at hl
  have hl : l.length = 7 := by simpa using hl
  rcases l with _ | ⟨c25, l⟩
  · simp at hl
  have hl : l.length = 6 := by simpa using hl
  rcases l with _ | ⟨c26, l⟩
  · simp at hl
  have hl : l.length = 5 := by simpa using hl
  rcases l with _ | ⟨c27, l⟩
  · simp at hl
  have hl : l.length = 4 := by simpa using hl
  rcases l with _ | ⟨c28, l⟩
  · simp at hl
  have hl : l.length = 3 := by simpa using hl
  rcases l with _ | ⟨c29, l⟩
  · simp at hl
  have hl : l.length = 2 := by simpa using hl
  rcases l with _ | ⟨c30, l⟩
  · simp at hl
  have hl : l.length = 1 := by simpa using hl
  rcases l with _ | ⟨c31, l⟩
  · simp at hl
  have hl : l.length = 0 := by simpa using hl
  obtain rfl : l = [] := List.eq_nil_of_length_eq_zero hl
  exact ⟨c0, c1, c2, c3, c4, c5, c6, c7, c8, c9, c10, c11, c12, c13, c14, c15, c16, c17, c18, c19, c20, c21, c22, c23, c24, c25, c26, c27, c28, c29, c30, c31, rfl⟩

theorem built_branch (cs : Array Value) (h : cs.size = 32) (k b s sl : Value) (x : ByteArray) : Tryz.prog.built 142 [(0, .agg #[k, b, s, sl]), (1, .agg cs), (2, .string x)] = some (#[k, b, s, sl] ++ cs ++ #[.string x]) := by
  obtain ⟨c0, c1, c2, c3, c4, c5, c6, c7, c8, c9, c10, c11, c12, c13, c14, c15, c16, c17, c18, c19, c20, c21, c22, c23, c24, c25, c26, c27, c28, c29, c30, c31, rfl⟩ := arr32 cs h
  kernel_rfl

/-- A branch as a value: what it has in common with other nodes, its references, its value. -/
def branchCells (a : Option Addr) (cap : Nat) (cs : Array Value) (x : ByteArray) : Array Value := #[Value.int .i64 3, Value.bool true, Value.string ⟨#[]⟩, Value.slice a 17 cap] ++ cs ++ #[Value.string x]

theorem branchCells_size (a : Option Addr) (cap : Nat) (cs : Array Value) (x : ByteArray) (h : cs.size = 32) : (branchCells a cap cs x).size = 37 := by
  unfold branchCells
  rw [Array.size_append, Array.size_append, h]; rfl

theorem branchCells_one (a : Option Addr) (cap : Nat) (cs : Array Value) (x : ByteArray) (h : ∀ v ∈ cs.toList, v.oneCell' = true) : (branchCells a cap cs x).all (·.oneCell') = true := by
  unfold branchCells
  rw [Array.all_eq_true_iff_forall_mem]
  intro v hv
  simp only [Array.mem_append, List.mem_toArray, List.mem_cons, List.not_mem_nil, or_false] at hv
  rcases hv with (hv | hv) | hv
  · rcases hv with rfl | rfl | rfl | rfl <;> rfl
  · exact h v (by simpa using hv)
  · subst hv; rfl

theorem index_ref (cs : Array Value) (k : Nat) (hk : k < 16) (s : Value) (v : Value) (hcs : cs.size = 32) (w : World) (h0 : cs[2 * k]? = some s) (h1 : cs[2 * k + 1]? = some v) : (Instr.index 140 (.agg cs) (.int .i64 k)).run Tryz.prog w = .ok (.agg #[s, v]) w := by
  have hn : (0 ≤ (k : Int) ∧ (k : Int) < ((16 : Nat) : Int)) := by omega
  have hu := Tryz.underlying140
  have a1 := Tryz.isAgg139
  have a2 := Tryz.sizeOf139
  simp [Instr.index, run_underlying hu, asIntOf, hn, go_sem, a1, a2]
  rw [if_pos hk]
  congr 2
  apply Array.ext
  · simp; omega
  · intro i h2 h3
    have : i < 2 := by simpa using h3
    match i, this with
    | 0, _ => simp only [Array.getElem_extract, Nat.add_zero]; rw [Nat.mul_comm] at h0; exact (Array.getElem?_eq_some_iff.1 h0).2
    | 1, _ => simp only [Array.getElem_extract]; rw [Nat.mul_comm] at h1; exact (Array.getElem?_eq_some_iff.1 h1).2

theorem rep_string (B : Nat) (w : World) (m : Nat) (x : ByteArray) : Rep B w (m + 1) (.agg #[.bool false, .string x, .slice none 0 0]) (Tr.itB x.data.toList) := ⟨none, 0, by cases x; simp [Tr.itB], by simp [Tr.itB], fun i hi => by simp [Tr.itB] at hi⟩

/-- Items in a row of its own from base on; what is within them lies from lo on, below kb. -/
def RowK (w : World) (base lo kb : Nat) (m : Nat) (v : Value) (ts : List Itm) : Prop :=
  ∃ xs, w.ownsRow base 119 3 v ts.length xs ∧ ∀ i (h : i < ts.length), RepW lo kb w m (tri xs i) ts[i]

theorem rowK_nil (w : World) (base lo kb m : Nat) : RowK w base lo kb m (.slice none 0 0) [] := ⟨[], World.ownsRow_nil _ _ _ _, fun i hi => by simp at hi⟩

theorem rowK_shape {w : World} {base lo kb m : Nat} {v : Value} {ts : List Itm} (h : RowK w base lo kb m v ts) : ∃ a cap, v = .slice a ts.length cap := by
  obtain ⟨xs, ho, _⟩ := h
  rcases ho.2 with ⟨rfl, h0⟩ | ⟨g, cap, cur, rfl, _⟩
  · exact ⟨none, 0, by rw [h0]⟩
  · exact ⟨_, cap, rfl⟩

theorem rowK_later {w w' : World} {base lo kb m : Nat} {v : Value} {ts : List Itm} (h : RowK w base lo kb m v ts) (hb : Below w.heap.size w w') (hB : kb ≤ w.heap.size) : RowK w' base lo kb m v ts := by
  obtain ⟨xs, ho, hr⟩ := h
  exact ⟨xs, owns_frame ho (fun g hg => hb.block g (ho.lt g hg).2), fun i hi => repW_turn (Nat.le_refl _) (Nat.le_refl _) (fun k _ hk => hb.block k (Nat.lt_of_lt_of_le hk hB)) _ _ _ (hr i hi)⟩

/-- An item that was just laid is appended to such a row: for a walk. -/
theorem wpList_push_itemK {ops : Array Oper} {rest : List Oper} {o : Oper} {act : Act} {Q' : Exit → Act → World → Prop} (hgd : o.guard = none) (s x : Operand)
    (hop : o.op = .call { callee := .builtin .append, args := #[s, x], argTypes := #[57, 57] }) {W wr : World} {base lo kb m : Nat} {v1 a b c : Value} {ts : List Itm} {t : Itm} (L : Nat) (hL : wr.heap.size = L)
    (hs : act.eval s = v1) (hx : act.eval x = .slice (some ⟨L, 0, none⟩) 1 1) (ho : RowK wr base lo kb m v1 ts) (hb : Below base W wr) (hB : base ≤ W.heap.size) (hkb : kb ≤ base) (hr : RepW lo kb wr m (.agg #[a, b, c]) t) (hlen : ts.length ≤ 1000000)
    (h : ∀ v' w', RowK w' base lo kb m v' (ts ++ [t]) → Below base W w' → wpList Tryz.prog ops Q' rest (act.put o.dst v') w') : wpList Tryz.prog ops Q' (o :: rest) act (wr.alloc (.cells #[a, b, c] 119)) := by
  subst hL
  obtain ⟨i0, hi, hz0, hz1, hz2⟩ := info_parts infoItem
  have hbW : Below wr.heap.size wr (wr.alloc (.cells #[a, b, c] 119)) := (Below.refl _ _).alloc (Nat.le_refl _) _
  have hBr : base ≤ wr.heap.size := Nat.le_trans hB hb.size
  have hBw : base ≤ (wr.alloc (.cells #[a, b, c] 119)).heap.size := by rw [alloc_size]; omega
  obtain ⟨xs, hrow, hrs⟩ := rowK_later ho hbW (Nat.le_trans hkb hBr)
  have hone := rep_one (repW_rep _ _ _ hr)
  refine wpList_append_mine _ hgd s x 57 hop base 119 i0 _ 3 48 Tryz.underlying57 hi hz0 hz1 hz2 rfl (by decide) v1 ts.length xs hs hrow ⟨wr.heap.size, 0, none⟩ 1 1 [a, b, c] hx rfl (cells_three wr a b c 119) ?_ (by unfold maxLen; omega) (by omega) hBw ?_
  · intro u hu
    simp only [List.mem_cons, List.not_mem_nil, or_false] at hu
    rcases hu with rfl | rfl | rfl
    · exact hone.1
    · exact hone.2.1
    · exact hone.2.2
  · intro v' w' ho' hg _
    have hb3 : Below base (wr.alloc (.cells #[a, b, c] 119)) w' := (Below.refl _ _).grown hg hBw (fun g hgg => (hrow.lt g hgg).1)
    refine h v' w' ⟨xs ++ [a, b, c], ?_, ?_⟩ ((hb.trans (hbW.mono hBr)).trans hb3)
    · rw [List.length_append]; exact ho'
    · intro i hi
      rw [List.length_append, List.length_singleton] at hi
      by_cases hlt : i < ts.length
      · rw [tri_left xs [a, b, c] i ts.length hrow.1 hlt, List.getElem_append_left hlt]
        exact repW_turn (Nat.le_refl _) (Nat.le_refl _) (fun k _ hk => hb3.block k (Nat.lt_of_lt_of_le hk hkb)) _ _ _ (hrs i hlt)
      · obtain rfl : i = ts.length := by omega
        rw [tri_new xs a b c ts.length hrow.1]
        simp only [List.getElem_append_right (Nat.le_refl _), Nat.sub_self, List.getElem_cons_zero]
        exact repW_turn (Nat.le_refl _) (Nat.le_refl _) (fun k _ hk => ((hbW.mono hBr).trans hb3).block k (Nat.lt_of_lt_of_le hk hkb)) _ _ _ hr

/-- A list of these items can be read, also where blocks have turned that none of them lies in. -/
theorem rowK_rep {w w' : World} {base lo kb m : Nat} {a : Option Addr} {n cap : Nat} {ts : List Itm} (h : RowK w base lo kb m (.slice a n cap) ts) (hk : kb ≤ w'.heap.size) (hlo : lo ≤ base) (hb : ∀ k, lo ≤ k → k < kb → w'.heap[k]? = w.heap[k]?) (ho' : ∀ g, base ≤ g → g < w.heap.size → w'.heap[g]? = w.heap[g]?) (hl : ts.length ≤ maxLen) : RepW lo w'.heap.size w' (m + 1) (.agg #[.bool true, .string ⟨#[]⟩, .slice a n cap]) (Tr.itL ts) := by
  obtain ⟨xs, ho, hr⟩ := h
  have ho2 : w'.ownsRow base 119 3 (.slice a n cap) ts.length xs := owns_frame ho (fun g hg => ho' g (ho.lt g hg).1 (ho.lt g hg).2)
  rcases ho2.2 with ⟨he, h0⟩ | ⟨g, cap', cur, he, hbg, hg, _⟩
  · have : ts = [] := List.eq_nil_of_length_eq_zero h0
    subst this
    simp only [Value.slice.injEq] at he
    obtain ⟨rfl, rfl, rfl⟩ := he
    exact ⟨none, 0, rfl, by simp [Tr.itL], fun i hi => by simp [Tr.itL] at hi⟩
  · simp only [Value.slice.injEq] at he
    obtain ⟨rfl, rfl, rfl⟩ := he
    refine ⟨_, _, rfl, hl, fun i hi => ?_⟩
    have hi' : i < ts.length := hi
    obtain ⟨c0, c1, c2⟩ := tri_cells ho2 i hi'
    exact ⟨g, 0, _, _, _, rfl, Nat.le_trans hlo hbg, (Array.getElem?_eq_some_iff.1 hg).1, c0, c1, c2, repW_turn (Nat.le_refl _) hk hb _ _ _ (hr i hi')⟩

theorem setRow_below {B g : Nat} {w a : World} {cs : Array Value} (h : Below B w a) (hg : B ≤ g) : Below B w (a.setRow g cs) :=
  h.trans ⟨rfl, rfl, rfl, by simp [World.setRow], fun k hk => setRow_other a g k _ (by omega)⟩

theorem branch_end {w W w2 : World} {a2 : Option Addr} {c2 m lo : Nat} {cs BB : Array Value} {x : ByteArray} {ts : List Itm} {O : Obj} (hlo : lo ≤ w.heap.size) (hWB : Below w.heap.size w W) (hWS : W.heap.size = w.heap.size + 1 + 1) (hB2 : Below W.heap.size W w2) (hl : ts.length = 17) (hr : RowK w2 W.heap.size lo w.heap.size (m + 1) (.slice a2 17 c2) ts) :
    ∃ a cap, Ending.returned (.agg (branchCells a2 c2 cs x)) = .returned (.agg (branchCells a cap cs x)) ∧ RepW lo ((w2.alloc O).setRow (w.heap.size + 1) BB).heap.size ((w2.alloc O).setRow (w.heap.size + 1) BB) (m + 2) (.agg #[.bool true, .string ⟨#[]⟩, .slice a 17 cap]) (Tr.itL ts) ∧ Below w.heap.size w ((w2.alloc O).setRow (w.heap.size + 1) BB) := by
  have hs2 := hB2.size
  have b1 : Below w.heap.size w (w2.alloc O) := (hWB.trans (hB2.mono (by omega))).alloc (by omega) O
  have bF := setRow_below (cs := BB) b1 (Nat.le_succ w.heap.size)
  have hsF : ((w2.alloc O).setRow (w.heap.size + 1) BB).heap.size = w2.heap.size + 1 := by simp [World.setRow]
  have bG : Below w.heap.size w2 ((w2.alloc O).setRow (w.heap.size + 1) BB) := setRow_below ((Below.refl _ _).alloc (by omega) O) (Nat.le_succ _)
  refine ⟨a2, c2, rfl, rowK_rep hr (by omega) (by omega) (fun k _ hk => bG.block k hk) ?_ (by rw [hl]; unfold maxLen; omega), bF⟩
  intro g h1 h2
  rw [setRow_other _ _ _ _ (by omega)]
  exact Below.heap_alloc _ _ _ h2

set_option maxHeartbeats 3200000 in
theorem newBranch_any (cs : Array Value) (x : ByteArray) (ts : List Itm) (m lo : Nat) (w : World) (hlo : lo ≤ w.heap.size) (hR : Refs lo w m cs ts) : Calls Tryz.prog 118 #[.agg cs, .string x] w fun e w' => ∃ a cap, e = .returned (.agg (branchCells a cap cs x)) ∧ RepW lo w'.heap.size w' (m + 2) (.agg #[.bool true, .string ⟨#[]⟩, .slice a 17 cap]) (Tr.itL (ts.map Tr.ref ++ [Tr.itB x.data.toList])) ∧ Below w.heap.size w w' := by
  have HR := hid hR
  have hcs := hR.1
  clear hR
  go_enter Tryz.func118, Tryz.ntmps118
  go_upto_region 2 with fail
  generalize hW : (w.alloc (.cells cs 140)).alloc (.cells #[.int .i64 0, .bool false, .string ⟨#[]⟩, .slice none 0 0, .string ⟨#[]⟩, .nilIface, .string ⟨#[]⟩, .nilIface, .string ⟨#[]⟩, .nilIface, .string ⟨#[]⟩, .nilIface, .string ⟨#[]⟩, .nilIface, .string ⟨#[]⟩, .nilIface, .string ⟨#[]⟩, .nilIface, .string ⟨#[]⟩, .nilIface, .string ⟨#[]⟩, .nilIface, .string ⟨#[]⟩, .nilIface, .string ⟨#[]⟩, .nilIface, .string ⟨#[]⟩, .nilIface, .string ⟨#[]⟩, .nilIface, .string ⟨#[]⟩, .nilIface, .string ⟨#[]⟩, .nilIface, .string ⟨#[]⟩, .nilIface, .string ⟨#[]⟩] 142) = W
  have hWs : W.heap.size = w.heap.size + 1 + 1 := by rw [← hW, alloc_size, alloc_size]
  have HB0 : Hid (W.heap[w.heap.size]? = some (.cells cs 140 (0, 0))) := by rw [Hid, ← hW, Below.heap_alloc _ _ _ (by rw [alloc_size]; omega)]; exact heap_alloc_new w _
  have HB1 : Hid (W.heap[w.heap.size + 1]? = some (.cells branchZero 142 (0, 0))) := by rw [Hid, ← hW, ← alloc_size w (.cells cs 140)]; exact heap_alloc_new _ _
  have HWB : Hid (Below w.heap.size w W) := by rw [Hid, ← hW]; exact ((Below.refl _ _).alloc (Nat.le_refl _) _).alloc (by rw [alloc_size]; omega) _
  clear hW
  have HWS := hid hWs
  clear hWs
  refine wp_region_list ?_
  refine wpList_load_row rfl 140 (.tmp 2) rfl w.heap.size rfl 140 cs (0, 0) _ HB0.out Tryz.underlying140 rfl (by rw [hcs]; kernel_rfl) ?_
  try simp only [Act.put]
  go_wp2_with fail
  go_loopw [5, 10] (fun v i wr => ∃ k : Nat, i = .int .i64 k ∧ k ≤ 16 ∧ Hid (RowK wr W.heap.size lo w.heap.size (m + 1) v ((ts.take k).map Tr.ref) ∧ Below W.heap.size W wr)) (fun _ i _ => 16 - (intOf i).toNat)
  case atStart => exact ⟨0, rfl, Nat.zero_le _, rowK_nil _ _ _ _ _, Below.refl _ _⟩
  case round =>
    obtain ⟨k, rfl, hk, HH⟩ := hrel
    obtain ⟨av, cv, hv⟩ := rowK_shape HH.out.1
    subst hv
    by_cases hlt : k < 16
    · have i1 : (0 : Int) ≤ (k : Int) := by omega
      have i2 : (k : Int) < 16 := by omega
      have hkt : k < ts.length := by rw [HR.out.2.1]; exact hlt
      obtain ⟨v, kk, l, s, a, n, cap, c0, c1, hnd, hrep⟩ := HR.out.2.2 k hkt
      have HI := hid (fun w' => refItem_of (fun v t => RepW lo w.heap.size w (m + 1) v t) (fun s => repW_bytes _ _ _ _ s) w' hnd hrep)
      have hix := fun W' => index_ref cs k hlt _ _ hcs W' c0 c1
      have HTK : Hid ((ts.take (k + 1)).map Tr.ref = (ts.take k).map Tr.ref ++ [Tr.ref ts[k]]) := by rw [Hid, List.take_succ_eq_append_getElem hkt, List.map_append]; rfl
      have HLT : Hid (((ts.take k).map Tr.ref).length ≤ 1000000) := by rw [Hid, List.length_map, List.length_take]; omega
      obtain ⟨T, A, _, rfl, _⟩ := hnd
      clear hrep c0 c1
      generalize (ts.take k).map Tr.ref = rk at *
      generalize refSum ts[k] = sk at *
      go_wp2_with fail
      refine (HI.out _).mono ?_
      rintro e w1 ⟨l', s', a', n', cap', rfl, r1, b1⟩
      have HB1' : Hid (Below W.heap.size W w1) := (HH.out.2.alloc HH.out.2.size _).trans (b1.mono (by have := HH.out.2.size; rw [alloc_size]; omega))
      have HRow : Hid (RowK w1 W.heap.size lo w.heap.size (m + 1) (.slice av rk.length cv) rk) := rowK_later (rowK_later HH.out.1 ((Below.refl _ _).alloc (Nat.le_refl _) _) (by have := HH.out.2.size; have := HWS.out; omega)) b1 (by have := HH.out.2.size; have := HWS.out; rw [alloc_size]; omega)
      have HR1 : Hid (RepW lo w.heap.size w1 (m + 1) (.agg #[.bool l', .string s', .slice a' n' cap']) (Tr.ref ts[k])) := repW_turn (Nat.le_refl _) (Nat.le_refl _) (fun j _ hj => (HWB.out.trans (HB1'.out.mono (by have := HWS.out; omega))).block j hj) _ _ _ r1
      clear b1 r1
      go_wp2_with (at_builtin; go_loud (refine wpList_push_itemK rfl (.tmp 13) (.tmp 16) rfl w1.heap.size rfl rfl rfl HRow.out HB1'.out (Nat.le_refl _) (by have := HWS.out; omega) HR1.out HLT.out ?_); intro v' w' ho' hb'; have HO' := hid ho'; have HB' := hid hb'; clear ho' hb')
      exact ⟨⟨k + 1, by go_num, by omega, by rw [HTK.out]; exact HO'.out, HB'.out⟩, by simp [intOf]; omega⟩
    · have i2 : ¬ (k : Int) < 16 := by omega
      have HK : Hid ((ts.take k).map Tr.ref = ts.map Tr.ref) := by rw [Hid, List.take_of_length_le (by rw [HR.out.2.1]; omega)]
      have HLN : Hid ((ts.map Tr.ref).length = 16) := by rw [Hid, List.length_map, HR.out.2.1]
      rw [HK.out] at HH
      rw [HK.out]
      clear HK
      obtain ⟨rk, hrk⟩ : ∃ r, r = ts.map Tr.ref := ⟨_, rfl⟩
      have HRK : Hid (rk = ts.map Tr.ref) := hrk
      rw [← hrk] at HH HLN
      rw [← hrk]
      clear hrk
      have HBI := hid (fun s w => bytesItem_any s w)
      have HLI := hid (fun a n cap w => listItem_any a n cap w)
      go_wp2_with fail
      refine (HBI.out _ _).mono ?_
      rintro e w1 ⟨rfl, b1⟩
      have HB1' : Hid (Below W.heap.size W w1) := HH.out.2.trans (b1.mono HH.out.2.size)
      have HRow : Hid (RowK w1 W.heap.size lo w.heap.size (m + 1) (.slice av rk.length cv) rk) := rowK_later HH.out.1 b1 (by have := HH.out.2.size; have := HWS.out; omega)
      have HR1 : Hid (RepW lo w.heap.size w1 (m + 1) (.agg #[.bool false, .string x, .slice none 0 0]) (Tr.itB x.data.toList)) := repW_string _ _ _ _ _
      have HL1 : Hid (rk.length ≤ 1000000) := by rw [Hid, HLN.out]; decide
      clear b1 HH
      go_wp2_with (at_builtin; go_loud (refine wpList_push_itemK rfl (.tmp 19) (.tmp 22) rfl w1.heap.size rfl rfl rfl HRow.out HB1'.out (Nat.le_refl _) (by have := HWS.out; omega) HR1.out HL1.out ?_); intro v' w' ho' hb'; have HO' := hid ho'; have HB' := hid hb'; clear ho' hb')
      obtain ⟨a2, c2, hv2⟩ := rowK_shape HO'.out
      subst hv2
      refine (HLI.out _ _ _ _).mono ?_
      rintro e w2 ⟨rfl, b2⟩
      have HLN2 : Hid ((rk ++ [Tr.itB x.data.toList]).length = 17) := by rw [Hid, List.length_append, HLN.out]; rfl
      have HB2 : Hid (Below W.heap.size W w2) := HB'.out.trans (b2.mono HB'.out.size)
      have HRow2 : Hid (RowK w2 W.heap.size lo w.heap.size (m + 1) (.slice a2 (rk ++ [Tr.itB x.data.toList]).length c2) (rk ++ [Tr.itB x.data.toList])) := rowK_later HO'.out b2 (by have := HB'.out.size; have := HWS.out; omega)
      rw [HLN2.out]
      rw [HLN2.out] at HRow2
      clear b2 HB' HO' HRow HR1 HB1'
      have HX1 : Hid ((w2.alloc (.cells #[.bool true, .string ⟨#[]⟩, .slice a2 17 c2] 119)).heap[w.heap.size + 1]? = some (.cells branchZero 142 (0, 0))) := (Below.heap_alloc _ _ _ (by have := HB2.out.size; have := HWS.out; omega)).trans ((HB2.out.block _ (by have := HWS.out; omega)).trans HB1.out)
      have HX0 : Hid ((w2.alloc (.cells #[.bool true, .string ⟨#[]⟩, .slice a2 17 c2] 119)).heap[w.heap.size]? = some (.cells cs 140 (0, 0))) := (Below.heap_alloc _ _ _ (by have := HB2.out.size; have := HWS.out; omega)).trans ((HB2.out.block _ (by have := HWS.out; omega)).trans HB0.out)
      have HONE := hid (refs_one HR.out)
      go_upto_region 8 with fail
      refine wp_region_list ?_
      refine wpList_load_row rfl 119 (.tmp 8) rfl w2.heap.size rfl 119 #[.bool true, .string ⟨#[]⟩, .slice a2 17 c2] (0, 0) _ (heap_alloc_new w2 _) Tryz.underlying119 rfl (by kernel_rfl) ?_
      refine wpList_build2 rfl 137 _ _ rfl (.int .i64 3) (.agg #[.bool true, .string ⟨#[]⟩, .slice a2 17 c2]) rfl rfl #[.int .i64 3, .bool true, .string ⟨#[]⟩, .slice a2 17 c2] (by kernel_rfl) ?_
      refine wpList_load_row rfl 140 (.tmp 2) rfl w.heap.size rfl 140 cs (0, 0) _ HX0.out Tryz.underlying140 rfl (by rw [hcs]; kernel_rfl) ?_
      refine wpList_move_is rfl (.tmp 1) rfl ?_
      refine wpList_build3 rfl 142 _ _ _ rfl (.agg #[.int .i64 3, .bool true, .string ⟨#[]⟩, .slice a2 17 c2]) (.agg cs) (.string x) rfl rfl rfl (branchCells a2 c2 cs x) (built_branch cs hcs _ _ _ _ x) ?_
      have HSZ := hid (branchCells_size a2 c2 cs x hcs)
      have HALL := hid (branchCells_one a2 c2 cs x HONE.out)
      refine wpList_store_row rfl 142 (.tmp 4) (.tmp 29) rfl (w.heap.size + 1) (branchCells a2 c2 cs x) rfl rfl 142 branchZero HX1.out (by rw [HSZ.out]; kernel_rfl) (by rw [HSZ.out]; rfl) HALL.out ?_
      have HE : Hid (∃ a cap, Ending.returned (.agg (branchCells a2 c2 cs x)) = .returned (.agg (branchCells a cap cs x)) ∧ RepW lo ((w2.alloc (.cells #[.bool true, .string ⟨#[]⟩, .slice a2 17 c2] 119)).setRow (w.heap.size + 1) (branchCells a2 c2 cs x)).heap.size ((w2.alloc (.cells #[.bool true, .string ⟨#[]⟩, .slice a2 17 c2] 119)).setRow (w.heap.size + 1) (branchCells a2 c2 cs x)) (m + 2) (.agg #[.bool true, .string ⟨#[]⟩, .slice a 17 cap]) (Tr.itL (rk ++ [Tr.itB x.data.toList])) ∧ Below w.heap.size w ((w2.alloc (.cells #[.bool true, .string ⟨#[]⟩, .slice a2 17 c2] 119)).setRow (w.heap.size + 1) (branchCells a2 c2 cs x))) :=
        branch_end hlo HWB.out HWS.out HB2.out HLN2.out HRow2.out
      have HG : Hid (((w2.alloc (.cells #[.bool true, .string ⟨#[]⟩, .slice a2 17 c2] 119)).setRow (w.heap.size + 1) (branchCells a2 c2 cs x)).heap[w.heap.size + 1]? = some (.cells (branchCells a2 c2 cs x) 142 (0, 0))) := setRow_heap _ _ _ _ _ _ HX1.out
      clear HX0 HX1 HONE HALL HRow2 HB2 HLN2 HLN HR HB0 HB1 HWB HWS HBI HLI HL1
      generalize (w2.alloc (.cells #[.bool true, .string ⟨#[]⟩, .slice a2 17 c2] 119)).setRow (w.heap.size + 1) (branchCells a2 c2 cs x) = wF at *
      generalize branchCells a2 c2 cs x = BB at *
      go_wp2_with fail
      refine bodyPost_ret (v := .agg BB) (results_cell_row Tryz.results118 _ _ (w.heap.size + 1) 142 BB (0, 0) _ rfl HG.out Tryz.underlying142 rfl (by rw [HSZ.out]; kernel_rfl)) rfl ?_
      have HEE := HE.out
      rw [HRK.out] at HEE
      exact HEE
end Go.Proofs.YtbmohenjphmlgaaGreat

/- The walks of newEmpty and newLeaf (of the program). -/
namespace Go.Proofs.YtbmohenjphmlgaaGreat
open Go.RowKit
set_option maxRecDepth 100000

theorem kept_block {W w2 : World} {g : Nat} {O : Obj} (hb : Below W.heap.size W w2) (hW : W.heap[g]? = some O) : w2.heap[g]? = some O := (hb.block g (Array.getElem?_eq_some_iff.1 hW).1).trans hW

theorem block_alloc {w : World} {g : Nat} {O O' : Obj} (h : w.heap[g]? = some O) : (w.alloc O').heap[g]? = some O := (Below.heap_alloc _ _ _ (Array.getElem?_eq_some_iff.1 h).1).trans h

theorem block_alloc2 (w : World) (O O' : Obj) : ((w.alloc O).alloc O').heap[w.heap.size + 1]? = some O' := by
  have := heap_alloc_new (w.alloc O) O'
  rwa [alloc_size] at this

theorem far_ne {w : World} {g : Nat} {O : Obj} (h : w.heap[g]? = some O) : (¬ g = w.heap.size + 1) ∧ (¬ w.heap.size + 1 = g) ∧ (¬ g = w.heap.size) ∧ (¬ w.heap.size = g) ∧ g < w.heap.size := by
  have := (Array.getElem?_eq_some_iff.1 h).1
  exact ⟨by omega, by omega, by omega, by omega, this⟩

theorem belowA {w W : World} (h : Below w.heap.size w W) (O : Obj) : Below w.heap.size w (W.alloc O) := h.alloc h.size O
theorem belowC {w W w2 : World} (h : Below w.heap.size w W) (b : Below W.heap.size W w2) : Below w.heap.size w w2 := h.trans (b.mono h.size)

theorem pair_cells {w : World} {g : Nat} {x y : Value} {T : TypeId} {fr : Nat × Nat} (h : w.heap[g]? = some (.cells #[x, y] T fr)) : w.cell? ⟨g, 0, none⟩ = some x ∧ w.cell? ⟨g, 1, none⟩ = some y :=
  ⟨cell_of_row _ _ 0 _ _ _ h, cell_of_row _ _ 1 _ _ _ h⟩

set_option maxHeartbeats 1600000 in
theorem newEmpty_any (w : World) : Calls Tryz.prog 84 #[] w fun e w' => e = .returned (.iface 168 (.agg #[.int .i64 0, .bool false, .string ⟨#[]⟩, .slice none 0 0])) ∧ Below w.heap.size w w' := by
  have HBI := hid (fun s w => bytesItem_any s w)
  go_enter Tryz.func84, Tryz.ntmps84
  go_wp2_with fail
  refine (HBI.out _ _).mono ?_
  rintro e w1 ⟨rfl, b1⟩
  go_wp2_with fail
  go_ret
  exact ⟨rfl, b1⟩

theorem flat_two (p q : List UInt8) : ∀ u ∈ (Tr.itL [Tr.itB p, Tr.itB q]).items, u.items = [] := by
  intro u hu
  simp only [Tr.itL, List.mem_cons, List.not_mem_nil, or_false] at hu
  rcases hu with rfl | rfl <;> rfl

set_option maxHeartbeats 1600000 in
theorem newLeaf_any (d x : ByteArray) (m : Nat) (w : World) (hs : d.size ≤ 10000000) (hd : ∀ c ∈ d.data.toList, c.toNat < 16) : Calls Tryz.prog 85 #[.string d, .string x] w fun e w' => ∃ a cap, e = .returned (.iface 172 (.agg #[.int .i64 1, .bool true, .string ⟨#[]⟩, .slice a 2 cap, .string d, .string x])) ∧ RepW w.heap.size w'.heap.size w' (m + 2) (.agg #[.bool true, .string ⟨#[]⟩, .slice a 2 cap]) (Tr.itL [Tr.itB (Tr.path d.data.toList true), Tr.itB x.data.toList]) ∧ Below w.heap.size w w' := by
  have HP := hid (fun w => pathOf_any d true w hs hd)
  have HBI := hid (fun s w => bytesItem_any s w)
  have HLI := hid (fun a n cap w => listItem_any a n cap w)
  go_enter Tryz.func85, Tryz.ntmps85
  go_wp2_with fail
  refine (HP.out _).mono ?_
  rintro e w1 ⟨rfl, b1⟩
  go_wp2_with fail
  refine (HBI.out _ _).mono ?_
  rintro e w2 ⟨rfl, b2⟩
  go_wp2_with fail
  refine (HBI.out _ _).mono ?_
  rintro e w3 ⟨rfl, b3⟩
  have HB : Hid (Below w.heap.size w w3) := (b1.trans (b2.mono b1.size)).trans (b3.mono (Nat.le_trans b1.size b2.size))
  have HR : Hid (RowR (w3.alloc (.cells #[.bool false, .string ⟨(Tr.path d.data.toList true).toArray⟩, .slice none 0 0, .bool false, .string x, .slice none 0 0] 119)) w3.heap.size (m + 1) (.slice (some ⟨w3.heap.size, 0, none⟩) 2 2) [Tr.itB (Tr.path d.data.toList true), Tr.itB x.data.toList]) :=
    rowR_two (Nat.le_refl _) (rep_bytes _ _ _ _) (rep_string _ _ _ _)
  clear b1 b2 b3
  go_wp2_with fail
  refine (HLI.out _ _ _ _).mono ?_
  rintro e w4 ⟨rfl, b4⟩
  have HR4 := hid (rowR_rep (rowR_later HR.out b4 (by simp)) (Nat.le_trans (by simp : w3.heap.size ≤ _) b4.size) (by simp [maxLen]))
  have HB4 : Hid (Below w.heap.size w w4) := (HB.out.alloc HB.out.size _).trans (b4.mono (by have := HB.out.size; simp; omega))
  clear b4
  go_wp2_with fail
  go_ret
  exact ⟨_, _, rfl, repW_flat (rep_later ((Below.refl _ _).alloc (Nat.le_refl _) _) HR4.out) (flat_two _ _) (fun b off e => by cases e; exact HB.out.size), HB4.out.alloc HB4.out.size _⟩

/-- Two items in a row that lies there. -/
theorem rowR_of_block {w : World} {base r m : Nat} {a b c a' b' c' : Value} {t t' : Itm} (h : w.heap[r]? = some (.cells #[a, b, c, a', b', c'] 119 (0, 0))) (hb : base ≤ r) (h1 : Rep base w m (.agg #[a, b, c]) t) (h2 : Rep base w m (.agg #[a', b', c']) t') : RowR w base m (.slice (some ⟨r, 0, none⟩) 2 2) [t, t'] := by
  refine ⟨[a, b, c, a', b', c'], ⟨rfl, .inr ⟨r, 2, _, rfl, hb, h, Nat.le_refl _, by unfold maxLen; omega, rfl, rfl⟩⟩, ?_⟩
  intro i hi
  match i, hi with
  | 0, _ => exact h1
  | 1, _ => exact h2

theorem set3_other {w : World} {g r : Nat} {O : Obj} {a b c : Value} (h : w.heap[r]? = some O) (hne : g ≠ r) : (((w.setCell ⟨g, 0, none⟩ a).setCell ⟨g, 1, none⟩ b).setCell ⟨g, 2, none⟩ c).heap[r]? = some O := by
  simp [World.setCell, Array.getElem?_modify, hne, h]

end Go.Proofs.YtbmohenjphmlgaaGreat

/- Plain mathematics of trees: a node hangs on its entries, not on their order; a table's root hangs on what it has for each key. Nothing of the program is in here. -/
namespace Go.Proofs.YtbmohenjphmlgaaGreat
set_option maxRecDepth 100000

namespace Tr

/-- No two entries have the same digits. -/
def Apart (l : List Ent) : Prop := l.Pairwise fun a b => a.dig ≠ b.dig

theorem Apart.perm {l l' : List Ent} (ha : Apart l) (h : l.Perm l') : Apart l' := (h.pairwise_iff (fun h => Ne.symm h)).1 ha

theorem behind_some {s : List UInt8} {a b : Ent} (h : (if s.isPrefixOf a.dig then some (⟨a.dig.drop s.length, a.val⟩ : Ent) else none) = some b) : a.dig = s ++ b.dig ∧ a.val = b.val := by
  by_cases hp : s.isPrefixOf a.dig = true
  · rw [if_pos hp] at h
    obtain ⟨r, hr⟩ := List.isPrefixOf_iff_prefix.1 hp
    cases h
    refine ⟨?_, rfl⟩
    show a.dig = s ++ a.dig.drop s.length
    rw [← hr, List.drop_left]
  · rw [if_neg hp] at h; cases h

theorem Apart.behind {l : List Ent} {s : List UInt8} (h : Apart l) : Apart (behind s l) := by
  unfold Tr.behind Apart
  rw [List.pairwise_filterMap]
  refine List.Pairwise.imp ?_ h
  intro a a' hne b hb b' hb' he
  have h1 := behind_some hb
  have h2 := behind_some hb'
  exact hne (by rw [h1.1, h2.1, he])

theorem behind_perm {l l' : List Ent} (s : List UInt8) (h : l.Perm l') : (behind s l).Perm (behind s l') := h.filterMap _

theorem prefix_antisymm {a b : List UInt8} (h1 : a <+: b) (h2 : b <+: a) : a = b := List.IsPrefix.eq_of_length_le h1 h2.length_le

theorem shared_perm {l l' : List Ent} (h : l.Perm l') : shared l = shared l' := by
  by_cases hl : l = []
  · subst hl
    rw [List.nil_perm.1 h]
  · have hl' : l' ≠ [] := fun h0 => by subst h0; exact hl (List.perm_nil.1 h)
    refine prefix_antisymm ?_ ?_
    · rw [shared_iff _ _ hl']
      intro e he
      exact shared_pre l e (h.mem_iff.2 he)
    · rw [shared_iff _ _ hl]
      intro e he
      exact shared_pre l' e (h.mem_iff.1 he)

theorem valOf_from (l : List Ent) : ∀ v0 : List UInt8, (∀ e ∈ l, e.dig ≠ []) → l.foldl (fun v e => if e.dig = [] then e.val else v) v0 = v0 := by
  induction l with
  | nil => intro v0 _; rfl
  | cons x l ih =>
    intro v0 h
    rw [List.foldl_cons, if_neg (h x (List.mem_cons_self ..))]
    exact ih v0 fun e he => h e (List.mem_cons_of_mem _ he)

theorem valOf_none {l : List Ent} (h : ∀ e ∈ l, e.dig ≠ []) : valOf l = [] := valOf_from l [] h

theorem valOf_some {l : List Ent} (ha : Apart l) {e : Ent} (he : e ∈ l) (h0 : e.dig = []) : valOf l = e.val := by
  have key : ∀ (l : List Ent) (v0 : List UInt8), Apart l → e ∈ l → l.foldl (fun v e => if e.dig = [] then e.val else v) v0 = e.val := by
    intro l
    induction l with
    | nil => intro v0 _ h; simp at h
    | cons x l ih =>
      intro v0 ha he
      have ha' := List.pairwise_cons.1 ha
      rw [List.foldl_cons]
      rcases List.mem_cons.1 he with rfl | he
      · rw [if_pos h0]
        exact valOf_from l _ fun y hy hy0 => ha'.1 y hy (h0.trans hy0.symm)
      · exact ih _ ha'.2 he
  exact key l [] ha he

theorem valOf_perm {l l' : List Ent} (ha : Apart l) (h : l.Perm l') : valOf l = valOf l' := by
  by_cases hx : ∃ e ∈ l, e.dig = []
  · obtain ⟨e, he, h0⟩ := hx
    rw [valOf_some ha he h0, valOf_some (ha.perm h) (h.mem_iff.1 he) h0]
  · have h1 : ∀ e ∈ l, e.dig ≠ [] := fun e he h0 => hx ⟨e, he, h0⟩
    rw [valOf_none h1, valOf_none fun e he => h1 e (h.mem_iff.2 he)]

/-- The node of entries hangs on the entries, not on their order. -/
theorem node_perm : ∀ (f : Nat) (l l' : List Ent), Apart l → l.Perm l' → node f l = node f l' := by
  intro f
  induction f with
  | zero => intro l l' _ _; rfl
  | succ f ih =>
    intro l l' ha h
    unfold node nodeOf
    match l, l', h, ha with
    | [], l', h, _ => rw [List.nil_perm.1 h]
    | [e], l', h, _ => rw [List.singleton_perm.1 h]
    | a :: b :: r, [], h, _ => have := h.length_eq; simp at this
    | a :: b :: r, [x], h, _ => have := h.length_eq; simp at this
    | a :: b :: r, c :: d :: s, h, ha =>
      show (if shared (a :: b :: r) = [] then _ else _) = (if shared (c :: d :: s) = [] then _ else _)
      rw [shared_perm h, valOf_perm ha h]
      by_cases hs : shared (c :: d :: s) = []
      · rw [if_pos hs, if_pos hs]
        congr 2
        refine List.map_congr_left fun n _ => ?_
        rw [ih _ _ ha.behind (behind_perm _ h)]
      · rw [if_neg hs, if_neg hs, ih _ _ ha.behind (behind_perm _ h)]

/-- What pairs have for a key: the value of the last one with it. -/
def value (ps : List (List UInt8 × List UInt8)) (k : List UInt8) : List UInt8 := ps.foldl (fun v p => if p.1 = k then p.2 else v) []

theorem value_from (ps : List (List UInt8 × List UInt8)) (k : List UInt8) : ∀ v0, k ∉ ps.map (·.1) → ps.foldl (fun v p => if p.1 = k then p.2 else v) v0 = v0 := by
  induction ps with
  | nil => intro v0 _; rfl
  | cons p ps ih =>
    intro v0 h
    rw [List.map_cons, List.mem_cons, not_or] at h
    rw [List.foldl_cons, if_neg (Ne.symm h.1)]
    exact ih v0 h.2

theorem value_any (ps : List (List UInt8 × List UInt8)) (k : List UInt8) : ∀ v0 v1, k ∈ ps.map (·.1) → ps.foldl (fun v p => if p.1 = k then p.2 else v) v0 = ps.foldl (fun v p => if p.1 = k then p.2 else v) v1 := by
  induction ps with
  | nil => intro v0 v1 h; simp at h
  | cons p ps ih =>
    intro v0 v1 h
    rw [List.foldl_cons, List.foldl_cons]
    by_cases hp : p.1 = k
    · rw [if_pos hp, if_pos hp]
    · rw [if_neg hp, if_neg hp]
      rw [List.map_cons, List.mem_cons] at h
      exact ih _ _ (h.resolve_left (Ne.symm hp))

theorem value_cons (p : List UInt8 × List UInt8) (ps : List (List UInt8 × List UInt8)) (k : List UInt8) : value (p :: ps) k = if k ∈ ps.map (·.1) then value ps k else if p.1 = k then p.2 else [] := by
  unfold value
  rw [List.foldl_cons]
  by_cases hk : k ∈ ps.map (·.1)
  · rw [if_pos hk]; exact value_any _ _ _ _ hk
  · rw [if_neg hk]; exact value_from _ _ _ hk

theorem value_not {ps : List (List UInt8 × List UInt8)} {k : List UInt8} (h : k ∉ ps.map (·.1)) : value ps k = [] := value_from ps k [] h

theorem value_append (a b : List (List UInt8 × List UInt8)) (k : List UInt8) : value (a ++ b) k = if k ∈ b.map (·.1) then value b k else value a k := by
  unfold value
  rw [List.foldl_append]
  by_cases hk : k ∈ b.map (·.1)
  · rw [if_pos hk]; exact value_any _ _ _ _ hk
  · rw [if_neg hk]; exact value_from _ _ _ hk

theorem digits_inj : ∀ {a b : List UInt8}, digits a = digits b → a = b
  | [], [], _ => rfl
  | [], b :: s, h => by rw [digits_cons] at h; simp [digits] at h
  | a :: r, [], h => by rw [digits_cons] at h; simp [digits] at h
  | a :: r, b :: s, h => by
    rw [digits_cons, digits_cons, List.cons.injEq, List.cons.injEq] at h
    obtain ⟨h1, h2, h3⟩ := h
    have ha : a.toNat < 256 := a.toNat_lt
    have hb : b.toNat < 256 := b.toNat_lt
    have e1 := congrArg UInt8.toNat h1
    have e2 := congrArg UInt8.toNat h2
    rw [UInt8.toNat_ofNat', UInt8.toNat_ofNat'] at e1 e2
    rw [digits_inj h3, UInt8.toNat_inj.1 (by omega : a.toNat = b.toNat)]

theorem table_mem (ps : List (List UInt8 × List UInt8)) (e : Ent) : e ∈ table ps ↔ ∃ k, e = ⟨digits k, value ps k⟩ ∧ value ps k ≠ [] := by
  induction ps with
  | nil => simp [table, value]
  | cons p ps ih =>
    have hval : ∀ k, k ∈ ps.map (·.1) → value (p :: ps) k = value ps k := fun k hk => by rw [value_cons, if_pos hk]
    have hin : ∀ k, value ps k ≠ [] → k ∈ ps.map (·.1) := fun k hk => Classical.byContradiction fun h => hk (value_not h)
    have hnew : ∀ k, k ∉ ps.map (·.1) → value (p :: ps) k = if p.1 = k then p.2 else [] := fun k hk => by rw [value_cons, if_neg hk]
    rw [table]
    by_cases hc : p.1 ∈ ps.map (·.1) ∨ p.2 = []
    · rw [if_pos hc, ih]
      constructor
      · rintro ⟨k, rfl, hk⟩
        exact ⟨k, by rw [hval k (hin k hk)], by rw [hval k (hin k hk)]; exact hk⟩
      · rintro ⟨k, rfl, hk⟩
        by_cases hm : k ∈ ps.map (·.1)
        · rw [hval k hm] at hk ⊢; exact ⟨k, rfl, hk⟩
        · rw [hnew k hm] at hk
          by_cases hp : p.1 = k
          · rw [if_pos hp] at hk
            rcases hc with hc | hc
            · exact absurd (hp ▸ hc) hm
            · exact absurd hc hk
          · rw [if_neg hp] at hk; exact absurd rfl hk
    · rw [not_or] at hc
      rw [if_neg (not_or.2 hc), List.mem_cons, ih]
      constructor
      · rintro (rfl | ⟨k, rfl, hk⟩)
        · exact ⟨p.1, by rw [hnew _ hc.1, if_pos rfl], by rw [hnew _ hc.1, if_pos rfl]; exact hc.2⟩
        · exact ⟨k, by rw [hval k (hin k hk)], by rw [hval k (hin k hk)]; exact hk⟩
      · rintro ⟨k, rfl, hk⟩
        by_cases hm : k ∈ ps.map (·.1)
        · rw [hval k hm] at hk ⊢; exact .inr ⟨k, rfl, hk⟩
        · rw [hnew k hm] at hk ⊢
          by_cases hp : p.1 = k
          · rw [if_pos hp, hp]; exact .inl rfl
          · rw [if_neg hp] at hk; exact absurd rfl hk

theorem table_apart (ps : List (List UInt8 × List UInt8)) : Apart (table ps) := by
  induction ps with
  | nil => exact List.Pairwise.nil
  | cons p ps ih =>
    rw [table]
    by_cases hc : p.1 ∈ ps.map (·.1) ∨ p.2 = []
    · rw [if_pos hc]; exact ih
    · rw [if_neg hc]
      refine List.pairwise_cons.2 ⟨fun e he hd => ?_, ih⟩
      obtain ⟨k, rfl, hk⟩ := (table_mem ps e).1 he
      have : p.1 = k := digits_inj hd
      exact hc (.inl (this ▸ Classical.byContradiction fun h => hk (value_not h)))

theorem Apart.nodup {l : List Ent} (h : Apart l) : l.Nodup := List.Pairwise.imp (fun h he => h (by rw [he])) h

/-- Two lists of pairs that have the same for each key have the same node. -/
theorem table_ext (f : Nat) (ps qs : List (List UInt8 × List UInt8)) (h : ∀ k, value ps k = value qs k) : node f (table ps) = node f (table qs) := by
  refine node_perm f _ _ (table_apart ps) ?_
  rw [List.perm_ext_iff_of_nodup (table_apart ps).nodup (table_apart qs).nodup]
  intro e
  rw [table_mem, table_mem]
  constructor
  · rintro ⟨k, rfl, hk⟩; exact ⟨k, by rw [h k], by rw [← h k]; exact hk⟩
  · rintro ⟨k, rfl, hk⟩; exact ⟨k, by rw [h k], by rw [h k]; exact hk⟩

end Tr
end Go.Proofs.YtbmohenjphmlgaaGreat
