/- Part 19 of a proof: what the last text needs. -/
import Derived.Test.YtbmohenjphmlgabGreatPart18
import Derived.Test.YtbmohenjphmlgabGreatPart16
import Derived.Test.YtbmohenjphmlgabGreatPart14
/- The walk of the statement Orders. -/
namespace Go.Proofs.YtbmohenjphmlgabGreat
open Go.RowKit
set_option maxRecDepth 100000

theorem stepB2 {w a b : World} (h : Below w.heap.size w a) (h2 : Below a.heap.size a b) : Below w.heap.size w b := h.trans (h2.mono h.size)

/-- The rest of a row. -/
theorem prd_drop {B : Nat} {w : World} {a : Option Addr} {l : List (ByteArray × ByteArray)} {b off : Nat} (h : PRd B w a l) (ha : l ≠ [] → a = some ⟨b, off, none⟩) (i : Nat) (a' : Option Addr) (ha' : i < l.length → a' = some ⟨b, off + i * 2, none⟩) : PRd B w a' (l.drop i) := by
  intro j hj
  rw [List.length_drop] at hj
  obtain ⟨b2, off2, e, hlt, c0, c1⟩ := h (i + j) (by omega)
  have hne : l ≠ [] := fun e => by rw [e] at hj; simp at hj
  rw [ha hne] at e
  simp only [Option.some.injEq, Addr.mk.injEq, and_true] at e
  obtain ⟨rfl, rfl⟩ := e
  refine ⟨b, off + i * 2, ha' (by omega), hlt, ?_, ?_⟩
  · rw [List.getElem_drop, show off + i * 2 + j * 2 = off + (i + j) * 2 by omega]; exact c0
  · rw [List.getElem_drop, show off + i * 2 + j * 2 + 1 = off + (i + j) * 2 + 1 by omega]; exact c1

theorem prd_take {B : Nat} {w : World} {a : Option Addr} {l : List (ByteArray × ByteArray)} (h : PRd B w a l) (i : Nat) : PRd B w a (l.take i) := by
  intro j hj
  rw [List.length_take] at hj
  obtain ⟨b2, off2, e, hlt, c0, c1⟩ := h j (by omega)
  exact ⟨b2, off2, e, hlt, by rw [List.getElem_take]; exact c0, by rw [List.getElem_take]; exact c1⟩

/-- The rest of a row, cut off by its start: for a walk. -/
theorem wpList_slice_from {ops : Array Oper} {rest : List Oper} {o : Oper} {act : Act} {Q : Exit → Act → World → Prop} {w : World} (hgd : o.guard = none) (s x : Operand)
    (hop : o.op = .slice 22 s (some x) none none) (a : Option Addr) (len cap n : Nat) (hs : act.eval s = .slice a len cap) (hx : act.eval x = .int .i64 n) (hn : n ≤ len)
    (h : ∀ a', a' = (if cap = n then a else a.map (·.add (n * 2))) → wpList Tryz.prog ops Q rest (act.put o.dst (.slice a' (len - n) (cap - n))) w) :
    wpList Tryz.prog ops Q (o :: rest) act w := by
  refine wpList_plain hgd fun K hK => ?_
  have hu := Tryz.underlying22
  have hz := Tryz.sizeOf27
  have i1 : (0 : Int) ≤ (n : Int) := by omega
  have i2 : (n : Int) ≤ (len : Int) := by omega
  have hr : Sem.run Tryz.prog (Instr.sliceAt 22 (.slice a len cap) (some (.int .i64 n)) none none) w = .ok (.slice (if cap = n then a else a.map (·.add (n * 2))) (len - n) (cap - n)) w := by
    go_simp
  unfold Oper.wp execOp
  simp only [hop, Sem.run_bind, Sem.run_pure, Result.andThen_ok, Option.map_some, Option.map_none, hs, hx, hr]
  exact hK _ _ (h _ rfl)

theorem rest_rd {w : World} {base : Nat} {a1 : Option Addr} {c1 n : Nat} {L : List (ByteArray × ByteArray)} (h : AOwn w base (.slice a1 L.length c1) L) (hn : n ≤ L.length) {a2 : Option Addr} (h2 : a2 = (if c1 = n then a1 else a1.map (·.add (n * 2)))) : (a2 = none → (L.drop n).length = 0 ∧ c1 - n = 0) ∧ PRd w.heap.size w a2 (L.drop n) := by
  have hrd := aown_rd h
  obtain ⟨_, _, hsh, hle⟩ := aown_shape h
  simp only [Value.slice.injEq] at hsh
  obtain ⟨_, _, rfl⟩ := hsh
  rcases h.2 with ⟨hv, h0⟩ | ⟨g, cap', cur, hv, _⟩
  · simp only [Value.slice.injEq] at hv
    obtain ⟨rfl, _, rfl⟩ := hv
    have : L = [] := List.eq_nil_of_length_eq_zero h0
    subst this
    refine ⟨fun _ => ⟨by simp, by omega⟩, fun i hi => ?_⟩
    rw [List.length_drop] at hi
    simp at hi
  · simp only [Value.slice.injEq] at hv
    obtain ⟨rfl, _, _⟩ := hv
    by_cases hc : c1 = n
    · rw [if_pos hc] at h2
      subst h2
      refine ⟨fun e => (by cases e), fun i hi => ?_⟩
      rw [List.length_drop] at hi
      omega
    · rw [if_neg hc] at h2
      have e : a2 = some ⟨g, 0 + n * 2, none⟩ := by
        rw [h2]
        show some ((⟨g, 0, none⟩ : Addr).add (n * 2)) = _
        congr 1
        unfold Addr.add; split <;> simp_all
      refine ⟨fun e2 => (by rw [e] at e2; cases e2), prd_drop hrd (fun _ => rfl) n a2 (fun _ => e)⟩

end Go.Proofs.YtbmohenjphmlgabGreat

/- Proofs of tables that may be; the walk of the statement Proven. -/
namespace Go.Proofs.YtbmohenjphmlgabGreat
open Go.RowKit
set_option maxRecDepth 100000

/-- The proof of a table for a key. -/
def proofB (l : List (ByteArray × ByteArray)) (key : ByteArray) : List ByteArray := (Tr.prove (lists l) key.data.toList).map toB

theorem fine_lists {l : List (ByteArray × ByteArray)} (h : Fine l) : (∀ p ∈ lists l, p.1.length ≤ 6) ∧ (∀ p ∈ lists l, p.2.length ≤ 40) := lists_ok (fun p hp => (h.2 p hp).1) (fun p hp => (h.2 p hp).2)

theorem proofB_bl (l : List (ByteArray × ByteArray)) (key : ByteArray) : bl (proofB l key) = Tr.prove (lists l) key.data.toList := by
  unfold bl proofB
  rw [List.map_map]
  exact List.map_id' _

theorem proofB_len {l : List (ByteArray × ByteArray)} (h : Fine l) (key : ByteArray) : (proofB l key).length ≤ 14 := by
  unfold proofB
  rw [List.length_map]
  exact Tr.prove_len _ _ (fine_lists h).1 (fine_lists h).2

theorem proofB_pos (l : List (ByteArray × ByteArray)) (key : ByteArray) : 0 < (proofB l key).length := by
  unfold proofB
  rw [List.length_map]
  unfold Tr.prove Tr.proofOf
  simp

theorem proofB_small {l : List (ByteArray × ByteArray)} (h : Fine l) (key : ByteArray) : ∀ s ∈ proofB l key, s.size ≤ 300 := by
  intro s hs
  obtain ⟨x, hx, rfl⟩ := List.mem_map.1 hs
  show x.toArray.size ≤ 300
  rw [List.size_toArray]
  exact Tr.prove_small _ _ (fine_lists h).1 (fine_lists h).2 x hx

theorem prove_fine (a : Option Addr) (cap : Nat) (l : List (ByteArray × ByteArray)) (key : ByteArray) (w : World) (hr : PRd w.heap.size w a l) (hf : Fine l) (hk : key.size ≤ 6) :
    Calls Tryz.prog 13 #[.slice a l.length cap, .string key] w fun e w' => ∃ r, e = .returned (.tuple #[r, .int .i64 0]) ∧ TOwn w' w.heap.size r (proofB l key) ∧ Below w.heap.size w w' := by
  have h := prove_any a cap l key w hr
  rw [fine_fault hf hk, if_pos rfl] at h
  exact h

theorem verify_fine (a : Option Addr) (cap : Nat) (l : List (ByteArray × ByteArray)) (key : ByteArray) (w : World) (hr : SRd w.heap.size w a (proofB l key)) (hf : Fine l) (hk : key.size ≤ 6) :
    Calls Tryz.prog 21 #[.string (rootB l), .string key, .slice a (proofB l key).length cap] w fun e w' => e = .returned (.tuple #[.string (valB l key), .bool (!((valB l key).toList == [])), .int .i64 0]) ∧ Below w.heap.size w w' := by
  have h := verify_any (rootB l) key a cap (proofB l key) w hr
  have hv : Tr.verify (rootB l).data.toList key.data.toList (bl (proofB l key)) = ((valB l key).data.toList, !(valB l key).data.toList.isEmpty, 0) := by
    rw [proofB_bl, valB_value]
    exact Tr.verify_prove (lists l) key.data.toList (fine_lists hf).1 (fine_lists hf).2 (by rw [ba_len]; exact hk)
  rw [hv] at h
  have e1 : ((valB l key).toList == []) = (valB l key).data.toList.isEmpty := by
    rw [ByteArray.toList_eq]
    cases (valB l key).data.toList <;> rfl
  rw [e1]
  exact h

end Go.Proofs.YtbmohenjphmlgabGreat

/- Plain mathematics of a store of elements: what is added, what it tells on a way, what is reached. Nothing of the program is in here. -/
namespace Go.Proofs.YtbmohenjphmlgabGreat
set_option maxRecDepth 100000

namespace Tr

/-- The element of a store that has a sum. -/
def find (S : List (List UInt8)) (s : List UInt8) : Option (List UInt8) := S.find? fun e => sum e = s

theorem find_some {S : List (List UInt8)} {s e : List UInt8} (h : find S s = some e) : e ∈ S ∧ sum e = s := ⟨List.mem_of_find?_eq_some h, by have := List.find?_some h; simpa using this⟩
theorem find_none {S : List (List UInt8)} {s : List UInt8} : find S s = none ↔ ∀ e ∈ S, sum e ≠ s := by
  unfold find
  rw [List.find?_eq_none]
  simp
theorem find_mem {S : List (List UInt8)} {e : List UInt8} (h : e ∈ S) : ∃ e', find S (sum e) = some e' := by
  cases hf : find S (sum e) with
  | none => exact absurd rfl (find_none.1 hf e h)
  | some e' => exact ⟨e', rfl⟩
theorem find_append (S T : List (List UInt8)) (s : List UInt8) : find (S ++ T) s = (find S s).or (find T s) := by unfold find; rw [List.find?_append]
theorem find_one (e s : List UInt8) : find [e] s = if sum e = s then some e else none := by
  unfold find
  by_cases h : sum e = s
  · simp [h]
  · simp [h]

/-- No two elements of a store have one sum. -/
def Lone (S : List (List UInt8)) : Prop := S.Pairwise fun a b => sum a ≠ sum b

theorem Lone.eq {a b : List UInt8} : ∀ {S : List (List UInt8)}, Lone S → a ∈ S → b ∈ S → sum a = sum b → a = b
  | [], _, h, _, _ => by simp at h
  | x :: l, ha, h1, h2, hd => by
    have ha' := List.pairwise_cons.1 ha
    rcases List.mem_cons.1 h1 with e1 | m1
    · rcases List.mem_cons.1 h2 with e2 | m2
      · exact e1.trans e2.symm
      · exact absurd (e1 ▸ hd) (ha'.1 b m2)
    · rcases List.mem_cons.1 h2 with e2 | m2
      · exact absurd (e2 ▸ hd.symm) (ha'.1 a m1)
      · exact Lone.eq ha'.2 m1 m2 hd

theorem Lone.find {S : List (List UInt8)} (h : Lone S) {e : List UInt8} (he : e ∈ S) : find S (sum e) = some e := by
  obtain ⟨e', hf⟩ := find_mem he
  obtain ⟨h1, h2⟩ := find_some hf
  rw [hf, h.eq h1 he h2]

theorem lone_nil : Lone [] := List.Pairwise.nil
theorem Lone.snoc {S : List (List UInt8)} (h : Lone S) {e : List UInt8} (he : Tr.find S (sum e) = none) : Lone (S ++ [e]) := by
  unfold Lone
  rw [List.pairwise_append]
  refine ⟨h, List.pairwise_singleton _ _, fun a ha b hb => ?_⟩
  rw [List.mem_singleton.1 hb]
  exact find_none.1 he a ha

/-- One element is added, unless one with its sum is there. -/
def add (S : List (List UInt8)) (e : List UInt8) : List (List UInt8) := if (find S (sum e)).isSome then S else S ++ [e]

theorem add_lone {S : List (List UInt8)} (h : Lone S) (e : List UInt8) : Lone (add S e) := by
  unfold add
  cases hf : find S (sum e) with
  | none => exact h.snoc hf
  | some x => exact h

theorem add_mem {S : List (List UInt8)} {e x : List UInt8} (h : x ∈ add S e) : x ∈ S ∨ x = e := by
  unfold add at h
  split at h
  · exact .inl h
  · rcases List.mem_append.1 h with h | h
    · exact .inl h
    · exact .inr (List.mem_singleton.1 h)

theorem add_sub {S : List (List UInt8)} {e x : List UInt8} (h : x ∈ S) : x ∈ add S e := by
  unfold add
  split
  · exact h
  · exact List.mem_append_left _ h

theorem add_has (S : List (List UInt8)) (e : List UInt8) : ∃ x ∈ add S e, sum x = sum e := by
  unfold add
  cases hf : find S (sum e) with
  | none => exact ⟨e, by simp, rfl⟩
  | some x => exact ⟨x, (find_some hf).1, (find_some hf).2⟩

theorem add_len (S : List (List UInt8)) (e : List UInt8) : (add S e).length ≤ S.length + 1 := by
  unfold add
  split
  · omega
  · simp

/-- All elements of a proof are added. -/
def addAll (S : List (List UInt8)) (p : List (List UInt8)) : List (List UInt8) := p.foldl add S

theorem addAll_cons (S : List (List UInt8)) (e : List UInt8) (p : List (List UInt8)) : addAll S (e :: p) = addAll (add S e) p := rfl
theorem addAll_append (S p q : List (List UInt8)) : addAll S (p ++ q) = addAll (addAll S p) q := List.foldl_append
theorem addAll_snoc (S p : List (List UInt8)) (e : List UInt8) : addAll S (p ++ [e]) = add (addAll S p) e := by rw [addAll_append]; rfl

theorem addAll_lone (p : List (List UInt8)) : ∀ {S : List (List UInt8)}, Lone S → Lone (addAll S p) := by
  induction p with
  | nil => exact fun h => h
  | cons e p ih => exact fun h => ih (add_lone h e)

theorem addAll_mem (p : List (List UInt8)) : ∀ {S : List (List UInt8)} {x : List UInt8}, x ∈ addAll S p → x ∈ S ∨ x ∈ p := by
  induction p with
  | nil => exact fun h => .inl h
  | cons e p ih =>
    intro S x h
    rcases ih h with h | h
    · rcases add_mem h with h | h
      · exact .inl h
      · exact .inr (h ▸ List.mem_cons_self ..)
    · exact .inr (List.mem_cons_of_mem _ h)

theorem addAll_sub (p : List (List UInt8)) : ∀ {S : List (List UInt8)} {x : List UInt8}, x ∈ S → x ∈ addAll S p := by
  induction p with
  | nil => exact fun h => h
  | cons e p ih => exact fun h => ih (add_sub h)

theorem addAll_has (p : List (List UInt8)) : ∀ {S : List (List UInt8)} {e : List UInt8}, e ∈ p → ∃ x ∈ addAll S p, sum x = sum e := by
  induction p with
  | nil => intro S e h; simp at h
  | cons e' p ih =>
    intro S e h
    rcases List.mem_cons.1 h with rfl | h
    · obtain ⟨x, hx, hs⟩ := add_has S e
      exact ⟨x, addAll_sub p hx, hs⟩
    · exact ih h

theorem addAll_len (p : List (List UInt8)) : ∀ S : List (List UInt8), (addAll S p).length ≤ S.length + p.length := by
  induction p with
  | nil => intro S; exact Nat.le_refl _
  | cons e p ih =>
    intro S
    have h1 := ih (add S e)
    have h2 := add_len S e
    rw [addAll_cons, List.length_cons]
    omega

/-- What a store tells behind the first element. -/
def tellW (S : List (List UInt8)) : Nat → Way → Option Way
  | 0, w => if w.need = [] then some w else none
  | f + 1, w => if w.need = [] then some w else match find S w.need with
    | none => none
    | some e => match vstep 1 w e with
      | none => none
      | some w' => tellW S f w'

def thru (S : List (List UInt8)) (f : Nat) (o : Option Way) : Option Way := match o with | none => none | some w => tellW S f w

theorem thru_none (S : List (List UInt8)) (f : Nat) : thru S f none = none := rfl
theorem thru_some (S : List (List UInt8)) (f : Nat) (w : Way) : thru S f (some w) = tellW S f w := rfl
theorem tellW_end {S : List (List UInt8)} {f : Nat} {w : Way} (h : w.need = []) : tellW S f w = some w := by cases f <;> (rw [tellW, if_pos h])
theorem tellW_lost {S : List (List UInt8)} {f : Nat} {w : Way} (h : w.need ≠ []) (hf : find S w.need = none) : tellW S f w = none := by
  cases f with
  | zero => rw [tellW, if_neg h]
  | succ f => rw [tellW, if_neg h, hf]
theorem tellW_next {S : List (List UInt8)} {f : Nat} {w : Way} {e : List UInt8} (h : w.need ≠ []) (hf : find S w.need = some e) : tellW S (f + 1) w = thru S f (vstep 1 w e) := by
  rw [tellW, if_neg h, hf]
  rfl

/-- What a store tells of a key under a root. -/
def tellR (S : List (List UInt8)) (root key : List UInt8) : Option Way :=
  match find S root with
  | none => none
  | some e => thru S 20 (vstep 0 ⟨digits key, false, [], false, root⟩ e)

def tellEnd (o : Option Way) : List UInt8 × Bool × Nat := match o with | none => ([], false, 11) | some w => (w.value, w.found, 0)

def tell (S : List (List UInt8)) (root key : List UInt8) : List UInt8 × Bool × Nat := if 6 < key.length then ([], false, 3) else tellEnd (tellR S root key)

theorem vstep_one (i : Nat) (w : Way) (e : List UInt8) : vstep (i + 1) w e = vstep 1 w e := by unfold vstep; simp

/-- Where a proof tells something, a store in which no other element has the sum of one of its own tells that, or nothing. -/
theorem tellW_loop {S : List (List UInt8)} : ∀ (p : List (List UInt8)) (f i : Nat) (w w' : Way), vloop (i + 1) w p = some w' → w'.need = [] → (∀ s ∈ p, ∀ e ∈ S, sum e = sum s → e = s) → tellW S f w = none ∨ tellW S f w = some w' := by
  intro p
  induction p with
  | nil =>
    intro f i w w' h h0 _
    rw [vloop] at h
    cases h
    exact .inr (tellW_end h0)
  | cons s l ih =>
    intro f i w w' h h0 hS
    rw [vloop_cons] at h
    cases hv : vstep (i + 1) w s with
    | none => rw [hv] at h; cases h
    | some w1 =>
      rw [hv] at h
      obtain ⟨hn, hs⟩ := vstep_need hv
      cases hf : find S w.need with
      | none => exact .inl (tellW_lost hn hf)
      | some e =>
        cases f with
        | zero => left; rw [tellW, if_neg hn]
        | succ f =>
          obtain ⟨he, hse⟩ := find_some hf
          obtain rfl := hS s (List.mem_cons_self ..) e he (hse.trans hs.symm)
          rw [tellW_next hn hf, ← vstep_one i, hv]
          exact ih f (i + 1) w1 w' h h0 (fun s' hs' => hS s' (List.mem_cons_of_mem _ hs'))

theorem tellW_found {S : List (List UInt8)} : ∀ (p : List (List UInt8)) (f i : Nat) (w w' : Way), p.length ≤ f → vloop (i + 1) w p = some w' → w'.need = [] → (∀ s ∈ p, find S (sum s) = some s) → tellW S f w = some w' := by
  intro p
  induction p with
  | nil =>
    intro f i w w' _ h h0 _
    rw [vloop] at h
    cases h
    exact tellW_end h0
  | cons s l ih =>
    intro f i w w' hl h h0 hS
    rw [vloop_cons] at h
    cases hv : vstep (i + 1) w s with
    | none => rw [hv] at h; cases h
    | some w1 =>
      rw [hv] at h
      obtain ⟨hn, hs⟩ := vstep_need hv
      cases f with
      | zero => simp at hl
      | succ f =>
        have hf : find S w.need = some s := by rw [← hs]; exact hS s (List.mem_cons_self ..)
        rw [tellW_next hn hf, ← vstep_one i, hv]
        exact ih f (i + 1) w1 w' (by simpa using hl) h h0 (fun s' hs' => hS s' (List.mem_cons_of_mem _ hs'))

theorem tellR_loop {S : List (List UInt8)} {root key : List UInt8} {p : List (List UInt8)} {w' : Way} (h : vloop 0 ⟨digits key, false, [], false, root⟩ p = some w') (hr : root ≠ []) (h0 : w'.need = []) (hS : ∀ s ∈ p, ∀ e ∈ S, sum e = sum s → e = s) : tellR S root key = none ∨ tellR S root key = some w' := by
  cases p with
  | nil =>
    rw [vloop] at h
    cases h
    exact absurd h0 hr
  | cons s l =>
    rw [vloop_cons] at h
    cases hv : vstep 0 ⟨digits key, false, [], false, root⟩ s with
    | none => rw [hv] at h; cases h
    | some w1 =>
      rw [hv] at h
      obtain ⟨hn, hs⟩ := vstep_need hv
      unfold tellR
      cases hf : find S root with
      | none => exact .inl rfl
      | some e =>
        obtain ⟨he, hse⟩ := find_some hf
        obtain rfl := hS s (List.mem_cons_self ..) e he (hse.trans hs.symm)
        show thru S 20 (vstep 0 _ e) = none ∨ thru S 20 (vstep 0 _ e) = some w'
        rw [hv]
        exact tellW_loop l 20 0 w1 w' h h0 (fun s' hs' => hS s' (List.mem_cons_of_mem _ hs'))

theorem tellR_found {S : List (List UInt8)} {root key : List UInt8} {p : List (List UInt8)} {w' : Way} (hl : p.length ≤ 20) (h : vloop 0 ⟨digits key, false, [], false, root⟩ p = some w') (hr : root ≠ []) (h0 : w'.need = []) (hS : ∀ s ∈ p, find S (sum s) = some s) : tellR S root key = some w' := by
  cases p with
  | nil =>
    rw [vloop] at h
    cases h
    exact absurd h0 hr
  | cons s l =>
    rw [vloop_cons] at h
    cases hv : vstep 0 ⟨digits key, false, [], false, root⟩ s with
    | none => rw [hv] at h; cases h
    | some w1 =>
      rw [hv] at h
      obtain ⟨hn, hs⟩ := vstep_need hv
      have hf : find S root = some s := by
        have : find S (sum s) = some s := hS s (List.mem_cons_self ..)
        rw [hs] at this
        exact this
      unfold tellR
      rw [hf]
      show thru S 20 (vstep 0 _ s) = some w'
      rw [hv]
      exact tellW_found l 20 0 w1 w' (by simp at hl; omega) h h0 (fun s' hs' => hS s' (List.mem_cons_of_mem _ hs'))

end Tr
end Go.Proofs.YtbmohenjphmlgabGreat

/- Plain mathematics of a store of elements: what is reached from a sum, and that a way is not lost by forgetting what is not reached. Nothing of the program is in here. -/
namespace Go.Proofs.YtbmohenjphmlgabGreat
set_option maxRecDepth 100000

namespace Tr

/-- The sums in the references of a node. -/
def sums (t : Itm) : List (List UInt8) :=
  if isBranch t then (List.range 16).filterMap fun i => if isSum (kid t i) then some (kid t i).bytes else none
  else match unpath (kid t 0) with
    | some (_, false) => if isEmpty t then [] else [(kid t 1).bytes]
    | _ => []

/-- The sums in an element. -/
def sumsOf (e : List UInt8) : List (List UInt8) := match reads e with | some t => sums t | none => []

/-- What is reached from a sum, behind what was reached before. -/
def dfs (S : List (List UInt8)) : Nat → List UInt8 → List (List UInt8) → List (List UInt8)
  | 0, _, R => R
  | f + 1, s, R => match find S s with
    | none => R
    | some e => if (find R s).isSome then R else (sumsOf e).foldl (fun R c => dfs S f c R) (R ++ [e])

def forget (S : List (List UInt8)) (roots : List (List UInt8)) : List (List UInt8) := roots.foldl (fun R r => dfs S S.length r R) []

/-- A short node has no sum in it: a way through it ends. -/
theorem short_ends {t : Itm} (hpu : Itm.pure t = true) (hs : sound t = true) (h8 : (Itm.enc t).length < 8) {k : List UInt8} {br : Bool} {w : Way} (hg : goes t k br = some w) : w.need = [] := by
  have hsum : ∀ x ∈ t.items, t.list = true → (Itm.enc x).length < 8 := by
    intro x hx hl
    rw [Itm.enc_eq, if_pos hl] at h8
    have h1 := Itm.headed_len 192 (t.items.flatMap Itm.enc)
    have h2 : (Itm.enc x).length ≤ (t.items.flatMap Itm.enc).length := by
      obtain ⟨a, b, hab⟩ := List.append_of_mem hx
      rw [hab]
      simp only [List.flatMap_append, List.flatMap_cons, List.length_append]
      omega
    omega
  have hbr : isBranch t = false := by
    cases hb : isBranch t with
    | false => rfl
    | true =>
      have hl : t.list = true := by unfold isBranch at hb; simp at hb; exact hb.1
      rw [Itm.enc_eq, if_pos hl] at h8
      have h1 := Itm.headed_len 192 (t.items.flatMap Itm.enc)
      have h2 := flatMap_pos t.items
      rw [branch_len hb] at h2
      omega
  cases br with
  | true => rw [goes_stop k hbr] at hg; cases hg
  | false =>
    cases he : isEmpty t with
    | true => rw [goes_empty k he] at hg; cases hg; rfl
    | false =>
      obtain ⟨h2, hp⟩ := sound_two hs he hbr
      cases hu : unpath (kid t 0) with
      | none => rw [hu] at hp; simp [pairOk] at hp
      | some u =>
        obtain ⟨p, leaf⟩ := u
        cases leaf with
        | true =>
          rw [goes_leaf k p hbr he hu] at hg
          split at hg <;> (cases hg; rfl)
        | false =>
          by_cases hm : k.length < p.length ∨ k.take p.length ≠ p
          · rw [goes_miss k p hbr he hu hm] at hg; cases hg; rfl
          · exfalso
            rw [hu] at hp
            have hsm : isSum (kid t 1) = true := by unfold pairOk at hp; simp at hp; exact hp.2
            have hl : t.list = true := by
              cases hl : t.list with
              | true => rfl
              | false =>
                rw [Itm.pure_eq, hl] at hpu
                simp at hpu
                rw [hpu.1] at h2
                simp at h2
            have hk : kid t 1 ∈ t.items := by
              unfold kid
              rw [List.getD_eq_getElem?_getD, List.getElem?_eq_getElem (by omega)]
              exact List.getElem_mem _
            have := hsum _ hk hl
            have := isSum_short this
            rw [hsm] at this
            cases this

theorem pure_kid {t : Itm} (hpu : Itm.pure t = true) {i : Nat} (hi : i < t.items.length) : Itm.pure (kid t i) = true := by
  rw [Itm.pure_eq, Bool.and_eq_true, List.all_eq_true] at hpu
  refine hpu.2 _ ?_
  unfold kid
  rw [List.getD_eq_getElem?_getD, List.getElem?_eq_getElem hi]
  exact List.getElem_mem _

/-- Where a way through a node leads on, it does so by one of the node's sums. -/
theorem goes_sums {t : Itm} (hpu : Itm.pure t = true) (hs : sound t = true) {k : List UInt8} (hk : ∀ c ∈ k, c.toNat < 16) {br : Bool} {w : Way} (hg : goes t k br = some w) (hn : w.need ≠ []) : w.need ∈ sums t ∧ ∀ c ∈ w.digits, c.toNat < 16 := by
  unfold sums
  cases hb : isBranch t with
  | true =>
    rw [if_pos rfl]
    cases k with
    | nil => rw [goes_end br hb] at hg; cases hg; exact absurd rfl hn
    | cons c r =>
      have hc := hk c (List.mem_cons_self ..)
      rw [goes_down c r br hb (by omega)] at hg
      unfold refers refersOf at hg
      split at hg
      · rename_i hsm
        cases hg
        refine ⟨List.mem_filterMap.2 ⟨c.toNat, List.mem_range.2 hc, by rw [if_pos hsm]⟩, fun x hx => hk x (List.mem_cons_of_mem _ hx)⟩
      · rename_i hsm
        have hlen : c.toNat < t.items.length := by rw [branch_len hb]; omega
        exfalso
        have hkid := hs
        rw [sound_branch (branch_full hb) hb] at hkid
        simp only [Bool.and_eq_true, List.all_eq_true] at hkid
        have h1 := hkid.1 c.toNat (List.mem_range.2 (by omega))
        rw [slotOk_eq, if_neg (by omega)] at h1
        simp only [Bool.or_eq_true, Bool.and_eq_true, decide_eq_true_eq] at h1
        rcases h1 with h1 | h1 | h1
        · rw [goes_empty r h1] at hg; cases hg; exact hn rfl
        · exact hsm h1
        · exact hn (short_ends (pure_kid hpu hlen) h1.1.2 h1.2 hg)
  | false =>
    rw [if_neg (by decide)]
    cases br with
    | true => rw [goes_stop k hb] at hg; cases hg
    | false =>
      cases he : isEmpty t with
      | true => rw [goes_empty k he] at hg; cases hg; exact absurd rfl hn
      | false =>
        obtain ⟨h2, hp⟩ := sound_two hs he hb
        cases hu : unpath (kid t 0) with
        | none => rw [hu] at hp; simp [pairOk] at hp
        | some u =>
          obtain ⟨p, leaf⟩ := u
          cases leaf with
          | true =>
            rw [goes_leaf k p hb he hu] at hg
            split at hg <;> (cases hg; exact absurd rfl hn)
          | false =>
            by_cases hm : k.length < p.length ∨ k.take p.length ≠ p
            · rw [goes_miss k p hb he hu hm] at hg; cases hg; exact absurd rfl hn
            · rw [goes_hit k p hb he h2 hu (fun h => hm (.inl h)) (Decidable.not_not.1 fun h => hm (.inr h))] at hg
              rw [hu] at hp
              have hsm : isSum (kid t 1) = true := by unfold pairOk at hp; simp at hp; exact hp.2
              unfold refers refersOf at hg
              rw [if_pos hsm] at hg
              cases hg
              exact ⟨by simp, fun c hc => hk c (List.mem_of_mem_drop hc)⟩

theorem vstep_sums {i : Nat} {w w' : Way} {e : List UInt8} (h : vstep i w e = some w') (hk : ∀ c ∈ w.digits, c.toNat < 16) (hn : w'.need ≠ []) : w'.need ∈ sumsOf e ∧ ∀ c ∈ w'.digits, c.toNat < 16 := by
  rw [vstep_reads] at h
  split at h
  · cases h
  · unfold sumsOf
    cases hr : reads e with
    | none => rw [hr] at h; cases h
    | some t =>
      rw [hr] at h
      obtain ⟨h1, h2⟩ := reads_some hr
      exact goes_sums (whole_enc_eq h1).2 h2 hk h hn

/-- A set of elements that has, with each of its own, what that one leads to in S. -/
def Closed (S R : List (List UInt8)) : Prop := ∀ x ∈ R, ∀ c ∈ sumsOf x, (find S c).isSome → (find R c).isSome

/-- A way that is found in S is found in a part of it that is closed and has its first element. -/
theorem way_kept {S R : List (List UInt8)} (hS : Lone S) (hR : ∀ x ∈ R, x ∈ S) (hc : Closed S R) : ∀ (p : List (List UInt8)) (i : Nat) (w w' : Way), vloop i w p = some w' → (∀ c ∈ w.digits, c.toNat < 16) → (∀ s ∈ p, find S (sum s) = some s) → ((find S w.need).isSome → (find R w.need).isSome) → ∀ s ∈ p, find R (sum s) = some s := by
  intro p
  induction p with
  | nil => intro i w w' _ _ _ _ s hs; simp at hs
  | cons e l ih =>
    intro i w w' h hk hp hw s hs
    rw [vloop_cons] at h
    cases hv : vstep i w e with
    | none => rw [hv] at h; cases h
    | some w1 =>
      rw [hv] at h
      obtain ⟨hn, hse⟩ := vstep_need hv
      have he := hp e (List.mem_cons_self ..)
      have hfe : find R (sum e) = some e := by
        have h1 := hw (by rw [← hse, he]; rfl)
        rw [← hse] at h1
        cases hf : find R (sum e) with
        | none => rw [hf] at h1; cases h1
        | some x =>
          obtain ⟨hx, hxs⟩ := find_some hf
          rw [hS.eq (hR x hx) (find_some he).1 hxs]
      rcases List.mem_cons.1 hs with rfl | hs
      · exact hfe
      · by_cases hn1 : w1.need = []
        · cases l with
          | nil => simp at hs
          | cons e2 l2 =>
            have h' : vloop (i + 1) w1 (e2 :: l2) = some w' := h
            rw [vloop_cons, vstep_a hn1] at h'
            cases h'
        · obtain ⟨q1, q2⟩ := vstep_sums hv hk hn1
          exact ih (i + 1) w1 w' h q2 (fun s hs => hp s (List.mem_cons_of_mem _ hs)) (fun hq => hc e (find_some hfe).1 _ q1 hq) s hs

/-- How many elements of S are not in R. -/
def missing (S R : List (List UInt8)) : Nat := (S.filter fun e => (find R (sum e)).isNone).length

theorem missing_mono {S R R' : List (List UInt8)} (h : ∀ s, (find R s).isSome → (find R' s).isSome) : missing S R' ≤ missing S R := by
  unfold missing
  rw [← List.countP_eq_length_filter, ← List.countP_eq_length_filter]
  refine List.countP_mono_left ?_
  intro e _ he
  cases hf : find R (sum e) with
  | none => rfl
  | some x =>
    have := h (sum e) (by rw [hf]; rfl)
    cases hf' : find R' (sum e) with
    | none => rw [hf'] at this; cases this
    | some y => rw [hf'] at he; cases he

theorem missing_less {S R : List (List UInt8)} {e : List UInt8} (he : e ∈ S) (hR : find R (sum e) = none) : missing S (R ++ [e]) + 1 ≤ missing S R := by
  have hmono : ∀ s, (find R s).isSome → (find (R ++ [e]) s).isSome := by
    intro s hs
    rw [find_append]
    cases hf : find R s with
    | none => rw [hf] at hs; cases hs
    | some x => rfl
  unfold missing
  obtain ⟨a, b, rfl⟩ := List.append_of_mem he
  have hm := fun (l : List (List UInt8)) => missing_mono (S := l) hmono
  unfold missing at hm
  have h2 : find (R ++ [e]) (sum e) = some e := by rw [find_append, hR, find_one, if_pos rfl]; rfl
  have e1 : List.filter (fun x => (find R (sum x)).isNone) (e :: b) = e :: List.filter (fun x => (find R (sum x)).isNone) b := by rw [List.filter_cons, hR]; rfl
  have e2 : List.filter (fun x => (find (R ++ [e]) (sum x)).isNone) (e :: b) = List.filter (fun x => (find (R ++ [e]) (sum x)).isNone) b := by rw [List.filter_cons, h2]; rfl
  rw [List.filter_append, List.filter_append, List.length_append, List.length_append, e1, e2]
  have := hm a
  have := hm b
  simp only [List.length_cons]
  omega

theorem missing_zero {S R : List (List UInt8)} (h : missing S R = 0) {e : List UInt8} (he : e ∈ S) : (find R (sum e)).isSome := by
  unfold missing at h
  have h1 := List.eq_nil_of_length_eq_zero h
  rw [List.filter_eq_nil_iff] at h1
  have := h1 e he
  cases hf : find R (sum e) with
  | none => rw [hf] at this; exact absurd rfl this
  | some x => rfl

/-- What a search has added to what was reached before. -/
structure Grew (S : List (List UInt8)) (R R' : List (List UInt8)) : Prop where
  sub : ∀ x ∈ R, x ∈ R'
  from' : ∀ x ∈ R', x ∈ R ∨ x ∈ S
  has : ∀ s, (find R s).isSome → (find R' s).isSome
  shut : ∀ x ∈ R', x ∉ R → ∀ c ∈ sumsOf x, (find S c).isSome → (find R' c).isSome
  lone : Lone R → Lone R'

theorem Grew.refl (S R : List (List UInt8)) : Grew S R R := ⟨fun _ h => h, fun _ h => .inl h, fun _ h => h, fun _ h h' => absurd h h', fun h => h⟩

theorem Grew.trans {S R1 R2 R3 : List (List UInt8)} (a : Grew S R1 R2) (b : Grew S R2 R3) : Grew S R1 R3 := by
  refine ⟨fun x h => b.sub x (a.sub x h), fun x h => ?_, fun s h => b.has s (a.has s h), fun x h h1 c hc hs => ?_, fun h => b.lone (a.lone h)⟩
  · rcases b.from' x h with h | h
    · exact a.from' x h
    · exact .inr h
  · by_cases h2 : x ∈ R2
    · exact b.has c (a.shut x h2 h1 c hc hs)
    · exact b.shut x h h2 c hc hs

theorem dfs_grew (S : List (List UInt8)) : ∀ (f : Nat) (s : List UInt8) (R : List (List UInt8)), missing S R ≤ f → Grew S R (dfs S f s R) ∧ ((find S s).isSome → (find (dfs S f s R) s).isSome) := by
  intro f
  induction f with
  | zero =>
    intro s R hm
    refine ⟨Grew.refl _ _, fun h => ?_⟩
    cases hf : find S s with
    | none => rw [hf] at h; cases h
    | some e =>
      obtain ⟨h1, h2⟩ := find_some hf
      have := missing_zero (Nat.le_zero.1 hm) h1
      rw [h2] at this
      exact this
  | succ f ih =>
    intro s R hm
    unfold dfs
    cases hf : find S s with
    | none => exact ⟨Grew.refl _ _, fun h => by cases h⟩
    | some e =>
      obtain ⟨h1, h2⟩ := find_some hf
      cases hr : find R s with
      | some x =>
        have e1 : (if (some x).isSome = true then R else (sumsOf e).foldl (fun R c => dfs S f c R) (R ++ [e])) = R := if_pos rfl
        show Grew S R (if (some x).isSome = true then R else (sumsOf e).foldl (fun R c => dfs S f c R) (R ++ [e])) ∧ _
        rw [e1]
        exact ⟨Grew.refl _ _, fun _ => by show (find (if (some x).isSome = true then R else (sumsOf e).foldl (fun R c => dfs S f c R) (R ++ [e])) s).isSome = true; rw [e1, hr]; rfl⟩
      | none =>
        have e1 : (if (none : Option (List UInt8)).isSome = true then R else (sumsOf e).foldl (fun R c => dfs S f c R) (R ++ [e])) = (sumsOf e).foldl (fun R c => dfs S f c R) (R ++ [e]) := if_neg (by decide)
        show Grew S R (if (none : Option (List UInt8)).isSome = true then R else (sumsOf e).foldl (fun R c => dfs S f c R) (R ++ [e])) ∧ ((some e).isSome = true → (find (if (none : Option (List UInt8)).isSome = true then R else (sumsOf e).foldl (fun R c => dfs S f c R) (R ++ [e])) s).isSome = true)
        rw [e1]
        have hre : find R (sum e) = none := by rw [h2]; exact hr
        have hms : missing S (R ++ [e]) ≤ f := by have := missing_less h1 hre; omega
        have fold : ∀ (l : List (List UInt8)) (T : List (List UInt8)), missing S T ≤ f → Grew S T (l.foldl (fun R c => dfs S f c R) T) ∧ ∀ c ∈ l, (find S c).isSome → (find (l.foldl (fun R c => dfs S f c R) T) c).isSome := by
          intro l
          induction l with
          | nil => intro T _; exact ⟨Grew.refl _ _, fun c hc => by simp at hc⟩
          | cons c l ihl =>
            intro T hT
            obtain ⟨g1, g2⟩ := ih c T hT
            obtain ⟨g3, g4⟩ := ihl (dfs S f c T) (Nat.le_trans (missing_mono g1.has) hT)
            refine ⟨g1.trans g3, fun c' hc' hs' => ?_⟩
            rcases List.mem_cons.1 hc' with rfl | hc'
            · exact g3.has _ (g2 hs')
            · exact g4 c' hc' hs'
        obtain ⟨g1, g2⟩ := fold (sumsOf e) (R ++ [e]) hms
        refine ⟨⟨fun x hx => g1.sub x (List.mem_append_left _ hx), fun x hx => ?_, fun s hs => g1.has s ?_, fun x hx hxR c hc hs => ?_, fun hl => g1.lone (hl.snoc hre)⟩, fun _ => g1.has s ?_⟩
        · rcases g1.from' x hx with h | h
          · rcases List.mem_append.1 h with h | h
            · exact .inl h
            · rw [List.mem_singleton.1 h]; exact .inr h1
          · exact .inr h
        · rw [find_append]
          cases hq : find R s with
          | none => rw [hq] at hs; cases hs
          | some y => rfl
        · by_cases hxe : x ∈ R ++ [e]
          · rcases List.mem_append.1 hxe with h | h
            · exact absurd h hxR
            · rw [List.mem_singleton.1 h] at hc
              exact g2 c hc hs
          · exact g1.shut x hx hxe c hc hs
        · rw [find_append, hr, find_one, if_pos h2]; rfl

theorem missing_le (S R : List (List UInt8)) : missing S R ≤ S.length := List.length_filter_le _ _

theorem forget_from (S : List (List UInt8)) (l : List (List UInt8)) : ∀ (R : List (List UInt8)), Grew S R (l.foldl (fun R r => dfs S S.length r R) R) ∧ ∀ r ∈ l, (find S r).isSome → (find (l.foldl (fun R r => dfs S S.length r R) R) r).isSome := by
  induction l with
  | nil => intro R; exact ⟨Grew.refl _ _, fun c hc => by simp at hc⟩
  | cons c l ihl =>
    intro R
    obtain ⟨g1, g2⟩ := dfs_grew S S.length c R (missing_le S R)
    obtain ⟨g3, g4⟩ := ihl (dfs S S.length c R)
    refine ⟨g1.trans g3, fun c' hc' hs' => ?_⟩
    rcases List.mem_cons.1 hc' with rfl | hc'
    · exact g3.has _ (g2 hs')
    · exact g4 c' hc' hs'

/-- What is left when all is forgotten that the roots do not reach. -/
theorem forget_kept (S roots : List (List UInt8)) : (∀ x ∈ forget S roots, x ∈ S) ∧ Lone (forget S roots) ∧ Closed S (forget S roots) ∧ ∀ r ∈ roots, (find S r).isSome → (find (forget S roots) r).isSome := by
  obtain ⟨g1, g2⟩ := forget_from S roots []
  refine ⟨fun x hx => ?_, g1.lone lone_nil, fun x hx c hc hs => g1.shut x hx (by simp) c hc hs, g2⟩
  rcases g1.from' x hx with h | h
  · simp at h
  · exact h

theorem nodup_len {α : Type} : ∀ (R S : List α), R.Nodup → (∀ x ∈ R, x ∈ S) → R.length ≤ S.length
  | [], _, _, _ => Nat.zero_le _
  | x :: R, S, hn, h => by
    obtain ⟨h1, h2⟩ := List.nodup_cons.1 hn
    obtain ⟨a, b, rfl⟩ := List.append_of_mem (h x (List.mem_cons_self ..))
    have := nodup_len R (a ++ b) h2 (fun y hy => by
      have := h y (List.mem_cons_of_mem _ hy)
      rcases List.mem_append.1 this with h3 | h3
      · exact List.mem_append_left _ h3
      · rcases List.mem_cons.1 h3 with rfl | h3
        · exact absurd hy h1
        · exact List.mem_append_right _ h3)
    simp only [List.length_append, List.length_cons] at this ⊢
    omega

theorem lone_len {S R : List (List UInt8)} (hR : Lone R) (h : ∀ x ∈ R, x ∈ S) : R.length ≤ S.length :=
  nodup_len R S (List.Pairwise.imp (fun {a b} h e => h (by rw [e])) hR) h

theorem forget_len (S roots : List (List UInt8)) : (forget S roots).length ≤ S.length := lone_len (forget_kept S roots).2.1 (forget_kept S roots).1

end Tr
end Go.Proofs.YtbmohenjphmlgabGreat
