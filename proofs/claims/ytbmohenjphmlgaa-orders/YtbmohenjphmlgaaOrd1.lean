/- What the statement Orders leans on: tables that have the same for each key have the same root. -/
import Derived.Test.YtbmohenjphmlgaaKTable
import Derived.Test.YtbmohenjphmlgaaPrRoot
namespace Go.Proofs.Ytbmohenjphmlgaa
open Go.RowKit
set_option maxRecDepth 100000

theorem ba_ext {a b : ByteArray} : a = b ↔ a.data.toList = b.data.toList := by
  constructor
  · intro h; rw [h]
  · intro h
    cases a; cases b
    simp only [Array.toList_inj] at h
    rw [h]

theorem valB_value (l : List (ByteArray × ByteArray)) (key : ByteArray) : (valB l key).data.toList = Tr.value (lists l) key.data.toList := by
  have gen : ∀ (l : List (ByteArray × ByteArray)) (v : ByteArray) (u : List UInt8), v.data.toList = u → (l.foldl (fun v p => if p.1 = key then p.2 else v) v).data.toList = (lists l).foldl (fun v p => if p.1 = key.data.toList then p.2 else v) u := by
    intro l
    induction l with
    | nil => intro v u h; exact h
    | cons p l ih =>
      intro v u h
      show (l.foldl _ (if p.1 = key then p.2 else v)).data.toList = (lists l).foldl _ (if p.1.data.toList = key.data.toList then p.2.data.toList else u)
      by_cases hp : p.1 = key
      · rw [if_pos hp, if_pos (ba_ext.1 hp)]; exact ih _ _ rfl
      · rw [if_neg hp, if_neg (fun e => hp (ba_ext.2 e))]; exact ih _ _ h
  exact gen l ⟨#[]⟩ [] rfl

/-- The root of a table with which nothing is wrong. -/
def rootB (l : List (ByteArray × ByteArray)) : ByteArray := ⟨(Tr.sum (Itm.enc (Tr.node 13 (Tr.table (lists l))))).toArray⟩

theorem rootB_size (l : List (ByteArray × ByteArray)) : (rootB l).size = 8 := by
  show (Tr.sum (Itm.enc (Tr.node 13 (Tr.table (lists l))))).toArray.size = 8
  rw [List.size_toArray, Tr.sum_len]

/-- Nothing is wrong with these. -/
def Fine (l : List (ByteArray × ByteArray)) : Prop := l.length ≤ 60 ∧ ∀ p ∈ l, p.1.size ≤ 6 ∧ p.2.size ≤ 40

theorem fine_fault {l : List (ByteArray × ByteArray)} (h : Fine l) {key : ByteArray} (hk : key.size ≤ 6) : tfault l key = 0 :=
  tfault_ok (by have := h.1; omega) (fun p hp => by have := (h.2 p hp).1; omega) (by omega) (fun p hp => by have := (h.2 p hp).2; omega)

theorem root_fine (a : Option Addr) (cap : Nat) (l : List (ByteArray × ByteArray)) (w : World) (hr : PRd w.heap.size w a l) (hf : Fine l) :
    Calls Try.prog 24 #[.slice a l.length cap] w fun e w' => e = .returned (.tuple #[.string (rootB l), .int .i64 0]) ∧ Below w.heap.size w w' := by
  have h := root_any a cap l w hr
  have e : Tr.root (lists l) = (Tr.sum (Itm.enc (Tr.node 13 (Tr.table (lists l)))), 0) := by
    unfold Tr.root
    rw [if_pos]
    have := tfault_fault l ⟨#[]⟩
    rw [fine_fault hf (by decide)] at this
    exact this.symm
  rw [e] at h
  exact h

theorem rootB_ext {l m : List (ByteArray × ByteArray)} (h : ∀ k, Tr.value (lists l) k = Tr.value (lists m) k) : rootB l = rootB m := by
  unfold rootB
  rw [Tr.table_ext 13 _ _ h]

/-- The pairs of a table, the last first, each with what the table has for its key. -/
def turnedB (l : List (ByteArray × ByteArray)) : List (ByteArray × ByteArray) := l.reverse.map fun p => (p.1, valB l p.1)

theorem value_const (f : List UInt8 → List UInt8) (ps : List (List UInt8 × List UInt8)) (h : ∀ p ∈ ps, p.2 = f p.1) (k : List UInt8) : Tr.value ps k = if k ∈ ps.map (·.1) then f k else [] := by
  induction ps with
  | nil => rfl
  | cons p ps ih =>
    rw [Tr.value_cons, ih (fun q hq => h q (List.mem_cons_of_mem _ hq)), List.map_cons]
    by_cases hk : k ∈ ps.map (·.1)
    · rw [if_pos hk, if_pos hk, if_pos (List.mem_cons_of_mem _ hk)]
    · rw [if_neg hk]
      by_cases hp : p.1 = k
      · rw [if_pos hp, if_pos (by rw [hp]; exact List.mem_cons_self ..), h p (List.mem_cons_self ..), hp]
      · rw [if_neg hp, if_neg]
        intro hh
        rcases List.mem_cons.1 hh with e | e
        · exact hp e.symm
        · exact hk e

theorem lists_keys (l : List (ByteArray × ByteArray)) : (lists l).map (·.1) = l.map fun p => p.1.data.toList := by unfold lists; rw [List.map_map]; rfl

theorem turned_value (l : List (ByteArray × ByteArray)) (k : List UInt8) : Tr.value (lists (turnedB l)) k = Tr.value (lists l) k := by
  rw [value_const (fun k => Tr.value (lists l) k) (lists (turnedB l)) ?_ k]
  · have hk : (lists (turnedB l)).map (·.1) = ((lists l).map (·.1)).reverse := by
      rw [lists_keys, lists_keys]
      unfold turnedB
      rw [List.map_map, List.map_reverse]
      rfl
    rw [hk]
    by_cases h : k ∈ (lists l).map (·.1)
    · rw [if_pos (List.mem_reverse.2 h)]
    · rw [if_neg (fun e => h (List.mem_reverse.1 e)), Tr.value_not h]
  · intro p hp
    unfold lists turnedB at hp
    rw [List.map_map] at hp
    obtain ⟨q, _, rfl⟩ := List.mem_map.1 hp
    exact valB_value l q.1

/-- A pair put in, and behind all the key's value. -/
def moreB (l : List (ByteArray × ByteArray)) (i : Nat) (k o : ByteArray) : List (ByteArray × ByteArray) := l.take i ++ [(k, o)] ++ l.drop i ++ [(k, valB l k)]

theorem lists_append (a b : List (ByteArray × ByteArray)) : lists (a ++ b) = lists a ++ lists b := by simp [lists]

theorem value_mid (a b : List (List UInt8 × List UInt8)) (p : List UInt8 × List UInt8) (k : List UInt8) (h : p.1 ≠ k) : Tr.value (a ++ [p] ++ b) k = Tr.value (a ++ b) k := by
  unfold Tr.value
  rw [List.foldl_append, List.foldl_append, List.foldl_append, List.foldl_cons, List.foldl_nil, if_neg h]

theorem more_value (l : List (ByteArray × ByteArray)) (i : Nat) (k o : ByteArray) (key : List UInt8) : Tr.value (lists (moreB l i k o)) key = Tr.value (lists l) key := by
  unfold moreB
  rw [lists_append, Tr.value_append]
  by_cases h : key = k.data.toList
  · have hm : key ∈ (lists [(k, valB l k)]).map (·.1) := by rw [lists_keys]; simp [h]
    rw [if_pos hm]
    have : lists [(k, valB l k)] = [(k.data.toList, (valB l k).data.toList)] := rfl
    rw [this, Tr.value_cons, if_neg (by simp), if_pos h.symm, valB_value, h]
  · have hm : key ∉ (lists [(k, valB l k)]).map (·.1) := by rw [lists_keys]; simpa using h
    have e1 : lists [(k, o)] = [(k.data.toList, o.data.toList)] := rfl
    rw [if_neg hm, lists_append, lists_append, e1, value_mid _ _ _ _ (fun e => h e.symm), ← lists_append, List.take_append_drop]

theorem valB_size (l : List (ByteArray × ByteArray)) (key : ByteArray) (n : Nat) (h : ∀ p ∈ l, p.2.size ≤ n) : (valB l key).size ≤ n := by
  have gen : ∀ (l : List (ByteArray × ByteArray)) (v : ByteArray), v.size ≤ n → (∀ p ∈ l, p.2.size ≤ n) → (l.foldl (fun v p => if p.1 = key then p.2 else v) v).size ≤ n := by
    intro l
    induction l with
    | nil => intro v hv _; exact hv
    | cons p l ih =>
      intro v hv hl
      rw [List.foldl_cons]
      refine ih _ ?_ (fun q hq => hl q (List.mem_cons_of_mem _ hq))
      split
      · exact hl p (List.mem_cons_self ..)
      · exact hv
  exact gen l ⟨#[]⟩ (Nat.zero_le _) h

theorem tableB_fine (l : List (ByteArray × ByteArray)) : Fine (tableB l) := ⟨Nat.le_trans (tableB_len l) (by decide), tableB_ok l⟩

theorem turnedB_fine {l : List (ByteArray × ByteArray)} (h : Fine l) : Fine (turnedB l) := by
  refine ⟨by simpa [turnedB] using h.1, fun p hp => ?_⟩
  obtain ⟨q, hq, rfl⟩ := List.mem_map.1 hp
  exact ⟨(h.2 q (List.mem_reverse.1 hq)).1, valB_size l q.1 40 fun p hp => (h.2 p hp).2⟩

theorem moreB_fine {l : List (ByteArray × ByteArray)} (h : Fine l) (hl : l.length ≤ 30) (i : Nat) {k o : ByteArray} (hk : k.size ≤ 6) (ho : o.size ≤ 40) : Fine (moreB l i k o) := by
  refine ⟨by simp only [moreB, List.length_append, List.length_take, List.length_drop, List.length_cons, List.length_nil]; omega, fun p hp => ?_⟩
  unfold moreB at hp
  simp only [List.mem_append, List.mem_cons, List.not_mem_nil, or_false] at hp
  rcases hp with ((hp | rfl) | hp) | rfl
  · exact h.2 p (List.mem_of_mem_take hp)
  · exact ⟨hk, ho⟩
  · exact h.2 p (List.mem_of_mem_drop hp)
  · exact ⟨hk, valB_size l k 40 fun p hp => (h.2 p hp).2⟩

theorem turnedB_take (l : List (ByteArray × ByteArray)) (j : Nat) (h : j < l.length) : (turnedB l).take (l.length - j) = (turnedB l).take (l.length - (j + 1)) ++ [(l[j].1, valB l l[j].1)] := by
  have hlen : (turnedB l).length = l.length := by simp [turnedB]
  have e : l.length - j = l.length - (j + 1) + 1 := by omega
  rw [e, List.take_succ_eq_append_getElem (by omega)]
  congr 2
  unfold turnedB
  simp only [List.getElem_map, List.getElem_reverse]
  have e2 : l.length - 1 - (l.length - (j + 1)) = j := by omega
  simp only [e2]

end Go.Proofs.Ytbmohenjphmlgaa
