/- The walk of tableOf (of the program): the pairs that count. -/
import Derived.Test.YtbmohenjphmlgaaPrShared
import Derived.Test.YtbmohenjphmlgaaTrPerm
import Derived.Maps.OwnOps
import Derived.Maps.OwnSet
namespace Go.Proofs.Ytbmohenjphmlgaa
open Go.RowKit
set_option maxRecDepth 100000

/-- The last place below k with a key, or nought. -/
def lastAt (l : List (ByteArray × ByteArray)) (key : List UInt8) : Nat → Nat
  | 0 => 0
  | k + 1 => if (l[k]?).map (fun p => p.1.data.toList) = some key then k else lastAt l key k

theorem lastAt_max (l : List (ByteArray × ByteArray)) (key : List UInt8) (k j : Nat) (hj : j < k) (h : (l[j]?).map (fun p => p.1.data.toList) = some key) : j ≤ lastAt l key k ∧ lastAt l key k < k ∧ (l[lastAt l key k]?).map (fun p => p.1.data.toList) = some key := by
  induction k with
  | zero => omega
  | succ k ih =>
    unfold lastAt
    by_cases hk : (l[k]?).map (fun p => p.1.data.toList) = some key
    · rw [if_pos hk]; exact ⟨by omega, by omega, hk⟩
    · rw [if_neg hk]
      have hne : j ≠ k := fun e => hk (e ▸ h)
      have := ih (by omega)
      exact ⟨this.1, by omega, this.2.2⟩

/-- Does the i-th pair count? -/
def counts (l : List (ByteArray × ByteArray)) (p : ByteArray × ByteArray) (i : Nat) : Prop := p.1.data.toList ∉ (l.drop (i + 1)).map (fun q => q.1.data.toList) ∧ p.2.data.toList ≠ []

instance (l : List (ByteArray × ByteArray)) (p : ByteArray × ByteArray) (i : Nat) : Decidable (counts l p i) := by unfold counts; infer_instance

theorem counts_iff {l : List (ByteArray × ByteArray)} {i : Nat} (hi : i < l.length) : counts l l[i] i ↔ lastAt l l[i].1.data.toList l.length = i ∧ l[i].2.data.toList ≠ [] := by
  have hat : (l[i]?).map (fun p => p.1.data.toList) = some l[i].1.data.toList := by rw [List.getElem?_eq_getElem hi]; rfl
  have hm := lastAt_max l l[i].1.data.toList l.length i hi hat
  unfold counts
  refine and_congr_left fun _ => ?_
  constructor
  · intro hno
    refine Classical.byContradiction fun hne => hno ?_
    have hlt : i < lastAt l l[i].1.data.toList l.length := by omega
    have hk := hm.2.2
    rw [List.getElem?_eq_getElem hm.2.1] at hk
    refine List.mem_map.2 ⟨l[lastAt l l[i].1.data.toList l.length]'hm.2.1, ?_, by simpa using hk⟩
    rw [List.mem_iff_getElem]
    refine ⟨lastAt l l[i].1.data.toList l.length - (i + 1), by rw [List.length_drop]; omega, ?_⟩
    rw [List.getElem_drop]
    congr 1
    omega
  · intro he hin
    obtain ⟨q, hq, hqk⟩ := List.mem_map.1 hin
    obtain ⟨j, hj, rfl⟩ := List.getElem_of_mem hq
    rw [List.length_drop] at hj
    rw [List.getElem_drop] at hqk
    have := lastAt_max l l[i].1.data.toList l.length (i + 1 + j) (by omega) (by rw [List.getElem?_eq_getElem (by omega)]; simpa using hqk)
    omega

def digB (p : ByteArray × ByteArray) : ByteArray × ByteArray := (⟨(Tr.digits p.1.data.toList).toArray⟩, p.2)

/-- The pairs that count, among the first k. -/
def tabTo (l : List (ByteArray × ByteArray)) (k : Nat) : List (ByteArray × ByteArray) := (List.range k).filterMap fun i => match l[i]? with | some p => if counts l p i then some (digB p) else none | none => none

theorem tabTo_succ {l : List (ByteArray × ByteArray)} {k : Nat} (hk : k < l.length) : tabTo l (k + 1) = tabTo l k ++ (if counts l l[k] k then [digB l[k]] else []) := by
  unfold tabTo
  rw [List.range_succ, List.filterMap_append]
  congr 1
  simp only [List.filterMap_cons, List.filterMap_nil, List.getElem?_eq_getElem hk]
  split <;> simp_all

/-- As lists of bytes. -/
def lists (l : List (ByteArray × ByteArray)) : List (List UInt8 × List UInt8) := l.map fun p => (p.1.data.toList, p.2.data.toList)

theorem tabTo_table : ∀ l : List (ByteArray × ByteArray), ents (tabTo l l.length) = Tr.table (lists l)
  | [] => rfl
  | p :: r => by
    have ih := tabTo_table r
    have e : tabTo (p :: r) (p :: r).length = (if counts (p :: r) p 0 then [digB p] else []) ++ tabTo r r.length := by
      unfold tabTo
      rw [List.length_cons, List.range_succ_eq_map, List.filterMap_cons, List.filterMap_map]
      have e2 : ((fun i => match (p :: r)[i]? with | some q => if counts (p :: r) q i then some (digB q) else none | none => none) ∘ Nat.succ) = fun i => match r[i]? with | some q => if counts r q i then some (digB q) else none | none => none := by
        funext i
        simp only [Function.comp, Nat.succ_eq_add_one, List.getElem?_cons_succ]
        rfl
      rw [e2]
      simp only [List.getElem?_cons_zero]
      by_cases hc : counts (p :: r) p 0
      · rw [if_pos hc, if_pos hc]; rfl
      · rw [if_neg hc, if_neg hc]; rfl
    rw [e]
    unfold ents at ih ⊢
    rw [List.map_append, ih]
    show _ = Tr.table ((p.1.data.toList, p.2.data.toList) :: lists r)
    rw [Tr.table]
    have hmap : (lists r).map (·.1) = r.map (fun q => q.1.data.toList) := by unfold lists; rw [List.map_map]; rfl
    by_cases hc : counts (p :: r) p 0
    · rw [if_pos hc, if_neg]
      · rfl
      · rw [hmap]
        exact fun h => h.elim (fun h => hc.1 h) (fun h => hc.2 h)
    · rw [if_neg hc, if_pos]
      · rfl
      · rw [hmap]
        refine Classical.byContradiction fun h => hc ?_
        rw [not_or] at h
        exact ⟨h.1, h.2⟩

end Go.Proofs.Ytbmohenjphmlgaa
