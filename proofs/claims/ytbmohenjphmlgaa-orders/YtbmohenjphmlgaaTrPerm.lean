/- Plain mathematics of trees: a node hangs on its entries, not on their order; a table's root hangs on what it has for each key. Nothing of the program is in here. -/
import Derived.Test.YtbmohenjphmlgaaTrTree
namespace Go.Proofs.Ytbmohenjphmlgaa
set_option maxRecDepth 100000

namespace Tr

/-- No two entries have the same digits. -/
def Apart (l : List Ent) : Prop := l.Pairwise fun a b => a.dig ≠ b.dig

theorem Apart.perm {l l' : List Ent} (ha : Apart l) (h : l.Perm l') : Apart l' := (h.pairwise_iff (fun h => Ne.symm h)).1 ha

theorem behind_some {s : List UInt8} {a b : Ent} (h : (if s.isPrefixOf a.dig then some (⟨a.dig.drop s.length, a.val⟩ : Ent) else none) = some b) : a.dig = s ++ b.dig ∧ a.val = b.val := by
  by_cases hp : s.isPrefixOf a.dig = true
  · rw [if_pos hp] at h
    obtain ⟨r, hr⟩ := List.isPrefixOf_iff_prefix.1 hp
    cases h
    refine ⟨?_, rfl⟩
    show a.dig = s ++ a.dig.drop s.length
    rw [← hr, List.drop_left]
  · rw [if_neg hp] at h; cases h

theorem Apart.behind {l : List Ent} {s : List UInt8} (h : Apart l) : Apart (behind s l) := by
  unfold Tr.behind Apart
  rw [List.pairwise_filterMap]
  refine List.Pairwise.imp ?_ h
  intro a a' hne b hb b' hb' he
  have h1 := behind_some hb
  have h2 := behind_some hb'
  exact hne (by rw [h1.1, h2.1, he])

theorem behind_perm {l l' : List Ent} (s : List UInt8) (h : l.Perm l') : (behind s l).Perm (behind s l') := h.filterMap _

theorem prefix_antisymm {a b : List UInt8} (h1 : a <+: b) (h2 : b <+: a) : a = b := List.IsPrefix.eq_of_length_le h1 h2.length_le

theorem shared_perm {l l' : List Ent} (h : l.Perm l') : shared l = shared l' := by
  by_cases hl : l = []
  · subst hl
    rw [List.nil_perm.1 h]
  · have hl' : l' ≠ [] := fun h0 => by subst h0; exact hl (List.perm_nil.1 h)
    refine prefix_antisymm ?_ ?_
    · rw [shared_iff _ _ hl']
      intro e he
      exact shared_pre l e (h.mem_iff.2 he)
    · rw [shared_iff _ _ hl]
      intro e he
      exact shared_pre l' e (h.mem_iff.1 he)

theorem valOf_from (l : List Ent) : ∀ v0 : List UInt8, (∀ e ∈ l, e.dig ≠ []) → l.foldl (fun v e => if e.dig = [] then e.val else v) v0 = v0 := by
  induction l with
  | nil => intro v0 _; rfl
  | cons x l ih =>
    intro v0 h
    rw [List.foldl_cons, if_neg (h x (List.mem_cons_self ..))]
    exact ih v0 fun e he => h e (List.mem_cons_of_mem _ he)

theorem valOf_none {l : List Ent} (h : ∀ e ∈ l, e.dig ≠ []) : valOf l = [] := valOf_from l [] h

theorem valOf_some {l : List Ent} (ha : Apart l) {e : Ent} (he : e ∈ l) (h0 : e.dig = []) : valOf l = e.val := by
  have key : ∀ (l : List Ent) (v0 : List UInt8), Apart l → e ∈ l → l.foldl (fun v e => if e.dig = [] then e.val else v) v0 = e.val := by
    intro l
    induction l with
    | nil => intro v0 _ h; simp at h
    | cons x l ih =>
      intro v0 ha he
      have ha' := List.pairwise_cons.1 ha
      rw [List.foldl_cons]
      rcases List.mem_cons.1 he with rfl | he
      · rw [if_pos h0]
        exact valOf_from l _ fun y hy hy0 => ha'.1 y hy (h0.trans hy0.symm)
      · exact ih _ ha'.2 he
  exact key l [] ha he

theorem valOf_perm {l l' : List Ent} (ha : Apart l) (h : l.Perm l') : valOf l = valOf l' := by
  by_cases hx : ∃ e ∈ l, e.dig = []
  · obtain ⟨e, he, h0⟩ := hx
    rw [valOf_some ha he h0, valOf_some (ha.perm h) (h.mem_iff.1 he) h0]
  · have h1 : ∀ e ∈ l, e.dig ≠ [] := fun e he h0 => hx ⟨e, he, h0⟩
    rw [valOf_none h1, valOf_none fun e he => h1 e (h.mem_iff.2 he)]

/-- The node of entries hangs on the entries, not on their order. -/
theorem node_perm : ∀ (f : Nat) (l l' : List Ent), Apart l → l.Perm l' → node f l = node f l' := by
  intro f
  induction f with
  | zero => intro l l' _ _; rfl
  | succ f ih =>
    intro l l' ha h
    unfold node nodeOf
    match l, l', h, ha with
    | [], l', h, _ => rw [List.nil_perm.1 h]
    | [e], l', h, _ => rw [List.singleton_perm.1 h]
    | a :: b :: r, [], h, _ => have := h.length_eq; simp at this
    | a :: b :: r, [x], h, _ => have := h.length_eq; simp at this
    | a :: b :: r, c :: d :: s, h, ha =>
      show (if shared (a :: b :: r) = [] then _ else _) = (if shared (c :: d :: s) = [] then _ else _)
      rw [shared_perm h, valOf_perm ha h]
      by_cases hs : shared (c :: d :: s) = []
      · rw [if_pos hs, if_pos hs]
        congr 2
        refine List.map_congr_left fun n _ => ?_
        rw [ih _ _ ha.behind (behind_perm _ h)]
      · rw [if_neg hs, if_neg hs, ih _ _ ha.behind (behind_perm _ h)]

/-- What pairs have for a key: the value of the last one with it. -/
def value (ps : List (List UInt8 × List UInt8)) (k : List UInt8) : List UInt8 := ps.foldl (fun v p => if p.1 = k then p.2 else v) []

theorem value_from (ps : List (List UInt8 × List UInt8)) (k : List UInt8) : ∀ v0, k ∉ ps.map (·.1) → ps.foldl (fun v p => if p.1 = k then p.2 else v) v0 = v0 := by
  induction ps with
  | nil => intro v0 _; rfl
  | cons p ps ih =>
    intro v0 h
    rw [List.map_cons, List.mem_cons, not_or] at h
    rw [List.foldl_cons, if_neg (Ne.symm h.1)]
    exact ih v0 h.2

theorem value_any (ps : List (List UInt8 × List UInt8)) (k : List UInt8) : ∀ v0 v1, k ∈ ps.map (·.1) → ps.foldl (fun v p => if p.1 = k then p.2 else v) v0 = ps.foldl (fun v p => if p.1 = k then p.2 else v) v1 := by
  induction ps with
  | nil => intro v0 v1 h; simp at h
  | cons p ps ih =>
    intro v0 v1 h
    rw [List.foldl_cons, List.foldl_cons]
    by_cases hp : p.1 = k
    · rw [if_pos hp, if_pos hp]
    · rw [if_neg hp, if_neg hp]
      rw [List.map_cons, List.mem_cons] at h
      exact ih _ _ (h.resolve_left (Ne.symm hp))

theorem value_cons (p : List UInt8 × List UInt8) (ps : List (List UInt8 × List UInt8)) (k : List UInt8) : value (p :: ps) k = if k ∈ ps.map (·.1) then value ps k else if p.1 = k then p.2 else [] := by
  unfold value
  rw [List.foldl_cons]
  by_cases hk : k ∈ ps.map (·.1)
  · rw [if_pos hk]; exact value_any _ _ _ _ hk
  · rw [if_neg hk]; exact value_from _ _ _ hk

theorem value_not {ps : List (List UInt8 × List UInt8)} {k : List UInt8} (h : k ∉ ps.map (·.1)) : value ps k = [] := value_from ps k [] h

theorem value_append (a b : List (List UInt8 × List UInt8)) (k : List UInt8) : value (a ++ b) k = if k ∈ b.map (·.1) then value b k else value a k := by
  unfold value
  rw [List.foldl_append]
  by_cases hk : k ∈ b.map (·.1)
  · rw [if_pos hk]; exact value_any _ _ _ _ hk
  · rw [if_neg hk]; exact value_from _ _ _ hk

theorem digits_inj : ∀ {a b : List UInt8}, digits a = digits b → a = b
  | [], [], _ => rfl
  | [], b :: s, h => by rw [digits_cons] at h; simp [digits] at h
  | a :: r, [], h => by rw [digits_cons] at h; simp [digits] at h
  | a :: r, b :: s, h => by
    rw [digits_cons, digits_cons, List.cons.injEq, List.cons.injEq] at h
    obtain ⟨h1, h2, h3⟩ := h
    have ha : a.toNat < 256 := a.toNat_lt
    have hb : b.toNat < 256 := b.toNat_lt
    have e1 := congrArg UInt8.toNat h1
    have e2 := congrArg UInt8.toNat h2
    rw [UInt8.toNat_ofNat', UInt8.toNat_ofNat'] at e1 e2
    rw [digits_inj h3, UInt8.toNat_inj.1 (by omega : a.toNat = b.toNat)]

theorem table_mem (ps : List (List UInt8 × List UInt8)) (e : Ent) : e ∈ table ps ↔ ∃ k, e = ⟨digits k, value ps k⟩ ∧ value ps k ≠ [] := by
  induction ps with
  | nil => simp [table, value]
  | cons p ps ih =>
    have hval : ∀ k, k ∈ ps.map (·.1) → value (p :: ps) k = value ps k := fun k hk => by rw [value_cons, if_pos hk]
    have hin : ∀ k, value ps k ≠ [] → k ∈ ps.map (·.1) := fun k hk => Classical.byContradiction fun h => hk (value_not h)
    have hnew : ∀ k, k ∉ ps.map (·.1) → value (p :: ps) k = if p.1 = k then p.2 else [] := fun k hk => by rw [value_cons, if_neg hk]
    rw [table]
    by_cases hc : p.1 ∈ ps.map (·.1) ∨ p.2 = []
    · rw [if_pos hc, ih]
      constructor
      · rintro ⟨k, rfl, hk⟩
        exact ⟨k, by rw [hval k (hin k hk)], by rw [hval k (hin k hk)]; exact hk⟩
      · rintro ⟨k, rfl, hk⟩
        by_cases hm : k ∈ ps.map (·.1)
        · rw [hval k hm] at hk ⊢; exact ⟨k, rfl, hk⟩
        · rw [hnew k hm] at hk
          by_cases hp : p.1 = k
          · rw [if_pos hp] at hk
            rcases hc with hc | hc
            · exact absurd (hp ▸ hc) hm
            · exact absurd hc hk
          · rw [if_neg hp] at hk; exact absurd rfl hk
    · rw [not_or] at hc
      rw [if_neg (not_or.2 hc), List.mem_cons, ih]
      constructor
      · rintro (rfl | ⟨k, rfl, hk⟩)
        · exact ⟨p.1, by rw [hnew _ hc.1, if_pos rfl], by rw [hnew _ hc.1, if_pos rfl]; exact hc.2⟩
        · exact ⟨k, by rw [hval k (hin k hk)], by rw [hval k (hin k hk)]; exact hk⟩
      · rintro ⟨k, rfl, hk⟩
        by_cases hm : k ∈ ps.map (·.1)
        · rw [hval k hm] at hk ⊢; exact .inr ⟨k, rfl, hk⟩
        · rw [hnew k hm] at hk ⊢
          by_cases hp : p.1 = k
          · rw [if_pos hp, hp]; exact .inl rfl
          · rw [if_neg hp] at hk; exact absurd rfl hk

theorem table_apart (ps : List (List UInt8 × List UInt8)) : Apart (table ps) := by
  induction ps with
  | nil => exact List.Pairwise.nil
  | cons p ps ih =>
    rw [table]
    by_cases hc : p.1 ∈ ps.map (·.1) ∨ p.2 = []
    · rw [if_pos hc]; exact ih
    · rw [if_neg hc]
      refine List.pairwise_cons.2 ⟨fun e he hd => ?_, ih⟩
      obtain ⟨k, rfl, hk⟩ := (table_mem ps e).1 he
      have : p.1 = k := digits_inj hd
      exact hc (.inl (this ▸ Classical.byContradiction fun h => hk (value_not h)))

theorem Apart.nodup {l : List Ent} (h : Apart l) : l.Nodup := List.Pairwise.imp (fun h he => h (by rw [he])) h

/-- Two lists of pairs that have the same for each key have the same node. -/
theorem table_ext (f : Nat) (ps qs : List (List UInt8 × List UInt8)) (h : ∀ k, value ps k = value qs k) : node f (table ps) = node f (table qs) := by
  refine node_perm f _ _ (table_apart ps) ?_
  rw [List.perm_ext_iff_of_nodup (table_apart ps).nodup (table_apart qs).nodup]
  intro e
  rw [table_mem, table_mem]
  constructor
  · rintro ⟨k, rfl, hk⟩; exact ⟨k, by rw [h k], by rw [← h k]; exact hk⟩
  · rintro ⟨k, rfl, hk⟩; exact ⟨k, by rw [h k], by rw [h k]; exact hk⟩

end Tr
end Go.Proofs.Ytbmohenjphmlgaa
