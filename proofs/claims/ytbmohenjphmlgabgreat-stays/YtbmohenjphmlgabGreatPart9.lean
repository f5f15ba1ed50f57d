/- Part 9 of a proof: what the last text needs. -/
import Derived.Test.YtbmohenjphmlgabGreatPart2
import Derived.Test.YtbmohenjphmlgabGreatPart8
import Derived.Test.YtbmohenjphmlgabGreatPart4
/- Plain mathematics of trees: a node hangs on its entries, not on their order; a table's root hangs on what it has for each key. Nothing of the program is in here. -/
namespace Go.Proofs.YtbmohenjphmlgabGreat
set_option maxRecDepth 100000

namespace Tr

/-- No two entries have the same digits. -/
def Apart (l : List Ent) : Prop := l.Pairwise fun a b => a.dig ≠ b.dig

theorem Apart.perm {l l' : List Ent} (ha : Apart l) (h : l.Perm l') : Apart l' := (h.pairwise_iff (fun h => Ne.symm h)).1 ha

theorem behind_some {s : List UInt8} {a b : Ent} (h : (if s.isPrefixOf a.dig then some (⟨a.dig.drop s.length, a.val⟩ : Ent) else none) = some b) : a.dig = s ++ b.dig ∧ a.val = b.val := by
  by_cases hp : s.isPrefixOf a.dig = true
  · rw [if_pos hp] at h
    obtain ⟨r, hr⟩ := List.isPrefixOf_iff_prefix.1 hp
    cases h
    refine ⟨?_, rfl⟩
    show a.dig = s ++ a.dig.drop s.length
    rw [← hr, List.drop_left]
  · rw [if_neg hp] at h; cases h

theorem Apart.behind {l : List Ent} {s : List UInt8} (h : Apart l) : Apart (behind s l) := by
  unfold Tr.behind Apart
  rw [List.pairwise_filterMap]
  refine List.Pairwise.imp ?_ h
  intro a a' hne b hb b' hb' he
  have h1 := behind_some hb
  have h2 := behind_some hb'
  exact hne (by rw [h1.1, h2.1, he])

theorem behind_perm {l l' : List Ent} (s : List UInt8) (h : l.Perm l') : (behind s l).Perm (behind s l') := h.filterMap _

theorem prefix_antisymm {a b : List UInt8} (h1 : a <+: b) (h2 : b <+: a) : a = b := List.IsPrefix.eq_of_length_le h1 h2.length_le

theorem shared_perm {l l' : List Ent} (h : l.Perm l') : shared l = shared l' := by
  by_cases hl : l = []
  · subst hl
    rw [List.nil_perm.1 h]
  · have hl' : l' ≠ [] := fun h0 => by subst h0; exact hl (List.perm_nil.1 h)
    refine prefix_antisymm ?_ ?_
    · rw [shared_iff _ _ hl']
      intro e he
      exact shared_pre l e (h.mem_iff.2 he)
    · rw [shared_iff _ _ hl]
      intro e he
      exact shared_pre l' e (h.mem_iff.1 he)

theorem valOf_from (l : List Ent) : ∀ v0 : List UInt8, (∀ e ∈ l, e.dig ≠ []) → l.foldl (fun v e => if e.dig = [] then e.val else v) v0 = v0 := by
  induction l with
  | nil => intro v0 _; rfl
  | cons x l ih =>
    intro v0 h
    rw [List.foldl_cons, if_neg (h x (List.mem_cons_self ..))]
    exact ih v0 fun e he => h e (List.mem_cons_of_mem _ he)

theorem valOf_none {l : List Ent} (h : ∀ e ∈ l, e.dig ≠ []) : valOf l = [] := valOf_from l [] h

theorem valOf_some {l : List Ent} (ha : Apart l) {e : Ent} (he : e ∈ l) (h0 : e.dig = []) : valOf l = e.val := by
  have key : ∀ (l : List Ent) (v0 : List UInt8), Apart l → e ∈ l → l.foldl (fun v e => if e.dig = [] then e.val else v) v0 = e.val := by
    intro l
    induction l with
    | nil => intro v0 _ h; simp at h
    | cons x l ih =>
      intro v0 ha he
      have ha' := List.pairwise_cons.1 ha
      rw [List.foldl_cons]
      rcases List.mem_cons.1 he with rfl | he
      · rw [if_pos h0]
        exact valOf_from l _ fun y hy hy0 => ha'.1 y hy (h0.trans hy0.symm)
      · exact ih _ ha'.2 he
  exact key l [] ha he

theorem valOf_perm {l l' : List Ent} (ha : Apart l) (h : l.Perm l') : valOf l = valOf l' := by
  by_cases hx : ∃ e ∈ l, e.dig = []
  · obtain ⟨e, he, h0⟩ := hx
    rw [valOf_some ha he h0, valOf_some (ha.perm h) (h.mem_iff.1 he) h0]
  · have h1 : ∀ e ∈ l, e.dig ≠ [] := fun e he h0 => hx ⟨e, he, h0⟩
    rw [valOf_none h1, valOf_none fun e he => h1 e (h.mem_iff.2 he)]

/-- The node of entries hangs on the entries, not on their order. -/
theorem node_perm : ∀ (f : Nat) (l l' : List Ent), Apart l → l.Perm l' → node f l = node f l' := by
  intro f
  induction f with
  | zero => intro l l' _ _; rfl
  | succ f ih =>
    intro l l' ha h
    unfold node nodeOf
    match l, l', h, ha with
    | [], l', h, _ => rw [List.nil_perm.1 h]
    | [e], l', h, _ => rw [List.singleton_perm.1 h]
    | a :: b :: r, [], h, _ => have := h.length_eq; simp at this
    | a :: b :: r, [x], h, _ => have := h.length_eq; simp at this
    | a :: b :: r, c :: d :: s, h, ha =>
      show (if shared (a :: b :: r) = [] then _ else _) = (if shared (c :: d :: s) = [] then _ else _)
      rw [shared_perm h, valOf_perm ha h]
      by_cases hs : shared (c :: d :: s) = []
      · rw [if_pos hs, if_pos hs]
        congr 2
        refine List.map_congr_left fun n _ => ?_
        rw [ih _ _ ha.behind (behind_perm _ h)]
      · rw [if_neg hs, if_neg hs, ih _ _ ha.behind (behind_perm _ h)]

/-- What pairs have for a key: the value of the last one with it. -/
def value (ps : List (List UInt8 × List UInt8)) (k : List UInt8) : List UInt8 := ps.foldl (fun v p => if p.1 = k then p.2 else v) []

theorem value_from (ps : List (List UInt8 × List UInt8)) (k : List UInt8) : ∀ v0, k ∉ ps.map (·.1) → ps.foldl (fun v p => if p.1 = k then p.2 else v) v0 = v0 := by
  induction ps with
  | nil => intro v0 _; rfl
  | cons p ps ih =>
    intro v0 h
    rw [List.map_cons, List.mem_cons, not_or] at h
    rw [List.foldl_cons, if_neg (Ne.symm h.1)]
    exact ih v0 h.2

theorem value_any (ps : List (List UInt8 × List UInt8)) (k : List UInt8) : ∀ v0 v1, k ∈ ps.map (·.1) → ps.foldl (fun v p => if p.1 = k then p.2 else v) v0 = ps.foldl (fun v p => if p.1 = k then p.2 else v) v1 := by
  induction ps with
  | nil => intro v0 v1 h; simp at h
  | cons p ps ih =>
    intro v0 v1 h
    rw [List.foldl_cons, List.foldl_cons]
    by_cases hp : p.1 = k
    · rw [if_pos hp, if_pos hp]
    · rw [if_neg hp, if_neg hp]
      rw [List.map_cons, List.mem_cons] at h
      exact ih _ _ (h.resolve_left (Ne.symm hp))

theorem value_cons (p : List UInt8 × List UInt8) (ps : List (List UInt8 × List UInt8)) (k : List UInt8) : value (p :: ps) k = if k ∈ ps.map (·.1) then value ps k else if p.1 = k then p.2 else [] := by
  unfold value
  rw [List.foldl_cons]
  by_cases hk : k ∈ ps.map (·.1)
  · rw [if_pos hk]; exact value_any _ _ _ _ hk
  · rw [if_neg hk]; exact value_from _ _ _ hk

theorem value_not {ps : List (List UInt8 × List UInt8)} {k : List UInt8} (h : k ∉ ps.map (·.1)) : value ps k = [] := value_from ps k [] h

theorem value_append (a b : List (List UInt8 × List UInt8)) (k : List UInt8) : value (a ++ b) k = if k ∈ b.map (·.1) then value b k else value a k := by
  unfold value
  rw [List.foldl_append]
  by_cases hk : k ∈ b.map (·.1)
  · rw [if_pos hk]; exact value_any _ _ _ _ hk
  · rw [if_neg hk]; exact value_from _ _ _ hk

theorem digits_inj : ∀ {a b : List UInt8}, digits a = digits b → a = b
  | [], [], _ => rfl
  | [], b :: s, h => by rw [digits_cons] at h; simp [digits] at h
  | a :: r, [], h => by rw [digits_cons] at h; simp [digits] at h
  | a :: r, b :: s, h => by
    rw [digits_cons, digits_cons, List.cons.injEq, List.cons.injEq] at h
    obtain ⟨h1, h2, h3⟩ := h
    have ha : a.toNat < 256 := a.toNat_lt
    have hb : b.toNat < 256 := b.toNat_lt
    have e1 := congrArg UInt8.toNat h1
    have e2 := congrArg UInt8.toNat h2
    rw [UInt8.toNat_ofNat', UInt8.toNat_ofNat'] at e1 e2
    rw [digits_inj h3, UInt8.toNat_inj.1 (by omega : a.toNat = b.toNat)]

theorem table_mem (ps : List (List UInt8 × List UInt8)) (e : Ent) : e ∈ table ps ↔ ∃ k, e = ⟨digits k, value ps k⟩ ∧ value ps k ≠ [] := by
  induction ps with
  | nil => simp [table, value]
  | cons p ps ih =>
    have hval : ∀ k, k ∈ ps.map (·.1) → value (p :: ps) k = value ps k := fun k hk => by rw [value_cons, if_pos hk]
    have hin : ∀ k, value ps k ≠ [] → k ∈ ps.map (·.1) := fun k hk => Classical.byContradiction fun h => hk (value_not h)
    have hnew : ∀ k, k ∉ ps.map (·.1) → value (p :: ps) k = if p.1 = k then p.2 else [] := fun k hk => by rw [value_cons, if_neg hk]
    rw [table]
    by_cases hc : p.1 ∈ ps.map (·.1) ∨ p.2 = []
    · rw [if_pos hc, ih]
      constructor
      · rintro ⟨k, rfl, hk⟩
        exact ⟨k, by rw [hval k (hin k hk)], by rw [hval k (hin k hk)]; exact hk⟩
      · rintro ⟨k, rfl, hk⟩
        by_cases hm : k ∈ ps.map (·.1)
        · rw [hval k hm] at hk ⊢; exact ⟨k, rfl, hk⟩
        · rw [hnew k hm] at hk
          by_cases hp : p.1 = k
          · rw [if_pos hp] at hk
            rcases hc with hc | hc
            · exact absurd (hp ▸ hc) hm
            · exact absurd hc hk
          · rw [if_neg hp] at hk; exact absurd rfl hk
    · rw [not_or] at hc
      rw [if_neg (not_or.2 hc), List.mem_cons, ih]
      constructor
      · rintro (rfl | ⟨k, rfl, hk⟩)
        · exact ⟨p.1, by rw [hnew _ hc.1, if_pos rfl], by rw [hnew _ hc.1, if_pos rfl]; exact hc.2⟩
        · exact ⟨k, by rw [hval k (hin k hk)], by rw [hval k (hin k hk)]; exact hk⟩
      · rintro ⟨k, rfl, hk⟩
        by_cases hm : k ∈ ps.map (·.1)
        · rw [hval k hm] at hk ⊢; exact .inr ⟨k, rfl, hk⟩
        · rw [hnew k hm] at hk ⊢
          by_cases hp : p.1 = k
          · rw [if_pos hp, hp]; exact .inl rfl
          · rw [if_neg hp] at hk; exact absurd rfl hk

theorem table_apart (ps : List (List UInt8 × List UInt8)) : Apart (table ps) := by
  induction ps with
  | nil => exact List.Pairwise.nil
  | cons p ps ih =>
    rw [table]
    by_cases hc : p.1 ∈ ps.map (·.1) ∨ p.2 = []
    · rw [if_pos hc]; exact ih
    · rw [if_neg hc]
      refine List.pairwise_cons.2 ⟨fun e he hd => ?_, ih⟩
      obtain ⟨k, rfl, hk⟩ := (table_mem ps e).1 he
      have : p.1 = k := digits_inj hd
      exact hc (.inl (this ▸ Classical.byContradiction fun h => hk (value_not h)))

theorem Apart.nodup {l : List Ent} (h : Apart l) : l.Nodup := List.Pairwise.imp (fun h he => h (by rw [he])) h

/-- Two lists of pairs that have the same for each key have the same node. -/
theorem table_ext (f : Nat) (ps qs : List (List UInt8 × List UInt8)) (h : ∀ k, value ps k = value qs k) : node f (table ps) = node f (table qs) := by
  refine node_perm f _ _ (table_apart ps) ?_
  rw [List.perm_ext_iff_of_nodup (table_apart ps).nodup (table_apart qs).nodup]
  intro e
  rw [table_mem, table_mem]
  constructor
  · rintro ⟨k, rfl, hk⟩; exact ⟨k, by rw [h k], by rw [← h k]; exact hk⟩
  · rintro ⟨k, rfl, hk⟩; exact ⟨k, by rw [h k], by rw [h k]; exact hk⟩

end Tr
end Go.Proofs.YtbmohenjphmlgabGreat

/- Plain mathematics of trees: the proof for a key in a table, that it is sound, and what it tells. Nothing of the program is in here. -/
namespace Go.Proofs.YtbmohenjphmlgabGreat
set_option maxRecDepth 100000

namespace Tr

theorem digits_pack (l : List UInt8) : ∀ k, l.length = 2 * k → (∀ c ∈ l, c.toNat < 16) → digits (pack l) = l := by
  intro k
  induction k generalizing l with
  | zero => intro h _; have : l = [] := by simpa using h
            subst this; rfl
  | succ k ih =>
    intro h hd
    match l, h, hd with
    | a :: b :: r, h, hd =>
      have ha := hd a (by simp)
      have hb := hd b (by simp)
      rw [pack_two, digits_cons, ih r (by simp at h; omega) (fun c hc => hd c (by simp [hc]))]
      have e : (UInt8.ofNat (16 * a.toNat + b.toNat)).toNat = 16 * a.toNat + b.toNat := by rw [UInt8.toNat_ofNat']; omega
      rw [e, Itm.ofNat_toNat' a _ (by omega), Itm.ofNat_toNat' b _ (by omega)]

theorem unpath_path (d : List UInt8) (leaf : Bool) (hd : ∀ c ∈ d, c.toNat < 16) : unpath (itB (path d leaf)) = some (d, leaf) := by
  unfold path
  split
  · rename_i h
    match d, h, hd with
    | a :: r, h, hd =>
      have ha := hd a (by simp)
      have e : (UInt8.ofNat ((if leaf then 32 else 0) + 16 + ((a :: r).getD 0 0).toNat)).toNat = (if leaf then 32 else 0) + 16 + a.toNat := by
        rw [UInt8.toNat_ofNat']
        show ((if leaf then 32 else 0) + 16 + a.toNat) % 256 = _
        cases leaf <;> simp <;> omega
      have hp := digits_pack r ((r.length) / 2) (by simp at h; omega) (fun c hc => hd c (by simp [hc]))
      unfold unpath itB
      simp only [List.getD_cons_zero] at e
      simp only [List.drop_succ_cons, List.drop_zero, List.isEmpty_cons, List.getD_cons_zero, e, hp]
      cases leaf with
      | true =>
        have h1 : ¬ (64 ≤ 32 + 16 + a.toNat) := by omega
        have h2 : (32 + 16 + a.toNat) / 16 % 2 = 1 := by omega
        have h3 : 32 ≤ 32 + 16 + a.toNat := by omega
        have h4 : (32 + 16 + a.toNat) % 16 = a.toNat := by omega
        simp only [if_true, h1, h2, h3, h4]
        simp
      | false =>
        have h1 : ¬ (64 ≤ 0 + 16 + a.toNat) := by omega
        have h2 : (0 + 16 + a.toNat) / 16 % 2 = 1 := by omega
        have h3 : ¬ 32 ≤ 0 + 16 + a.toNat := by omega
        have h4 : (0 + 16 + a.toNat) % 16 = a.toNat := by omega
        simp only [Bool.false_eq_true, if_false, h1, h2, h3, h4]
        simp
    | [], h, _ => simp at h
  · rename_i h
    have hp := digits_pack d (d.length / 2) (by omega) hd
    unfold unpath itB
    cases leaf with
    | true => simp [hp]
    | false => simp [hp]

/-- What entries have for digits. -/
def look (l : List Ent) (k : List UInt8) : List UInt8 := match l.find? (fun e => e.dig = k) with | some e => e.val | none => []

theorem apart_eq {a b : Ent} : ∀ l : List Ent, Apart l → a ∈ l → b ∈ l → a.dig = b.dig → a = b
  | [], _, h, _, _ => by simp at h
  | x :: l, ha, h1, h2, hd => by
    have ha' := List.pairwise_cons.1 ha
    rcases List.mem_cons.1 h1 with e1 | m1
    · rcases List.mem_cons.1 h2 with e2 | m2
      · exact e1.trans e2.symm
      · exact absurd (e1 ▸ hd) (ha'.1 b m2)
    · rcases List.mem_cons.1 h2 with e2 | m2
      · exact absurd (e2 ▸ hd.symm) (ha'.1 a m1)
      · exact apart_eq l ha'.2 m1 m2 hd

theorem look_some {l : List Ent} (ha : Apart l) {e : Ent} (he : e ∈ l) : look l e.dig = e.val := by
  unfold look
  cases hf : l.find? (fun x => x.dig = e.dig) with
  | none => exact absurd (decide_eq_true rfl) (List.find?_eq_none.1 hf e he)
  | some x =>
    have hx := List.mem_of_find?_eq_some hf
    have hd : x.dig = e.dig := by have := List.find?_some hf; simpa using this
    rw [apart_eq l ha hx he hd]

theorem look_none {l : List Ent} {k : List UInt8} (h : ∀ e ∈ l, e.dig ≠ k) : look l k = [] := by
  unfold look
  rw [List.find?_eq_none.2 (fun e he => by simpa using h e he)]

theorem look_behind {l : List Ent} (ha : Apart l) (s k : List UInt8) : look (behind s l) k = look l (s ++ k) := by
  by_cases h : ∃ e ∈ l, e.dig = s ++ k
  · obtain ⟨e, he, hd⟩ := h
    have hm : (⟨k, e.val⟩ : Ent) ∈ behind s l := by
      unfold behind
      rw [List.mem_filterMap]
      refine ⟨e, he, ?_⟩
      rw [if_pos (List.isPrefixOf_iff_prefix.2 (by rw [hd]; exact List.prefix_append _ _)), hd, List.drop_left]
    rw [← hd, look_some ha he]
    exact look_some (ha.behind (s := s)) hm
  · rw [look_none (fun e he hd => h ⟨e, he, hd⟩), look_none]
    intro e he hd
    obtain ⟨x, hx, h1, _⟩ := behind_mem he
    exact h ⟨x, hx, by rw [h1, hd]⟩

theorem valOf_look {l : List Ent} (ha : Apart l) : valOf l = look l [] := by
  by_cases hx : ∃ e ∈ l, e.dig = []
  · obtain ⟨e, he, h0⟩ := hx
    rw [valOf_some ha he h0, ← h0, look_some ha he]
  · have h1 : ∀ e ∈ l, e.dig ≠ [] := fun e he h0 => hx ⟨e, he, h0⟩
    rw [valOf_none h1, look_none h1]

theorem look_table (ps : List (List UInt8 × List UInt8)) (k : List UInt8) : look (table ps) (digits k) = value ps k := by
  by_cases h : value ps k = []
  · rw [h]
    refine look_none fun e he hd => ?_
    obtain ⟨k', rfl, hk⟩ := (table_mem ps e).1 he
    rw [digits_inj hd] at hk
    exact hk h
  · exact look_some (table_apart ps) (e := ⟨digits k, value ps k⟩) ((table_mem ps _).2 ⟨k, rfl, h⟩)

/-- The elements of a proof below a node, on the way of the digits k. -/
def elems : Nat → List Ent → List UInt8 → List (List UInt8)
  | 0, _, _ => []
  | f + 1, l, k =>
    match l with
    | [] => []
    | [_] => []
    | _ => if shared l = [] then (match k with
             | [] => []
             | c :: r => (if (Itm.enc (node f (behind [c] l))).length < 8 then [] else [Itm.enc (node f (behind [c] l))]) ++ elems f (behind [c] l) r)
           else if (shared l).isPrefixOf k then Itm.enc (node f (behind (shared l) l)) :: elems f (behind (shared l) l) (k.drop (shared l).length) else []

/-- The proof for digits. -/
def proofOf (f : Nat) (l : List Ent) (k : List UInt8) : List (List UInt8) := Itm.enc (node f l) :: elems f l k

/-- Entries whose values are not empty. -/
def Full (l : List Ent) : Prop := ∀ e ∈ l, e.val ≠ []

theorem Full.behind {l : List Ent} {s : List UInt8} (h : Full l) : Full (behind s l) := fun e he => by
  obtain ⟨x, hx, _, h2⟩ := behind_mem he
  rw [← h2]; exact h x hx

/-- Several entries that begin with nothing alike. -/
def Forks (l : List Ent) : Prop := ∃ a b r, l = a :: b :: r ∧ shared l = []

theorem forks_behind {l : List Ent} {a b : Ent} {r : List Ent} (hl : l = a :: b :: r) : Forks (behind (shared l) l) := by
  have hall : ∀ e ∈ l, shared l <+: e.dig := fun e he => shared_pre l e he
  have hb := behind_all hall
  refine ⟨⟨a.dig.drop (shared l).length, a.val⟩, ⟨b.dig.drop (shared l).length, b.val⟩, r.map fun e => ⟨e.dig.drop (shared l).length, e.val⟩, by rw [hb]; subst hl; rfl, ?_⟩
  have hne : behind (shared l) l ≠ [] := by rw [hb]; subst hl; simp
  have h1 : shared l ++ shared (behind (shared l) l) <+: shared l := by
    rw [shared_iff _ _ (by subst hl; simp)]
    intro e he
    have h2 : (⟨e.dig.drop (shared l).length, e.val⟩ : Ent) ∈ behind (shared l) l := by rw [hb]; exact List.mem_map.2 ⟨e, he, rfl⟩
    have h3 := shared_pre _ _ h2
    obtain ⟨t, ht⟩ := hall e he
    rw [← ht]
    refine (List.prefix_append_right_inj _).2 ?_
    have h4 : shared (behind (shared l) l) <+: e.dig.drop (shared l).length := h3
    rw [← ht, List.drop_left] at h4
    exact h4
  have := h1.length_le
  rw [List.length_append] at this
  exact List.eq_nil_of_length_eq_zero (by omega)

theorem node_fork (f : Nat) {l : List Ent} (h : Forks l) : node (f + 1) l = itL ((List.range 16).map (fun d => ref (node f (behind [UInt8.ofNat d] l))) ++ [itB (valOf l)]) := by
  obtain ⟨a, b, r, rfl, hs⟩ := h
  rw [node]
  unfold nodeOf
  rw [if_pos hs]

theorem node_ext (f : Nat) {l : List Ent} {a b : Ent} {r : List Ent} (hl : l = a :: b :: r) (hs : shared l ≠ []) : node (f + 1) l = itL [itB (path (shared l) false), ref (node f (behind (shared l) l))] := by
  subst hl
  rw [node]
  unfold nodeOf
  rw [if_neg hs]

theorem encB_pos (s : List UInt8) : 1 ≤ (Itm.encB s).length := by
  have := Itm.enc_ne (itB s)
  rw [enc_itB] at this
  cases h : Itm.encB s with
  | nil => exact absurd h this
  | cons => simp

theorem flatMap_pos (l : List Itm) : l.length ≤ (l.flatMap Itm.enc).length := by
  induction l with
  | nil => simp
  | cons x l ih =>
    have := Itm.enc_ne x
    have : 1 ≤ (Itm.enc x).length := by
      cases h : Itm.enc x with
      | nil => exact absurd h this
      | cons => simp
    simp only [List.length_cons, List.flatMap_cons, List.length_append]; omega

/-- A branch has more than eight bytes. -/
theorem fork_long (f : Nat) {l : List Ent} (h : Forks l) : ¬ (Itm.enc (node (f + 1) l)).length < 8 := by
  rw [node_fork f h, enc_itL]
  have h1 := Itm.headed_len 192 (((List.range 16).map (fun d => ref (node f (behind [UInt8.ofNat d] l))) ++ [itB (valOf l)]).flatMap Itm.enc)
  have h2 := flatMap_pos ((List.range 16).map (fun d => ref (node f (behind [UInt8.ofNat d] l))) ++ [itB (valOf l)])
  simp only [List.length_append, List.length_map, List.length_range, List.length_cons, List.length_nil] at h2
  omega

theorem isBranch_fork (f : Nat) {l : List Ent} (h : Forks l) : isBranch (node (f + 1) l) = true := by
  rw [node_fork f h]
  unfold isBranch itL
  simp

theorem kid_fork (f : Nat) {l : List Ent} (h : Forks l) (i : Nat) (hi : i < 16) : kid (node (f + 1) l) i = ref (node f (behind [UInt8.ofNat i] l)) := by
  rw [node_fork f h]
  unfold kid itL
  simp only [List.getD_eq_getElem?_getD]
  rw [List.getElem?_append_left (by simpa using hi)]
  simp [hi]

theorem kid_fork16 (f : Nat) {l : List Ent} (h : Forks l) : kid (node (f + 1) l) 16 = itB (valOf l) := by
  rw [node_fork f h]
  unfold kid itL
  simp only [List.getD_eq_getElem?_getD]
  rw [List.getElem?_append_right (by simp)]
  simp

theorem ref_short {t : Itm} (h : (Itm.enc t).length < 8) : ref t = t := by unfold ref; rw [if_pos h]
theorem ref_long {t : Itm} (h : ¬ (Itm.enc t).length < 8) : ref t = itB (sum (Itm.enc t)) := by unfold ref; rw [if_neg h]

theorem isSum_itB (s : List UInt8) (h : s.length = 8) : isSum (itB s) = true := by unfold isSum itB; simp [h]

theorem isEmpty_itB_nil : isEmpty (itB []) = true := rfl

theorem isSum_short {t : Itm} (h : (Itm.enc t).length < 8) : isSum t = false := by
  by_cases ht : t.list = true
  · unfold isSum; rw [ht]; rfl
  · have : t.list = false := by simpa using ht
    unfold isSum
    rw [this]
    have h8 : ¬ t.bytes.length = 8 := by
      intro h8
      rw [Itm.enc_eq, if_neg ht] at h
      unfold Itm.encB at h
      split at h
      · omega
      · have := Itm.headed_len 128 t.bytes; omega
    simp [h8]

theorem refers_ref (t : Itm) (k : List UInt8) (br : Bool) : refers (ref t) k br = if (Itm.enc t).length < 8 then goes t k br else some ⟨k, br, [], false, sum (Itm.enc t)⟩ := by
  by_cases h : (Itm.enc t).length < 8
  · rw [ref_short h, if_pos h]
    unfold refers refersOf
    rw [isSum_short h]; rfl
  · rw [ref_long h, if_neg h]
    unfold refers refersOf
    rw [isSum_itB _ (sum_len _)]; rfl

end Tr
end Go.Proofs.YtbmohenjphmlgabGreat

/- A tree of nodes as the program builds it, and what is left of it when memory turns. -/
namespace Go.Proofs.YtbmohenjphmlgabGreat
open Go.RowKit
set_option maxRecDepth 100000

theorem branchCells_at (a : Option Addr) (cap : Nat) (cs : Array Value) (x : ByteArray) : (branchCells a cap cs x)[0]? = some (.int .i64 3) ∧ (branchCells a cap cs x)[1]? = some (.bool true) ∧ (branchCells a cap cs x)[2]? = some (.string ⟨#[]⟩) ∧ (branchCells a cap cs x)[3]? = some (.slice a 17 cap) := by
  unfold branchCells
  refine ⟨?_, ?_, ?_, ?_⟩ <;> rw [Array.append_assoc, Array.getElem?_append_left (by simp)] <;> rfl

theorem branchCells_head (a : Option Addr) (cap : Nat) (cs : Array Value) (x : ByteArray) : (branchCells a cap cs x).extract 0 4 = #[.int .i64 3, .bool true, .string ⟨#[]⟩, .slice a 17 cap] := by
  unfold branchCells
  rw [Array.append_assoc, Array.extract_append]
  simp

theorem nd_branch (a : Option Addr) (cap : Nat) (cs : Array Value) (x : ByteArray) : Nd (.iface 112 (.agg (branchCells a cap cs x))) 3 true ⟨#[]⟩ a 17 cap :=
  ⟨_, _, .inr (.inr (.inr rfl)), rfl, branchCells_head a cap cs x⟩

def emptyV : Value := .iface 141 (.agg #[.int .i64 0, .bool false, .string ⟨#[]⟩, .slice none 0 0])
def leafV (a : Option Addr) (cap : Nat) (d x : ByteArray) : Value := .iface 145 (.agg #[.int .i64 1, .bool true, .string ⟨#[]⟩, .slice a 2 cap, .string d, .string x])
def branchV (a : Option Addr) (cap : Nat) (cs : Array Value) (x : ByteArray) : Value := .iface 112 (.agg (branchCells a cap cs x))
def extV (a : Option Addr) (cap : Nat) (d s : ByteArray) (v : Value) : Value := .iface 149 (.agg #[.int .i64 2, .bool true, .string ⟨#[]⟩, .slice a 2 cap, .string d, .string s, v])

/-- v is the node of entries, as it was built, with at most f steps down; what is in it lies in blocks from lo on. -/
def BT (lo : Nat) (w : World) : Nat → Value → List Tr.Ent → Prop
  | 0 => fun v l => l = [] ∧ v = emptyV
  | f + 1 => fun v l =>
    (l = [] ∧ v = emptyV) ∨
    (∃ e a cap d x, l = [e] ∧ v = leafV a cap d x ∧ d.data.toList = e.dig ∧ x.data.toList = e.val ∧ RepW lo w.heap.size w (f + 3) (.agg #[.bool true, .string ⟨#[]⟩, .slice a 2 cap]) (Tr.node (f + 1) l)) ∨
    (∃ p q r, l = p :: q :: r ∧ Tr.shared l ≠ [] ∧ ∃ a cap d a2 c2 cs x, v = extV a cap d (refSum (Tr.node f (Tr.behind (Tr.shared l) l))) (branchV a2 c2 cs x) ∧ d.data.toList = Tr.shared l ∧ RepW lo w.heap.size w (f + 3) (.agg #[.bool true, .string ⟨#[]⟩, .slice a 2 cap]) (Tr.node (f + 1) l) ∧ BT lo w f (branchV a2 c2 cs x) (Tr.behind (Tr.shared l) l)) ∨
    (Tr.Forks l ∧ ∃ a cap cs x, v = branchV a cap cs x ∧ cs.size = 32 ∧ x.data.toList = Tr.valOf l ∧ RepW lo w.heap.size w (f + 3) (.agg #[.bool true, .string ⟨#[]⟩, .slice a 17 cap]) (Tr.node (f + 1) l) ∧
      ∀ d, d < 16 → ∃ vd, cs[2 * d]? = some (.string (refSum (Tr.node f (Tr.behind [UInt8.ofNat d] l)))) ∧ cs[2 * d + 1]? = some vd ∧ BT lo w f vd (Tr.behind [UInt8.ofNat d] l))

theorem bt_turn {lo lo' : Nat} {w w' : World} (hlo : lo' ≤ lo) (hs : w.heap.size ≤ w'.heap.size) (hb : ∀ k, lo ≤ k → k < w.heap.size → w'.heap[k]? = w.heap[k]?) : ∀ (f : Nat) (v : Value) (l : List Tr.Ent), BT lo w f v l → BT lo' w' f v l := by
  intro f
  induction f with
  | zero => intro v l h; exact h
  | succ f ih =>
    intro v l h
    rcases h with h | ⟨e, a, cap, d, x, h1, h2, h3, h4, h5⟩ | ⟨p, q, r, h1, h2, a, cap, d, a2, c2, cs, x, h3, h4, h5, h6⟩ | ⟨h1, a, cap, cs, x, h2, h3, h4, h5, h6⟩
    · exact .inl h
    · exact .inr (.inl ⟨e, a, cap, d, x, h1, h2, h3, h4, repW_turn hlo hs hb _ _ _ h5⟩)
    · exact .inr (.inr (.inl ⟨p, q, r, h1, h2, a, cap, d, a2, c2, cs, x, h3, h4, repW_turn hlo hs hb _ _ _ h5, ih _ _ h6⟩))
    · exact .inr (.inr (.inr ⟨h1, a, cap, cs, x, h2, h3, h4, repW_turn hlo hs hb _ _ _ h5, fun d hd => by
        obtain ⟨vd, g1, g2, g3⟩ := h6 d hd
        exact ⟨vd, g1, g2, ih _ _ g3⟩⟩))

theorem bt_later {lo : Nat} {w w' : World} {f : Nat} {v : Value} {l : List Tr.Ent} (h : BT lo w f v l) (hb : Below w.heap.size w w') : BT lo w' f v l := bt_turn (Nat.le_refl _) hb.size (fun k _ hk => hb.block k hk) f v l h
theorem bt_low {lo lo' : Nat} {w : World} {f : Nat} {v : Value} {l : List Tr.Ent} (h : BT lo w f v l) (hlo : lo' ≤ lo) : BT lo' w f v l := bt_turn hlo (Nat.le_refl _) (fun _ _ _ => rfl) f v l h

theorem nd_empty : Nd emptyV 0 false ⟨#[]⟩ none 0 0 := ⟨_, _, .inl rfl, rfl, rfl⟩
theorem nd_leaf (a : Option Addr) (cap : Nat) (d x : ByteArray) : Nd (leafV a cap d x) 1 true ⟨#[]⟩ a 2 cap := ⟨_, _, .inr (.inl rfl), rfl, rfl⟩
theorem nd_ext (a : Option Addr) (cap : Nat) (d s : ByteArray) (v : Value) : Nd (extV a cap d s v) 2 true ⟨#[]⟩ a 2 cap := ⟨_, _, .inr (.inr (.inl rfl)), rfl, rfl⟩

theorem node_nil_is (f : Nat) : Tr.node f [] = Tr.itB [] := by cases f <;> rfl

theorem repW_empty (lo B : Nat) (w : World) (m : Nat) : RepW lo B w (m + 1) (.agg #[.bool false, .string ⟨#[]⟩, .slice none 0 0]) (Tr.itB []) := ⟨none, 0, rfl, by simp [Tr.itB], fun i hi => by simp [Tr.itB] at hi⟩

/-- Of whatever kind: what it begins with, and its item. -/
theorem bt_nd {lo : Nat} {w : World} {f : Nat} {v : Value} {l : List Tr.Ent} (h : BT lo w f v l) : ∃ k l0 s a n cap, Nd v k l0 s a n cap ∧ RepW lo w.heap.size w (f + 2) (.agg #[.bool l0, .string s, .slice a n cap]) (Tr.node f l) := by
  cases f with
  | zero =>
    obtain ⟨rfl, rfl⟩ := h
    exact ⟨_, _, _, _, _, _, nd_empty, repW_empty _ _ _ _⟩
  | succ f =>
    rcases h with ⟨rfl, rfl⟩ | ⟨e, a, cap, d, x, h1, rfl, h3, h4, h5⟩ | ⟨p, q, r, h1, h2, a, cap, d, a2, c2, cs, x, rfl, h4, h5, h6⟩ | ⟨h1, a, cap, cs, x, rfl, h3, h4, h5, h6⟩
    · exact ⟨_, _, _, _, _, _, nd_empty, repW_empty _ _ _ _⟩
    · exact ⟨_, _, _, _, _, _, nd_leaf _ _ _ _, h5⟩
    · exact ⟨_, _, _, _, _, _, nd_ext _ _ _ _ _, h5⟩
    · exact ⟨_, _, _, _, _, _, nd_branch _ _ _ _, h5⟩

end Go.Proofs.YtbmohenjphmlgabGreat

/- One step of a way through nodes (of the program): next and valueAt, by the kind of the node. -/
namespace Go.Proofs.YtbmohenjphmlgabGreat
open Go.RowKit
set_option maxRecDepth 100000

theorem belowAA (w : World) (a b : Obj) : Below w.heap.size w ((w.alloc a).alloc b) := ((Below.refl _ _).alloc (Nat.le_refl _) _).alloc (by simp) _

theorem commonNext_any (k : Int) (l : Bool) (s : ByteArray) (x : Value) (d : ByteArray) (w : World) : Calls Tryz.prog 141 #[.agg #[.int .i64 k, .bool l, .string s, x], .string d] w fun e w' => e = .returned (.tuple #[.agg #[.string ⟨#[]⟩, .nilIface], .string ⟨#[]⟩, .bool false]) ∧ Below w.heap.size w w' := by
  go_enter Tryz.func141, Tryz.ntmps141
  go_wp2_with fail
  exact bodyPost_ret (v := .tuple #[.agg #[.string ⟨#[]⟩, .nilIface], .string ⟨#[]⟩, .bool false]) (by simp [results, Tryz.results141, go_sem]) rfl ⟨rfl, belowAA _ _ _⟩

theorem commonValueAt_any (k : Int) (l : Bool) (s : ByteArray) (x : Value) (d : ByteArray) (w : World) : Calls Tryz.prog 143 #[.agg #[.int .i64 k, .bool l, .string s, x], .string d] w fun e w' => e = .returned (.string ⟨#[]⟩) ∧ Below w.heap.size w w' := by
  go_enter Tryz.func143, Tryz.ntmps143
  go_wp2_with fail
  go_ret
  exact ⟨rfl, (Below.refl _ _).alloc (Nat.le_refl _) _⟩

theorem leafValueAt_any (a : Option Addr) (n cap : Nat) (k : Int) (l : Bool) (s t x : ByteArray) (d : ByteArray) (w : World) : Calls Tryz.prog 147 #[.agg #[.int .i64 k, .bool l, .string s, .slice a n cap, .string t, .string x], .string d] w fun e w' => e = .returned (.string (if d = t then x else ⟨#[]⟩)) ∧ Below w.heap.size w w' := by
  by_cases h : d = t
  · rw [if_pos h]
    have he : (d.toList == t.toList) = true := by rw [h]; exact beq_self_eq_true _
    clear h
    go_enter Tryz.func147, Tryz.ntmps147
    go_wp2_with fail
    go_ret
    exact ⟨rfl, (Below.refl _ _).alloc (Nat.le_refl _) _⟩
  · rw [if_neg h]
    have he : (d.toList == t.toList) = false := by
      rw [beq_eq_false_iff_ne]
      intro e
      apply h
      rw [ByteArray.toList_eq, ByteArray.toList_eq] at e
      cases d; cases t
      simp only [Array.toList_inj] at e
      rw [e]
    clear h
    go_enter Tryz.func147, Tryz.ntmps147
    go_wp2_with fail
    go_ret
    exact ⟨rfl, (Below.refl _ _).alloc (Nat.le_refl _) _⟩

/-- A node or none. -/
def IsNode (v : Value) : Prop := v = .nilIface ∨ ∃ T x, v = .iface T x

theorem extNext_any (a : Option Addr) (n cap : Nat) (k : Int) (l : Bool) (s t x : ByteArray) (v : Value) (d : ByteArray) (w : World) (hv : IsNode v) : Calls Tryz.prog 148 #[.agg #[.int .i64 k, .bool l, .string s, .slice a n cap, .string t, .string x, v], .string d] w fun e w' => e = .returned (.tuple #[.agg #[.string x, v], .string (cutP t d), .bool (pre t d)]) ∧ Below w.heap.size w w' := by
  have HC := hid (fun w => cutPrefix_any d t w)
  rcases hv with rfl | ⟨T, y, rfl⟩
  all_goals
    go_enter Tryz.func148, Tryz.ntmps148
    go_wp2_with fail
    refine (HC.out _).mono ?_
    rintro e w1 ⟨rfl, rfl⟩
    go_wp2_with fail
  · exact bodyPost_ret (v := .tuple #[.agg #[.string x, .nilIface], .string (cutP t d), .bool (pre t d)]) (by simp [results, Tryz.results148, go_sem]) rfl ⟨rfl, belowAA _ _ _⟩
  · exact bodyPost_ret (v := .tuple #[.agg #[.string x, .iface T y], .string (cutP t d), .bool (pre t d)]) (by simp [results, Tryz.results148, go_sem]) rfl ⟨rfl, belowAA _ _ _⟩

theorem branchCells_to (a : Option Addr) (cap : Nat) (cs : Array Value) (x : ByteArray) (i : Nat) (hi : i < cs.size) : (branchCells a cap cs x)[4 + i]? = cs[i]? := by
  unfold branchCells
  rw [Array.getElem?_append_left (by simp; omega), Array.getElem?_append_right (by simp)]
  simp

theorem branchCells_last (a : Option Addr) (cap : Nat) (cs : Array Value) (x : ByteArray) (hcs : cs.size = 32) : (branchCells a cap cs x)[36]? = some (.string x) := by
  unfold branchCells
  rw [Array.getElem?_append_right (by simp [hcs])]
  simp [hcs]

theorem branchValueAt_any (a : Option Addr) (cap : Nat) (cs : Array Value) (x d : ByteArray) (w : World) (hcs : cs.size = 32) : Calls Tryz.prog 146 #[.agg (branchCells a cap cs x), .string d] w fun e w' => e = .returned (.string x) ∧ Below w.heap.size w w' := by
  have h36 := branchCells_last a cap cs x hcs
  generalize branchCells a cap cs x = BB at *
  have hc := (cell_of_row (w.alloc (.cells BB 112)) _ 36 _ _ _ (heap_alloc_new w _)).trans h36
  go_enter Tryz.func146, Tryz.ntmps146
  go_wp2_with fail
  go_ret
  exact ⟨rfl, (Below.refl _ _).alloc (Nat.le_refl _) _⟩

theorem branchNext_nil (a : Option Addr) (cap : Nat) (cs : Array Value) (x : ByteArray) (w : World) : Calls Tryz.prog 144 #[.agg (branchCells a cap cs x), .string ⟨#[]⟩] w fun e w' => e = .returned (.tuple #[.agg #[.string ⟨#[]⟩, .nilIface], .string ⟨#[]⟩, .bool false]) ∧ Below w.heap.size w w' := by
  generalize branchCells a cap cs x = BB at *
  go_enter Tryz.func144, Tryz.ntmps144
  go_wp2_with fail
  exact bodyPost_ret (v := .tuple #[.agg #[.string ⟨#[]⟩, .nilIface], .string ⟨#[]⟩, .bool false]) (by simp [results, Tryz.results144, go_sem]) rfl ⟨rfl, belowAA _ _ _⟩

theorem branchNext_any (a : Option Addr) (cap : Nat) (cs : Array Value) (x d : ByteArray) (w : World) (hd : 0 < d.size) (c : UInt8) (r : List UInt8) (hcr : d.data.toList = c :: r) (hc : c.toNat < 16) (s : ByteArray) (v : Value) (hv : IsNode v)
    (h0 : cs[2 * c.toNat]? = some (.string s)) (h1 : cs[2 * c.toNat + 1]? = some v) :
    Calls Tryz.prog 144 #[.agg (branchCells a cap cs x), .string d] w fun e w' => e = .returned (.tuple #[.agg #[.string s, v], .string ⟨r.toArray⟩, .bool true]) ∧ Below w.heap.size w w' := by
  have k0 := (branchCells_to a cap cs x _ (Array.getElem?_eq_some_iff.1 h0).1).trans h0
  have k1 := (branchCells_to a cap cs x _ (Array.getElem?_eq_some_iff.1 h1).1).trans h1
  generalize branchCells a cap cs x = BB at *
  have he : d.toList.isEmpty = false := by rw [ByteArray.toList_eq, hcr]; rfl
  have HD0 : Hid (∀ h : 0 < d.size, d[0] = c) := fun h => by
    have e : d.data.toList[0]? = some c := by rw [hcr]; rfl
    rw [Array.getElem?_toList] at e
    exact (Array.getElem?_eq_some_iff.1 e).2
  have k0 : BB[4 + c.toNat * 2]? = some (.string s) := by rw [Nat.mul_comm]; exact k0
  have k1 : BB[4 + c.toNat * 2 + 1]? = some v := by rw [Nat.mul_comm, Nat.add_assoc]; exact k1
  have HDR : Hid (d.extract 1 d.size = ⟨r.toArray⟩) := by
    rw [Hid]
    have e : (d.extract 1 d.size).data.toList = r := by rw [Lib.extract_to_end, hcr]; rfl
    have e2 : (d.extract 1 d.size).data = r.toArray := by rw [← e]
    generalize d.extract 1 d.size = u at *
    cases u
    rw [← e2]
  have i1 : (0 : Int) < (d.size : Int) := by omega
  have hc1 : (c.toNat : Int) < 16 := by omega
  have hc0 : (0 : Int) ≤ (c.toNat : Int) := by omega
  have i2 : (1 : Int) ≤ (d.size : Int) := by omega
  have HG : Hid ((w.alloc (.cells BB 112)).heap[w.heap.size]? = some (.cells BB 112 (0, 0))) := heap_alloc_new w _
  clear h0 h1 hd
  go_enter Tryz.func144, Tryz.ntmps144
  go_wp2_with fail
  refine wp_region_L (fun w' => w'.heap[w.heap.size]? = some (.cells BB 112 (0, 0))) 9 (by kernel_rfl) ?_
  have hS : (fun w' : World => w'.heap[w.heap.size]? = some (.cells BB 112 (0, 0))) (((w.alloc (.cells BB 112)).alloc (.cells #[.string ⟨#[]⟩, .nilIface] 109)).drew) := (Below.heap_alloc _ _ _ (by rw [alloc_size]; omega)).trans HG.out
  refine wpAnyL_take (i := 0) (v := .string d) rfl (by kernel_rfl) (by kernel_rfl) (by kernel_rfl) (by kernel_rfl) (by kernel_rfl) (fun _ _ _ h => h) hS (Or.inl ⟨by kernel_rfl, ?_⟩) ?_
  · (intro w' hSw; go_simp)
  try simp only [Act.put]
  refine wpAnyL_take (i := 1) (v := .int .u8 c.toNat) rfl (by kernel_rfl) (by kernel_rfl) (by kernel_rfl) (by kernel_rfl) (by kernel_rfl) (fun _ _ _ h => h) hS (Or.inl ⟨by kernel_rfl, ?_⟩) ?_
  · intro w' hSw
    go_simp
    rw [dif_pos (by omega)]
    rw [HD0.out]
    rfl
  try simp only [Act.put]
  refine wpAnyL_take (i := 2) (v := .pointer (some ⟨w.heap.size, 4, none⟩)) rfl (by kernel_rfl) (by kernel_rfl) (by kernel_rfl) (by kernel_rfl) (by kernel_rfl) (fun _ _ _ h => h) hS (Or.inl ⟨by kernel_rfl, ?_⟩) ?_
  · (intro w' hSw; go_simp)
  try simp only [Act.put]
  refine wpAnyL_take (i := 3) (v := .pointer (some ⟨w.heap.size, 4 + c.toNat * 2, none⟩)) rfl (by kernel_rfl) (by kernel_rfl) (by kernel_rfl) (by kernel_rfl) (by kernel_rfl) (fun _ _ _ h => h) hS (Or.inl ⟨by kernel_rfl, ?_⟩) ?_
  · intro w' hSw
    go_simp
  try simp only [Act.put]
  refine wpAnyL_take (i := 4) (v := .agg #[.string s, v]) rfl (by kernel_rfl) (by kernel_rfl) (by kernel_rfl) (by kernel_rfl) (by kernel_rfl) (fun _ _ _ h => h) hS (Or.inl ⟨by kernel_rfl, ?_⟩) ?_
  · intro w' hSw
    have z0 := (cell_of_row w' _ (4 + c.toNat * 2) _ _ _ hSw).trans k0
    have z1 := (cell_of_row w' _ (4 + c.toNat * 2 + 1) _ _ _ hSw).trans k1
    go_simp
  try simp only [Act.put]
  refine wpAnyL_take (i := 5) (v := .string d) rfl (by kernel_rfl) (by kernel_rfl) (by kernel_rfl) (by kernel_rfl) (by kernel_rfl) (fun _ _ _ h => h) hS (Or.inl ⟨by kernel_rfl, ?_⟩) ?_
  · (intro w' hSw; go_simp)
  try simp only [Act.put]
  refine wpAnyL_take (i := 6) (v := .string (d.extract 1 d.size)) rfl (by kernel_rfl) (by kernel_rfl) (by kernel_rfl) (by kernel_rfl) (by kernel_rfl) (fun _ _ _ h => h) hS (Or.inl ⟨by kernel_rfl, ?_⟩) ?_
  · (intro w' hSw; go_simp)
  try simp only [Act.put]
  rcases hv with rfl | ⟨T, y, rfl⟩
  all_goals
    refine wpAnyL_ready (rs := [7]) (by kernel_rfl) (by simp) ?_
    refine AllReadyL.cons rfl (fun K hK => ?_) AllReadyL.nil
    go_simp
    refine hK.out _ _ ((Below.heap_alloc _ _ _ (by rw [alloc_size]; omega)).trans HG.out) ?_
    clear hK K
    try simp only [Act.put]
    refine wpAnyL_ready (rs := [8]) (by kernel_rfl) (by simp) ?_
    refine AllReadyL.cons rfl (fun K hK => ?_) AllReadyL.nil
    go_simp
    refine hK.out _ _ ((Below.heap_alloc _ _ _ (by rw [alloc_size]; omega)).trans HG.out) ?_
    clear hK K
    try simp only [Act.put]
    refine wpAnyL_ready (rs := [9]) (by kernel_rfl) (by simp) ?_
    refine AllReadyL.last rfl (fun K hK => ?_)
    go_simp
    refine hK.out _ _ ?_
    clear hK K
    try simp only [Act.put]
    refine wpAny_done (by kernel_rfl) ?_ _
    go_wp2_with fail
  · exact bodyPost_ret (v := .tuple #[.agg #[.string s, .nilIface], .string (d.extract 1 d.size), .bool true]) (by simp [results, Tryz.results144, go_sem]) rfl ⟨by rw [HDR.out], (belowAA _ _ _).drew⟩
  · exact bodyPost_ret (v := .tuple #[.agg #[.string s, .iface T y], .string (d.extract 1 d.size), .bool true]) (by simp [results, Tryz.results144, go_sem]) rfl ⟨by rw [HDR.out], (belowAA _ _ _).drew⟩

end Go.Proofs.YtbmohenjphmlgabGreat
