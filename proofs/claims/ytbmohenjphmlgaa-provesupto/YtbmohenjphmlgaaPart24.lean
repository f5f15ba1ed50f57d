/- Part 24 of a proof: what the last text needs. -/
import Derived.Test.YtbmohenjphmlgaaPart13
/- Plain mathematics of trees: a node hangs on its entries, not on their order; a table's root hangs on what it has for each key. Nothing of the program is in here. -/
namespace Go.Proofs.Ytbmohenjphmlgaa
set_option maxRecDepth 100000

namespace Tr

/-- No two entries have the same digits. -/
def Apart (l : List Ent) : Prop := l.Pairwise fun a b => a.dig ≠ b.dig

theorem Apart.perm {l l' : List Ent} (ha : Apart l) (h : l.Perm l') : Apart l' := (h.pairwise_iff (fun h => Ne.symm h)).1 ha

theorem behind_some {s : List UInt8} {a b : Ent} (h : (if s.isPrefixOf a.dig then some (⟨a.dig.drop s.length, a.val⟩ : Ent) else none) = some b) : a.dig = s ++ b.dig ∧ a.val = b.val := by
  by_cases hp : s.isPrefixOf a.dig = true
  · rw [if_pos hp] at h
    obtain ⟨r, hr⟩ := List.isPrefixOf_iff_prefix.1 hp
    cases h
    refine ⟨?_, rfl⟩
    show a.dig = s ++ a.dig.drop s.length
    rw [← hr, List.drop_left]
  · rw [if_neg hp] at h; cases h

theorem Apart.behind {l : List Ent} {s : List UInt8} (h : Apart l) : Apart (behind s l) := by
  unfold Tr.behind Apart
  rw [List.pairwise_filterMap]
  refine List.Pairwise.imp ?_ h
  intro a a' hne b hb b' hb' he
  have h1 := behind_some hb
  have h2 := behind_some hb'
  exact hne (by rw [h1.1, h2.1, he])

theorem behind_perm {l l' : List Ent} (s : List UInt8) (h : l.Perm l') : (behind s l).Perm (behind s l') := h.filterMap _

theorem prefix_antisymm {a b : List UInt8} (h1 : a <+: b) (h2 : b <+: a) : a = b := List.IsPrefix.eq_of_length_le h1 h2.length_le

theorem shared_perm {l l' : List Ent} (h : l.Perm l') : shared l = shared l' := by
  by_cases hl : l = []
  · subst hl
    rw [List.nil_perm.1 h]
  · have hl' : l' ≠ [] := fun h0 => by subst h0; exact hl (List.perm_nil.1 h)
    refine prefix_antisymm ?_ ?_
    · rw [shared_iff _ _ hl']
      intro e he
      exact shared_pre l e (h.mem_iff.2 he)
    · rw [shared_iff _ _ hl]
      intro e he
      exact shared_pre l' e (h.mem_iff.1 he)

theorem valOf_from (l : List Ent) : ∀ v0 : List UInt8, (∀ e ∈ l, e.dig ≠ []) → l.foldl (fun v e => if e.dig = [] then e.val else v) v0 = v0 := by
  induction l with
  | nil => intro v0 _; rfl
  | cons x l ih =>
    intro v0 h
    rw [List.foldl_cons, if_neg (h x (List.mem_cons_self ..))]
    exact ih v0 fun e he => h e (List.mem_cons_of_mem _ he)

theorem valOf_none {l : List Ent} (h : ∀ e ∈ l, e.dig ≠ []) : valOf l = [] := valOf_from l [] h

theorem valOf_some {l : List Ent} (ha : Apart l) {e : Ent} (he : e ∈ l) (h0 : e.dig = []) : valOf l = e.val := by
  have key : ∀ (l : List Ent) (v0 : List UInt8), Apart l → e ∈ l → l.foldl (fun v e => if e.dig = [] then e.val else v) v0 = e.val := by
    intro l
    induction l with
    | nil => intro v0 _ h; simp at h
    | cons x l ih =>
      intro v0 ha he
      have ha' := List.pairwise_cons.1 ha
      rw [List.foldl_cons]
      rcases List.mem_cons.1 he with rfl | he
      · rw [if_pos h0]
        exact valOf_from l _ fun y hy hy0 => ha'.1 y hy (h0.trans hy0.symm)
      · exact ih _ ha'.2 he
  exact key l [] ha he

theorem valOf_perm {l l' : List Ent} (ha : Apart l) (h : l.Perm l') : valOf l = valOf l' := by
  by_cases hx : ∃ e ∈ l, e.dig = []
  · obtain ⟨e, he, h0⟩ := hx
    rw [valOf_some ha he h0, valOf_some (ha.perm h) (h.mem_iff.1 he) h0]
  · have h1 : ∀ e ∈ l, e.dig ≠ [] := fun e he h0 => hx ⟨e, he, h0⟩
    rw [valOf_none h1, valOf_none fun e he => h1 e (h.mem_iff.2 he)]

/-- The node of entries hangs on the entries, not on their order. -/
theorem node_perm : ∀ (f : Nat) (l l' : List Ent), Apart l → l.Perm l' → node f l = node f l' := by
  intro f
  induction f with
  | zero => intro l l' _ _; rfl
  | succ f ih =>
    intro l l' ha h
    unfold node nodeOf
    match l, l', h, ha with
    | [], l', h, _ => rw [List.nil_perm.1 h]
    | [e], l', h, _ => rw [List.singleton_perm.1 h]
    | a :: b :: r, [], h, _ => have := h.length_eq; simp at this
    | a :: b :: r, [x], h, _ => have := h.length_eq; simp at this
    | a :: b :: r, c :: d :: s, h, ha =>
      show (if shared (a :: b :: r) = [] then _ else _) = (if shared (c :: d :: s) = [] then _ else _)
      rw [shared_perm h, valOf_perm ha h]
      by_cases hs : shared (c :: d :: s) = []
      · rw [if_pos hs, if_pos hs]
        congr 2
        refine List.map_congr_left fun n _ => ?_
        rw [ih _ _ ha.behind (behind_perm _ h)]
      · rw [if_neg hs, if_neg hs, ih _ _ ha.behind (behind_perm _ h)]

/-- What pairs have for a key: the value of the last one with it. -/
def value (ps : List (List UInt8 × List UInt8)) (k : List UInt8) : List UInt8 := ps.foldl (fun v p => if p.1 = k then p.2 else v) []

theorem value_from (ps : List (List UInt8 × List UInt8)) (k : List UInt8) : ∀ v0, k ∉ ps.map (·.1) → ps.foldl (fun v p => if p.1 = k then p.2 else v) v0 = v0 := by
  induction ps with
  | nil => intro v0 _; rfl
  | cons p ps ih =>
    intro v0 h
    rw [List.map_cons, List.mem_cons, not_or] at h
    rw [List.foldl_cons, if_neg (Ne.symm h.1)]
    exact ih v0 h.2

theorem value_any (ps : List (List UInt8 × List UInt8)) (k : List UInt8) : ∀ v0 v1, k ∈ ps.map (·.1) → ps.foldl (fun v p => if p.1 = k then p.2 else v) v0 = ps.foldl (fun v p => if p.1 = k then p.2 else v) v1 := by
  induction ps with
  | nil => intro v0 v1 h; simp at h
  | cons p ps ih =>
    intro v0 v1 h
    rw [List.foldl_cons, List.foldl_cons]
    by_cases hp : p.1 = k
    · rw [if_pos hp, if_pos hp]
    · rw [if_neg hp, if_neg hp]
      rw [List.map_cons, List.mem_cons] at h
      exact ih _ _ (h.resolve_left (Ne.symm hp))

theorem value_cons (p : List UInt8 × List UInt8) (ps : List (List UInt8 × List UInt8)) (k : List UInt8) : value (p :: ps) k = if k ∈ ps.map (·.1) then value ps k else if p.1 = k then p.2 else [] := by
  unfold value
  rw [List.foldl_cons]
  by_cases hk : k ∈ ps.map (·.1)
  · rw [if_pos hk]; exact value_any _ _ _ _ hk
  · rw [if_neg hk]; exact value_from _ _ _ hk

theorem value_not {ps : List (List UInt8 × List UInt8)} {k : List UInt8} (h : k ∉ ps.map (·.1)) : value ps k = [] := value_from ps k [] h

theorem value_append (a b : List (List UInt8 × List UInt8)) (k : List UInt8) : value (a ++ b) k = if k ∈ b.map (·.1) then value b k else value a k := by
  unfold value
  rw [List.foldl_append]
  by_cases hk : k ∈ b.map (·.1)
  · rw [if_pos hk]; exact value_any _ _ _ _ hk
  · rw [if_neg hk]; exact value_from _ _ _ hk

theorem digits_inj : ∀ {a b : List UInt8}, digits a = digits b → a = b
  | [], [], _ => rfl
  | [], b :: s, h => by rw [digits_cons] at h; simp [digits] at h
  | a :: r, [], h => by rw [digits_cons] at h; simp [digits] at h
  | a :: r, b :: s, h => by
    rw [digits_cons, digits_cons, List.cons.injEq, List.cons.injEq] at h
    obtain ⟨h1, h2, h3⟩ := h
    have ha : a.toNat < 256 := a.toNat_lt
    have hb : b.toNat < 256 := b.toNat_lt
    have e1 := congrArg UInt8.toNat h1
    have e2 := congrArg UInt8.toNat h2
    rw [UInt8.toNat_ofNat', UInt8.toNat_ofNat'] at e1 e2
    rw [digits_inj h3, UInt8.toNat_inj.1 (by omega : a.toNat = b.toNat)]

theorem table_mem (ps : List (List UInt8 × List UInt8)) (e : Ent) : e ∈ table ps ↔ ∃ k, e = ⟨digits k, value ps k⟩ ∧ value ps k ≠ [] := by
  induction ps with
  | nil => simp [table, value]
  | cons p ps ih =>
    have hval : ∀ k, k ∈ ps.map (·.1) → value (p :: ps) k = value ps k := fun k hk => by rw [value_cons, if_pos hk]
    have hin : ∀ k, value ps k ≠ [] → k ∈ ps.map (·.1) := fun k hk => Classical.byContradiction fun h => hk (value_not h)
    have hnew : ∀ k, k ∉ ps.map (·.1) → value (p :: ps) k = if p.1 = k then p.2 else [] := fun k hk => by rw [value_cons, if_neg hk]
    rw [table]
    by_cases hc : p.1 ∈ ps.map (·.1) ∨ p.2 = []
    · rw [if_pos hc, ih]
      constructor
      · rintro ⟨k, rfl, hk⟩
        exact ⟨k, by rw [hval k (hin k hk)], by rw [hval k (hin k hk)]; exact hk⟩
      · rintro ⟨k, rfl, hk⟩
        by_cases hm : k ∈ ps.map (·.1)
        · rw [hval k hm] at hk ⊢; exact ⟨k, rfl, hk⟩
        · rw [hnew k hm] at hk
          by_cases hp : p.1 = k
          · rw [if_pos hp] at hk
            rcases hc with hc | hc
            · exact absurd (hp ▸ hc) hm
            · exact absurd hc hk
          · rw [if_neg hp] at hk; exact absurd rfl hk
    · rw [not_or] at hc
      rw [if_neg (not_or.2 hc), List.mem_cons, ih]
      constructor
      · rintro (rfl | ⟨k, rfl, hk⟩)
        · exact ⟨p.1, by rw [hnew _ hc.1, if_pos rfl], by rw [hnew _ hc.1, if_pos rfl]; exact hc.2⟩
        · exact ⟨k, by rw [hval k (hin k hk)], by rw [hval k (hin k hk)]; exact hk⟩
      · rintro ⟨k, rfl, hk⟩
        by_cases hm : k ∈ ps.map (·.1)
        · rw [hval k hm] at hk ⊢; exact .inr ⟨k, rfl, hk⟩
        · rw [hnew k hm] at hk ⊢
          by_cases hp : p.1 = k
          · rw [if_pos hp, hp]; exact .inl rfl
          · rw [if_neg hp] at hk; exact absurd rfl hk

theorem table_apart (ps : List (List UInt8 × List UInt8)) : Apart (table ps) := by
  induction ps with
  | nil => exact List.Pairwise.nil
  | cons p ps ih =>
    rw [table]
    by_cases hc : p.1 ∈ ps.map (·.1) ∨ p.2 = []
    · rw [if_pos hc]; exact ih
    · rw [if_neg hc]
      refine List.pairwise_cons.2 ⟨fun e he hd => ?_, ih⟩
      obtain ⟨k, rfl, hk⟩ := (table_mem ps e).1 he
      have : p.1 = k := digits_inj hd
      exact hc (.inl (this ▸ Classical.byContradiction fun h => hk (value_not h)))

theorem Apart.nodup {l : List Ent} (h : Apart l) : l.Nodup := List.Pairwise.imp (fun h he => h (by rw [he])) h

/-- Two lists of pairs that have the same for each key have the same node. -/
theorem table_ext (f : Nat) (ps qs : List (List UInt8 × List UInt8)) (h : ∀ k, value ps k = value qs k) : node f (table ps) = node f (table qs) := by
  refine node_perm f _ _ (table_apart ps) ?_
  rw [List.perm_ext_iff_of_nodup (table_apart ps).nodup (table_apart qs).nodup]
  intro e
  rw [table_mem, table_mem]
  constructor
  · rintro ⟨k, rfl, hk⟩; exact ⟨k, by rw [h k], by rw [← h k]; exact hk⟩
  · rintro ⟨k, rfl, hk⟩; exact ⟨k, by rw [h k], by rw [h k]; exact hk⟩

end Tr
end Go.Proofs.Ytbmohenjphmlgaa

/- Plain mathematics of trees: the proof for a key in a table, that it is sound, and what it tells. Nothing of the program is in here. -/
namespace Go.Proofs.Ytbmohenjphmlgaa
set_option maxRecDepth 100000

namespace Tr

theorem digits_pack (l : List UInt8) : ∀ k, l.length = 2 * k → (∀ c ∈ l, c.toNat < 16) → digits (pack l) = l := by
  intro k
  induction k generalizing l with
  | zero => intro h _; have : l = [] := by simpa using h
            subst this; rfl
  | succ k ih =>
    intro h hd
    match l, h, hd with
    | a :: b :: r, h, hd =>
      have ha := hd a (by simp)
      have hb := hd b (by simp)
      rw [pack_two, digits_cons, ih r (by simp at h; omega) (fun c hc => hd c (by simp [hc]))]
      have e : (UInt8.ofNat (16 * a.toNat + b.toNat)).toNat = 16 * a.toNat + b.toNat := by rw [UInt8.toNat_ofNat']; omega
      rw [e, Itm.ofNat_toNat' a _ (by omega), Itm.ofNat_toNat' b _ (by omega)]

theorem unpath_path (d : List UInt8) (leaf : Bool) (hd : ∀ c ∈ d, c.toNat < 16) : unpath (itB (path d leaf)) = some (d, leaf) := by
  unfold path
  split
  · rename_i h
    match d, h, hd with
    | a :: r, h, hd =>
      have ha := hd a (by simp)
      have e : (UInt8.ofNat ((if leaf then 32 else 0) + 16 + ((a :: r).getD 0 0).toNat)).toNat = (if leaf then 32 else 0) + 16 + a.toNat := by
        rw [UInt8.toNat_ofNat']
        show ((if leaf then 32 else 0) + 16 + a.toNat) % 256 = _
        cases leaf <;> simp <;> omega
      have hp := digits_pack r ((r.length) / 2) (by simp at h; omega) (fun c hc => hd c (by simp [hc]))
      unfold unpath itB
      simp only [List.getD_cons_zero] at e
      simp only [List.drop_succ_cons, List.drop_zero, List.isEmpty_cons, List.getD_cons_zero, e, hp]
      cases leaf with
      | true =>
        have h1 : ¬ (64 ≤ 32 + 16 + a.toNat) := by omega
        have h2 : (32 + 16 + a.toNat) / 16 % 2 = 1 := by omega
        have h3 : 32 ≤ 32 + 16 + a.toNat := by omega
        have h4 : (32 + 16 + a.toNat) % 16 = a.toNat := by omega
        simp only [if_true, h1, h2, h3, h4]
        simp
      | false =>
        have h1 : ¬ (64 ≤ 0 + 16 + a.toNat) := by omega
        have h2 : (0 + 16 + a.toNat) / 16 % 2 = 1 := by omega
        have h3 : ¬ 32 ≤ 0 + 16 + a.toNat := by omega
        have h4 : (0 + 16 + a.toNat) % 16 = a.toNat := by omega
        simp only [Bool.false_eq_true, if_false, h1, h2, h3, h4]
        simp
    | [], h, _ => simp at h
  · rename_i h
    have hp := digits_pack d (d.length / 2) (by omega) hd
    unfold unpath itB
    cases leaf with
    | true => simp [hp]
    | false => simp [hp]

/-- What entries have for digits. -/
def look (l : List Ent) (k : List UInt8) : List UInt8 := match l.find? (fun e => e.dig = k) with | some e => e.val | none => []

theorem apart_eq {a b : Ent} : ∀ l : List Ent, Apart l → a ∈ l → b ∈ l → a.dig = b.dig → a = b
  | [], _, h, _, _ => by simp at h
  | x :: l, ha, h1, h2, hd => by
    have ha' := List.pairwise_cons.1 ha
    rcases List.mem_cons.1 h1 with e1 | m1
    · rcases List.mem_cons.1 h2 with e2 | m2
      · exact e1.trans e2.symm
      · exact absurd (e1 ▸ hd) (ha'.1 b m2)
    · rcases List.mem_cons.1 h2 with e2 | m2
      · exact absurd (e2 ▸ hd.symm) (ha'.1 a m1)
      · exact apart_eq l ha'.2 m1 m2 hd

theorem look_some {l : List Ent} (ha : Apart l) {e : Ent} (he : e ∈ l) : look l e.dig = e.val := by
  unfold look
  cases hf : l.find? (fun x => x.dig = e.dig) with
  | none => exact absurd (decide_eq_true rfl) (List.find?_eq_none.1 hf e he)
  | some x =>
    have hx := List.mem_of_find?_eq_some hf
    have hd : x.dig = e.dig := by have := List.find?_some hf; simpa using this
    rw [apart_eq l ha hx he hd]

theorem look_none {l : List Ent} {k : List UInt8} (h : ∀ e ∈ l, e.dig ≠ k) : look l k = [] := by
  unfold look
  rw [List.find?_eq_none.2 (fun e he => by simpa using h e he)]

theorem look_behind {l : List Ent} (ha : Apart l) (s k : List UInt8) : look (behind s l) k = look l (s ++ k) := by
  by_cases h : ∃ e ∈ l, e.dig = s ++ k
  · obtain ⟨e, he, hd⟩ := h
    have hm : (⟨k, e.val⟩ : Ent) ∈ behind s l := by
      unfold behind
      rw [List.mem_filterMap]
      refine ⟨e, he, ?_⟩
      rw [if_pos (List.isPrefixOf_iff_prefix.2 (by rw [hd]; exact List.prefix_append _ _)), hd, List.drop_left]
    rw [← hd, look_some ha he]
    exact look_some (ha.behind (s := s)) hm
  · rw [look_none (fun e he hd => h ⟨e, he, hd⟩), look_none]
    intro e he hd
    obtain ⟨x, hx, h1, _⟩ := behind_mem he
    exact h ⟨x, hx, by rw [h1, hd]⟩

theorem valOf_look {l : List Ent} (ha : Apart l) : valOf l = look l [] := by
  by_cases hx : ∃ e ∈ l, e.dig = []
  · obtain ⟨e, he, h0⟩ := hx
    rw [valOf_some ha he h0, ← h0, look_some ha he]
  · have h1 : ∀ e ∈ l, e.dig ≠ [] := fun e he h0 => hx ⟨e, he, h0⟩
    rw [valOf_none h1, look_none h1]

theorem look_table (ps : List (List UInt8 × List UInt8)) (k : List UInt8) : look (table ps) (digits k) = value ps k := by
  by_cases h : value ps k = []
  · rw [h]
    refine look_none fun e he hd => ?_
    obtain ⟨k', rfl, hk⟩ := (table_mem ps e).1 he
    rw [digits_inj hd] at hk
    exact hk h
  · exact look_some (table_apart ps) (e := ⟨digits k, value ps k⟩) ((table_mem ps _).2 ⟨k, rfl, h⟩)

/-- The elements of a proof below a node, on the way of the digits k. -/
def elems : Nat → List Ent → List UInt8 → List (List UInt8)
  | 0, _, _ => []
  | f + 1, l, k =>
    match l with
    | [] => []
    | [_] => []
    | _ => if shared l = [] then (match k with
             | [] => []
             | c :: r => (if (Itm.enc (node f (behind [c] l))).length < 8 then [] else [Itm.enc (node f (behind [c] l))]) ++ elems f (behind [c] l) r)
           else if (shared l).isPrefixOf k then Itm.enc (node f (behind (shared l) l)) :: elems f (behind (shared l) l) (k.drop (shared l).length) else []

/-- The proof for digits. -/
def proofOf (f : Nat) (l : List Ent) (k : List UInt8) : List (List UInt8) := Itm.enc (node f l) :: elems f l k

/-- Entries whose values are not empty. -/
def Full (l : List Ent) : Prop := ∀ e ∈ l, e.val ≠ []

theorem Full.behind {l : List Ent} {s : List UInt8} (h : Full l) : Full (behind s l) := fun e he => by
  obtain ⟨x, hx, _, h2⟩ := behind_mem he
  rw [← h2]; exact h x hx

/-- Several entries that begin with nothing alike. -/
def Forks (l : List Ent) : Prop := ∃ a b r, l = a :: b :: r ∧ shared l = []

theorem forks_behind {l : List Ent} {a b : Ent} {r : List Ent} (hl : l = a :: b :: r) : Forks (behind (shared l) l) := by
  have hall : ∀ e ∈ l, shared l <+: e.dig := fun e he => shared_pre l e he
  have hb := behind_all hall
  refine ⟨⟨a.dig.drop (shared l).length, a.val⟩, ⟨b.dig.drop (shared l).length, b.val⟩, r.map fun e => ⟨e.dig.drop (shared l).length, e.val⟩, by rw [hb]; subst hl; rfl, ?_⟩
  have hne : behind (shared l) l ≠ [] := by rw [hb]; subst hl; simp
  have h1 : shared l ++ shared (behind (shared l) l) <+: shared l := by
    rw [shared_iff _ _ (by subst hl; simp)]
    intro e he
    have h2 : (⟨e.dig.drop (shared l).length, e.val⟩ : Ent) ∈ behind (shared l) l := by rw [hb]; exact List.mem_map.2 ⟨e, he, rfl⟩
    have h3 := shared_pre _ _ h2
    obtain ⟨t, ht⟩ := hall e he
    rw [← ht]
    refine (List.prefix_append_right_inj _).2 ?_
    have h4 : shared (behind (shared l) l) <+: e.dig.drop (shared l).length := h3
    rw [← ht, List.drop_left] at h4
    exact h4
  have := h1.length_le
  rw [List.length_append] at this
  exact List.eq_nil_of_length_eq_zero (by omega)

theorem node_fork (f : Nat) {l : List Ent} (h : Forks l) : node (f + 1) l = itL ((List.range 16).map (fun d => ref (node f (behind [UInt8.ofNat d] l))) ++ [itB (valOf l)]) := by
  obtain ⟨a, b, r, rfl, hs⟩ := h
  rw [node]
  unfold nodeOf
  rw [if_pos hs]

theorem node_ext (f : Nat) {l : List Ent} {a b : Ent} {r : List Ent} (hl : l = a :: b :: r) (hs : shared l ≠ []) : node (f + 1) l = itL [itB (path (shared l) false), ref (node f (behind (shared l) l))] := by
  subst hl
  rw [node]
  unfold nodeOf
  rw [if_neg hs]

theorem encB_pos (s : List UInt8) : 1 ≤ (Itm.encB s).length := by
  have := Itm.enc_ne (itB s)
  rw [enc_itB] at this
  cases h : Itm.encB s with
  | nil => exact absurd h this
  | cons => simp

theorem flatMap_pos (l : List Itm) : l.length ≤ (l.flatMap Itm.enc).length := by
  induction l with
  | nil => simp
  | cons x l ih =>
    have := Itm.enc_ne x
    have : 1 ≤ (Itm.enc x).length := by
      cases h : Itm.enc x with
      | nil => exact absurd h this
      | cons => simp
    simp only [List.length_cons, List.flatMap_cons, List.length_append]; omega

/-- A branch has more than eight bytes. -/
theorem fork_long (f : Nat) {l : List Ent} (h : Forks l) : ¬ (Itm.enc (node (f + 1) l)).length < 8 := by
  rw [node_fork f h, enc_itL]
  have h1 := Itm.headed_len 192 (((List.range 16).map (fun d => ref (node f (behind [UInt8.ofNat d] l))) ++ [itB (valOf l)]).flatMap Itm.enc)
  have h2 := flatMap_pos ((List.range 16).map (fun d => ref (node f (behind [UInt8.ofNat d] l))) ++ [itB (valOf l)])
  simp only [List.length_append, List.length_map, List.length_range, List.length_cons, List.length_nil] at h2
  omega

theorem isBranch_fork (f : Nat) {l : List Ent} (h : Forks l) : isBranch (node (f + 1) l) = true := by
  rw [node_fork f h]
  unfold isBranch itL
  simp

theorem kid_fork (f : Nat) {l : List Ent} (h : Forks l) (i : Nat) (hi : i < 16) : kid (node (f + 1) l) i = ref (node f (behind [UInt8.ofNat i] l)) := by
  rw [node_fork f h]
  unfold kid itL
  simp only [List.getD_eq_getElem?_getD]
  rw [List.getElem?_append_left (by simpa using hi)]
  simp [hi]

theorem kid_fork16 (f : Nat) {l : List Ent} (h : Forks l) : kid (node (f + 1) l) 16 = itB (valOf l) := by
  rw [node_fork f h]
  unfold kid itL
  simp only [List.getD_eq_getElem?_getD]
  rw [List.getElem?_append_right (by simp)]
  simp

theorem ref_short {t : Itm} (h : (Itm.enc t).length < 8) : ref t = t := by unfold ref; rw [if_pos h]
theorem ref_long {t : Itm} (h : ¬ (Itm.enc t).length < 8) : ref t = itB (sum (Itm.enc t)) := by unfold ref; rw [if_neg h]

theorem isSum_itB (s : List UInt8) (h : s.length = 8) : isSum (itB s) = true := by unfold isSum itB; simp [h]

theorem isEmpty_itB_nil : isEmpty (itB []) = true := rfl

theorem isSum_short {t : Itm} (h : (Itm.enc t).length < 8) : isSum t = false := by
  by_cases ht : t.list = true
  · unfold isSum; rw [ht]; rfl
  · have : t.list = false := by simpa using ht
    unfold isSum
    rw [this]
    have h8 : ¬ t.bytes.length = 8 := by
      intro h8
      rw [Itm.enc_eq, if_neg ht] at h
      unfold Itm.encB at h
      split at h
      · omega
      · have := Itm.headed_len 128 t.bytes; omega
    simp [h8]

theorem refers_ref (t : Itm) (k : List UInt8) (br : Bool) : refers (ref t) k br = if (Itm.enc t).length < 8 then goes t k br else some ⟨k, br, [], false, sum (Itm.enc t)⟩ := by
  by_cases h : (Itm.enc t).length < 8
  · rw [ref_short h, if_pos h]
    unfold refers refersOf
    rw [isSum_short h]; rfl
  · rw [ref_long h, if_neg h]
    unfold refers refersOf
    rw [isSum_itB _ (sum_len _)]; rfl

end Tr
end Go.Proofs.Ytbmohenjphmlgaa

/- Plain mathematics of trees: a table's nodes are sound, and its proofs are. Nothing of the program is in here. -/
namespace Go.Proofs.Ytbmohenjphmlgaa
set_option maxRecDepth 100000

namespace Tr

theorem ofNat_toNat (c : UInt8) : UInt8.ofNat c.toNat = c := Itm.ofNat_toNat' c _ rfl

theorem list_cases (l : List Ent) : l = [] ∨ (∃ e, l = [e]) ∨ ∃ a b r, l = a :: b :: r := by
  match l with
  | [] => exact .inl rfl
  | [e] => exact .inr (.inl ⟨e, rfl⟩)
  | a :: b :: r => exact .inr (.inr ⟨a, b, r, rfl⟩)

/-- Where a way through a node of a table goes. -/
def GoesOn (f : Nat) (l : List Ent) (k : List UInt8) (br : Bool) : Prop :=
  (elems f l k = [] ∧ ∃ w, goes (node f l) k br = some w ∧ w.need = [] ∧ w.value = look l k ∧ w.found = !(look l k).isEmpty)
  ∨ ∃ f' l' k' br', f' < f ∧ elems f l k = Itm.enc (node f' l') :: elems f' l' k' ∧ goes (node f l) k br = some ⟨k', br', [], false, sum (Itm.enc (node f' l'))⟩ ∧ ¬ (Itm.enc (node f' l')).length < 8 ∧ (br' = true → Forks l') ∧ Fits f' l' ∧ Apart l' ∧ Full l' ∧ (∀ c ∈ k', c.toNat < 16) ∧ look l' k' = look l k

theorem elems_fork (f : Nat) {l : List Ent} (h : Forks l) (c : UInt8) (r : List UInt8) : elems (f + 1) l (c :: r) = (if (Itm.enc (node f (behind [c] l))).length < 8 then [] else [Itm.enc (node f (behind [c] l))]) ++ elems f (behind [c] l) r := by
  obtain ⟨a, b, s, rfl, hs⟩ := h
  rw [elems.eq_def]
  simp only [hs, if_true]

theorem elems_end (f : Nat) {l : List Ent} (h : Forks l) : elems (f + 1) l [] = [] := by
  obtain ⟨a, b, s, rfl, hs⟩ := h
  rw [elems.eq_def]
  simp only [hs, if_true]

theorem elems_ext (f : Nat) {l : List Ent} {a b : Ent} {r : List Ent} (hl : l = a :: b :: r) (hs : shared l ≠ []) (k : List UInt8) : elems (f + 1) l k = if (shared l).isPrefixOf k then Itm.enc (node f (behind (shared l) l)) :: elems f (behind (shared l) l) (k.drop (shared l).length) else [] := by
  subst hl
  rw [elems.eq_def]
  simp only [hs, if_false]

theorem fits_pos {f : Nat} {l : List Ent} (h : Fits f l) (hl : l ≠ []) : 0 < f := by
  match l, hl with
  | e :: _, _ => have := (h e (by simp)).1; omega

theorem kid_two0 (x y : Itm) : kid (itL [x, y]) 0 = x := rfl
theorem kid_two1 (x y : Itm) : kid (itL [x, y]) 1 = y := rfl

theorem goes_node : ∀ (f : Nat) (l : List Ent) (k : List UInt8) (br : Bool), Fits f l → Apart l → Full l → (∀ c ∈ k, c.toNat < 16) → (br = true → Forks l) → GoesOn f l k br := by
  intro f
  induction f with
  | zero =>
    intro l k br hf ha hu hk hbr
    have hl : l = [] := Classical.byContradiction fun h => absurd (fits_pos hf h) (by omega)
    subst hl
    have hb : br = false := by
      cases br with
      | false => rfl
      | true => obtain ⟨_, _, _, h, _⟩ := hbr rfl; cases h
    subst hb
    exact .inl ⟨rfl, .none, goes_empty k rfl, rfl, rfl, rfl⟩
  | succ f ih =>
    intro l k br hf ha hu hk hbr
    rcases list_cases l with hl | ⟨e, hl⟩ | ⟨a, b, r, hl⟩
    · subst hl
      have hb : br = false := by
        cases br with
        | false => rfl
        | true => obtain ⟨_, _, _, h, _⟩ := hbr rfl; cases h
      subst hb
      exact .inl ⟨rfl, .none, goes_empty k rfl, rfl, rfl, rfl⟩
    · subst hl
      have hb : br = false := by
        cases br with
        | false => rfl
        | true => obtain ⟨_, _, _, h, _⟩ := hbr rfl; cases h
      subst hb
      obtain ⟨_, h2, h3⟩ := hf e (by simp)
      have hg := goes_leaf (t := node (f + 1) [e]) k e.dig rfl rfl (by show unpath (kid (itL [itB (path e.dig true), itB e.val]) 0) = _; rw [kid_two0]; exact unpath_path e.dig true h2)
      have hlook := look_some ha (e := e) (by simp)
      by_cases hd : e.dig = k
      · rw [if_pos hd] at hg
        rw [hd] at hlook
        refine .inl ⟨rfl, _, hg, rfl, ?_, ?_⟩
        · rw [hlook]; rfl
        · rw [hlook]
          have := hu e (by simp)
          show true = !e.val.isEmpty
          cases hv : e.val with
          | nil => exact absurd hv this
          | cons => rfl
      · rw [if_neg hd] at hg
        have hn : look [e] k = [] := look_none fun x hx => by
          rcases List.mem_cons.1 hx with rfl | hx
          · exact hd
          · simp at hx
        exact .inl ⟨rfl, _, hg, rfl, by rw [hn]; rfl, by rw [hn]; rfl⟩
    · by_cases hs : shared l = []
      · have hfk : Forks l := ⟨a, b, r, hl, hs⟩
        have hbb := isBranch_fork f hfk
        match k, hk with
        | [], _ =>
          have hg := goes_end br hbb
          rw [kid_fork16 f hfk, valOf_look ha] at hg
          exact .inl ⟨elems_end f hfk, _, hg, rfl, rfl, rfl⟩
        | c :: s, hk =>
          have hc := hk c (by simp)
          have hks : ∀ x ∈ s, x.toNat < 16 := fun x hx => hk x (by simp [hx])
          have hg := goes_down c s br hbb (by omega)
          rw [kid_fork f hfk _ hc, ofNat_toNat, refers_ref] at hg
          have hfit : Fits f (behind [c] l) := hf.behind (by simp)
          have hlk : look (behind [c] l) s = look l (c :: s) := look_behind ha [c] s
          have he := elems_fork f hfk c s
          by_cases hsh : (Itm.enc (node f (behind [c] l))).length < 8
          · rw [if_pos hsh] at hg he
            rw [List.nil_append] at he
            rcases ih (behind [c] l) s false hfit ha.behind hu.behind hks (fun h => by cases h) with ⟨h1, w, h2, h3, h4, h5⟩ | ⟨f', l', k', br', h1, h2, h3, h4, h5, h6, h7, h8, h9, h10⟩
            · exact .inl ⟨he.trans h1, w, hg.trans h2, h3, by rw [← hlk]; exact h4, by rw [← hlk]; exact h5⟩
            · exact .inr ⟨f', l', k', br', by omega, he.trans h2, hg.trans h3, h4, h5, h6, h7, h8, h9, h10.trans hlk⟩
          · rw [if_neg hsh] at hg he
            exact .inr ⟨f, behind [c] l, s, false, by omega, he, hg, hsh, (fun h => by cases h), hfit, ha.behind, hu.behind, hks, hlk⟩
      · have hb : br = false := by
          cases br with
          | false => rfl
          | true => obtain ⟨_, _, _, _, h⟩ := hbr rfl; exact absurd h hs
        subst hb
        have hn := node_ext f hl hs
        have hdig : ∀ c ∈ shared l, c.toNat < 16 := by
          intro c hc
          have hpre := shared_pre l a (by rw [hl]; simp)
          exact (hf a (by rw [hl]; simp)).2.1 c (hpre.subset hc)
        have hu' : unpath (kid (node (f + 1) l) 0) = some (shared l, false) := by rw [hn, kid_two0]; exact unpath_path _ _ hdig
        have hb0 : isBranch (node (f + 1) l) = false := by rw [hn]; rfl
        have he0 : isEmpty (node (f + 1) l) = false := by rw [hn]; rfl
        have he := elems_ext f hl hs k
        by_cases hp : shared l <+: k
        · rw [if_pos (List.isPrefixOf_iff_prefix.2 hp)] at he
          obtain ⟨s, hks⟩ := hp
          have hdrop : k.drop (shared l).length = s := by rw [← hks, List.drop_left]
          have hg := goes_hit k (shared l) hb0 he0 (by rw [hn]; rfl) hu' (by rw [← hks, List.length_append]; omega) (by rw [← hks, List.take_left])
          have hfit : Fits f (behind (shared l) l) := hf.behind hs
          have hfk := forks_behind hl
          have hf0 : 0 < f := fits_pos hfit (by obtain ⟨_, _, _, h, _⟩ := hfk; rw [h]; simp)
          obtain ⟨f0, rfl⟩ : ∃ f0, f = f0 + 1 := ⟨f - 1, by omega⟩
          have hlong := fork_long f0 hfk
          rw [show kid (node (f0 + 1 + 1) l) 1 = ref (node (f0 + 1) (behind (shared l) l)) from by rw [hn, kid_two1], refers_ref, if_neg hlong, hdrop] at hg
          rw [hdrop] at he
          exact .inr ⟨f0 + 1, _, s, true, by omega, he, hg, hlong, fun _ => hfk, hfit, ha.behind, hu.behind, fun c hc => hk c (by rw [← hks]; simp [hc]), by rw [look_behind ha, hks]⟩
        · rw [if_neg (fun h => hp (List.isPrefixOf_iff_prefix.1 h))] at he
          have hm : k.length < (shared l).length ∨ k.take (shared l).length ≠ shared l := by
            by_cases h : k.length < (shared l).length
            · exact .inl h
            · exact .inr fun ht => hp (ht ▸ List.take_prefix _ _)
          have hg := goes_miss k (shared l) hb0 he0 hu' hm
          have hn : look l k = [] := look_none fun e he hd => hp (hd ▸ shared_pre l e he)
          exact .inl ⟨he, _, hg, rfl, by rw [hn]; rfl, by rw [hn]; rfl⟩

theorem node_list {f : Nat} {l : List Ent} (hf : Fits f l) (hl : l ≠ []) : (node f l).list = true := by
  obtain ⟨f0, rfl⟩ : ∃ f0, f = f0 + 1 := ⟨f - 1, by have := fits_pos hf hl; omega⟩
  rw [node]
  unfold nodeOf
  match l, hl with
  | [e], _ => rfl
  | a :: b :: r, _ =>
    dsimp only
    split <;> rfl

theorem node_nil (f : Nat) : isEmpty (node f []) = true := by cases f <;> rfl

theorem isEmpty_list {t : Itm} (h : t.list = true) : isEmpty t = false := by unfold isEmpty; rw [h]; rfl

theorem ref_full {f : Nat} {l : List Ent} (hf : Fits f l) (hl : l ≠ []) : isEmpty (ref (node f l)) = false := by
  unfold ref
  split
  · exact isEmpty_list (node_list hf hl)
  · have := sum_len (Itm.enc (node f l))
    unfold isEmpty itB
    cases h : sum (Itm.enc (node f l)) with
    | nil => rw [h] at this; simp at this
    | cons => simp

theorem full_mono (t : Itm) {n m : Nat} (h : n ≤ m) : full t n ≤ full t m := by
  induction m with
  | zero => rw [Nat.le_zero.1 h]; exact Nat.le_refl _
  | succ m ih =>
    by_cases hn : n ≤ m
    · rw [full_succ]; have := ih hn; omega
    · rw [show n = m + 1 by omega]; exact Nat.le_refl _

theorem full_two (t : Itm) {i j n : Nat} (hij : i < j) (hj : j < n) (hi : isEmpty (kid t i) = false) (hj' : isEmpty (kid t j) = false) : 2 ≤ full t n := by
  have h1 : full t (i + 1) = full t i + 1 := by rw [full_succ, hi]; rfl
  have h2 : full t (j + 1) = full t j + 1 := by rw [full_succ, hj']; rfl
  have h3 := full_mono t (show i + 1 ≤ j by omega)
  have h4 := full_mono t (show j + 1 ≤ n by omega)
  omega

/-- Where in a branch an entry stands. -/
def slot (e : Ent) : Nat := match e.dig with | [] => 16 | c :: _ => c.toNat

theorem fork_two {l : List Ent} (h : Forks l) (ha : Apart l) (hf : ∀ e ∈ l, ∀ c ∈ e.dig, c.toNat < 16) : ∃ x ∈ l, ∃ y ∈ l, slot x ≠ slot y := by
  obtain ⟨a, b, r, hl, hs⟩ := h
  refine Classical.byContradiction fun hno => ?_
  have hall : ∀ x ∈ l, slot x = slot a := fun x hx => Classical.byContradiction fun hne => hno ⟨x, hx, a, by rw [hl]; simp, hne⟩
  have hne : a.dig ≠ b.dig := by rw [hl] at ha; exact (List.pairwise_cons.1 ha).1 b (by simp)
  have hma : a ∈ l := by rw [hl]; simp
  have hmb : b ∈ l := by rw [hl]; simp
  cases hd : a.dig with
  | nil =>
    have hb := hall b hmb
    have h16 : slot a = 16 := by unfold slot; rw [hd]
    cases hdb : b.dig with
    | nil => exact hne (by rw [hd, hdb])
    | cons c s =>
      have : slot b = c.toNat := by unfold slot; rw [hdb]
      have := hf b hmb c (by rw [hdb]; simp)
      omega
  | cons c s =>
    have hc : slot a = c.toNat := by unfold slot; rw [hd]
    have hc16 := hf a hma c (by rw [hd]; simp)
    have hp : [c] <+: shared l := by
      rw [shared_iff _ _ (by rw [hl]; simp)]
      intro e he
      have h1 := hall e he
      cases hde : e.dig with
      | nil =>
        have : slot e = 16 := by unfold slot; rw [hde]
        omega
      | cons d t =>
        have : slot e = d.toNat := by unfold slot; rw [hde]
        have : d = c := UInt8.toNat_inj.1 (by omega)
        rw [this]
        exact ⟨t, rfl⟩
    rw [hs] at hp
    have := hp.length_le
    simp at this

theorem kid_slot (f : Nat) {l : List Ent} (h : Forks l) (ha : Apart l) (hf : Fits (f + 1) l) (hu : Full l) {x : Ent} (hx : x ∈ l) : slot x < 17 ∧ isEmpty (kid (node (f + 1) l) (slot x)) = false := by
  cases hd : x.dig with
  | nil =>
    have h16 : slot x = 16 := by unfold slot; rw [hd]
    rw [h16, kid_fork16 f h, valOf_some ha hx hd]
    refine ⟨by omega, ?_⟩
    unfold isEmpty itB
    have := hu x hx
    cases hv : x.val with
    | nil => exact absurd hv this
    | cons => rfl
  | cons c s =>
    have hc : slot x = c.toNat := by unfold slot; rw [hd]
    have hc16 := (hf x hx).2.1 c (by rw [hd]; simp)
    rw [hc, kid_fork f h _ hc16, ofNat_toNat]
    refine ⟨by omega, ref_full (hf.behind (by simp)) ?_⟩
    have hm : (⟨s, x.val⟩ : Ent) ∈ behind [c] l := by
      unfold behind
      rw [List.mem_filterMap]
      refine ⟨x, hx, ?_⟩
      rw [hd, if_pos (by simp)]
      rfl
    intro h0
    rw [h0] at hm
    simp at hm

theorem isValue_itB {s : List UInt8} (h1 : s ≠ []) (h2 : s.length ≤ 40) : isValue (itB s) = true := by
  unfold isValue itB
  have : 1 ≤ s.length := by
    cases s with
    | nil => exact absurd rfl h1
    | cons => simp
  simp [this, h2]

/-- Every node of a table is sound. -/
theorem sound_node : ∀ (f : Nat) (l : List Ent), Fits f l → Apart l → Full l → sound (node f l) = true := by
  intro f
  induction f with
  | zero => intro l _ _ _; rw [sound_eq]; rfl
  | succ f ih =>
    intro l hf ha hu
    rcases list_cases l with hl | ⟨e, hl⟩ | ⟨a, b, r, hl⟩
    · subst hl; rw [sound_eq]; rfl
    · subst hl
      obtain ⟨_, h2, h3⟩ := hf e (by simp)
      rw [sound_eq]
      show (false || (if (2 : Nat) = 2 then pairOk (unpath (kid (itL [itB (path e.dig true), itB e.val]) 0)) (kid (itL [itB (path e.dig true), itB e.val]) 1) else _)) = true
      rw [kid_two0, kid_two1, unpath_path e.dig true h2, if_pos rfl]
      exact isValue_itB (hu e (by simp)) h3
    · by_cases hs : shared l = []
      · have hfk : Forks l := ⟨a, b, r, hl, hs⟩
        have hbb := isBranch_fork f hfk
        rw [sound_good (branch_full hbb) hbb]
        · obtain ⟨x, hx, y, hy, hne⟩ := fork_two hfk ha (fun e he => (hf e he).2.1)
          obtain ⟨x1, x2⟩ := kid_slot f hfk ha hf hu hx
          obtain ⟨y1, y2⟩ := kid_slot f hfk ha hf hu hy
          refine decide_eq_true ?_
          rcases Nat.lt_or_gt_of_ne hne with h | h
          · exact full_two _ h y1 x2 y2
          · exact full_two _ h x1 y2 x2
        · intro i hi
          rw [slotOk_eq]
          by_cases h16 : i = 16
          · rw [if_pos h16, h16, kid_fork16 f hfk]
            by_cases hv : valOf l = []
            · rw [hv]; rfl
            · rw [isValue_itB hv (valOf_le l 40 fun e he => (hf e he).2.2)]; simp
          · have hi16 : i < 16 := by omega
            rw [if_neg h16, kid_fork f hfk i hi16]
            have hfit : Fits f (behind [UInt8.ofNat i] l) := hf.behind (by simp)
            by_cases hsh : (Itm.enc (node f (behind [UInt8.ofNat i] l))).length < 8
            · rw [ref_short hsh]
              by_cases hnil : behind [UInt8.ofNat i] l = []
              · rw [hnil, node_nil]; rfl
              · rw [node_list hfit hnil, ih _ hfit ha.behind hu.behind, decide_eq_true hsh]; simp
            · rw [ref_long hsh, isSum_itB _ (sum_len _)]; simp
      · have hn := node_ext f hl hs
        have hdig : ∀ c ∈ shared l, c.toNat < 16 := by
          intro c hc
          have hpre := shared_pre l a (by rw [hl]; simp)
          exact (hf a (by rw [hl]; simp)).2.1 c (hpre.subset hc)
        have hfit : Fits f (behind (shared l) l) := hf.behind hs
        have hfk := forks_behind hl
        have hf0 : 0 < f := fits_pos hfit (by obtain ⟨_, _, _, h, _⟩ := hfk; rw [h]; simp)
        obtain ⟨f0, rfl⟩ : ∃ f0, f = f0 + 1 := ⟨f - 1, by omega⟩
        have hlong := fork_long f0 hfk
        rw [sound_eq, hn]
        show (false || (if (2 : Nat) = 2 then pairOk (unpath (kid (itL [itB (path (shared l) false), ref (node (f0 + 1) (behind (shared l) l))]) 0)) (kid (itL [itB (path (shared l) false), ref (node (f0 + 1) (behind (shared l) l))]) 1) else _)) = true
        rw [kid_two0, kid_two1, unpath_path _ false hdig, if_pos rfl, ref_long hlong]
        show (decide (0 < (shared l).length) && isSum (itB (sum (Itm.enc (node (f0 + 1) (behind (shared l) l)))))) = true
        rw [isSum_itB _ (sum_len _), Bool.and_true]
        refine decide_eq_true ?_
        cases h : shared l with
        | nil => exact absurd h hs
        | cons => simp

theorem whole_enc {t : Itm} (h1 : Itm.pure t = true) (h2 : (Itm.enc t).length ≤ 1000) : whole (Itm.enc t) = some t := by
  unfold whole
  have := Itm.parse_complete (Itm.enc t).length t [] h1 (Nat.le_refl _) (Nat.lt_of_le_of_lt h2 (by decide))
  rw [List.append_nil] at this
  rw [this]

/-- A proof of a table's is one, and tells what the table has. -/
theorem vloop_node : ∀ (f : Nat) (l : List Ent) (k : List UInt8) (br : Bool) (v0 : List UInt8) (b0 : Bool) (i : Nat), f ≤ 100 → Fits f l → Apart l → Full l → (∀ c ∈ k, c.toNat < 16) → (br = true → Forks l) → (0 < i → ¬ (Itm.enc (node f l)).length < 8) →
    ∃ w, vloop i ⟨k, br, v0, b0, sum (Itm.enc (node f l))⟩ (proofOf f l k) = some w ∧ w.need = [] ∧ w.value = look l k ∧ w.found = !(look l k).isEmpty := by
  intro f
  induction f using Nat.strongRecOn with
  | ind f ih =>
    intro l k br v0 b0 i hle hf ha hu hk hbr hi
    have hneed : (⟨k, br, v0, b0, sum (Itm.enc (node f l))⟩ : Way).need ≠ [] := by
      intro h
      have := sum_len (Itm.enc (node f l))
      have h' : sum (Itm.enc (node f l)) = [] := h
      rw [h'] at this
      simp at this
    have hst := vstep_goes (i := i) hneed rfl (fun h => hi h.1 h.2) (whole_enc (node_pure f l) (Nat.le_trans (node_len f l hle hf) (by decide))) (sound_node f l hf ha hu)
    rcases goes_node f l k br hf ha hu hk hbr with ⟨h1, w, h2, h3, h4, h5⟩ | ⟨f', l', k', br', h1, h2, h3, h4, h5, h6, h7, h8, h9, h10⟩
    · refine ⟨w, ?_, h3, h4, h5⟩
      unfold proofOf
      rw [vloop_go (hst.trans h2), h1]
      rfl
    · obtain ⟨w, g1, g2, g3, g4⟩ := ih f' h1 l' k' br' [] false (i + 1) (by omega) h6 h7 h8 h9 h5 (fun _ => h4)
      refine ⟨w, ?_, g2, by rw [← h10]; exact g3, by rw [← h10]; exact g4⟩
      unfold proofOf
      rw [vloop_go (hst.trans h3), h2]
      exact g1

theorem elems_len : ∀ (f : Nat) (l : List Ent) (k : List UInt8), Fits f l → Apart l → Full l → (∀ c ∈ k, c.toNat < 16) → ∀ br, (br = true → Forks l) → (elems f l k).length ≤ f := by
  intro f
  induction f using Nat.strongRecOn with
  | ind f ih =>
    intro l k hf ha hu hk br hbr
    rcases goes_node f l k br hf ha hu hk hbr with ⟨h1, _⟩ | ⟨f', l', k', br', h1, h2, h3, h4, h5, h6, h7, h8, h9, h10⟩
    · rw [h1]; simp
    · rw [h2]
      have := ih f' h1 l' k' h6 h7 h8 h9 br' h5
      simp only [List.length_cons]; omega

theorem elems_small : ∀ (f : Nat) (l : List Ent) (k : List UInt8), f ≤ 100 → Fits f l → Apart l → Full l → (∀ c ∈ k, c.toNat < 16) → ∀ br, (br = true → Forks l) → ∀ s ∈ elems f l k, s.length ≤ 300 := by
  intro f
  induction f using Nat.strongRecOn with
  | ind f ih =>
    intro l k hle hf ha hu hk br hbr s hs
    rcases goes_node f l k br hf ha hu hk hbr with ⟨h1, _⟩ | ⟨f', l', k', br', h1, h2, h3, h4, h5, h6, h7, h8, h9, h10⟩
    · rw [h1] at hs; simp at hs
    · rw [h2] at hs
      rcases List.mem_cons.1 hs with rfl | hs
      · exact node_len f' l' (by omega) h6
      · exact ih f' h1 l' k' (by omega) h6 h7 h8 h9 br' h5 s hs

theorem table_full (ps : List (List UInt8 × List UInt8)) : Full (table ps) := fun e he => by
  obtain ⟨k, rfl, hk⟩ := (table_mem ps e).1 he
  exact hk

/-- The proof for a key in a table. -/
def prove (ps : List (List UInt8 × List UInt8)) (key : List UInt8) : List (List UInt8) := proofOf 13 (table ps) (digits key)

theorem prove_len (ps : List (List UInt8 × List UInt8)) (key : List UInt8) (hk : ∀ p ∈ ps, p.1.length ≤ 6) (hv : ∀ p ∈ ps, p.2.length ≤ 40) : (prove ps key).length ≤ 14 := by
  have := elems_len 13 (table ps) (digits key) (table_fits ps hk hv) (table_apart ps) (table_full ps) (digits_lt key) false (fun h => by cases h)
  unfold prove proofOf
  simp only [List.length_cons]; omega

theorem prove_small (ps : List (List UInt8 × List UInt8)) (key : List UInt8) (hk : ∀ p ∈ ps, p.1.length ≤ 6) (hv : ∀ p ∈ ps, p.2.length ≤ 40) : ∀ s ∈ prove ps key, s.length ≤ 300 := by
  intro s hs
  rcases List.mem_cons.1 hs with rfl | hs
  · exact node_len 13 _ (by decide) (table_fits ps hk hv)
  · exact elems_small 13 (table ps) (digits key) (by decide) (table_fits ps hk hv) (table_apart ps) (table_full ps) (digits_lt key) false (fun h => by cases h) s hs

/-- What is proved is what the table has. -/
theorem prove_loop (ps : List (List UInt8 × List UInt8)) (key : List UInt8) (hk : ∀ p ∈ ps, p.1.length ≤ 6) (hv : ∀ p ∈ ps, p.2.length ≤ 40) :
    ∃ w, vloop 0 ⟨digits key, false, [], false, sum (Itm.enc (node 13 (table ps)))⟩ (prove ps key) = some w ∧ w.need = [] ∧ w.value = value ps key ∧ w.found = !(value ps key).isEmpty := by
  obtain ⟨w, h1, h2, h3, h4⟩ := vloop_node 13 (table ps) (digits key) false [] false 0 (by decide) (table_fits ps hk hv) (table_apart ps) (table_full ps) (digits_lt key) (fun h => by cases h) (fun h => by omega)
  rw [look_table] at h3 h4
  exact ⟨w, h1, h2, h3, h4⟩

theorem verify_ok {root key : List UInt8} {proof : List (List UInt8)} (h1 : root.length = 8) (h2 : key.length ≤ 6) (h3 : proof.length ≤ 20) (h4 : ∀ s ∈ proof, s.length ≤ 1000) : verify root key proof = verEnd (vloop 0 ⟨digits key, false, [], false, root⟩ proof) := by
  unfold verify
  rw [if_neg (by omega), if_neg (by omega), if_neg]
  rintro (h | ⟨s, hs, h⟩)
  · omega
  · have := h4 s hs; omega

theorem verify_prove (ps : List (List UInt8 × List UInt8)) (key : List UInt8) (hk : ∀ p ∈ ps, p.1.length ≤ 6) (hv : ∀ p ∈ ps, p.2.length ≤ 40) (h6 : key.length ≤ 6) : verify (sum (Itm.enc (node 13 (table ps)))) key (prove ps key) = (value ps key, !(value ps key).isEmpty, 0) := by
  rw [verify_ok (sum_len _) h6 (Nat.le_trans (prove_len ps key hk hv) (by decide)) (fun s hs => Nat.le_trans (prove_small ps key hk hv s hs) (by decide))]
  obtain ⟨w, h1, h2, h3, h4⟩ := prove_loop ps key hk hv
  rw [h1]
  unfold verEnd
  dsimp only
  rw [if_pos h2, h3, h4]

end Tr
end Go.Proofs.Ytbmohenjphmlgaa
