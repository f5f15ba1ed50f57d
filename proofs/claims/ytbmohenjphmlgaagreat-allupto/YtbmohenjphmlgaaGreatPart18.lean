/- Part 18 of a proof: what the last text needs. -/
import Derived.Test.YtbmohenjphmlgaaGreatPart13
import Derived.Test.YtbmohenjphmlgaaGreatPart17
import Derived.Test.YtbmohenjphmlgaaGreatPart14
import Derived.Test.YtbmohenjphmlgaaGreatPart12
import Derived.Test.YtbmohenjphmlgaaGreatPart9
/- Plain mathematics of two stores that have the same elements in two orders; what is reached, by a search in breadth as by one in depth. Nothing of the program is in here. -/
namespace Go.Proofs.YtbmohenjphmlgaaGreat
set_option maxRecDepth 100000

namespace Tr

theorem Lone.nodup {S : List (List UInt8)} (h : Lone S) : S.Nodup := List.Pairwise.imp (fun {_ _} h e => h (by rw [e])) h
theorem Lone.perm {S K : List (List UInt8)} (h : Lone S) (p : S.Perm K) : Lone K := (p.pairwise_iff (fun {_ _} h => h.symm)).1 h

/-- Two stores with the same elements find the same. -/
theorem find_perm {S K : List (List UInt8)} (h : Lone S) (p : S.Perm K) (s : List UInt8) : find K s = find S s := by
  cases hf : find S s with
  | none => rw [find_none] at hf ⊢; exact fun e he => hf e (p.mem_iff.2 he)
  | some e =>
    obtain ⟨h1, h2⟩ := find_some hf
    have := (h.perm p).find (p.mem_iff.1 h1)
    rw [h2] at this
    exact this

theorem add_perm {S K : List (List UInt8)} (h : Lone S) (p : S.Perm K) (e : List UInt8) : (add S e).Perm (add K e) := by
  unfold add
  rw [find_perm h p]
  split
  · exact p
  · exact p.append_right _

theorem addAll_perm (q : List (List UInt8)) : ∀ {S K : List (List UInt8)}, Lone S → S.Perm K → (addAll S q).Perm (addAll K q) := by
  induction q with
  | nil => exact fun _ p => p
  | cons e q ih => exact fun h p => ih (add_lone h e) (add_perm h p e)

theorem tellW_same {S K : List (List UInt8)} (h : ∀ s, find K s = find S s) : ∀ (f : Nat) (w : Way), tellW K f w = tellW S f w := by
  intro f
  induction f with
  | zero => intro w; rfl
  | succ f ih =>
    intro w
    rw [tellW, tellW, h]
    split
    · rfl
    · cases find S w.need with
      | none => rfl
      | some e =>
        show (match vstep 1 w e with | none => none | some w' => tellW K f w') = match vstep 1 w e with | none => none | some w' => tellW S f w'
        cases vstep 1 w e with
        | none => rfl
        | some w' => exact ih w'

theorem thru_same {S K : List (List UInt8)} (h : ∀ s, find K s = find S s) (f : Nat) (o : Option Way) : thru K f o = thru S f o := by
  cases o with
  | none => rfl
  | some w => exact tellW_same h f w

theorem tell_perm {S K : List (List UInt8)} (h : Lone S) (p : S.Perm K) (root key : List UInt8) : tell K root key = tell S root key := by
  unfold tell tellR
  rw [find_perm h p]
  split
  · rfl
  · cases find S root with
    | none => rfl
    | some e => show tellEnd (thru K 20 _) = tellEnd (thru S 20 _); rw [thru_same (find_perm h p)]

/-- What is reached from some sums. -/
inductive Rch (S : List (List UInt8)) (roots : List (List UInt8)) : List UInt8 → Prop
  | root {r : List UInt8} : r ∈ roots → Rch S roots r
  | next {s e c : List UInt8} : Rch S roots s → find S s = some e → c ∈ sumsOf e → Rch S roots c

theorem Rch.mono {S r1 r2 : List (List UInt8)} {s : List UInt8} (h : Rch S r1 s) (hr : ∀ r ∈ r1, Rch S r2 r) : Rch S r2 s := by
  induction h with
  | root h => exact hr _ h
  | next _ h2 h3 ih => exact .next ih h2 h3

theorem rch_same {S K roots : List (List UInt8)} (h : ∀ s, find K s = find S s) {s : List UInt8} (hs : Rch S roots s) : Rch K roots s := by
  induction hs with
  | root h => exact .root h
  | next _ h2 h3 ih => exact .next ih (by rw [h]; exact h2) h3

/-- A search in depth reaches nothing that is not reached. -/
theorem dfs_least (S : List (List UInt8)) : ∀ (f : Nat) (s : List UInt8) (R : List (List UInt8)), ∀ x ∈ dfs S f s R, x ∈ R ∨ Rch S [s] (sum x) := by
  intro f
  induction f with
  | zero => intro s R x hx; exact .inl hx
  | succ f ih =>
    intro s R x hx
    unfold dfs at hx
    cases hf : find S s with
    | none => rw [hf] at hx; exact .inl hx
    | some e =>
      rw [hf] at hx
      have hx' : x ∈ if (find R s).isSome then R else (sumsOf e).foldl (fun R c => dfs S f c R) (R ++ [e]) := hx
      split at hx'
      · exact .inl hx'
      · have fold : ∀ (l : List (List UInt8)) (T : List (List UInt8)), (∀ c ∈ l, c ∈ sumsOf e) → x ∈ l.foldl (fun R c => dfs S f c R) T → x ∈ T ∨ Rch S [s] (sum x) := by
          intro l
          induction l with
          | nil => intro T _ h; exact .inl h
          | cons c l ihl =>
            intro T hl h
            rcases ihl (dfs S f c T) (fun c hc => hl c (List.mem_cons_of_mem _ hc)) h with h | h
            · rcases ih c T x h with h | h
              · exact .inl h
              · refine .inr (h.mono ?_)
                intro r hr
                rw [List.mem_singleton.1 hr]
                exact .next (.root (List.mem_singleton.2 rfl)) hf (hl c (List.mem_cons_self ..))
            · exact .inr h
        rcases fold _ _ (fun c hc => hc) hx' with h | h
        · rcases List.mem_append.1 h with h | h
          · exact .inl h
          · rw [List.mem_singleton.1 h, (find_some hf).2]
            exact .inr (.root (List.mem_singleton.2 rfl))
        · exact .inr h

theorem forget_least (S : List (List UInt8)) : ∀ (l : List (List UInt8)) (R : List (List UInt8)), ∀ x ∈ l.foldl (fun R r => dfs S S.length r R) R, x ∈ R ∨ Rch S l (sum x) := by
  intro l
  induction l with
  | nil => intro R x hx; exact .inl hx
  | cons c l ih =>
    intro R x hx
    rcases ih _ x hx with h | h
    · rcases dfs_least S _ c R x h with h | h
      · exact .inl h
      · refine .inr (h.mono ?_)
        intro r hr
        rw [List.mem_singleton.1 hr]
        exact .root (List.mem_cons_self ..)
    · exact .inr (h.mono fun r hr => .root (List.mem_cons_of_mem _ hr))

theorem forget_iff {S : List (List UInt8)} (hS : Lone S) (roots : List (List UInt8)) (x : List UInt8) : x ∈ forget S roots ↔ x ∈ S ∧ Rch S roots (sum x) := by
  obtain ⟨h1, h2, h3, h4⟩ := forget_kept S roots
  constructor
  · intro h
    refine ⟨h1 x h, ?_⟩
    rcases forget_least S roots [] x h with h | h
    · simp at h
    · exact h
  · rintro ⟨hx, hr⟩
    have key : ∀ s, Rch S roots s → (find S s).isSome → (find (forget S roots) s).isSome := by
      intro s hs
      induction hs with
      | root h => exact h4 _ h
      | next h5 h6 h7 ih =>
        intro h8
        have h9 := ih (by rw [h6]; rfl)
        rename_i s e c
        cases hf : find (forget S roots) s with
        | none => rw [hf] at h9; cases h9
        | some y =>
          obtain ⟨q1, q2⟩ := find_some hf
          obtain ⟨q3, q4⟩ := find_some h6
          have := hS.eq (h1 y q1) q3 (q2.trans q4.symm)
          subst this
          exact h3 y q1 c h7 h8
    have h5 := key _ hr (by rw [hS.find hx]; rfl)
    cases hf : find (forget S roots) (sum x) with
    | none => rw [hf] at h5; cases h5
    | some y =>
      obtain ⟨q1, q2⟩ := find_some hf
      have := hS.eq (h1 y q1) hx q2
      rw [← this]
      exact q1

/-- A list of sums that has the roots, and with each of its own what that one's element leads to, and nothing that is not reached: it has what is reached. -/
structure AllOf (K roots L : List (List UInt8)) : Prop where
  base : ∀ r ∈ roots, r ∈ L
  shut : ∀ s ∈ L, ∀ e, find K s = some e → ∀ c ∈ sumsOf e, c ∈ L
  least : ∀ s ∈ L, Rch K roots s

theorem AllOf.iff {K roots L : List (List UInt8)} (h : AllOf K roots L) (s : List UInt8) : s ∈ L ↔ Rch K roots s := by
  refine ⟨h.least s, fun hr => ?_⟩
  induction hr with
  | root h1 => exact h.base _ h1
  | next h1 h2 h3 ih => exact h.shut _ ih _ h2 _ h3

theorem perm_nodup {α : Type} : ∀ (R S : List α), R.Nodup → S.Nodup → (∀ x, x ∈ R ↔ x ∈ S) → R.Perm S
  | [], S, _, _, h => by
    cases S with
    | nil => exact List.Perm.nil
    | cons y S => exact absurd ((h y).2 (List.mem_cons_self ..)) (by simp)
  | x :: R, S, hR, hS, h => by
    obtain ⟨h1, h2⟩ := List.nodup_cons.1 hR
    obtain ⟨a, b, rfl⟩ := List.append_of_mem ((h x).1 (List.mem_cons_self ..))
    have hS' : (x :: (a ++ b)).Nodup := (List.perm_middle.nodup_iff).1 hS
    obtain ⟨h3, h4⟩ := List.nodup_cons.1 hS'
    refine ((perm_nodup R (a ++ b) h2 h4 fun y => ?_).cons x).trans List.perm_middle.symm
    have := h y
    rw [List.perm_middle.mem_iff, List.mem_cons, List.mem_cons] at this
    constructor
    · intro hy
      rcases this.1 (.inr hy) with e | e
      · exact absurd (e ▸ hy) h1
      · exact e
    · intro hy
      rcases this.2 (.inr hy) with e | e
      · exact absurd (e ▸ hy) h3
      · exact e

/-- What a search in depth keeps of one store, and what one in breadth keeps of the other. -/
theorem forget_perm {S K : List (List UInt8)} (h : Lone S) (p : S.Perm K) {roots L : List (List UInt8)} (hL : AllOf K roots L) (q : List UInt8 → Bool) (hq : ∀ e, q e = true ↔ sum e ∈ L) : (forget S roots).Perm (K.filter q) := by
  refine perm_nodup _ _ (forget_kept S roots).2.1.nodup ((h.perm p).nodup.filter _) fun x => ?_
  rw [forget_iff h, List.mem_filter, hq, hL.iff, p.mem_iff]
  exact ⟨fun ⟨a, b⟩ => ⟨a, rch_same (find_perm h p) b⟩, fun ⟨a, b⟩ => ⟨a, rch_same (fun s => (find_perm h p s).symm) b⟩⟩

/-- A way on by a sum is shorter. -/
theorem goes_less {t : Itm} (hpu : Itm.pure t = true) (hs : sound t = true) {k : List UInt8} (hk : ∀ c ∈ k, c.toNat < 16) {br : Bool} {w : Way} (hg : goes t k br = some w) (hn : w.need ≠ []) : w.digits.length < k.length := by
  cases hb : isBranch t with
  | true =>
    cases k with
    | nil => rw [goes_end br hb] at hg; cases hg; exact absurd rfl hn
    | cons c r =>
      have hc := hk c (List.mem_cons_self ..)
      rw [goes_down c r br hb (by omega)] at hg
      unfold refers refersOf at hg
      split at hg
      · cases hg; simp
      · rename_i hsm
        have hlen : c.toNat < t.items.length := by rw [branch_len hb]; omega
        exfalso
        have hkid := hs
        rw [sound_branch (branch_full hb) hb] at hkid
        simp only [Bool.and_eq_true, List.all_eq_true] at hkid
        have h1 := hkid.1 c.toNat (List.mem_range.2 (by omega))
        rw [slotOk_eq, if_neg (by omega)] at h1
        simp only [Bool.or_eq_true, Bool.and_eq_true, decide_eq_true_eq] at h1
        rcases h1 with h1 | h1 | h1
        · rw [goes_empty r h1] at hg; cases hg; exact hn rfl
        · exact hsm h1
        · exact hn (short_ends (pure_kid hpu hlen) h1.1.2 h1.2 hg)
  | false =>
    cases br with
    | true => rw [goes_stop k hb] at hg; cases hg
    | false =>
      cases he : isEmpty t with
      | true => rw [goes_empty k he] at hg; cases hg; exact absurd rfl hn
      | false =>
        obtain ⟨h2, hp⟩ := sound_two hs he hb
        cases hu : unpath (kid t 0) with
        | none => rw [hu] at hp; simp [pairOk] at hp
        | some u =>
          obtain ⟨p, leaf⟩ := u
          cases leaf with
          | true =>
            rw [goes_leaf k p hb he hu] at hg
            split at hg <;> (cases hg; exact absurd rfl hn)
          | false =>
            by_cases hm : k.length < p.length ∨ k.take p.length ≠ p
            · rw [goes_miss k p hb he hu hm] at hg; cases hg; exact absurd rfl hn
            · rw [goes_hit k p hb he h2 hu (fun h => hm (.inl h)) (Decidable.not_not.1 fun h => hm (.inr h))] at hg
              rw [hu] at hp
              have hp' : 0 < p.length ∧ isSum (kid t 1) = true := by unfold pairOk at hp; simp at hp; exact ⟨hp.1, hp.2⟩
              unfold refers refersOf at hg
              rw [if_pos hp'.2] at hg
              cases hg
              show (k.drop p.length).length < k.length
              rw [List.length_drop]
              have := fun h => hm (.inl h)
              omega

end Tr
end Go.Proofs.YtbmohenjphmlgaaGreat

/- Plain mathematics of a search in breadth, and of the sums in a node, one place after the other. Nothing of the program is in here. -/
namespace Go.Proofs.YtbmohenjphmlgaaGreat
set_option maxRecDepth 100000

namespace Tr

/-- Some sums are put behind others, unless they are there. -/
def grow (L cs : List (List UInt8)) : List (List UInt8) := cs.foldl (fun L c => if c ∈ L then L else L ++ [c]) L

theorem grow_snoc (L cs : List (List UInt8)) (c : List UInt8) : grow L (cs ++ [c]) = if c ∈ grow L cs then grow L cs else grow L cs ++ [c] := by
  unfold grow
  rw [List.foldl_append]
  rfl

theorem grow_is (cs : List (List UInt8)) : ∀ L : List (List UInt8), ∃ X, grow L cs = L ++ X ∧ (∀ c ∈ X, c ∈ cs ∧ c ∉ L) ∧ X.Nodup ∧ ∀ c ∈ cs, c ∈ grow L cs := by
  induction cs with
  | nil => intro L; exact ⟨[], by simp [grow], by simp, List.nodup_nil, by simp⟩
  | cons c cs ih =>
    intro L
    by_cases hc : c ∈ L
    · obtain ⟨X, h1, h2, h3, h4⟩ := ih L
      have e : grow L (c :: cs) = grow L cs := by unfold grow; rw [List.foldl_cons, if_pos hc]
      refine ⟨X, by rw [e]; exact h1, fun x hx => ⟨List.mem_cons_of_mem _ (h2 x hx).1, (h2 x hx).2⟩, h3, fun x hx => ?_⟩
      rcases List.mem_cons.1 hx with rfl | hx
      · rw [e, h1]; exact List.mem_append_left _ hc
      · rw [e]; exact h4 x hx
    · obtain ⟨X, h1, h2, h3, h4⟩ := ih (L ++ [c])
      have e : grow L (c :: cs) = grow (L ++ [c]) cs := by unfold grow; rw [List.foldl_cons, if_neg hc]
      refine ⟨c :: X, by rw [e, h1]; simp, fun x hx => ?_, List.nodup_cons.2 ⟨fun hx => (h2 c hx).2 (by simp), h3⟩, fun x hx => ?_⟩
      · rcases List.mem_cons.1 hx with rfl | hx
        · exact ⟨List.mem_cons_self .., hc⟩
        · exact ⟨List.mem_cons_of_mem _ (h2 x hx).1, fun h => (h2 x hx).2 (List.mem_append_left _ h)⟩
      · rcases List.mem_cons.1 hx with rfl | hx
        · rw [e, h1]; simp
        · rw [e]; exact h4 x hx

/-- All sums in the elements of a store. -/
def allSums (K : List (List UInt8)) : List (List UInt8) := K.flatMap sumsOf

/-- A search in breadth, behind i of its rounds. -/
structure Bfs (K roots : List (List UInt8)) (i : Nat) (L : List (List UInt8)) : Prop where
  le : i ≤ L.length
  more : ∃ X, L = roots ++ X ∧ X.Nodup ∧ (∀ c ∈ X, c ∈ allSums K) ∧ ∀ c ∈ X, c ∉ roots
  least : ∀ s ∈ L, Rch K roots s
  shut : ∀ j (h : j < L.length), j < i → ∀ e, find K L[j] = some e → ∀ c ∈ sumsOf e, c ∈ L

theorem Bfs.start (K roots : List (List UInt8)) : Bfs K roots 0 roots :=
  ⟨Nat.zero_le _, ⟨[], by simp, List.nodup_nil, by simp, by simp⟩, fun _ h => .root h, fun _ _ h => by omega⟩

theorem Bfs.most {K roots L : List (List UInt8)} {i : Nat} (h : Bfs K roots i L) : L.length ≤ roots.length + (allSums K).length := by
  obtain ⟨X, h1, h2, h3, _⟩ := h.more
  have := nodup_len X (allSums K) h2 h3
  rw [h1, List.length_append]
  omega

theorem Bfs.lost {K roots L : List (List UInt8)} {i : Nat} (h : Bfs K roots i L) (hi : i < L.length) (hf : find K L[i] = none) : Bfs K roots (i + 1) L := by
  refine ⟨hi, h.more, h.least, fun j hj hji e he => ?_⟩
  by_cases hje : j = i
  · subst hje; rw [hf] at he; cases he
  · exact h.shut j hj (by omega) e he

theorem Bfs.next {K roots L : List (List UInt8)} {i : Nat} (h : Bfs K roots i L) (hi : i < L.length) {e : List UInt8} (hf : find K L[i] = some e) : Bfs K roots (i + 1) (grow L (sumsOf e)) := by
  obtain ⟨Y, g1, g2, g3, g4⟩ := grow_is (sumsOf e) L
  obtain ⟨X, h1, h2, h3, h4⟩ := h.more
  have hsub : ∀ s ∈ L, s ∈ grow L (sumsOf e) := fun s hs => by rw [g1]; exact List.mem_append_left _ hs
  refine ⟨by rw [g1, List.length_append]; omega, ⟨X ++ Y, by rw [g1, h1, List.append_assoc], ?_, fun c hc => ?_, fun c hc => ?_⟩, fun s hs => ?_, fun j hj hji e' he' c hc => ?_⟩
  · refine List.nodup_append.2 ⟨h2, g3, fun a ha b hb hab => ?_⟩
    subst hab
    exact (g2 a hb).2 (by rw [h1]; exact List.mem_append_right _ ha)
  · rcases List.mem_append.1 hc with hc | hc
    · exact h3 c hc
    · exact List.mem_flatMap.2 ⟨e, (find_some hf).1, (g2 c hc).1⟩
  · rcases List.mem_append.1 hc with hc | hc
    · exact h4 c hc
    · exact fun hr => (g2 c hc).2 (by rw [h1]; exact List.mem_append_left _ hr)
  · rw [g1] at hs
    rcases List.mem_append.1 hs with hs | hs
    · exact h.least s hs
    · exact .next (h.least _ (List.getElem_mem hi)) hf (g2 s hs).1
  · have hjL : j < L.length := by omega
    have ej : (grow L (sumsOf e))[j] = L[j] := by
      have : (grow L (sumsOf e))[j]? = L[j]? := by rw [g1, List.getElem?_append_left hjL]
      rw [List.getElem?_eq_getElem hj, List.getElem?_eq_getElem hjL] at this
      exact Option.some.inj this
    rw [ej] at he'
    by_cases hje : j = i
    · subst hje
      rw [hf] at he'
      cases he'
      exact g4 c hc
    · exact hsub c (h.shut j hjL (by omega) e' he' c hc)

theorem Bfs.done {K roots L : List (List UInt8)} {i : Nat} (h : Bfs K roots i L) (hi : L.length ≤ i) : AllOf K roots L := by
  obtain ⟨X, h1, _⟩ := h.more
  refine ⟨fun r hr => by rw [h1]; exact List.mem_append_left _ hr, fun s hs e he c hc => ?_, h.least⟩
  obtain ⟨j, hj, rfl⟩ := List.getElem_of_mem hs
  exact h.shut j hj (by omega) e he c hc

/-- The sums at a branch's first n places. -/
def sumsTo (t : Itm) (n : Nat) : List (List UInt8) := (List.range n).filterMap fun i => if isSum (kid t i) then some (kid t i).bytes else none

theorem sumsTo_hit {t : Itm} {n : Nat} (h : isSum (kid t n) = true) : sumsTo t (n + 1) = sumsTo t n ++ [(kid t n).bytes] := by
  unfold sumsTo
  rw [List.range_succ, List.filterMap_append]
  simp [h]
theorem sumsTo_miss {t : Itm} {n : Nat} (h : isSum (kid t n) = false) : sumsTo t (n + 1) = sumsTo t n := by
  unfold sumsTo
  rw [List.range_succ, List.filterMap_append]
  simp [h]
theorem sumsTo_len (t : Itm) (n : Nat) : (sumsTo t n).length ≤ n := by
  unfold sumsTo
  refine Nat.le_trans (List.length_filterMap_le _ _) ?_
  simp
theorem sums_branch {t : Itm} (h : isBranch t = true) : sums t = sumsTo t 16 := by unfold sums sumsTo; rw [if_pos h]

theorem sums_len (t : Itm) : (sums t).length ≤ 16 := by
  cases hb : isBranch t with
  | true => rw [sums_branch hb]; exact sumsTo_len t 16
  | false =>
    unfold sums
    rw [if_neg (by rw [hb]; decide)]
    split
    · split
      · simp
      · simp
    · simp

theorem sumsOf_len (e : List UInt8) : (sumsOf e).length ≤ 16 := by
  unfold sumsOf
  split
  · exact sums_len _
  · simp

theorem allSums_len (K : List (List UInt8)) : (allSums K).length ≤ 16 * K.length := by
  unfold allSums
  induction K with
  | nil => simp
  | cons e K ih =>
    rw [List.flatMap_cons, List.length_append, List.length_cons]
    have := sumsOf_len e
    omega

/-- What a place of a branch holds, as far as sums go: a sum, nothing, or a leaf. -/
inductive Place (y : Itm) : Prop
  | sum : isSum y = true → Place y
  | none : isSum y = false → y.items = [] → Place y
  | leaf : isSum y = false → y.items.length = 2 → (∃ p, unpath (kid y 0) = some (p, true)) → Place y

theorem empty_items {t : Itm} (hpu : Itm.pure t = true) (h : isEmpty t = true) : t.items = [] := by
  have hl := empty_flat h
  rw [Itm.pure_eq, hl] at hpu
  simp at hpu
  exact hpu.1

theorem place_of {t : Itm} (hpu : Itm.pure t = true) (hs : sound t = true) (hb : isBranch t = true) {i : Nat} (hi : i < 16) : Place (kid t i) := by
  have hlen : i < t.items.length := by rw [branch_len hb]; omega
  have hpk := pure_kid hpu hlen
  have hkid := hs
  rw [sound_branch (branch_full hb) hb] at hkid
  simp only [Bool.and_eq_true, List.all_eq_true] at hkid
  have h1 := hkid.1 i (List.mem_range.2 (by omega))
  rw [slotOk_eq, if_neg (by omega)] at h1
  simp only [Bool.or_eq_true, Bool.and_eq_true, decide_eq_true_eq] at h1
  cases hsm : isSum (kid t i) with
  | true => exact .sum hsm
  | false =>
    rcases h1 with h1 | h1 | h1
    · exact .none hsm (empty_items hpk h1)
    · rw [h1] at hsm; cases hsm
    · obtain ⟨⟨hl, hso⟩, h8⟩ := h1
      have hsh : ∀ x ∈ (kid t i).items, (Itm.enc x).length < 8 := by
        intro x hx
        rw [Itm.enc_eq, if_pos hl] at h8
        have h1 := Itm.headed_len 192 ((kid t i).items.flatMap Itm.enc)
        have h2 : (Itm.enc x).length ≤ ((kid t i).items.flatMap Itm.enc).length := by
          obtain ⟨a, b, hab⟩ := List.append_of_mem hx
          rw [hab]
          simp only [List.flatMap_append, List.flatMap_cons, List.length_append]
          omega
        omega
      have hnb : isBranch (kid t i) = false := by
        cases hq : isBranch (kid t i) with
        | false => rfl
        | true =>
          rw [Itm.enc_eq, if_pos hl] at h8
          have h1 := Itm.headed_len 192 ((kid t i).items.flatMap Itm.enc)
          have h2 := flatMap_pos (kid t i).items
          rw [branch_len hq] at h2
          omega
      have hne : isEmpty (kid t i) = false := by
        cases hq : isEmpty (kid t i) with
        | false => rfl
        | true => have := empty_flat hq; rw [hl] at this; cases this
      obtain ⟨h2, hp⟩ := sound_two hso hne hnb
      cases hu : unpath (kid (kid t i) 0) with
      | none => rw [hu] at hp; simp [pairOk] at hp
      | some u =>
        obtain ⟨p, leaf⟩ := u
        cases leaf with
        | true => exact .leaf hsm h2 ⟨p, hu⟩
        | false =>
          exfalso
          rw [hu] at hp
          have hs1 : isSum (kid (kid t i) 1) = true := by unfold pairOk at hp; simp at hp; exact hp.2
          have hk : kid (kid t i) 1 ∈ (kid t i).items := by
            show (kid t i).items.getD 1 zero ∈ _
            rw [List.getD_eq_getElem?_getD, List.getElem?_eq_getElem (by omega)]
            exact List.getElem_mem _
          have := isSum_short (hsh _ hk)
          rw [hs1] at this
          cases this

/-- The sums of a sound node, by what it is. -/
inductive Shape (t : Itm) : Prop
  | none : t.items = [] → sums t = [] → Shape t
  | leaf : t.items.length = 2 → (∃ p, unpath (kid t 0) = some (p, true)) → sums t = [] → Shape t
  | ext : t.items.length = 2 → (∃ p, unpath (kid t 0) = some (p, false)) → isSum (kid t 1) = true → sums t = [(kid t 1).bytes] → Shape t
  | branch : t.items.length = 17 → sums t = sumsTo t 16 → (∀ i, i < 16 → Place (kid t i)) → Shape t

theorem shape_of {t : Itm} (hpu : Itm.pure t = true) (hs : sound t = true) : Shape t := by
  cases hb : isBranch t with
  | true => exact .branch (branch_len hb) (sums_branch hb) fun i hi => place_of hpu hs hb hi
  | false =>
    cases he : isEmpty t with
    | true =>
      refine .none (empty_items hpu he) ?_
      unfold sums
      rw [if_neg (by rw [hb]; decide)]
      split
      · rw [if_pos he]
      · rfl
    | false =>
      obtain ⟨h2, hp⟩ := sound_two hs he hb
      cases hu : unpath (kid t 0) with
      | none => rw [hu] at hp; simp [pairOk] at hp
      | some u =>
        obtain ⟨p, leaf⟩ := u
        cases leaf with
        | true => exact .leaf h2 ⟨p, hu⟩ (by unfold sums; rw [if_neg (by rw [hb]; decide), hu])
        | false =>
          rw [hu] at hp
          have hs1 : isSum (kid t 1) = true := by unfold pairOk at hp; simp at hp; exact hp.2
          exact .ext h2 ⟨p, hu⟩ hs1 (by unfold sums; rw [if_neg (by rw [hb]; decide), hu]; show (if isEmpty t then [] else [(kid t 1).bytes]) = _; rw [if_neg (by rw [he]; decide)])
end Tr
end Go.Proofs.YtbmohenjphmlgaaGreat

/- The document's own keeper in memory: the walks of head, find, has (of the document's own answer). -/
namespace Go.Proofs.YtbmohenjphmlgaaGreat
open Go.RowKit
set_option maxRecDepth 100000

/-- The document's own keeper: its heads l and its elements K; all that it is lies in the blocks R. -/
structure RAt0 (R : Nat → Prop) (w : World) (r0 : Nat) (ah : Option Addr) (ch : Nat) (ak : Option Addr) (ck : Nat) (l : List (Int × ByteArray)) (K : List ByteArray) : Prop where
  cell : w.heap[r0]? = some (.cells #[.slice ah l.length ch, .slice ak K.length ck] 53 (0, 0))
  heads : HOwn w 0 (.slice ah l.length ch) l
  kept : TOwn w 0 (.slice ak K.length ck) K
  own : ∀ k, R k ↔ k = r0 ∨ (Value.slice ah l.length ch).ownBlock = some k ∨ (Value.slice ak K.length ck).ownBlock = some k
  nh : (Value.slice ah l.length ch).ownBlock ≠ some r0
  nk : (Value.slice ak K.length ck).ownBlock ≠ some r0

def RAt (R : Nat → Prop) (w : World) (r0 : Nat) (l : List (Int × ByteArray)) (K : List ByteArray) : Prop := ∃ ah ch ak ck, RAt0 R w r0 ah ch ak ck l K

theorem rat_lt {R : Nat → Prop} {w : World} {r0 : Nat} {l : List (Int × ByteArray)} {K : List ByteArray} (h : RAt R w r0 l K) : ∀ k, R k → k < w.heap.size := by
  obtain ⟨ah, ch, ak, ck, h⟩ := h
  intro k hk
  rcases (h.own k).1 hk with rfl | hg | hg
  · exact (Array.getElem?_eq_some_iff.1 h.cell).1
  · exact (hown_lt h.heads k hg).2
  · exact (town_lt h.kept k hg).2

theorem rat_frame {R : Nat → Prop} {w w' : World} {r0 : Nat} {l : List (Int × ByteArray)} {K : List ByteArray} (h : RAt R w r0 l K) (hb : ∀ k, R k → w'.heap[k]? = w.heap[k]?) : RAt R w' r0 l K := by
  obtain ⟨ah, ch, ak, ck, h⟩ := h
  exact ⟨ah, ch, ak, ck, (hb _ ((h.own _).2 (.inl rfl))).trans h.cell, hown_frame h.heads (fun g hg => hb g ((h.own _).2 (.inr (.inl hg)))), town_frame h.kept (fun g hg => hb g ((h.own _).2 (.inr (.inr hg)))), h.own, h.nh, h.nk⟩

theorem rat_later {R : Nat → Prop} {w w' : World} {r0 : Nat} {l : List (Int × ByteArray)} {K : List ByteArray} (h : RAt R w r0 l K) (hb : Below w.heap.size w w') : RAt R w' r0 l K := rat_frame h (fun k hk => hb.block k (rat_lt h k hk))

/-- Where a height stands. -/
def HeadPost (l : List (Int × ByteArray)) (x : Int) (w : World) (e : Ending) (w' : World) : Prop :=
  ∃ n : Int, e = .returned (.int .i64 n) ∧ ((∃ (p : Nat) (h : p < l.length), n = p ∧ l[p].1 = x) ∨ (n = -1 ∧ ∀ q ∈ l, q.1 ≠ x)) ∧ Below w.heap.size w w'

set_option maxHeartbeats 1600000 in
theorem refHead_any (r0 : Nat) (a : Option Addr) (ch : Nat) (y : Value) (l : List (Int × ByteArray)) (x : Int) (w : World) (hc : w.heap[r0]? = some (.cells #[.slice a l.length ch, y] 53 (0, 0))) (hr : HRd w.heap.size w a l) (hl : l.length ≤ 1000) :
    Calls Tryz.prog 68 #[.pointer (some ⟨r0, 0, none⟩), .int .i64 x] w (HeadPost l x w) := by
  have HR := hid hr
  have c0 : w.cell? ⟨r0, 0, none⟩ = some (.slice a l.length ch) := by rw [cell_of_row _ _ 0 _ _ _ hc]; rfl
  have hlt0 := (Array.getElem?_eq_some_iff.1 hc).1
  clear hr hc
  go_enter Tryz.func68, Tryz.ntmps68
  go_wp2_with fail
  go_loopw [5] (fun i wr => ∃ k : Nat, i = .int .i64 k ∧ k ≤ l.length ∧ (∀ j (h : j < l.length), j < k → l[j].1 ≠ x) ∧ Hid (Below w.heap.size w wr)) (fun i _ => l.length - (intOf i).toNat)
  case atStart => exact ⟨0, rfl, Nat.zero_le _, fun _ _ h => by omega, Below.refl _ _⟩
  case round =>
    obtain ⟨k, rfl, hk, hne, HB⟩ := hrel
    have x0 := (HB.out.cell (p := ⟨r0, 0, none⟩) hlt0).trans c0
    by_cases hlt : k < l.length
    · obtain ⟨b, off, rfl, hb, d0, d1⟩ := HR.out k hlt
      have x1 := (HB.out.cell (p := ⟨b, off + k * 2, none⟩) hb).trans d0
      have i2 : (k : Int) < (l.length : Int) := by omega
      by_cases he : l[k].1 = x
      · rw [he] at x1
        go_wp2_with fail
        go_ret
        exact ⟨_, rfl, .inl ⟨k, hlt, rfl, he⟩, HB.out⟩
      · go_wp2_with fail
        refine ⟨⟨k + 1, by go_num, by omega, fun j hj hjk => ?_, HB.out⟩, by simp [intOf]; omega⟩
        by_cases hjk' : j = k
        · subst hjk'; exact he
        · exact hne j hj (by omega)
    · have i2 : ¬ (k : Int) < (l.length : Int) := by omega
      go_wp2_with fail
      go_ret
      refine ⟨_, rfl, .inr ⟨rfl, fun q hq => ?_⟩, HB.out⟩
      obtain ⟨j, hj, rfl⟩ := List.getElem_of_mem hq
      exact hne j hj (by omega)

/-- The element that is kept with a sum. -/
def FindPost (K : List ByteArray) (s : ByteArray) (w : World) (e : Ending) (w' : World) : Prop :=
  ∃ t b, e = .returned (.tuple #[.string t, .bool b]) ∧ ((b = true ∧ t ∈ K ∧ Tr.find (bl K) s.data.toList = some t.data.toList) ∨ (b = false ∧ t = ⟨#[]⟩ ∧ Tr.find (bl K) s.data.toList = none)) ∧ Below w.heap.size w w'

theorem bl_take_succ (K : List ByteArray) (k : Nat) (h : k < K.length) : bl (K.take (k + 1)) = bl (K.take k) ++ [K[k].data.toList] := by
  rw [List.take_succ_eq_append_getElem h, bl_append]; rfl

theorem bl_cut (K : List ByteArray) (k : Nat) (h : k < K.length) : bl K = bl (K.take k) ++ ([K[k].data.toList] ++ bl (K.drop (k + 1))) := by
  have := List.take_append_drop k K
  rw [List.drop_eq_getElem_cons h] at this
  conv => lhs; rw [← this]
  rw [bl_append]; rfl

set_option maxHeartbeats 1600000 in
theorem refFind_any (r0 : Nat) (a : Option Addr) (ck : Nat) (y : Value) (K : List ByteArray) (s : ByteArray) (w : World) (hc : w.heap[r0]? = some (.cells #[y, .slice a K.length ck] 53 (0, 0))) (hr : SRd w.heap.size w a K) (hK : K.length ≤ 1000) (hs : ∀ e ∈ K, e.size ≤ 1000) :
    Calls Tryz.prog 70 #[.pointer (some ⟨r0, 0, none⟩), .string s] w (FindPost K s w) := by
  have HR := hid hr
  have HS := hid hs
  have c0 : w.cell? ⟨r0, 1, none⟩ = some (.slice a K.length ck) := by rw [cell_of_row _ _ 1 _ _ _ hc]; rfl
  have hlt0 := (Array.getElem?_eq_some_iff.1 hc).1
  clear hr hc hs
  go_enter Tryz.func70, Tryz.ntmps70
  go_wp2_with fail
  go_loopw [6] (fun i wr => ∃ k : Nat, i = .int .i64 k ∧ k ≤ K.length ∧ Hid (Tr.find (bl (K.take k)) s.data.toList = none ∧ Below w.heap.size w wr)) (fun i _ => K.length - (intOf i).toNat)
  case atStart => exact ⟨0, rfl, Nat.zero_le _, by rw [List.take_zero]; rfl, Below.refl _ _⟩
  case round =>
    obtain ⟨k, rfl, hk, HB⟩ := hrel
    have x0 := (HB.out.2.cell (p := ⟨r0, 1, none⟩) hlt0).trans c0
    by_cases hlt : k < K.length
    · obtain ⟨b, off, rfl, hb, d0⟩ := HR.out k hlt
      have x1 := (HB.out.2.cell (p := ⟨b, off + k, none⟩) hb).trans d0
      have i2 : (k : Int) < (K.length : Int) := by omega
      have HSU := hid (fun w => sumR_any K[k] w (by have := HS.out _ (List.getElem_mem hlt); omega))
      have HCU := hid (bl_cut K k hlt)
      have HTS := hid (bl_take_succ K k hlt)
      have HME := hid (List.getElem_mem hlt)
      generalize K[k] = t at *
      obtain ⟨E, hE⟩ : ∃ E : ByteArray, E = ⟨(Tr.sum t.data.toList).toArray⟩ := ⟨_, rfl⟩
      rw [← hE] at HSU
      have HED : Hid (E.data.toList = Tr.sum t.data.toList) := by rw [hE]; rfl
      clear d0 hE
      go_wp2_with fail
      refine (HSU.out _).mono ?_
      rintro e w1 ⟨rfl, b1⟩
      have HB1 : Hid (Below w.heap.size w w1) := HB.out.2.trans (b1.mono HB.out.2.size)
      have z0 := (HB1.out.cell (p := ⟨r0, 1, none⟩) hlt0).trans c0
      have z1 := (b1.cell (p := ⟨b, off + k, none⟩) (World.block_lt_of_cell? _ _ x1)).trans x1
      clear b1 x0 x1
      by_cases he : E = s
      · subst he
        go_wp2_with fail
        refine bodyPost_ret (v := .tuple #[.string t, .bool true]) (by simp [results, Tryz.results70, go_sem]) rfl ?_
        refine ⟨_, _, rfl, .inl ⟨rfl, HME.out, ?_⟩, HB1.out⟩
        rw [HCU.out, Tr.find_append, HB.out.1, Tr.find_append, Tr.find_one, if_pos HED.out.symm]
        rfl
      · have he' := bytes_ne he
        go_wp2_with fail
        refine ⟨⟨k + 1, by go_num, by omega, ?_, HB1.out⟩, by simp [intOf]; omega⟩
        rw [HTS.out, Tr.find_append, HB.out.1, Tr.find_one, if_neg (fun h => he (by
          have : E.data.toList = s.data.toList := HED.out.trans h
          cases E; cases s; simp at this; rw [this]))]
        rfl
    · have i2 : ¬ (k : Int) < (K.length : Int) := by omega
      go_wp2_with fail
      refine bodyPost_ret (v := .tuple #[.string ⟨#[]⟩, .bool false]) (by simp [results, Tryz.results70, go_sem]) rfl ?_
      refine ⟨_, _, rfl, .inr ⟨rfl, rfl, ?_⟩, HB.out.2⟩
      have := HB.out.1
      rwa [List.take_of_length_le (by omega)] at this

set_option maxHeartbeats 1600000 in
theorem refHas_any (a : Option Addr) (cap : Nat) (L : List ByteArray) (s : ByteArray) (w : World) (hr : SRd w.heap.size w a L) (hL : L.length ≤ 100000) :
    Calls Tryz.prog 76 #[.slice a L.length cap, .string s] w fun e w' => e = .returned (.bool (decide (s.data.toList ∈ bl L))) ∧ Below w.heap.size w w' := by
  have HR := hid hr
  clear hr
  go_enter Tryz.func76, Tryz.ntmps76
  go_wp2_with fail
  go_loopw [5] (fun i wr => ∃ k : Nat, i = .int .i64 k ∧ k ≤ L.length ∧ Hid (s.data.toList ∉ bl (L.take k) ∧ Below w.heap.size w wr)) (fun i _ => L.length - (intOf i).toNat)
  case atStart => exact ⟨0, rfl, Nat.zero_le _, by rw [List.take_zero]; simp [bl], Below.refl _ _⟩
  case round =>
    obtain ⟨k, rfl, hk, HB⟩ := hrel
    by_cases hlt : k < L.length
    · obtain ⟨b, off, rfl, hb, d0⟩ := HR.out k hlt
      have x1 := (HB.out.2.cell (p := ⟨b, off + k, none⟩) hb).trans d0
      have i2 : (k : Int) < (L.length : Int) := by omega
      have HCU := hid (bl_cut L k hlt)
      have HTS := hid (bl_take_succ L k hlt)
      generalize L[k] = t at *
      clear d0
      by_cases he : t = s
      · subst he
        go_wp2_with fail
        go_ret
        refine ⟨?_, HB.out.2⟩
        rw [decide_eq_true (by rw [HCU.out]; simp)]
        rfl
      · have he' := bytes_ne he
        go_wp2_with fail
        refine ⟨⟨k + 1, by go_num, by omega, ?_, HB.out.2⟩, by simp [intOf]; omega⟩
        rw [HTS.out, List.mem_append]
        rintro (h | h)
        · exact HB.out.1 h
        · have h := List.mem_singleton.1 h
          exact he (by cases t; cases s; simp at h; rw [h])
    · have i2 : ¬ (k : Int) < (L.length : Int) := by omega
      go_wp2_with fail
      go_ret
      refine ⟨?_, HB.out.2⟩
      have := HB.out.1
      rw [List.take_of_length_le (by omega)] at this
      rw [decide_eq_false this]
      rfl
end Go.Proofs.YtbmohenjphmlgaaGreat

/- A head is appended to a row of heads of a call's own: for a walk; where a head belongs among others. -/
namespace Go.Proofs.YtbmohenjphmlgaaGreat
open Go.RowKit
set_option maxRecDepth 100000

theorem hcells_snoc (l : List (Int × ByteArray)) (q : Int × ByteArray) : hcells (l ++ [q]) = hcells l ++ [.int .i64 q.1, .string q.2] := by simp [hcells]

theorem cells_pair (w : World) (a b : Value) (e : TypeId) : ∀ j u, [a, b][j]? = some u → (w.alloc (.cells #[a, b] e)).cell? ((⟨w.heap.size, 0, none⟩ : Addr).add j) = some u := cells_row2 (heap_alloc_new w _)

/-- A head that was just laid is appended to a row of the call's own: for a walk. -/
theorem wpList_push_head {ops : Array Oper} {rest : List Oper} {o : Oper} {act : Act} {Q' : Exit → Act → World → Prop} (hgd : o.guard = none) (s x : Operand)
    (hop : o.op = .call { callee := .builtin .append, args := #[s, x], argTypes := #[51, 51] }) {W w0 wr : World} {B : Nat} {v1 : Value} {l1 : List (Int × ByteArray)} (q : Int × ByteArray) (L : Nat) (hL : wr.heap.size = L)
    (hs : act.eval s = v1) (hx : act.eval x = .slice (some ⟨L, 0, none⟩) 1 1) (ho : HOwn w0 B v1 l1) (hw : Below w0.heap.size w0 wr) (hb : Below B W w0) (hB : B ≤ W.heap.size) (hlen : l1.length ≤ 1000000)
    (h : ∀ v' w', HOwn w' B v' (l1 ++ [q]) → Below B W w' → wpList Tryz.prog ops Q' rest (act.put o.dst v') w') : wpList Tryz.prog ops Q' (o :: rest) act (wr.alloc (.cells #[.int .i64 q.1, .string q.2] 99)) := by
  subst hL
  obtain ⟨i0, hi, hz0, hz1, hz2⟩ := info_parts infoHead
  have hb1 : Below B W wr := hb.trans (hw.mono (Nat.le_trans hB hb.size))
  have hb2 : Below B W (wr.alloc (.cells #[.int .i64 q.1, .string q.2] 99)) := hb1.alloc (Nat.le_trans hB hb1.size) _
  have hBw : B ≤ (wr.alloc (.cells #[.int .i64 q.1, .string q.2] 99)).heap.size := Nat.le_trans hB hb2.size
  have ho2 : HOwn (wr.alloc (.cells #[.int .i64 q.1, .string q.2] 99)) B v1 l1 := hown_frame ho (fun g hg => by
    rw [Below.heap_alloc _ _ _ (Nat.lt_of_lt_of_le (hown_lt ho g hg).2 hw.size)]
    exact hw.block g (hown_lt ho g hg).2)
  refine wpList_append_mine _ hgd s x 51 hop B 99 i0 _ 2 24 Tryz.underlying51 hi hz0 hz1 hz2 rfl (by decide) v1 l1.length (hcells l1) hs ho2 ⟨wr.heap.size, 0, none⟩ 1 1 [.int .i64 q.1, .string q.2] hx rfl (cells_pair _ _ _ _) (by simp [Value.oneCell']) (by unfold maxLen; omega) (by omega) hBw ?_
  intro v' w' ho' hg _
  refine h v' w' ?_ (hb2.grown hg hBw (fun g hgg => (hown_lt ho g hgg).1))
  unfold HOwn
  rw [List.length_append, hcells_snoc]
  exact ho'

/-- How many heads stand ahead of a height. -/
def pl (l : List (Int × ByteArray)) (x : Int) : Nat := (l.takeWhile fun q => decide (q.1 < x)).length

theorem pl_le (l : List (Int × ByteArray)) (x : Int) : pl l x ≤ l.length := (List.takeWhile_sublist _).length_le

theorem pl_ahead (x : Int) : ∀ (l : List (Int × ByteArray)) (i : Nat) (h : i < l.length), i < pl l x → l[i].1 < x
  | [], i, h, _ => by simp at h
  | q :: l, i, h, hi => by
    unfold pl at hi
    rw [List.takeWhile_cons] at hi
    split at hi
    · rename_i hq
      cases i with
      | zero => simpa using hq
      | succ i => exact pl_ahead x l i (by simpa using h) (by simpa [pl] using hi)
    · simp at hi

theorem pl_stop (x : Int) : ∀ (l : List (Int × ByteArray)) (h : pl l x < l.length), ¬ l[pl l x].1 < x
  | [], h => by simp at h
  | q :: l, h => by
    by_cases hq : q.1 < x
    · have e : pl (q :: l) x = pl l x + 1 := by unfold pl; rw [List.takeWhile_cons, if_pos (by simpa using hq)]; rfl
      have h' : pl l x < l.length := by rw [e] at h; simpa using h
      have := pl_stop x l h'
      simpa [e] using this
    · have e : pl (q :: l) x = 0 := by unfold pl; rw [List.takeWhile_cons, if_neg (by simpa using hq)]; rfl
      simpa [e] using hq

theorem pl_eq {l : List (Int × ByteArray)} {x : Int} {p : Nat} (hp : p ≤ l.length) (h1 : ∀ i, (h : i < l.length) → i < p → l[i].1 < x) (h2 : ∀ i, (h : i < l.length) → p ≤ i → x < l[i].1) : p = pl l x := by
  rcases Nat.lt_trichotomy p (pl l x) with h | h | h
  · have hl : p < l.length := Nat.lt_of_lt_of_le h (pl_le l x)
    have a := pl_ahead x l p hl h
    have b := h2 p hl (Nat.le_refl _)
    omega
  · exact h
  · have hl : pl l x < l.length := by omega
    exact absurd (h1 _ hl h) (pl_stop x l hl)

/-- A head is put where it belongs. -/
def insTo (l : List (Int × ByteArray)) (x : Int) (r : ByteArray) : List (Int × ByteArray) := l.take (pl l x) ++ (x, r) :: l.drop (pl l x)

/-- What Trust answers, and what is trusted then. -/
def trustTo (l : List (Int × ByteArray)) (x : Int) (r : ByteArray) : Nat × List (Int × ByteArray) :=
  if x < 0 ∨ 1000000 < x then (7, l)
  else if r.size ≠ 8 then (5, l)
  else match l.find? fun q => decide (q.1 = x) with
    | some q => if q.2 = r then (0, l) else (8, l)
    | none => if 8 ≤ l.length then (9, l) else (0, insTo l x r)

theorem trustTo_height {l : List (Int × ByteArray)} {x : Int} {r : ByteArray} (h : x < 0 ∨ 1000000 < x) : trustTo l x r = (7, l) := if_pos h
theorem trustTo_root {l : List (Int × ByteArray)} {x : Int} {r : ByteArray} (h : ¬ (x < 0 ∨ 1000000 < x)) (h2 : r.size ≠ 8) : trustTo l x r = (5, l) := by unfold trustTo; rw [if_neg h, if_pos h2]

theorem find_head {l : List (Int × ByteArray)} {x : Int} (hr : Rises l) {p : Nat} (hp : p < l.length) (hx : l[p].1 = x) : (l.find? fun q => decide (q.1 = x)) = some l[p] := by
  cases hf : l.find? fun q => decide (q.1 = x) with
  | none => rw [List.find?_eq_none] at hf; exact absurd (by simpa using hx) (hf _ (List.getElem_mem hp))
  | some q =>
    have h1 := List.mem_of_find?_eq_some hf
    have h2 : q.1 = x := by have := List.find?_some hf; simpa using this
    obtain ⟨i, hi, rfl⟩ := List.getElem_of_mem h1
    rcases Nat.lt_trichotomy i p with h | h | h
    · have := hr.at h hp; omega
    · subst h; rfl
    · have := hr.at h hi; omega

theorem trustTo_old {l : List (Int × ByteArray)} {x : Int} {r : ByteArray} (h : ¬ (x < 0 ∨ 1000000 < x)) (h2 : r.size = 8) (hr : Rises l) {p : Nat} (hp : p < l.length) (hx : l[p].1 = x) : trustTo l x r = if l[p].2 = r then (0, l) else (8, l) := by
  unfold trustTo
  rw [if_neg h, if_neg (by omega), find_head hr hp hx]

theorem trustTo_new {l : List (Int × ByteArray)} {x : Int} {r : ByteArray} (h : ¬ (x < 0 ∨ 1000000 < x)) (h2 : r.size = 8) (hx : ∀ q ∈ l, q.1 ≠ x) : trustTo l x r = if 8 ≤ l.length then (9, l) else (0, insTo l x r) := by
  unfold trustTo
  rw [if_neg h, if_neg (by omega), List.find?_eq_none.2 (fun q hq => by simpa using hx q hq)]

/-- What has been laid when i heads have been looked at. -/
def outAt (l : List (Int × ByteArray)) (x : Int) (r : ByteArray) (i : Nat) : List (Int × ByteArray) := if i ≤ pl l x then l.take i else l.take (pl l x) ++ (x, r) :: (l.drop (pl l x)).take (i - pl l x)

theorem outAt_zero (l : List (Int × ByteArray)) (x : Int) (r : ByteArray) : outAt l x r 0 = [] := by unfold outAt; rw [if_pos (Nat.zero_le _)]; rfl
theorem outAt_len (l : List (Int × ByteArray)) (x : Int) (r : ByteArray) (i : Nat) : (outAt l x r i).length ≤ l.length + 1 := by
  have := pl_le l x
  unfold outAt
  split
  · rw [List.length_take]; omega
  · simp only [List.length_append, List.length_take, List.length_cons, List.length_drop]; omega
theorem outAt_before {l : List (Int × ByteArray)} {x : Int} {r : ByteArray} {i : Nat} (hi : i < l.length) (h : i < pl l x) : outAt l x r (i + 1) = outAt l x r i ++ [l[i]] := by
  unfold outAt
  rw [if_pos (by omega), if_pos (by omega), List.take_succ_eq_append_getElem hi]
theorem outAt_here {l : List (Int × ByteArray)} {x : Int} {r : ByteArray} {i : Nat} (hi : i < l.length) (h : i = pl l x) : outAt l x r (i + 1) = outAt l x r i ++ [(x, r)] ++ [l[i]] := by
  subst h
  unfold outAt
  have e : (l.drop (pl l x)).take 1 = [l[pl l x]] := by rw [List.drop_eq_getElem_cons hi]; rfl
  rw [if_neg (by omega), if_pos (Nat.le_refl _), show pl l x + 1 - pl l x = 1 by omega, e]
  simp
theorem outAt_behind {l : List (Int × ByteArray)} {x : Int} {r : ByteArray} {i : Nat} (hi : i < l.length) (h : pl l x < i) : outAt l x r (i + 1) = outAt l x r i ++ [l[i]] := by
  unfold outAt
  rw [if_neg (by omega), if_neg (by omega), show i + 1 - pl l x = (i - pl l x) + 1 by omega, List.take_succ_eq_append_getElem (by rw [List.length_drop]; omega), List.getElem_drop]
  simp [show pl l x + (i - pl l x) = i by omega]
theorem outAt_end {l : List (Int × ByteArray)} {x : Int} {r : ByteArray} : (pl l x < l.length → outAt l x r l.length = insTo l x r) ∧ (pl l x = l.length → outAt l x r l.length ++ [(x, r)] = insTo l x r) := by
  constructor
  · intro h
    unfold outAt insTo
    have e : (l.drop (pl l x)).take (l.length - pl l x) = l.drop (pl l x) := List.take_of_length_le (by rw [List.length_drop]; omega)
    rw [if_neg (by omega), e]
  · intro h
    unfold outAt insTo
    rw [if_pos (by omega), h, List.take_length, List.drop_length]
end Go.Proofs.YtbmohenjphmlgaaGreat
