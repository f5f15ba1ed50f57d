/- Part 13 of a proof: what the last text needs. -/
import Derived.Test.YtbmohenjphmlgaaGreatPart9
import Derived.Test.YtbmohenjphmlgaaGreatPart11
import Derived.Test.YtbmohenjphmlgaaGreatPart12
/- Plain mathematics of a store of elements: what is added, what it tells on a way, what is reached. Nothing of the program is in here. -/
namespace Go.Proofs.YtbmohenjphmlgaaGreat
set_option maxRecDepth 100000

namespace Tr

/-- The element of a store that has a sum. -/
def find (S : List (List UInt8)) (s : List UInt8) : Option (List UInt8) := S.find? fun e => sum e = s

theorem find_some {S : List (List UInt8)} {s e : List UInt8} (h : find S s = some e) : e ∈ S ∧ sum e = s := ⟨List.mem_of_find?_eq_some h, by have := List.find?_some h; simpa using this⟩
theorem find_none {S : List (List UInt8)} {s : List UInt8} : find S s = none ↔ ∀ e ∈ S, sum e ≠ s := by
  unfold find
  rw [List.find?_eq_none]
  simp
theorem find_mem {S : List (List UInt8)} {e : List UInt8} (h : e ∈ S) : ∃ e', find S (sum e) = some e' := by
  cases hf : find S (sum e) with
  | none => exact absurd rfl (find_none.1 hf e h)
  | some e' => exact ⟨e', rfl⟩
theorem find_append (S T : List (List UInt8)) (s : List UInt8) : find (S ++ T) s = (find S s).or (find T s) := by unfold find; rw [List.find?_append]
theorem find_one (e s : List UInt8) : find [e] s = if sum e = s then some e else none := by
  unfold find
  by_cases h : sum e = s
  · simp [h]
  · simp [h]

/-- No two elements of a store have one sum. -/
def Lone (S : List (List UInt8)) : Prop := S.Pairwise fun a b => sum a ≠ sum b

theorem Lone.eq {a b : List UInt8} : ∀ {S : List (List UInt8)}, Lone S → a ∈ S → b ∈ S → sum a = sum b → a = b
  | [], _, h, _, _ => by simp at h
  | x :: l, ha, h1, h2, hd => by
    have ha' := List.pairwise_cons.1 ha
    rcases List.mem_cons.1 h1 with e1 | m1
    · rcases List.mem_cons.1 h2 with e2 | m2
      · exact e1.trans e2.symm
      · exact absurd (e1 ▸ hd) (ha'.1 b m2)
    · rcases List.mem_cons.1 h2 with e2 | m2
      · exact absurd (e2 ▸ hd.symm) (ha'.1 a m1)
      · exact Lone.eq ha'.2 m1 m2 hd

theorem Lone.find {S : List (List UInt8)} (h : Lone S) {e : List UInt8} (he : e ∈ S) : find S (sum e) = some e := by
  obtain ⟨e', hf⟩ := find_mem he
  obtain ⟨h1, h2⟩ := find_some hf
  rw [hf, h.eq h1 he h2]

theorem lone_nil : Lone [] := List.Pairwise.nil
theorem Lone.snoc {S : List (List UInt8)} (h : Lone S) {e : List UInt8} (he : Tr.find S (sum e) = none) : Lone (S ++ [e]) := by
  unfold Lone
  rw [List.pairwise_append]
  refine ⟨h, List.pairwise_singleton _ _, fun a ha b hb => ?_⟩
  rw [List.mem_singleton.1 hb]
  exact find_none.1 he a ha

/-- One element is added, unless one with its sum is there. -/
def add (S : List (List UInt8)) (e : List UInt8) : List (List UInt8) := if (find S (sum e)).isSome then S else S ++ [e]

theorem add_lone {S : List (List UInt8)} (h : Lone S) (e : List UInt8) : Lone (add S e) := by
  unfold add
  cases hf : find S (sum e) with
  | none => exact h.snoc hf
  | some x => exact h

theorem add_len (S : List (List UInt8)) (e : List UInt8) : (add S e).length ≤ S.length + 1 := by
  unfold add
  split
  · omega
  · simp

/-- All elements of a proof are added. -/
def addAll (S : List (List UInt8)) (p : List (List UInt8)) : List (List UInt8) := p.foldl add S

theorem addAll_cons (S : List (List UInt8)) (e : List UInt8) (p : List (List UInt8)) : addAll S (e :: p) = addAll (add S e) p := rfl
theorem addAll_append (S p q : List (List UInt8)) : addAll S (p ++ q) = addAll (addAll S p) q := List.foldl_append
theorem addAll_snoc (S p : List (List UInt8)) (e : List UInt8) : addAll S (p ++ [e]) = add (addAll S p) e := by rw [addAll_append]; rfl

theorem addAll_len (p : List (List UInt8)) : ∀ S : List (List UInt8), (addAll S p).length ≤ S.length + p.length := by
  induction p with
  | nil => intro S; exact Nat.le_refl _
  | cons e p ih =>
    intro S
    have h1 := ih (add S e)
    have h2 := add_len S e
    rw [addAll_cons, List.length_cons]
    omega

/-- What a store tells behind the first element. -/
def tellW (S : List (List UInt8)) : Nat → Way → Option Way
  | 0, w => if w.need = [] then some w else none
  | f + 1, w => if w.need = [] then some w else match find S w.need with
    | none => none
    | some e => match vstep 1 w e with
      | none => none
      | some w' => tellW S f w'

def thru (S : List (List UInt8)) (f : Nat) (o : Option Way) : Option Way := match o with | none => none | some w => tellW S f w

theorem thru_some (S : List (List UInt8)) (f : Nat) (w : Way) : thru S f (some w) = tellW S f w := rfl
theorem tellW_end {S : List (List UInt8)} {f : Nat} {w : Way} (h : w.need = []) : tellW S f w = some w := by cases f <;> (rw [tellW, if_pos h])
theorem tellW_lost {S : List (List UInt8)} {f : Nat} {w : Way} (h : w.need ≠ []) (hf : find S w.need = none) : tellW S f w = none := by
  cases f with
  | zero => rw [tellW, if_neg h]
  | succ f => rw [tellW, if_neg h, hf]
theorem tellW_next {S : List (List UInt8)} {f : Nat} {w : Way} {e : List UInt8} (h : w.need ≠ []) (hf : find S w.need = some e) : tellW S (f + 1) w = thru S f (vstep 1 w e) := by
  rw [tellW, if_neg h, hf]
  rfl

/-- What a store tells of a key under a root. -/
def tellR (S : List (List UInt8)) (root key : List UInt8) : Option Way :=
  match find S root with
  | none => none
  | some e => thru S 20 (vstep 0 ⟨digits key, false, [], false, root⟩ e)

def tellEnd (o : Option Way) : List UInt8 × Bool × Nat := match o with | none => ([], false, 11) | some w => (w.value, w.found, 0)

def tell (S : List (List UInt8)) (root key : List UInt8) : List UInt8 × Bool × Nat := if 6 < key.length then ([], false, 3) else tellEnd (tellR S root key)

end Tr
end Go.Proofs.YtbmohenjphmlgaaGreat

/- Plain mathematics of a store of elements: what is reached from a sum, and that a way is not lost by forgetting what is not reached. Nothing of the program is in here. -/
namespace Go.Proofs.YtbmohenjphmlgaaGreat
set_option maxRecDepth 100000

namespace Tr

/-- The sums in the references of a node. -/
def sums (t : Itm) : List (List UInt8) :=
  if isBranch t then (List.range 16).filterMap fun i => if isSum (kid t i) then some (kid t i).bytes else none
  else match unpath (kid t 0) with
    | some (_, false) => if isEmpty t then [] else [(kid t 1).bytes]
    | _ => []

/-- The sums in an element. -/
def sumsOf (e : List UInt8) : List (List UInt8) := match reads e with | some t => sums t | none => []

/-- What is reached from a sum, behind what was reached before. -/
def dfs (S : List (List UInt8)) : Nat → List UInt8 → List (List UInt8) → List (List UInt8)
  | 0, _, R => R
  | f + 1, s, R => match find S s with
    | none => R
    | some e => if (find R s).isSome then R else (sumsOf e).foldl (fun R c => dfs S f c R) (R ++ [e])

def forget (S : List (List UInt8)) (roots : List (List UInt8)) : List (List UInt8) := roots.foldl (fun R r => dfs S S.length r R) []

/-- A short node has no sum in it: a way through it ends. -/
theorem short_ends {t : Itm} (hpu : Itm.pure t = true) (hs : sound t = true) (h8 : (Itm.enc t).length < 8) {k : List UInt8} {br : Bool} {w : Way} (hg : goes t k br = some w) : w.need = [] := by
  have hsum : ∀ x ∈ t.items, t.list = true → (Itm.enc x).length < 8 := by
    intro x hx hl
    rw [Itm.enc_eq, if_pos hl] at h8
    have h1 := Itm.headed_len 192 (t.items.flatMap Itm.enc)
    have h2 : (Itm.enc x).length ≤ (t.items.flatMap Itm.enc).length := by
      obtain ⟨a, b, hab⟩ := List.append_of_mem hx
      rw [hab]
      simp only [List.flatMap_append, List.flatMap_cons, List.length_append]
      omega
    omega
  have hbr : isBranch t = false := by
    cases hb : isBranch t with
    | false => rfl
    | true =>
      have hl : t.list = true := by unfold isBranch at hb; simp at hb; exact hb.1
      rw [Itm.enc_eq, if_pos hl] at h8
      have h1 := Itm.headed_len 192 (t.items.flatMap Itm.enc)
      have h2 := flatMap_pos t.items
      rw [branch_len hb] at h2
      omega
  cases br with
  | true => rw [goes_stop k hbr] at hg; cases hg
  | false =>
    cases he : isEmpty t with
    | true => rw [goes_empty k he] at hg; cases hg; rfl
    | false =>
      obtain ⟨h2, hp⟩ := sound_two hs he hbr
      cases hu : unpath (kid t 0) with
      | none => rw [hu] at hp; simp [pairOk] at hp
      | some u =>
        obtain ⟨p, leaf⟩ := u
        cases leaf with
        | true =>
          rw [goes_leaf k p hbr he hu] at hg
          split at hg <;> (cases hg; rfl)
        | false =>
          by_cases hm : k.length < p.length ∨ k.take p.length ≠ p
          · rw [goes_miss k p hbr he hu hm] at hg; cases hg; rfl
          · exfalso
            rw [hu] at hp
            have hsm : isSum (kid t 1) = true := by unfold pairOk at hp; simp at hp; exact hp.2
            have hl : t.list = true := by
              cases hl : t.list with
              | true => rfl
              | false =>
                rw [Itm.pure_eq, hl] at hpu
                simp at hpu
                rw [hpu.1] at h2
                simp at h2
            have hk : kid t 1 ∈ t.items := by
              unfold kid
              rw [List.getD_eq_getElem?_getD, List.getElem?_eq_getElem (by omega)]
              exact List.getElem_mem _
            have := hsum _ hk hl
            have := isSum_short this
            rw [hsm] at this
            cases this

theorem pure_kid {t : Itm} (hpu : Itm.pure t = true) {i : Nat} (hi : i < t.items.length) : Itm.pure (kid t i) = true := by
  rw [Itm.pure_eq, Bool.and_eq_true, List.all_eq_true] at hpu
  refine hpu.2 _ ?_
  unfold kid
  rw [List.getD_eq_getElem?_getD, List.getElem?_eq_getElem hi]
  exact List.getElem_mem _

/-- A set of elements that has, with each of its own, what that one leads to in S. -/
def Closed (S R : List (List UInt8)) : Prop := ∀ x ∈ R, ∀ c ∈ sumsOf x, (find S c).isSome → (find R c).isSome

/-- How many elements of S are not in R. -/
def missing (S R : List (List UInt8)) : Nat := (S.filter fun e => (find R (sum e)).isNone).length

theorem missing_mono {S R R' : List (List UInt8)} (h : ∀ s, (find R s).isSome → (find R' s).isSome) : missing S R' ≤ missing S R := by
  unfold missing
  rw [← List.countP_eq_length_filter, ← List.countP_eq_length_filter]
  refine List.countP_mono_left ?_
  intro e _ he
  cases hf : find R (sum e) with
  | none => rfl
  | some x =>
    have := h (sum e) (by rw [hf]; rfl)
    cases hf' : find R' (sum e) with
    | none => rw [hf'] at this; cases this
    | some y => rw [hf'] at he; cases he

theorem missing_less {S R : List (List UInt8)} {e : List UInt8} (he : e ∈ S) (hR : find R (sum e) = none) : missing S (R ++ [e]) + 1 ≤ missing S R := by
  have hmono : ∀ s, (find R s).isSome → (find (R ++ [e]) s).isSome := by
    intro s hs
    rw [find_append]
    cases hf : find R s with
    | none => rw [hf] at hs; cases hs
    | some x => rfl
  unfold missing
  obtain ⟨a, b, rfl⟩ := List.append_of_mem he
  have hm := fun (l : List (List UInt8)) => missing_mono (S := l) hmono
  unfold missing at hm
  have h2 : find (R ++ [e]) (sum e) = some e := by rw [find_append, hR, find_one, if_pos rfl]; rfl
  have e1 : List.filter (fun x => (find R (sum x)).isNone) (e :: b) = e :: List.filter (fun x => (find R (sum x)).isNone) b := by rw [List.filter_cons, hR]; rfl
  have e2 : List.filter (fun x => (find (R ++ [e]) (sum x)).isNone) (e :: b) = List.filter (fun x => (find (R ++ [e]) (sum x)).isNone) b := by rw [List.filter_cons, h2]; rfl
  rw [List.filter_append, List.filter_append, List.length_append, List.length_append, e1, e2]
  have := hm a
  have := hm b
  simp only [List.length_cons]
  omega

theorem missing_zero {S R : List (List UInt8)} (h : missing S R = 0) {e : List UInt8} (he : e ∈ S) : (find R (sum e)).isSome := by
  unfold missing at h
  have h1 := List.eq_nil_of_length_eq_zero h
  rw [List.filter_eq_nil_iff] at h1
  have := h1 e he
  cases hf : find R (sum e) with
  | none => rw [hf] at this; exact absurd rfl this
  | some x => rfl

/-- What a search has added to what was reached before. -/
structure Grew (S : List (List UInt8)) (R R' : List (List UInt8)) : Prop where
  sub : ∀ x ∈ R, x ∈ R'
  from' : ∀ x ∈ R', x ∈ R ∨ x ∈ S
  has : ∀ s, (find R s).isSome → (find R' s).isSome
  shut : ∀ x ∈ R', x ∉ R → ∀ c ∈ sumsOf x, (find S c).isSome → (find R' c).isSome
  lone : Lone R → Lone R'

theorem Grew.refl (S R : List (List UInt8)) : Grew S R R := ⟨fun _ h => h, fun _ h => .inl h, fun _ h => h, fun _ h h' => absurd h h', fun h => h⟩

theorem Grew.trans {S R1 R2 R3 : List (List UInt8)} (a : Grew S R1 R2) (b : Grew S R2 R3) : Grew S R1 R3 := by
  refine ⟨fun x h => b.sub x (a.sub x h), fun x h => ?_, fun s h => b.has s (a.has s h), fun x h h1 c hc hs => ?_, fun h => b.lone (a.lone h)⟩
  · rcases b.from' x h with h | h
    · exact a.from' x h
    · exact .inr h
  · by_cases h2 : x ∈ R2
    · exact b.has c (a.shut x h2 h1 c hc hs)
    · exact b.shut x h h2 c hc hs

theorem dfs_grew (S : List (List UInt8)) : ∀ (f : Nat) (s : List UInt8) (R : List (List UInt8)), missing S R ≤ f → Grew S R (dfs S f s R) ∧ ((find S s).isSome → (find (dfs S f s R) s).isSome) := by
  intro f
  induction f with
  | zero =>
    intro s R hm
    refine ⟨Grew.refl _ _, fun h => ?_⟩
    cases hf : find S s with
    | none => rw [hf] at h; cases h
    | some e =>
      obtain ⟨h1, h2⟩ := find_some hf
      have := missing_zero (Nat.le_zero.1 hm) h1
      rw [h2] at this
      exact this
  | succ f ih =>
    intro s R hm
    unfold dfs
    cases hf : find S s with
    | none => exact ⟨Grew.refl _ _, fun h => by cases h⟩
    | some e =>
      obtain ⟨h1, h2⟩ := find_some hf
      cases hr : find R s with
      | some x =>
        have e1 : (if (some x).isSome = true then R else (sumsOf e).foldl (fun R c => dfs S f c R) (R ++ [e])) = R := if_pos rfl
        show Grew S R (if (some x).isSome = true then R else (sumsOf e).foldl (fun R c => dfs S f c R) (R ++ [e])) ∧ _
        rw [e1]
        exact ⟨Grew.refl _ _, fun _ => by show (find (if (some x).isSome = true then R else (sumsOf e).foldl (fun R c => dfs S f c R) (R ++ [e])) s).isSome = true; rw [e1, hr]; rfl⟩
      | none =>
        have e1 : (if (none : Option (List UInt8)).isSome = true then R else (sumsOf e).foldl (fun R c => dfs S f c R) (R ++ [e])) = (sumsOf e).foldl (fun R c => dfs S f c R) (R ++ [e]) := if_neg (by decide)
        show Grew S R (if (none : Option (List UInt8)).isSome = true then R else (sumsOf e).foldl (fun R c => dfs S f c R) (R ++ [e])) ∧ ((some e).isSome = true → (find (if (none : Option (List UInt8)).isSome = true then R else (sumsOf e).foldl (fun R c => dfs S f c R) (R ++ [e])) s).isSome = true)
        rw [e1]
        have hre : find R (sum e) = none := by rw [h2]; exact hr
        have hms : missing S (R ++ [e]) ≤ f := by have := missing_less h1 hre; omega
        have fold : ∀ (l : List (List UInt8)) (T : List (List UInt8)), missing S T ≤ f → Grew S T (l.foldl (fun R c => dfs S f c R) T) ∧ ∀ c ∈ l, (find S c).isSome → (find (l.foldl (fun R c => dfs S f c R) T) c).isSome := by
          intro l
          induction l with
          | nil => intro T _; exact ⟨Grew.refl _ _, fun c hc => by simp at hc⟩
          | cons c l ihl =>
            intro T hT
            obtain ⟨g1, g2⟩ := ih c T hT
            obtain ⟨g3, g4⟩ := ihl (dfs S f c T) (Nat.le_trans (missing_mono g1.has) hT)
            refine ⟨g1.trans g3, fun c' hc' hs' => ?_⟩
            rcases List.mem_cons.1 hc' with rfl | hc'
            · exact g3.has _ (g2 hs')
            · exact g4 c' hc' hs'
        obtain ⟨g1, g2⟩ := fold (sumsOf e) (R ++ [e]) hms
        refine ⟨⟨fun x hx => g1.sub x (List.mem_append_left _ hx), fun x hx => ?_, fun s hs => g1.has s ?_, fun x hx hxR c hc hs => ?_, fun hl => g1.lone (hl.snoc hre)⟩, fun _ => g1.has s ?_⟩
        · rcases g1.from' x hx with h | h
          · rcases List.mem_append.1 h with h | h
            · exact .inl h
            · rw [List.mem_singleton.1 h]; exact .inr h1
          · exact .inr h
        · rw [find_append]
          cases hq : find R s with
          | none => rw [hq] at hs; cases hs
          | some y => rfl
        · by_cases hxe : x ∈ R ++ [e]
          · rcases List.mem_append.1 hxe with h | h
            · exact absurd h hxR
            · rw [List.mem_singleton.1 h] at hc
              exact g2 c hc hs
          · exact g1.shut x hx hxe c hc hs
        · rw [find_append, hr, find_one, if_pos h2]; rfl

theorem missing_le (S R : List (List UInt8)) : missing S R ≤ S.length := List.length_filter_le _ _

theorem forget_from (S : List (List UInt8)) (l : List (List UInt8)) : ∀ (R : List (List UInt8)), Grew S R (l.foldl (fun R r => dfs S S.length r R) R) ∧ ∀ r ∈ l, (find S r).isSome → (find (l.foldl (fun R r => dfs S S.length r R) R) r).isSome := by
  induction l with
  | nil => intro R; exact ⟨Grew.refl _ _, fun c hc => by simp at hc⟩
  | cons c l ihl =>
    intro R
    obtain ⟨g1, g2⟩ := dfs_grew S S.length c R (missing_le S R)
    obtain ⟨g3, g4⟩ := ihl (dfs S S.length c R)
    refine ⟨g1.trans g3, fun c' hc' hs' => ?_⟩
    rcases List.mem_cons.1 hc' with rfl | hc'
    · exact g3.has _ (g2 hs')
    · exact g4 c' hc' hs'

/-- What is left when all is forgotten that the roots do not reach. -/
theorem forget_kept (S roots : List (List UInt8)) : (∀ x ∈ forget S roots, x ∈ S) ∧ Lone (forget S roots) ∧ Closed S (forget S roots) ∧ ∀ r ∈ roots, (find S r).isSome → (find (forget S roots) r).isSome := by
  obtain ⟨g1, g2⟩ := forget_from S roots []
  refine ⟨fun x hx => ?_, g1.lone lone_nil, fun x hx c hc hs => g1.shut x hx (by simp) c hc hs, g2⟩
  rcases g1.from' x hx with h | h
  · simp at h
  · exact h

theorem nodup_len {α : Type} : ∀ (R S : List α), R.Nodup → (∀ x ∈ R, x ∈ S) → R.length ≤ S.length
  | [], _, _, _ => Nat.zero_le _
  | x :: R, S, hn, h => by
    obtain ⟨h1, h2⟩ := List.nodup_cons.1 hn
    obtain ⟨a, b, rfl⟩ := List.append_of_mem (h x (List.mem_cons_self ..))
    have := nodup_len R (a ++ b) h2 (fun y hy => by
      have := h y (List.mem_cons_of_mem _ hy)
      rcases List.mem_append.1 this with h3 | h3
      · exact List.mem_append_left _ h3
      · rcases List.mem_cons.1 h3 with rfl | h3
        · exact absurd hy h1
        · exact List.mem_append_right _ h3)
    simp only [List.length_append, List.length_cons] at this ⊢
    omega

theorem lone_len {S R : List (List UInt8)} (hR : Lone R) (h : ∀ x ∈ R, x ∈ S) : R.length ≤ S.length :=
  nodup_len R S (List.Pairwise.imp (fun {a b} h e => h (by rw [e])) hR) h

theorem forget_len (S roots : List (List UInt8)) : (forget S roots).length ≤ S.length := lone_len (forget_kept S roots).2.1 (forget_kept S roots).1

end Tr
end Go.Proofs.YtbmohenjphmlgaaGreat

/- The store of nodes in memory; the walk of Tell (of the program): it tells what the store tells. -/
namespace Go.Proofs.YtbmohenjphmlgaaGreat
open Go.RowKit
set_option maxRecDepth 100000

theorem zeroNode (w : World) : (zeroValue 86).run Tryz.prog w = .ok .nilIface w := by kernel_rfl
theorem storeKeyed : Maps.Keyed Tryz.prog 9 := Maps.string_keyed Tryz.underlying9

/-- The nodes of a store: those of the elements S, by their sums; nothing of them lies in a block of own, or from C on. -/
def NodesAt (own : Nat → Prop) (C : Nat) (w : World) (S : List (List UInt8)) (f : List UInt8 → Option Value) : Prop :=
  Tr.Lone S ∧ (∀ s, Tr.find S s = none → f s = none) ∧
    ∀ e ∈ S, ∃ v t lo B m, f (Tr.sum e) = some v ∧ Tr.reads e = some t ∧ e.length ≤ 1000 ∧ B ≤ C ∧ (∀ k, own k → k < lo ∨ B ≤ k) ∧ RN lo B w m v t

theorem nodesAt_turns {own : Nat → Prop} {w w' : World} {C C' : Nat} {S : List (List UInt8)} {f : List UInt8 → Option Value} (h : NodesAt own C w S f) (hs : C ≤ C') (ht : ∀ k, k < C → ¬ own k → w'.heap[k]? = w.heap[k]?) : NodesAt own C' w' S f := by
  obtain ⟨h3, h4, h5⟩ := h
  refine ⟨h3, h4, fun e he => ?_⟩
  obtain ⟨v, t, lo, B, m, g1, g2, g3, g4, g5, g6⟩ := h5 e he
  exact ⟨v, t, lo, B, m, g1, g2, g3, Nat.le_trans g4 hs, g5, rn_turn (Nat.le_refl _) (Nat.le_refl _) (fun k k1 k2 => ht k (by omega) (fun ho => by have := g5 k ho; omega)) _ _ _ g6⟩

/-- What a store has in memory: the elements S, by their sums; nothing of it lies in a block of own. -/
def StoreAt (own : Nat → Prop) (w : World) (b : Nat) (S : List (List UInt8)) (f : List UInt8 → Option Value) : Prop :=
  MapAt Tryz.prog 9 w b S.length f ∧ ¬ own b ∧ NodesAt own w.heap.size w S f

theorem storeAt_turns {own : Nat → Prop} {w w' : World} {b : Nat} {S : List (List UInt8)} {f : List UInt8 → Option Value} (h : StoreAt own w b S f) (hs : w.heap.size ≤ w'.heap.size) (ht : ∀ k, k < w.heap.size → ¬ own k → w'.heap[k]? = w.heap[k]?) : StoreAt own w' b S f := by
  obtain ⟨h1, h2, h3⟩ := h
  exact ⟨mapAt_frame h1 (ht b (mapAt_lt h1) h2), h2, nodesAt_turns h3 hs ht⟩

theorem storeAt_later {own : Nat → Prop} {w w' : World} {b : Nat} {S : List (List UInt8)} {f : List UInt8 → Option Value} (h : StoreAt own w b S f) (hb : Below w.heap.size w w') : StoreAt own w' b S f := storeAt_turns h hb.size (fun k hk _ => hb.block k hk)

theorem small_of {e : List UInt8} {t : Itm} (he : e.length ≤ 1000) (h : Tr.reads e = some t) : Small t ∧ e = Itm.enc t ∧ Tr.sound t = true := by
  obtain ⟨h1, h2⟩ := Tr.reads_some h
  obtain ⟨h3, h4⟩ := Tr.whole_enc_eq h1
  exact ⟨⟨h4, Tr.sound_deep h2, by rw [← h3]; exact he⟩, h3, h2⟩

theorem storeAt_node {own : Nat → Prop} {w : World} {b : Nat} {S : List (List UInt8)} {f : List UInt8 → Option Value} (h : StoreAt own w b S f) {s : List UInt8} {v : Value} (hv : f s = some v) : ∃ e t lo B m, Tr.find S s = some e ∧ Tr.reads e = some t ∧ e.length ≤ 1000 ∧ B ≤ w.heap.size ∧ (∀ k, own k → k < lo ∨ B ≤ k) ∧ RN lo B w m v t := by
  obtain ⟨h1, h2, h3, h4, h5⟩ := h
  cases hf : Tr.find S s with
  | none => rw [h4 s hf] at hv; cases hv
  | some e =>
    obtain ⟨he, hs⟩ := Tr.find_some hf
    obtain ⟨v', t, lo, B, m, g1, g2, g3, g4, g5, g6⟩ := h5 e he
    rw [hs, hv] at g1
    cases g1
    exact ⟨e, t, lo, B, m, rfl, g2, g3, g4, g5, g6⟩

theorem storeAt_none {own : Nat → Prop} {w : World} {b : Nat} {S : List (List UInt8)} {f : List UInt8 → Option Value} (h : StoreAt own w b S f) {s : List UInt8} (hv : f s = none) : Tr.find S s = none := by
  cases hf : Tr.find S s with
  | none => rfl
  | some e =>
    obtain ⟨he, hs⟩ := Tr.find_some hf
    obtain ⟨v', t, lo, B, m, g1, _⟩ := h.2.2.2.2 e he
    rw [hs, hv] at g1
    cases g1

theorem storeAt_isNode {own : Nat → Prop} {w : World} {b : Nat} {S : List (List UInt8)} {f : List UInt8 → Option Value} (h : StoreAt own w b S f) {s : List UInt8} {v : Value} (hv : f s = some v) : IsNode v := by
  obtain ⟨e, t, lo, B, m, _, h2, h3, _, _, h6⟩ := storeAt_node h hv
  exact rn_node (small_of h3 h2).1.pure h6

theorem look_node {w : World} {b n : Nat} {f : List UInt8 → Option Value} (h : MapAt Tryz.prog 9 w b n f) (s : ByteArray) (hs : s.size ≤ 1000) :
    (Instr.lookup 146 (.map (some b)) (.string s) true).run Tryz.prog w = .ok (.tuple #[(f s.data.toList).getD .nilIface, .bool (f s.data.toList).isSome]) w :=
  mapAt_look h storeKeyed Tryz.underlying146 Tryz.underlying9 (zeroNode w) s (by unfold maxLen; omega)

set_option maxHeartbeats 1600000 in
/-- The finder of Tell looks into the map. -/
theorem tell1_any (kb k2 k3 n : Nat) (f : List UInt8 → Option Value) (s : ByteArray) (y : Value) (w : World) (hs : s.size ≤ 1000) (hb : w.cell? ⟨kb, 0, none⟩ = some (.pointer (some ⟨k2, 0, none⟩))) (h2 : w.cell? ⟨k2, 0, none⟩ = some (.map (some k3))) (h3 : MapAt Tryz.prog 9 w k3 n f) (hk : kb < w.heap.size) (hk2 : k2 < w.heap.size) (hn : IsNode ((f s.data.toList).getD .nilIface)) :
    Calls Tryz.prog 100 #[.agg #[.string s, y], .pointer (some ⟨kb, 0, none⟩)] w fun e w' => e = .returned (.tuple #[(f s.data.toList).getD .nilIface, .bool (f s.data.toList).isSome]) ∧ Below w.heap.size w w' := by
  have c1 : (w.alloc (.cells #[.string s, y] 139)).cell? ⟨kb, 0, none⟩ = some (.pointer (some ⟨k2, 0, none⟩)) := (World.cell?_of_block (w := w) (Below.heap_alloc _ _ _ hk)).trans hb
  have c2 : (w.alloc (.cells #[.string s, y] 139)).cell? ⟨k2, 0, none⟩ = some (.map (some k3)) := (World.cell?_of_block (w := w) (Below.heap_alloc _ _ _ hk2)).trans h2
  have c3 : MapAt Tryz.prog 9 (w.alloc (.cells #[.string s, y] 139)) k3 n f := mapAt_frame h3 (Below.heap_alloc _ _ _ (mapAt_lt h3))
  have c4 : (w.alloc (.cells #[.string s, y] 139)).cell? ⟨w.heap.size, 0, none⟩ = some (.string s) := cell_of_row _ _ 0 _ _ _ (heap_alloc_new w _)
  have hl := fun q => look_node (w := (w.alloc (.cells #[.string s, y] 139)).drewN q) (mapAt_frame c3 rfl) s hs
  have HB : Hid (Below w.heap.size w (w.alloc (.cells #[.string s, y] 139))) := (Below.refl _ _).alloc (Nat.le_refl _) _
  clear hb h2 h3 c3
  generalize (f s.data.toList).getD .nilIface = v at *
  generalize (f s.data.toList).isSome = ok at *
  rcases hn with rfl | ⟨T, x, rfl⟩
  · go_enter Tryz.func100, Tryz.ntmps100
    go_wp2_with fail
    generalize hW : w.alloc (.cells #[.string s, y] 139) = W at *
    go_quiet (fail)
    go_wp2_with fail
    exact bodyPost_ret (v := .tuple #[.nilIface, .bool ok]) (by simp [results, Tryz.results100, go_sem]) rfl ⟨rfl, belowN HB.out⟩
  · go_enter Tryz.func100, Tryz.ntmps100
    go_wp2_with fail
    generalize hW : w.alloc (.cells #[.string s, y] 139) = W at *
    go_quiet (fail)
    go_wp2_with fail
    exact bodyPost_ret (v := .tuple #[.iface T x, .bool ok]) (by simp [results, Tryz.results100, go_sem]) rfl ⟨rfl, belowN HB.out⟩

theorem enters_tell : Enters 100 := fun args w => by kernel_rfl

/-- What Tell's finder needs. -/
structure Finds (own : Nat → Prop) (W : World) (kb k2 k3 : Nat) (S : List (List UInt8)) (f : List UInt8 → Option Value) : Prop where
  box : W.cell? ⟨kb, 0, none⟩ = some (.pointer (some ⟨k2, 0, none⟩))
  cell : W.cell? ⟨k2, 0, none⟩ = some (.map (some k3))
  kb : kb < W.heap.size
  k2 : k2 < W.heap.size
  store : StoreAt own W k3 S f

theorem finds_later {own : Nat → Prop} {W w : World} {kb k2 k3 : Nat} {S : List (List UInt8)} {f : List UInt8 → Option Value} (h : Finds own W kb k2 k3 S f) (hb : Below W.heap.size W w) : Finds own w kb k2 k3 S f :=
  ⟨(hb.cell (p := ⟨kb, 0, none⟩) h.kb).trans h.box, (hb.cell (p := ⟨k2, 0, none⟩) h.k2).trans h.cell, Nat.lt_of_lt_of_le h.kb hb.size, Nat.lt_of_lt_of_le h.k2 hb.size, storeAt_later h.store hb⟩

theorem finds_any {own : Nat → Prop} {W w : World} {kb k2 k3 : Nat} {S : List (List UInt8)} {f : List UInt8 → Option Value} (h : Finds own W kb k2 k3 S f) (hb : Below W.heap.size W w) (s : ByteArray) (hs : s.size ≤ 1000) (y : Value) :
    Calls Tryz.prog 100 #[.agg #[.string s, y], .pointer (some ⟨kb, 0, none⟩)] w fun e w' => ∃ v ok, e = .returned (.tuple #[v, .bool ok]) ∧ Below W.heap.size W w' ∧ (ok = false → Tr.find S s.data.toList = none) ∧
      (ok = true → ∃ e t lo B m, Tr.find S s.data.toList = some e ∧ Tr.reads e = some t ∧ e.length ≤ 1000 ∧ B ≤ W.heap.size ∧ RN lo B W m v t) := by
  have h' := finds_later h hb
  have hn : IsNode ((f s.data.toList).getD .nilIface) := by
    cases hf : f s.data.toList with
    | none => exact .inl rfl
    | some v => exact storeAt_isNode h.store hf
  refine (tell1_any kb k2 k3 S.length f s y w hs h'.box h'.cell h'.store.1 h'.kb h'.k2 hn).mono ?_
  rintro e w2 ⟨rfl, b2⟩
  refine ⟨_, _, rfl, hb.trans (b2.mono hb.size), fun ho => ?_, fun ho => ?_⟩
  · cases hf : f s.data.toList with
    | none => exact storeAt_none h.store hf
    | some v => rw [hf] at ho; cases ho
  · cases hf : f s.data.toList with
    | none => rw [hf] at ho; cases ho
    | some v =>
      obtain ⟨e, t, lo, B, m, g1, g2, g3, g4, _, g6⟩ := storeAt_node h.store hf
      exact ⟨e, t, lo, B, m, g1, g2, g3, g4, g6⟩

/-- What holds at a node on the way: R is what the store tells. -/
def TJ (W : World) (S : List (List UInt8)) (R : Option Tr.Way) (w : World) (v : Value) (d : ByteArray) : Prop :=
  Below W.heap.size W w ∧ ∃ f t m lo B, B ≤ W.heap.size ∧ RN lo B W m v t ∧ Small t ∧ (∀ c ∈ d.data.toList, c.toNat < 16) ∧ d.size ≤ f ∧ R = Tr.thru S f (Tr.goes t d.data.toList false)

/-- What holds at the end of the way. -/
def TQ (W : World) (R : Option Tr.Way) (x : ByteArray) (ok : Bool) (w : World) : Prop :=
  Below W.heap.size W w ∧ (ok = true → Tr.tellEnd R = (x.data.toList, !x.data.toList.isEmpty, 0)) ∧ (ok = false → Tr.tellEnd R = ([], false, 11))

section
variable {own : Nat → Prop} {W : World} {kb k2 k3 : Nat} {S : List (List UInt8)} {F : List UInt8 → Option Value} (hfs : Finds own W kb k2 k3 S F)
include hfs

/-- A reference by a sum is followed in the store. -/
theorem follow_tell {w : World} {v n : Value} {k : Nat} {l : Bool} {s0 : ByteArray} {a0 : Option Addr} {n0 cap0 : Nat} {R : Option Tr.Way} {s rest : ByteArray} {f : Nat} {br : Bool} (hnd : Nd v k l s0 a0 n0 cap0) (hn : IsNode n) (hs : s.size = 8) (hbr : br = decide (k = 2)) (hB : Below W.heap.size W w)
    (hd : ∀ c ∈ rest.data.toList, c.toNat < 16) (hf : rest.size < f) (hR : R = Tr.tellW S f ⟨rest.data.toList, br, [], false, s.data.toList⟩) :
    Calls Tryz.prog 122 #[v, .agg #[.string s, n], .func (.func 100) #[] #[.pointer (some ⟨kb, 0, none⟩)]] w fun e w' => ∃ v' ok, e = .returned (.tuple #[v', .bool ok]) ∧ (ok = true → TJ W S R w' v' rest) ∧ (ok = false → TQ W R ⟨#[]⟩ false w') := by
  have hsl : s.data.toList.length = 8 := by rw [ba_len]; exact hs
  have hne : s.data.toList ≠ [] := fun e => by rw [e] at hsl; simp at hsl
  obtain ⟨f, rfl⟩ : ∃ f', f = f' + 1 := ⟨f - 1, by omega⟩
  refine follow_sum w enters_tell hn (by omega) (fun v' ok w' => (ok = true → TJ W S R w' v' rest) ∧ (ok = false → TQ W R ⟨#[]⟩ false w')) ?_
  intro w1 b1
  have hB1 : Below W.heap.size W w1 := hB.trans (b1.mono hB.size)
  refine (finds_any hfs hB1 s (by omega) n).mono ?_
  rintro e w2 ⟨v2, ok, rfl, hB2, g2, g1⟩
  refine ⟨v2, ok, rfl, fun h => ?_, fun h => ?_⟩
  · subst h
    refine ⟨fun h => (by cases h), fun _ => ⟨hB2, (fun h => by cases h), fun _ => ?_⟩⟩
    rw [hR, Tr.tellW_lost hne (g2 rfl)]
    rfl
  · subst h
    obtain ⟨e, t', lo', B', m', e0, e2, ez, e3, e4⟩ := g1 rfl
    obtain ⟨hsm, henc, hsd⟩ := small_of ez e2
    obtain ⟨k', l', s', a', n', cap', hnd', hrep', _, hk'⟩ := rn_nd hsm.pure e4
    obtain ⟨m', rfl⟩ : ∃ m, m' = m + 1 := by
      cases m' with
      | zero => exact e4.elim
      | succ m => exact ⟨m, rfl⟩
    have hsum := (Tr.find_some e0).2
    refine (mayFollow_any w2 hnd hnd' hsm (rep_wider (Nat.le_trans e3 hB2.size) _ _ _ (rep_frame (hB2.mono e3) _ _ _ hrep'))).mono ?_
    rintro e' w3 ⟨rfl, b3⟩
    have hB3 : Below W.heap.size W w3 := hB2.trans (b3.mono hB2.size)
    have hfin : R = Tr.thru S f (if (Itm.enc t').length < 8 then none else Tr.goes t' rest.data.toList br) := by
      rw [hR, Tr.tellW_next hne e0, Tr.vstep_reads, e2]
      congr 1
      rw [henc]
      by_cases h8 : (Itm.enc t').length < 8
      · rw [if_pos h8, if_pos]
        simp [h8]
      · rw [if_neg h8, if_neg]
        rw [← henc]
        simp only [Bool.or_eq_true, decide_eq_true_eq, bne_iff_ne, ne_eq, Bool.and_eq_true]
        rintro ((h | h) | h)
        · exact hne h
        · exact h hsum
        · rw [henc] at h; exact h8 h.2
    refine ⟨_, rfl, fun h => ?_, fun h => ?_⟩
    · unfold mayB at h
      simp only [Bool.and_eq_true, Bool.not_eq_true', decide_eq_false_iff_not, Bool.or_eq_true, decide_eq_true_eq] at h
      refine ⟨hB3, f, t', _, lo', B', e3, e4, hsm, hd, by omega, ?_⟩
      rw [hfin, if_neg h.1]
      congr 1
      cases br with
      | false => rfl
      | true =>
        have h2 : k = 2 := of_decide_eq_true hbr.symm
        rcases h.2 with h | h
        · exact absurd h2 h
        · exact Tr.goes_true _ (hk'.1 h)
    · refine ⟨hB3, (fun h => by cases h), fun _ => ?_⟩
      rw [hfin]
      split
      · rfl
      · rename_i h8
        unfold mayB at h
        rw [decide_eq_false h8] at h
        simp only [Bool.not_false, Bool.true_and, Bool.or_eq_false_iff, decide_eq_false_iff_not, Decidable.not_not] at h
        have hb : Tr.isBranch t' = false := by
          cases hb : Tr.isBranch t' with
          | false => rfl
          | true => exact absurd (hk'.2 hb) h.2
        rw [hbr, decide_eq_true h.1, Tr.goes_stop _ hb]
        rfl

theorem way_tell (R : Option Tr.Way) (w : World) (v : Value) (d : ByteArray) (h : TJ W S R w v d) : Way 100 ⟨kb, 0, none⟩ (TJ W S R) (TQ W R) w v d := by
  obtain ⟨hB, f, t, m, lo, B, hBW, hrn, hsm, hd, hdf, hR⟩ := h
  have ends : ∀ (x : ByteArray) (y : Tr.Way), Tr.goes t d.data.toList false = some y → y.need = [] → y.value = x.data.toList → y.found = !x.data.toList.isEmpty → ∀ w', Below w.heap.size w w' → TQ W R x true w' := by
    intro x y he hn hv hf w' b
    refine ⟨hB.trans (b.mono hB.size), fun _ => ?_, fun h => by cases h⟩
    rw [hR, he, Tr.thru_some, Tr.tellW_end hn]
    show (y.value, y.found, 0) = _
    rw [hv, hf]
  cases m with
  | zero => exact hrn.elim
  | succ m =>
    have nb : t.items.length = 2 → Tr.isBranch t = false := fun h => by unfold Tr.isBranch; rw [h]; simp
    have ne : t.list = true → Tr.isEmpty t = false := fun h => by unfold Tr.isEmpty; rw [h]; rfl
    rcases hrn with ⟨he, rfl⟩ | ⟨a1, cap, q, x, h0, h1, h2, h3, h4, h5, rfl⟩ | ⟨a1, cap, q, s, h0, h1, h2, h3, h4, h5, h6, rfl⟩ | ⟨a1, cap, cs, x, h1, h2, h3, h4, rfl, h6⟩
    · exact ⟨_, _, _, _, _, steps_empty d, .inl rfl, fun _ => ends _ _ (Tr.goes_empty _ he) rfl rfl rfl, fun h => by cases h⟩
    · refine ⟨_, _, _, _, _, steps_leaf a1 cap q x d, .inl rfl, fun _ => ?_, fun h => by cases h⟩
      have hg := Tr.goes_leaf d.data.toList q.data.toList (nb h1) (ne h0) h3
      by_cases hq : d = q
      · rw [if_pos hq]
        rw [if_pos (by rw [hq])] at hg
        refine ends _ _ hg rfl h5.symm ?_
        rw [h5]
        unfold Tr.isValue at h4
        simp only [Bool.and_eq_true, decide_eq_true_eq] at h4
        cases hb : (Tr.kid t 1).bytes with
        | nil => rw [hb] at h4; simp at h4
        | cons c r => rfl
      · rw [if_neg hq]
        rw [if_neg (fun e => hq (by cases d; cases q; simp_all))] at hg
        exact ends _ _ hg rfl rfl rfl
    · have hs8 : s.size = 8 := by rw [← ba_len, h6]; exact sum_eight h5
      refine ⟨_, _, _, _, _, steps_ext a1 cap q s d _ (.inl rfl), .inl rfl, fun hn => ?_, fun hp => ?_⟩
      · refine ends _ _ (Tr.goes_miss d.data.toList q.data.toList (nb h1) (ne h0) h3 ?_) rfl rfl rfl
        by_cases hlt : d.data.toList.length < q.data.toList.length
        · exact .inl hlt
        · right
          intro e
          have : pre q d = true := by
            unfold pre
            rw [List.isPrefixOf_iff_prefix, ← e]
            exact List.take_prefix _ _
          rw [hn] at this
          cases this
      · have hcut := cutP_list hp
        have hle := pre_size hp
        have hpre : q.data.toList <+: d.data.toList := List.isPrefixOf_iff_prefix.1 hp
        have hrest : (cutP q d).size < d.size := by rw [← ba_len, hcut, ← ba_len d, List.length_drop, ba_len]; omega
        refine ⟨hrest, fun w' b => ?_⟩
        refine follow_tell hfs (nd_ext a1 cap q s .nilIface) (.inl rfl) hs8 (br := true) rfl (hB.trans (b.mono hB.size)) ?_ (f := f) (by omega) ?_
        · rw [hcut]; exact fun c hc => hd c (List.mem_of_mem_drop hc)
        · rw [hR, Tr.goes_hit d.data.toList q.data.toList (nb h1) (ne h0) h1 h3 (by rw [ba_len, ba_len]; omega) (List.prefix_iff_eq_take.1 hpre).symm]
          unfold Tr.refers Tr.refersOf
          rw [if_pos h5, hcut, ba_len, h6]
          rfl
    · cases hdl : d.data.toList with
      | nil =>
        have : d = ⟨#[]⟩ := by cases d; simp_all
        subst this
        refine ⟨_, _, _, _, _, steps_end a1 cap cs x h3, .inl rfl, fun _ => ends _ _ (Tr.goes_end false h1) rfl h4.symm (by rw [h4]; rfl), fun h => by cases h⟩
      | cons c r =>
        have hc : c.toNat < 16 := hd c (by rw [hdl]; exact List.mem_cons_self ..)
        obtain ⟨s, vd, g1, g2, g3⟩ := h6 c.toNat hc
        have hkid : Small (Tr.kid t c.toNat) := kid_small hsm (by rw [Tr.branch_len h1]; omega)
        have hdown := Tr.goes_down c r false h1 (by omega)
        have hdr : ∀ y ∈ (⟨r.toArray⟩ : ByteArray).data.toList, y.toNat < 16 := fun y hy => hd y (by rw [hdl]; exact List.mem_cons_of_mem _ hy)
        have hsz' : (⟨r.toArray⟩ : ByteArray).size < d.size := by
          show r.toArray.size < d.size
          rw [← ba_len d, hdl, List.size_toArray, List.length_cons]; omega
        rw [hdl, hdown] at hR
        unfold Tr.refers Tr.refersOf at hR
        rcases g3 with ⟨k1, k2', rfl⟩ | ⟨k1, rfl, k3', k4⟩
        · rw [if_pos k1] at hR
          refine ⟨_, _, _, _, _, steps_branch a1 cap cs x d h3 c r hdl hc _ _ (.inl rfl) g1 g2, .inl rfl, (fun h => by cases h), fun _ => ⟨hsz', fun w' b => ?_⟩⟩
          exact follow_tell hfs (nd_branch a1 cap cs x) (.inl rfl) (by rw [← ba_len, k2']; exact sum_eight k1) (br := false) rfl (hB.trans (b.mono hB.size)) hdr (f := f) (by omega) (by rw [hR, k2']; rfl)
        · rw [if_neg (by rw [k1]; decide)] at hR
          have hin := rn_node hkid.pure k3'
          refine ⟨_, _, _, _, _, steps_branch a1 cap cs x d h3 c r hdl hc _ _ hin g1 g2, hin, (fun h => by cases h), fun _ => ⟨hsz', fun w' b => ?_⟩⟩
          refine (follow_own w' hin).mono ?_
          rintro e w2 ⟨rfl, b2⟩
          have hB' : Below W.heap.size W w' := hB.trans (b.mono hB.size)
          exact ⟨_, _, rfl, fun _ => ⟨hB'.trans (b2.mono hB'.size), f, _, m, lo, B, hBW, k3', hkid, hdr, by omega, hR⟩, fun h => by cases h⟩

/-- The first node of the way. -/
theorem root_tell {root d : ByteArray} (hr : root.size = 8) (hd : ∀ c ∈ d.data.toList, c.toNat < 16) (hd20 : d.size ≤ 20) {key : List UInt8} (hkd : Tr.digits key = d.data.toList) {w : World} (hB : Below W.heap.size W w) :
    Calls Tryz.prog 100 #[.agg #[.string root, .nilIface], .pointer (some ⟨kb, 0, none⟩)] w fun e w' => ∃ v' ok, e = .returned (.tuple #[v', .bool ok]) ∧ (ok = true → TJ W S (Tr.tellR S root.data.toList key) w' v' d) ∧ (ok = false → TQ W (Tr.tellR S root.data.toList key) ⟨#[]⟩ false w') := by
  have hrl : root.data.toList.length = 8 := by rw [ba_len]; exact hr
  have hne : root.data.toList ≠ [] := fun e => by rw [e] at hrl; simp at hrl
  refine (finds_any hfs hB root (by omega) .nilIface).mono ?_
  rintro e w2 ⟨v2, ok, rfl, hB2, g2, g1⟩
  refine ⟨v2, ok, rfl, fun h => ?_, fun h => ?_⟩
  · subst h
    obtain ⟨e, t', lo', B', m', e0, e2, ez, e3, e4⟩ := g1 rfl
    obtain ⟨hsm, henc, hsd⟩ := small_of ez e2
    have hsum := (Tr.find_some e0).2
    refine ⟨hB2, 20, t', m', lo', B', e3, e4, hsm, hd, hd20, ?_⟩
    unfold Tr.tellR
    rw [e0]
    show Tr.thru S 20 _ = _
    congr 1
    rw [Tr.vstep_reads, e2, if_neg]
    · rw [hkd]
    · simp only [Bool.or_eq_true, decide_eq_true_eq, bne_iff_ne, ne_eq, Bool.and_eq_true]
      rintro ((h | h) | h)
      · exact hne h
      · exact h hsum
      · omega
  · subst h
    refine ⟨hB2, (fun h => by cases h), fun _ => ?_⟩
    unfold Tr.tellR
    rw [g2 rfl]
    rfl
end

set_option maxHeartbeats 1600000 in
/-- Tell tells what the store tells. -/
theorem tell_any {own : Nat → Prop} (k2 k3 : Nat) (S : List (List UInt8)) (F : List UInt8 → Option Value) (r key : ByteArray) (w : World) (hr : r.size = 8) (h2 : w.heap[k2]? = some (.cells #[.map (some k3)] 148 (0, 0))) (h3 : StoreAt own w k3 S F) :
    Calls Tryz.prog 59 #[.pointer (some ⟨k2, 0, none⟩), .string r, .string key] w fun e w' => ∃ s b n, e = .returned (.tuple #[.string s, .bool b, .int .i64 n]) ∧ (∃ N : Nat, n = N ∧ Tr.tell S r.data.toList key.data.toList = (s.data.toList, b, N)) ∧ Below w.heap.size w w' := by
  by_cases h6 : 6 < key.size
  · refine (tell_key k2 r key w h6).mono ?_
    rintro e w' ⟨rfl, b⟩
    refine ⟨_, _, _, rfl, ⟨3, rfl, ?_⟩, b⟩
    unfold Tr.tell
    rw [if_pos (by rw [ba_len]; exact h6)]
  have h : key.size ≤ 6 := by omega
  have HTL : Hid (Tr.tell S r.data.toList key.data.toList = Tr.tellEnd (Tr.tellR S r.data.toList key.data.toList)) := if_neg (by rw [ba_len]; exact h6)
  have HK := hid (fun s w => isLongKey_any s w)
  have HD := hid (fun w => digitsOf_any key w (by omega))
  have HDL := hid (Tr.digits_lt key.data.toList)
  have HDZ : Hid ((⟨(Tr.digits key.data.toList).toArray⟩ : ByteArray).size ≤ 20) := by
    show (Tr.digits key.data.toList).toArray.size ≤ 20
    rw [List.size_toArray, Tr.digits_len, ba_len]; omega
  have HR := hid hr
  have H2 := hid h2
  have H3 := hid h3
  have HL : Hid (decide ((6 : Int) < key.size) = false) := decide_eq_false (by omega)
  clear h2 h3 h6 h hr
  go_enter Tryz.func59, Tryz.ntmps59
  go_wp2_with fail
  refine (HK.out _ _).mono ?_
  rintro e w1 ⟨rfl, hw⟩
  obtain rfl := hw.symm
  rw [HL.out]
  go_wp2_with fail
  refine (HD.out _).mono ?_
  rintro e w2 ⟨rfl, b2⟩
  have HA : Hid (Below w.heap.size w (w.alloc (.cells #[.pointer (some ⟨k2, 0, none⟩)] 91))) := (Below.refl _ _).alloc (Nat.le_refl _) _
  have HB2 : Hid (Below w.heap.size w w2) := HA.out.trans (b2.mono HA.out.size)
  have HX2 : Hid (w2.heap[w.heap.size]? = some (.cells #[.pointer (some ⟨k2, 0, none⟩)] 91 (0, 0))) := (b2.block _ (by rw [alloc_size]; omega)).trans (heap_alloc_new w _)
  have HY2 : Hid (w2.heap[k2]? = some (.cells #[.map (some k3)] 148 (0, 0))) := (HB2.out.block _ (Array.getElem?_eq_some_iff.1 H2.out).1).trans H2.out
  have HF : Hid (Finds own w2 w.heap.size k2 k3 S F) := ⟨cell_of_row _ _ 0 _ _ _ HX2.out, cell_of_row _ _ 0 _ _ _ HY2.out, (Array.getElem?_eq_some_iff.1 HX2.out).1, (Array.getElem?_eq_some_iff.1 HY2.out).1, storeAt_later H3.out HB2.out⟩
  clear b2
  go_wp2_with fail
  refine (walk_any 100 enters_tell ⟨w.heap.size, 0, none⟩ r .nilIface (.inl rfl) ⟨(Tr.digits key.data.toList).toArray⟩ w2 (TJ w2 S (Tr.tellR S r.data.toList key.data.toList)) (TQ w2 (Tr.tellR S r.data.toList key.data.toList)) (fun w' hb => root_tell HF.out HR.out HDL.out HDZ.out rfl hb) (fun w v d hj => way_tell HF.out _ w v d hj)).mono ?_
  rintro e w3 ⟨x, ok, rfl, b3, q1, q2⟩
  have HB3 : Hid (Below w.heap.size w w3) := HB2.out.trans (b3.mono HB2.out.size)
  cases ok with
  | false =>
    have HQ := hid (q2 rfl)
    clear b3 q1 q2
    go_wp2_with fail
    exact bodyPost_ret (v := .tuple #[.string ⟨#[]⟩, .bool false, .int .i64 11]) (by simp [results, Tryz.results59, go_sem]) rfl ⟨_, _, _, rfl, ⟨11, rfl, by rw [HTL.out, HQ.out]⟩, HB3.out⟩
  | true =>
    have HQ := hid (q1 rfl)
    have HE : Hid ((!(x.toList == [])) = !x.data.toList.isEmpty) := by
      show (!(x.toList == [])) = !x.data.toList.isEmpty
      rw [ByteArray.toList_eq]
      cases x.data.toList <;> rfl
    clear b3 q1 q2
    go_wp2_with fail
    refine bodyPost_ret (v := .tuple #[.string x, .bool (!(x.toList == [])), .int .i64 0]) (by simp [results, Tryz.results59, go_sem]) rfl ⟨_, _, _, rfl, ⟨0, rfl, ?_⟩, HB3.out⟩
    rw [HE.out, HTL.out, HQ.out]
end Go.Proofs.YtbmohenjphmlgaaGreat
