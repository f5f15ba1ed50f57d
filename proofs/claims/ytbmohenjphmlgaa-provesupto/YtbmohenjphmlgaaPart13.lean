/- Part 13 of a proof: what the last text needs. -/
import Derived.Test.YtbmohenjphmlgaaPart1
import Derived.Test.YtbmohenjphmlgaaPart3
import Derived.Deep.RegionHeld3
import Derived.Deep.AppendLies
/- Plain mathematics of trees: sums, digits, paths, sound nodes, ways down, what a proof proves. Nothing of the program is in here. -/
namespace Go.Proofs.Ytbmohenjphmlgaa
set_option maxRecDepth 100000

namespace Tr

/-- One byte more in the sum. -/
def step (h : Nat) (b : UInt8) : Nat := ((h ^^^ b.toNat) * 1099511628211) % 18446744073709551616

/-- The sum of bytes, as a number. -/
def fnv (l : List UInt8) : Nat := l.foldl step 14695981039346656037

/-- The sum of bytes: eight bytes, the highest first. -/
def sum (l : List UInt8) : List UInt8 := (List.range 8).map fun i => UInt8.ofNat (fnv l / 256 ^ (7 - i) % 256)

theorem step_lt (h : Nat) (b : UInt8) : step h b < 18446744073709551616 := Nat.mod_lt _ (by decide)

theorem foldl_lt (l : List UInt8) (h : Nat) (hh : h < 18446744073709551616) : l.foldl step h < 18446744073709551616 := by
  induction l generalizing h with
  | nil => exact hh
  | cons b l ih => exact ih _ (step_lt _ _)

theorem fnv_lt (l : List UInt8) : fnv l < 18446744073709551616 := foldl_lt l _ (by decide)

theorem fnv_nil : fnv [] = 14695981039346656037 := by unfold fnv; rw [List.foldl_nil]

theorem fnv_append (l : List UInt8) (b : UInt8) : fnv (l ++ [b]) = step (fnv l) b := by unfold fnv; rw [List.foldl_append, List.foldl_cons, List.foldl_nil]

/-- The i-th byte of the sum. -/
def sumAt (n i : Nat) : UInt8 := UInt8.ofNat (n / 256 ^ (7 - i) % 256)

theorem sum_eq (l : List UInt8) : sum l = (List.range 8).map (sumAt (fnv l)) := rfl

theorem sum_len (l : List UInt8) : (sum l).length = 8 := by simp [sum]

/-- The digits of bytes. -/
def digits (l : List UInt8) : List UInt8 := l.flatMap fun b => [UInt8.ofNat (b.toNat / 16), UInt8.ofNat (b.toNat % 16)]

theorem digits_cons (b : UInt8) (l : List UInt8) : digits (b :: l) = UInt8.ofNat (b.toNat / 16) :: UInt8.ofNat (b.toNat % 16) :: digits l := by simp [digits]
theorem digits_append (a b : List UInt8) : digits (a ++ b) = digits a ++ digits b := by simp [digits]
theorem digits_len (l : List UInt8) : (digits l).length = 2 * l.length := by
  induction l with
  | nil => simp [digits]
  | cons b l ih => rw [digits_cons]; simp only [List.length_cons]; omega

/-- An item that is none of those that are there. -/
def zero : Itm := ⟨false, [], []⟩

/-- The i-th item within an item. -/
def kid (t : Itm) (i : Nat) : Itm := t.items.getD i zero

/-- The digits of a path, and whether it is marked. -/
def unpath (t : Itm) : Option (List UInt8 × Bool) :=
  if t.list || t.bytes.isEmpty || decide (64 ≤ (t.bytes.getD 0 0).toNat) then none
  else if decide ((t.bytes.getD 0 0).toNat / 16 % 2 ≠ 1) && decide ((t.bytes.getD 0 0).toNat % 16 ≠ 0) then none
  else some ((if (t.bytes.getD 0 0).toNat / 16 % 2 = 1 then [UInt8.ofNat ((t.bytes.getD 0 0).toNat % 16)] else []) ++ digits (t.bytes.drop 1), decide (32 ≤ (t.bytes.getD 0 0).toNat))

def isEmpty (t : Itm) : Bool := !t.list && t.bytes.isEmpty
def isBranch (t : Itm) : Bool := t.list && decide (t.items.length = 17)
def isValue (t : Itm) : Bool := !t.list && decide (1 ≤ t.bytes.length) && decide (t.bytes.length ≤ 40)
def isSum (t : Itm) : Bool := !t.list && decide (t.bytes.length = 8)

/-- Is what stands at a branch's place i as it should be? ok: whether it is itself a sound node. -/
def slotOk (i : Nat) (y : Itm) (ok : Bool) : Bool :=
  isEmpty y || (if i = 16 then isValue y else isSum y || (y.list && ok && decide ((Itm.enc y).length < 8)))

/-- How many of a branch's first n places are not empty. -/
def full (t : Itm) (n : Nat) : Nat := ((List.range n).filter fun i => !isEmpty (kid t i)).length

/-- Is a leaf or an extension as it should be? u: its path, y: what stands behind it. -/
def pairOk (u : Option (List UInt8 × Bool)) (y : Itm) : Bool :=
  match u with
  | none => false
  | some (p, leaf) => if leaf then isValue y else (decide (0 < p.length) && isSum y)

/-- Sound, once it is known which of the items within are. -/
def soundOf (t : Itm) (ok : Nat → Bool) : Bool :=
  isEmpty t ||
  (if t.items.length = 2 then
    pairOk (unpath (kid t 0)) (kid t 1)
  else isBranch t && (List.range 17).all (fun i => slotOk i (kid t i) (ok i)) && decide (2 ≤ full t 17))

/-- Is a node sound? -/
def sound (t : Itm) : Bool := soundOf t (fun i => if h : i < t.items.length then sound t.items[i] else false)
termination_by t
decreasing_by
  have := List.sizeOf_lt_of_mem (List.getElem_mem h)
  cases t
  simp_wf
  simp at this
  omega

theorem sound_eq (t : Itm) : sound t = soundOf t (fun i => if i < t.items.length then sound (kid t i) else false) := by
  rw [sound]
  congr 1
  funext i
  split
  · rename_i h
    unfold kid
    rw [List.getD_eq_getElem?_getD, List.getElem?_eq_getElem h]; rfl
  · rfl

theorem full_zero (t : Itm) : full t 0 = 0 := by unfold full; rw [List.range_zero, List.filter_nil, List.length_nil]

theorem slotOk_eq (i : Nat) (y : Itm) (ok : Bool) : slotOk i y ok = (isEmpty y || (if i = 16 then isValue y else isSum y || (y.list && ok && decide ((Itm.enc y).length < 8)))) := by unfold slotOk; rfl

theorem full_succ (t : Itm) (n : Nat) : full t (n + 1) = full t n + (if isEmpty (kid t n) then 0 else 1) := by
  unfold full
  rw [List.range_succ, List.filter_append, List.length_append]
  cases h : isEmpty (kid t n) <;> simp [h]

theorem full_le (t : Itm) (n : Nat) : full t n ≤ n := by
  have := List.length_filter_le (fun i => !isEmpty (kid t i)) (List.range n)
  rw [List.length_range] at this
  exact this

theorem sound_branch {t : Itm} (he : isEmpty t = false) (hb : isBranch t = true) : sound t = ((List.range 17).all (fun i => slotOk i (kid t i) (sound (kid t i))) && decide (2 ≤ full t 17)) := by
  have hl : t.items.length = 17 := by unfold isBranch at hb; simp at hb; exact hb.2
  have h2 : ¬ t.items.length = 2 := by omega
  rw [sound_eq]
  unfold soundOf
  rw [if_neg h2, he, hb]
  simp only [Bool.false_or, Bool.true_and]
  congr 1
  rw [Bool.eq_iff_iff, List.all_eq_true, List.all_eq_true]
  constructor
  · intro h i hi
    have := h i hi
    rw [List.mem_range] at hi
    rw [if_pos (by omega)] at this
    exact this
  · intro h i hi
    have := h i hi
    rw [List.mem_range] at hi
    rw [if_pos (by omega)]
    exact this

theorem sound_bad {t : Itm} (he : isEmpty t = false) (hb : isBranch t = true) (i : Nat) (hi : i < 17) (h : slotOk i (kid t i) (sound (kid t i)) = false) : sound t = false := by
  rw [sound_branch he hb]
  have : (List.range 17).all (fun i => slotOk i (kid t i) (sound (kid t i))) = false := by
    rw [List.all_eq_false]
    exact ⟨i, List.mem_range.2 hi, by rw [h]; decide⟩
  rw [this]; rfl

theorem sound_good {t : Itm} (he : isEmpty t = false) (hb : isBranch t = true) (h : ∀ i, i < 17 → slotOk i (kid t i) (sound (kid t i)) = true) : sound t = decide (2 ≤ full t 17) := by
  rw [sound_branch he hb]
  have : (List.range 17).all (fun i => slotOk i (kid t i) (sound (kid t i))) = true := by
    rw [List.all_eq_true]
    exact fun i hi => h i (List.mem_range.1 hi)
  rw [this]; rfl

/-- A way down: what it tells, or the sum that must be read next. -/
structure Way where
  digits : List UInt8
  branch : Bool
  value : List UInt8
  found : Bool
  need : List UInt8

def Way.none : Way := ⟨[], false, [], false, []⟩
def Way.tells (v : List UInt8) (b : Bool) : Way := ⟨[], false, v, b, []⟩

/-- The way through a reference. -/
def refersOf (t : Itm) (g : List UInt8 → Bool → Option Way) (k : List UInt8) (branch : Bool) : Option Way :=
  if isSum t then some ⟨k, branch, [], false, t.bytes⟩ else g k branch

/-- The way through a node, once the ways through those within are known. -/
def goesOf (t : Itm) (g : Nat → List UInt8 → Bool → Option Way) (k : List UInt8) (branch : Bool) : Option Way :=
  if branch && !isBranch t then none
  else if isEmpty t then some .none
  else if isBranch t then
    match k with
    | [] => some (.tells (kid t 16).bytes (!(kid t 16).bytes.isEmpty))
    | d :: r => refersOf (kid t d.toNat) (g d.toNat) r false
  else
    let u := (unpath (kid t 0)).getD ([], false)
    if u.2 then (if u.1 = k then some (.tells (kid t 1).bytes true) else some .none)
    else if k.length < u.1.length || k.take u.1.length != u.1 then some .none
    else refersOf (kid t 1) (g 1) (k.drop u.1.length) true

/-- The way through a node. -/
def goes (t : Itm) (k : List UInt8) (branch : Bool) : Option Way := goesOf t (fun i k b => if h : i < t.items.length then goes t.items[i] k b else none) k branch
termination_by t
decreasing_by
  have := List.sizeOf_lt_of_mem (List.getElem_mem h)
  cases t
  simp_wf
  simp at this
  omega

theorem goes_eq (t : Itm) (k : List UInt8) (branch : Bool) : goes t k branch = goesOf t (fun i k b => if i < t.items.length then goes (kid t i) k b else none) k branch := by
  rw [goes]
  congr 1
  funext i k b
  split
  · rename_i h
    unfold kid
    rw [List.getD_eq_getElem?_getD, List.getElem?_eq_getElem h]; rfl
  · rfl

def refers (t : Itm) (k : List UInt8) (branch : Bool) : Option Way := refersOf t (goes t) k branch

theorem branch_len {t : Itm} (hb : isBranch t = true) : t.items.length = 17 := by unfold isBranch at hb; simp at hb; exact hb.2

theorem branch_full {t : Itm} (hb : isBranch t = true) : isEmpty t = false := by
  unfold isBranch at hb; simp at hb
  unfold isEmpty; simp [hb.1]

theorem goes_stop {t : Itm} (k : List UInt8) (hb : isBranch t = false) : goes t k true = none := by
  rw [goes_eq]; unfold goesOf; rw [hb]; rfl

theorem goes_empty {t : Itm} (k : List UInt8) (he : isEmpty t = true) : goes t k false = some .none := by
  rw [goes_eq]; unfold goesOf; rw [he]; rfl

theorem goes_end {t : Itm} (br : Bool) (hb : isBranch t = true) : goes t [] br = some (.tells (kid t 16).bytes (!(kid t 16).bytes.isEmpty)) := by
  rw [goes_eq]; unfold goesOf; rw [hb, branch_full hb]; simp

theorem goes_down {t : Itm} (c : UInt8) (r : List UInt8) (br : Bool) (hb : isBranch t = true) (hc : c.toNat < 17) : goes t (c :: r) br = refers (kid t c.toNat) r false := by
  have hl := branch_len hb
  rw [goes_eq]; unfold goesOf refers; rw [hb, branch_full hb]
  have hi : c.toNat < t.items.length := by omega
  simp only [Bool.not_true, Bool.and_false, Bool.false_eq_true, if_false, if_true, hi]

theorem goes_leaf {t : Itm} (k p : List UInt8) (hb : isBranch t = false) (he : isEmpty t = false) (hu : unpath (kid t 0) = some (p, true)) : goes t k false = if p = k then some (.tells (kid t 1).bytes true) else some .none := by
  rw [goes_eq]; unfold goesOf; rw [hb, he, hu]; simp

theorem goes_miss {t : Itm} (k p : List UInt8) (hb : isBranch t = false) (he : isEmpty t = false) (hu : unpath (kid t 0) = some (p, false)) (hm : k.length < p.length ∨ k.take p.length ≠ p) : goes t k false = some .none := by
  rw [goes_eq]; unfold goesOf; rw [hb, he, hu]
  simp only [Bool.false_and, Bool.false_eq_true, if_false, Option.getD_some]
  rw [if_pos]
  rcases hm with h | h
  · simp [h]
  · simp [h]

theorem goes_hit {t : Itm} (k p : List UInt8) (hb : isBranch t = false) (he : isEmpty t = false) (h2 : t.items.length = 2) (hu : unpath (kid t 0) = some (p, false)) (hm : ¬ k.length < p.length) (hm2 : k.take p.length = p) : goes t k false = refers (kid t 1) (k.drop p.length) true := by
  rw [goes_eq]; unfold goesOf refers; rw [hb, he, hu]
  simp only [Bool.false_and, Bool.false_eq_true, if_false, Option.getD_some]
  rw [if_neg (by simp [hm, hm2])]
  have hi : 1 < t.items.length := by omega
  simp only [hi, if_true]

/-- What a sound node has in it. -/
theorem sound_two {t : Itm} (hs : sound t = true) (he : isEmpty t = false) (hb : isBranch t = false) : t.items.length = 2 ∧ pairOk (unpath (kid t 0)) (kid t 1) = true := by
  rw [sound_eq] at hs
  unfold soundOf at hs
  rw [he, hb] at hs
  simp only [Bool.false_or, Bool.false_and] at hs
  split at hs
  · rename_i h; exact ⟨h, hs⟩
  · simp at hs

theorem sound_down {t : Itm} (hs : sound t = true) (hb : isBranch t = true) (i : Nat) (hi : i < 16) : isSum (kid t i) = true ∨ sound (kid t i) = true := by
  rw [sound_branch (branch_full hb) hb] at hs
  simp only [Bool.and_eq_true, List.all_eq_true] at hs
  have := hs.1 i (List.mem_range.2 (by omega))
  rw [slotOk_eq, if_neg (by omega)] at this
  simp only [Bool.or_eq_true, Bool.and_eq_true] at this
  rcases this with h | h | h
  · right; rw [sound_eq]; unfold soundOf; rw [h]; rfl
  · exact .inl h
  · exact .inr h.1.2

/-- The item whose bytes these are. -/
def whole (s : List UInt8) : Option Itm := match Itm.parse s.length s with | some (t, []) => some t | _ => none

/-- One element of a proof. -/
def vstep (i : Nat) (w : Way) (s : List UInt8) : Option Way :=
  if w.need = [] || sum s != w.need || (decide (0 < i) && decide (s.length < 8)) then none
  else match whole s with
    | none => none
    | some t => if sound t then goes t w.digits w.branch else none

def vloop : Nat → Way → List (List UInt8) → Option Way
  | _, w, [] => some w
  | i, w, s :: l => match vstep i w s with
    | none => none
    | some w' => vloop (i + 1) w' l

/-- The answer at the end of the way. -/
def verEnd (o : Option Way) : List UInt8 × Bool × Nat :=
  match o with
  | none => ([], false, 6)
  | some w => if w.need = [] then (w.value, w.found, 0) else ([], false, 6)

/-- What a proof proves. -/
def verify (root key : List UInt8) (proof : List (List UInt8)) : List UInt8 × Bool × Nat :=
  if root.length ≠ 8 then ([], false, 5)
  else if 6 < key.length then ([], false, 3)
  else if 20 < proof.length ∨ ∃ s ∈ proof, 1000 < s.length then ([], false, 2)
  else verEnd (vloop 0 ⟨digits key, false, [], false, root⟩ proof)

theorem vloop_cons (i : Nat) (w : Way) (s : List UInt8) (l : List (List UInt8)) : vloop i w (s :: l) = match vstep i w s with | none => none | some w' => vloop (i + 1) w' l := by rw [vloop]

theorem vloop_stop {i : Nat} {w : Way} {s : List UInt8} {l : List (List UInt8)} (h : vstep i w s = none) : vloop i w (s :: l) = none := by rw [vloop_cons, h]

theorem vloop_go {i : Nat} {w w' : Way} {s : List UInt8} {l : List (List UInt8)} (h : vstep i w s = some w') : vloop i w (s :: l) = vloop (i + 1) w' l := by rw [vloop_cons, h]

theorem vstep_a {i : Nat} {w : Way} {s : List UInt8} (h : w.need = []) : vstep i w s = none := by unfold vstep; simp [h]
theorem vstep_b {i : Nat} {w : Way} {s : List UInt8} (h : sum s ≠ w.need) : vstep i w s = none := by unfold vstep; simp [h]
theorem vstep_c {i : Nat} {w : Way} {s : List UInt8} (h : 0 < i) (h2 : s.length < 8) : vstep i w s = none := by unfold vstep; simp [h, h2]
theorem vstep_d {i : Nat} {w : Way} {s : List UInt8} (h0 : w.need ≠ []) (h1 : sum s = w.need) (h2 : ¬ (0 < i ∧ s.length < 8)) : vstep i w s = match whole s with | none => none | some t => if sound t then goes t w.digits w.branch else none := by
  unfold vstep
  rw [if_neg]
  intro h
  simp only [Bool.or_eq_true, decide_eq_true_eq, bne_iff_ne, ne_eq, Bool.and_eq_true] at h
  rcases h with (h | h) | h
  · exact h0 h
  · exact h h1
  · exact h2 h
theorem vstep_none {i : Nat} {w : Way} {s : List UInt8} (h0 : w.need ≠ []) (h1 : sum s = w.need) (h2 : ¬ (0 < i ∧ s.length < 8)) (h : whole s = none) : vstep i w s = none := by rw [vstep_d h0 h1 h2, h]
theorem vstep_unsound {i : Nat} {w : Way} {s : List UInt8} {t : Itm} (h0 : w.need ≠ []) (h1 : sum s = w.need) (h2 : ¬ (0 < i ∧ s.length < 8)) (h : whole s = some t) (hs : sound t = false) : vstep i w s = none := by rw [vstep_d h0 h1 h2, h]; simp [hs]
theorem vstep_goes {i : Nat} {w : Way} {s : List UInt8} {t : Itm} (h0 : w.need ≠ []) (h1 : sum s = w.need) (h2 : ¬ (0 < i ∧ s.length < 8)) (h : whole s = some t) (hs : sound t = true) : vstep i w s = goes t w.digits w.branch := by rw [vstep_d h0 h1 h2, h]; simp [hs]

end Tr
end Go.Proofs.Ytbmohenjphmlgaa

/- Plain mathematics of ways down. Nothing of the program is in here. -/
namespace Go.Proofs.Ytbmohenjphmlgaa
set_option maxRecDepth 100000

namespace Tr

theorem digits_lt (l : List UInt8) : ∀ c ∈ digits l, c.toNat < 16 := by
  intro c hc
  unfold digits at hc
  rw [List.mem_flatMap] at hc
  obtain ⟨b, _, hb⟩ := hc
  have hlt := b.toNat_lt
  simp only [List.mem_cons, List.not_mem_nil, or_false] at hb
  rcases hb with rfl | rfl
  · simp; omega
  · simp; omega

theorem goes_sub : ∀ (t : Itm) (k : List UInt8) (br : Bool) (y : Way), goes t k br = some y → (∀ c ∈ y.digits, c ∈ k) ∧ y.digits.length ≤ k.length := by
  intro t
  refine Itm.ind (p := fun t => ∀ (k : List UInt8) (br : Bool) (y : Way), goes t k br = some y → (∀ c ∈ y.digits, c ∈ k) ∧ y.digits.length ≤ k.length) ?_ t
  intro t ih k br y h
  have hnone : (some Way.none = some y) → (∀ c ∈ y.digits, c ∈ k) ∧ y.digits.length ≤ k.length := by
    intro e; cases e; exact ⟨fun c hc => (by simp [Way.none] at hc), by simp [Way.none]⟩
  have htells : ∀ v b, (some (Way.tells v b) = some y) → (∀ c ∈ y.digits, c ∈ k) ∧ y.digits.length ≤ k.length := by
    intro v b e; cases e; exact ⟨fun c hc => (by simp [Way.tells] at hc), by simp [Way.tells]⟩
  have hdown : ∀ (i : Nat) (r : List UInt8) (b : Bool), refersOf (kid t i) (fun k b => if i < t.items.length then goes (kid t i) k b else none) r b = some y → (∀ c ∈ r, c ∈ k) → r.length ≤ k.length → (∀ c ∈ y.digits, c ∈ k) ∧ y.digits.length ≤ k.length := by
    intro i r b e hr hl
    unfold refersOf at e
    split at e
    · cases e; exact ⟨hr, hl⟩
    · by_cases hi : i < t.items.length
      · simp only [hi, if_true] at e
        have hm : kid t i ∈ t.items := by
          unfold kid
          rw [List.getD_eq_getElem?_getD, List.getElem?_eq_getElem hi]
          exact List.getElem_mem hi
        obtain ⟨q1, q2⟩ := ih _ hm r b y e
        exact ⟨fun c hc => hr c (q1 c hc), Nat.le_trans q2 hl⟩
      · simp only [hi, if_false] at e
        cases e
  rw [goes_eq] at h
  unfold goesOf at h
  split at h
  · cases h
  · split at h
    · exact hnone h
    · split at h
      · split at h
        · exact htells _ _ h
        · exact hdown _ _ _ h (fun c hc => by simp [hc]) (by simp)
      · dsimp only at h
        split at h
        · split at h
          · exact htells _ _ h
          · exact hnone h
        · split at h
          · exact hnone h
          · exact hdown 1 _ _ h (fun c hc => List.mem_of_mem_drop hc) (by simp)

theorem whole_some {s : List UInt8} {t : Itm} (h : whole s = some t) : Itm.parse s.length s = some (t, []) := by
  unfold whole at h
  split at h
  · rename_i t' h'
    cases h
    exact h'
  · cases h

theorem whole_none {s : List UInt8} (h : whole s = none) : ∀ t, Itm.parse s.length s ≠ some (t, []) := by
  intro t e
  unfold whole at h
  rw [e] at h
  cases h

end Tr
end Go.Proofs.Ytbmohenjphmlgaa

/- Plain mathematics of trees: paths, tables, their nodes, the root. Nothing of the program is in here. -/
namespace Go.Proofs.Ytbmohenjphmlgaa
set_option maxRecDepth 100000

namespace Tr

/-- What is left of a key's digits, and its value. -/
structure Ent where
  dig : List UInt8
  val : List UInt8

/-- Two digits a byte. -/
def pack : List UInt8 → List UInt8
  | a :: b :: r => UInt8.ofNat (16 * a.toNat + b.toNat) :: pack r
  | _ => []

/-- The path of digits. -/
def path (l : List UInt8) (leaf : Bool) : List UInt8 :=
  if l.length % 2 = 1 then UInt8.ofNat ((if leaf then 32 else 0) + 16 + (l.getD 0 0).toNat) :: pack (l.drop 1)
  else UInt8.ofNat (if leaf then 32 else 0) :: pack l

/-- What two begin with alike. -/
def lcp : List UInt8 → List UInt8 → List UInt8
  | a :: r, b :: s => if a = b then a :: lcp r s else []
  | _, _ => []

def sharedFrom (s : List UInt8) (l : List Ent) : List UInt8 := l.foldl (fun s x => lcp s x.dig) s

/-- What all begin with alike. -/
def shared : List Ent → List UInt8
  | [] => []
  | e :: l => sharedFrom e.dig (e :: l)

/-- Those that begin with s, without it. -/
def behind (s : List UInt8) (l : List Ent) : List Ent := l.filterMap fun e => if s.isPrefixOf e.dig then some ⟨e.dig.drop s.length, e.val⟩ else none

/-- The value of the one without digits. -/
def valOf (l : List Ent) : List UInt8 := l.foldl (fun v e => if e.dig = [] then e.val else v) []

def itB (s : List UInt8) : Itm := ⟨false, s, []⟩
def itL (l : List Itm) : Itm := ⟨true, [], l⟩

/-- The reference to a node. -/
def ref (t : Itm) : Itm := if (Itm.enc t).length < 8 then t else itB (sum (Itm.enc t))

/-- The node of entries, once those of fewer digits are known. -/
def nodeOf (g : List Ent → Itm) (l : List Ent) : Itm :=
  match l with
  | [] => itB []
  | [e] => itL [itB (path e.dig true), itB e.val]
  | _ => if shared l = [] then itL ((List.range 16).map (fun d => ref (g (behind [UInt8.ofNat d] l))) ++ [itB (valOf l)])
         else itL [itB (path (shared l) false), ref (g (behind (shared l) l))]

/-- The node of entries, with so many steps down at most. -/
def node : Nat → List Ent → Itm
  | 0, _ => zero
  | f + 1, l => nodeOf (node f) l

/-- The pairs that count. -/
def table : List (List UInt8 × List UInt8) → List Ent
  | [] => []
  | p :: r => if p.1 ∈ r.map (·.1) ∨ p.2 = [] then table r else ⟨digits p.1, p.2⟩ :: table r

/-- What is wrong with pairs: nought if nothing is. -/
def fault (ps : List (List UInt8 × List UInt8)) (key : List UInt8) : Nat :=
  if 60 < ps.length then 2
  else if (∃ p ∈ ps, 6 < p.1.length) ∨ 6 < key.length then 3
  else if ∃ p ∈ ps, 40 < p.2.length then 4
  else 0

/-- The root of a table. -/
def root (ps : List (List UInt8 × List UInt8)) : List UInt8 × Nat :=
  if fault ps [] = 0 then (sum (Itm.enc (node 13 (table ps))), 0) else ([], fault ps [])

theorem lcp_left : ∀ a b : List UInt8, lcp a b <+: a
  | [], _ => by simp [lcp]
  | _ :: _, [] => by simp [lcp]
  | a :: r, b :: s => by
    rw [lcp]
    split
    · rw [List.cons_prefix_cons]; exact ⟨rfl, lcp_left r s⟩
    · exact List.nil_prefix

theorem lcp_right : ∀ a b : List UInt8, lcp a b <+: b
  | [], _ => by simp [lcp]
  | _ :: _, [] => by simp [lcp]
  | a :: r, b :: s => by
    rw [lcp]
    split
    · rename_i h; rw [List.cons_prefix_cons]; exact ⟨h, lcp_right r s⟩
    · exact List.nil_prefix

theorem lcp_most : ∀ (p a b : List UInt8), p <+: a → p <+: b → p <+: lcp a b
  | [], _, _, _, _ => List.nil_prefix
  | c :: p, [], _, h, _ => by simp at h
  | c :: p, _ :: _, [], _, h => by simp at h
  | c :: p, a :: r, b :: s, h1, h2 => by
    rw [List.cons_prefix_cons] at h1 h2
    obtain ⟨rfl, h1⟩ := h1
    obtain ⟨rfl, h2⟩ := h2
    rw [lcp, if_pos rfl, List.cons_prefix_cons]
    exact ⟨rfl, lcp_most p r s h1 h2⟩

theorem lcp_self (a : List UInt8) : lcp a a = a := by
  induction a with
  | nil => rfl
  | cons c a ih => rw [lcp, if_pos rfl, ih]

theorem sharedFrom_cons (s : List UInt8) (e : Ent) (l : List Ent) : sharedFrom s (e :: l) = sharedFrom (lcp s e.dig) l := rfl

theorem sharedFrom_iff (p s : List UInt8) (l : List Ent) : p <+: sharedFrom s l ↔ p <+: s ∧ ∀ e ∈ l, p <+: e.dig := by
  induction l generalizing s with
  | nil => simp [sharedFrom]
  | cons e l ih =>
    rw [sharedFrom_cons, ih]
    constructor
    · rintro ⟨h1, h2⟩
      refine ⟨h1.trans (lcp_left _ _), fun x hx => ?_⟩
      rcases List.mem_cons.1 hx with rfl | hx
      · exact h1.trans (lcp_right _ _)
      · exact h2 x hx
    · rintro ⟨h1, h2⟩
      exact ⟨lcp_most _ _ _ h1 (h2 e (by simp)), fun x hx => h2 x (by simp [hx])⟩

theorem shared_iff (p : List UInt8) (l : List Ent) (hl : l ≠ []) : p <+: shared l ↔ ∀ e ∈ l, p <+: e.dig := by
  cases l with
  | nil => exact absurd rfl hl
  | cons e l =>
    unfold shared
    rw [sharedFrom_iff]
    exact ⟨fun h => h.2, fun h => ⟨h e (by simp), h⟩⟩

theorem shared_pre (l : List Ent) (e : Ent) (he : e ∈ l) : shared l <+: e.dig := (shared_iff (shared l) l (fun h => by rw [h] at he; simp at he)).1 (List.prefix_refl _) e he

/-- The first n digits are those that all begin with, if all do and no more of them. -/
theorem shared_eq (e : Ent) (l : List Ent) (n : Nat) (h1 : ∀ x ∈ e :: l, n ≤ x.dig.length ∧ x.dig.take n = e.dig.take n) (x : Ent) (hx : x ∈ e :: l) (h2 : x.dig.length ≤ n ∨ x.dig[n]? ≠ e.dig[n]?) : shared (e :: l) = e.dig.take n := by
  have hp : e.dig.take n <+: shared (e :: l) := (shared_iff _ _ (by simp)).2 (fun y hy => by rw [← (h1 y hy).2]; exact List.take_prefix _ _)
  have h0 := h1 e (by simp)
  have hle : (shared (e :: l)).length ≤ n := by
    rcases Nat.lt_or_ge n (shared (e :: l)).length with hlt | hge
    · exfalso
      have ha := shared_pre (e :: l) x hx
      have hb := shared_pre (e :: l) e (by simp)
      obtain ⟨ra, ha⟩ := ha
      obtain ⟨rb, hb⟩ := hb
      rcases h2 with h2 | h2
      · have := congrArg List.length ha
        rw [List.length_append] at this
        omega
      · apply h2
        rw [← ha, ← hb, List.getElem?_append_left hlt, List.getElem?_append_left hlt]
    · exact hge
  have hlen : (e.dig.take n).length = n := by rw [List.length_take]; omega
  exact (List.IsPrefix.eq_of_length_le hp (by omega)).symm

theorem pack_even (l : List UInt8) : ∀ k, l.length = 2 * k → (pack l).length = k := by
  intro k
  induction k generalizing l with
  | zero => intro h; have : l = [] := by simpa using h
            subst this; rfl
  | succ k ih =>
    intro h
    match l, h with
    | a :: b :: r, h => rw [pack]; simp only [List.length_cons]; rw [ih r (by simp at h; omega)]

theorem pack_two (a b : UInt8) (r : List UInt8) : pack (a :: b :: r) = UInt8.ofNat (16 * a.toNat + b.toNat) :: pack r := by rw [pack]

theorem pack_snoc (l : List UInt8) (a b : UInt8) : ∀ k, l.length = 2 * k → pack (l ++ [a, b]) = pack l ++ [UInt8.ofNat (16 * a.toNat + b.toNat)] := by
  intro k
  induction k generalizing l with
  | zero => intro h; have : l = [] := by simpa using h
            subst this; rfl
  | succ k ih =>
    intro h
    match l, h with
    | c :: d :: r, h => rw [List.cons_append, List.cons_append, pack_two, pack_two, ih r (by simp at h; omega), List.cons_append]

theorem pack_le (l : List UInt8) : 2 * (pack l).length ≤ l.length := by
  fun_induction pack l with
  | case1 a b r ih => simp only [List.length_cons]; omega
  | case2 => simp

theorem path_len (l : List UInt8) (leaf : Bool) : (path l leaf).length ≤ l.length / 2 + 1 := by
  unfold path
  split
  · have := pack_le (l.drop 1)
    rw [List.length_drop] at this
    simp only [List.length_cons]; omega
  · have := pack_le l
    simp only [List.length_cons]; omega

theorem behind_mem {s : List UInt8} {l : List Ent} {x : Ent} (h : x ∈ behind s l) : ∃ e ∈ l, e.dig = s ++ x.dig ∧ e.val = x.val := by
  unfold behind at h
  rw [List.mem_filterMap] at h
  obtain ⟨e, he, h⟩ := h
  split at h
  · rename_i hp
    rw [List.isPrefixOf_iff_prefix] at hp
    obtain ⟨r, hr⟩ := hp
    cases h
    exact ⟨e, he, by rw [← hr]; simp, rfl⟩
  · cases h

theorem behind_nil (s : List UInt8) : behind s [] = [] := rfl
theorem behind_hit {s : List UInt8} {e : Ent} {l : List Ent} (h : s <+: e.dig) : behind s (e :: l) = ⟨e.dig.drop s.length, e.val⟩ :: behind s l := by
  unfold behind
  rw [List.filterMap_cons, if_pos (List.isPrefixOf_iff_prefix.2 h)]
theorem behind_miss {s : List UInt8} {e : Ent} {l : List Ent} (h : ¬ s <+: e.dig) : behind s (e :: l) = behind s l := by
  unfold behind
  rw [List.filterMap_cons, if_neg (by rw [List.isPrefixOf_iff_prefix]; exact h)]
theorem behind_append (s : List UInt8) (a b : List Ent) : behind s (a ++ b) = behind s a ++ behind s b := by unfold behind; rw [List.filterMap_append]
theorem behind_all {s : List UInt8} {l : List Ent} (h : ∀ e ∈ l, s <+: e.dig) : behind s l = l.map fun e => ⟨e.dig.drop s.length, e.val⟩ := by
  induction l with
  | nil => rfl
  | cons e l ih => rw [behind_hit (h e (by simp)), ih (fun x hx => h x (by simp [hx])), List.map_cons]

/-- Entries of at most so many digits, each below 16, with values that may be. -/
def Fits (f : Nat) (l : List Ent) : Prop := ∀ e ∈ l, e.dig.length < f ∧ (∀ c ∈ e.dig, c.toNat < 16) ∧ e.val.length ≤ 40

theorem Fits.behind {f : Nat} {l : List Ent} {s : List UInt8} (h : Fits (f + 1) l) (hs : s ≠ []) : Fits f (behind s l) := by
  intro x hx
  obtain ⟨e, he, h1, h2⟩ := behind_mem hx
  obtain ⟨a1, a2, a3⟩ := h e he
  rw [h1] at a1 a2
  rw [List.length_append] at a1
  have : 0 < s.length := List.length_pos_iff.2 hs
  exact ⟨by omega, fun c hc => a2 c (by simp [hc]), by rw [← h2]; exact a3⟩

theorem encB_len (s : List UInt8) (h : s.length ≤ 55) : (Itm.encB s).length ≤ s.length + 1 := by
  unfold Itm.encB
  split
  · omega
  · unfold Itm.headed Itm.head
    rw [if_pos h]
    simp

theorem enc_itB (s : List UInt8) : Itm.enc (itB s) = Itm.encB s := by rw [Itm.enc_eq]; rfl
theorem enc_itL (l : List Itm) : Itm.enc (itL l) = Itm.headed 192 (l.flatMap Itm.enc) := by rw [Itm.enc_eq]; rfl

theorem headed_short (b : Nat) (s : List UInt8) (h : s.length < 65536) : (Itm.headed b s).length ≤ s.length + 3 := by
  unfold Itm.headed Itm.head
  split
  · simp
  · have := Itm.be_len_le s.length 2 h (by decide)
    simp; omega

theorem ref_len (t : Itm) : (Itm.enc (ref t)).length ≤ 9 := by
  unfold ref
  split
  · omega
  · rw [enc_itB]
    have := encB_len (sum (Itm.enc t)) (by rw [sum_len]; decide)
    rw [sum_len] at this
    exact this

theorem flatMap_len (l : List Itm) (n : Nat) (h : ∀ x ∈ l, (Itm.enc x).length ≤ n) : (l.flatMap Itm.enc).length ≤ n * l.length := by
  induction l with
  | nil => simp
  | cons x l ih =>
    have h1 := h x (by simp)
    have h2 := ih (fun y hy => h y (by simp [hy]))
    simp only [List.flatMap_cons, List.length_append, List.length_cons]
    rw [Nat.mul_succ]
    omega

theorem valOf_le (l : List Ent) (n : Nat) (h : ∀ e ∈ l, e.val.length ≤ n) : (valOf l).length ≤ n := by
  unfold valOf
  have : ∀ (l : List Ent) (v : List UInt8), v.length ≤ n → (∀ e ∈ l, e.val.length ≤ n) → (l.foldl (fun v e => if e.dig = [] then e.val else v) v).length ≤ n := by
    intro l
    induction l with
    | nil => intro v hv _; exact hv
    | cons e l ih =>
      intro v hv hl
      rw [List.foldl_cons]
      refine ih _ ?_ (fun x hx => hl x (by simp [hx]))
      split
      · exact hl e (by simp)
      · exact hv
  exact this l [] (by simp) h

theorem node_len (f : Nat) (l : List Ent) (hf : f ≤ 100) (h : Fits f l) : (Itm.enc (node f l)).length ≤ 300 := by
  cases f with
  | zero => rw [node]; unfold zero; rw [Itm.enc_eq]; decide
  | succ f =>
    rw [node]
    unfold nodeOf
    match l, h with
    | [], _ => rw [enc_itB]; decide
    | [e], h =>
      obtain ⟨a1, _, a3⟩ := h e (by simp)
      dsimp only
      rw [enc_itL]
      have h1 := path_len e.dig true
      have h2 := encB_len (path e.dig true) (by omega)
      have h3 := encB_len e.val (by omega)
      have h4 := headed_short 192 ([itB (path e.dig true), itB e.val].flatMap Itm.enc) (by simp only [List.flatMap_cons, List.flatMap_nil, enc_itB, List.length_append, List.length_nil]; omega)
      simp only [List.flatMap_cons, List.flatMap_nil, enc_itB, List.length_append, List.length_nil] at h4 ⊢
      omega
    | e :: e2 :: r, h =>
      dsimp only
      split
      · rw [enc_itL]
        have h1 := valOf_le (e :: e2 :: r) 40 (fun x hx => (h x hx).2.2)
        have h2 := encB_len (valOf (e :: e2 :: r)) (by omega)
        have h3 := flatMap_len ((List.range 16).map (fun d => ref (node f (behind [UInt8.ofNat d] (e :: e2 :: r))))) 9 (fun x hx => by rw [List.mem_map] at hx; obtain ⟨d, _, rfl⟩ := hx; exact ref_len _)
        rw [List.length_map, List.length_range] at h3
        have h4 := headed_short 192 (((List.range 16).map (fun d => ref (node f (behind [UInt8.ofNat d] (e :: e2 :: r)))) ++ [itB (valOf (e :: e2 :: r))]).flatMap Itm.enc) (by rw [List.flatMap_append, List.length_append]; simp only [List.flatMap_cons, List.flatMap_nil, enc_itB, List.length_append, List.length_nil]; omega)
        rw [List.flatMap_append, List.length_append] at h4
        rw [List.flatMap_append]
        simp only [List.flatMap_cons, List.flatMap_nil, enc_itB, List.length_append, List.length_nil] at h4 ⊢
        omega
      · rw [enc_itL]
        have h0 : (shared (e :: e2 :: r)).length ≤ e.dig.length := (shared_pre _ e (by simp)).length_le
        obtain ⟨a1, _, _⟩ := h e (by simp)
        have h1 := path_len (shared (e :: e2 :: r)) false
        have h2 := encB_len (path (shared (e :: e2 :: r)) false) (by omega)
        have h3 := ref_len (node f (behind (shared (e :: e2 :: r)) (e :: e2 :: r)))
        have h4 := headed_short 192 ([itB (path (shared (e :: e2 :: r)) false), ref (node f (behind (shared (e :: e2 :: r)) (e :: e2 :: r)))].flatMap Itm.enc) (by simp only [List.flatMap_cons, List.flatMap_nil, enc_itB, List.length_append, List.length_nil]; omega)
        simp only [List.flatMap_cons, List.flatMap_nil, enc_itB, List.length_append, List.length_nil] at h4 ⊢
        omega

theorem deep_le (t : Itm) : Itm.deep t ≤ (Itm.enc t).length := by
  refine Itm.ind (p := fun t => Itm.deep t ≤ (Itm.enc t).length) ?_ t
  intro t ih
  rw [Itm.deep_eq, Itm.enc_eq]
  split
  · have h1 := Itm.headed_len 192 (t.items.flatMap Itm.enc)
    have h2 : Itm.top (t.items.map Itm.deep) ≤ (t.items.flatMap Itm.enc).length := by
      apply Itm.top_le
      intro x hx
      rw [List.mem_map] at hx
      obtain ⟨y, hy, rfl⟩ := hx
      refine Nat.le_trans (ih y hy) ?_
      have : ∀ l : List Itm, y ∈ l → (Itm.enc y).length ≤ (l.flatMap Itm.enc).length := by
        intro l
        induction l with
        | nil => intro h; simp at h
        | cons z l ihl =>
          intro h
          simp only [List.flatMap_cons, List.length_append]
          rcases List.mem_cons.1 h with rfl | h
          · omega
          · have := ihl h; omega
      exact this _ hy
    omega
  · omega

theorem ref_deep (t : Itm) : Itm.deep (ref t) ≤ 7 := by
  unfold ref
  split
  · have := deep_le t; omega
  · rw [Itm.deep_eq]; simp [itB]

theorem itB_deep (s : List UInt8) : Itm.deep (itB s) = 0 := by rw [Itm.deep_eq]; simp [itB]

theorem node_deep (f : Nat) (l : List Ent) : Itm.deep (node f l) ≤ 8 := by
  cases f with
  | zero => rw [node, Itm.deep_eq]; simp [zero]
  | succ f =>
    rw [node]
    have hl : ∀ l : List Itm, (∀ x ∈ l, Itm.deep x ≤ 7) → Itm.deep (itL l) ≤ 8 := by
      intro l h
      rw [Itm.deep_eq]
      have : Itm.top (l.map Itm.deep) ≤ 7 := Itm.top_le (fun x hx => by rw [List.mem_map] at hx; obtain ⟨y, hy, rfl⟩ := hx; exact h y hy)
      simp only [itL, if_true]
      omega
    unfold nodeOf
    split
    · rw [itB_deep]; omega
    · apply hl; intro x hx
      simp only [List.mem_cons, List.not_mem_nil, or_false] at hx
      rcases hx with rfl | rfl <;> (rw [itB_deep]; omega)
    · split
      · apply hl; intro x hx
        rw [List.mem_append, List.mem_map] at hx
        rcases hx with ⟨d, _, rfl⟩ | hx
        · exact ref_deep _
        · simp only [List.mem_cons, List.not_mem_nil, or_false] at hx; subst hx; rw [itB_deep]; omega
      · apply hl; intro x hx
        simp only [List.mem_cons, List.not_mem_nil, or_false] at hx
        rcases hx with rfl | rfl
        · rw [itB_deep]; omega
        · exact ref_deep _

theorem itB_pure (s : List UInt8) : Itm.pure (itB s) = true := by rw [Itm.pure_eq]; simp [itB]
theorem itL_pure (l : List Itm) (h : ∀ x ∈ l, Itm.pure x = true) : Itm.pure (itL l) = true := by
  rw [Itm.pure_eq]; simp only [itL, if_true, List.isEmpty_nil, Bool.true_and, List.all_eq_true]; exact h
theorem ref_pure {t : Itm} (h : Itm.pure t = true) : Itm.pure (ref t) = true := by
  unfold ref; split
  · exact h
  · exact itB_pure _

theorem node_pure (f : Nat) (l : List Ent) : Itm.pure (node f l) = true := by
  induction f generalizing l with
  | zero => rw [node, Itm.pure_eq]; simp [zero]
  | succ f ih =>
    rw [node]
    unfold nodeOf
    split
    · exact itB_pure _
    · apply itL_pure; intro x hx
      simp only [List.mem_cons, List.not_mem_nil, or_false] at hx
      rcases hx with rfl | rfl <;> exact itB_pure _
    · split
      · apply itL_pure; intro x hx
        rw [List.mem_append, List.mem_map] at hx
        rcases hx with ⟨d, _, rfl⟩ | hx
        · exact ref_pure (ih _)
        · simp only [List.mem_cons, List.not_mem_nil, or_false] at hx; subst hx; exact itB_pure _
      · apply itL_pure; intro x hx
        simp only [List.mem_cons, List.not_mem_nil, or_false] at hx
        rcases hx with rfl | rfl
        · exact itB_pure _
        · exact ref_pure (ih _)

theorem table_fits (ps : List (List UInt8 × List UInt8)) (hk : ∀ p ∈ ps, p.1.length ≤ 6) (hv : ∀ p ∈ ps, p.2.length ≤ 40) : Fits 13 (table ps) := by
  induction ps with
  | nil => intro e he; simp [table] at he
  | cons p r ih =>
    have ih' := ih (fun q hq => hk q (by simp [hq])) (fun q hq => hv q (by simp [hq]))
    rw [table]
    split
    · exact ih'
    · intro e he
      rcases List.mem_cons.1 he with rfl | he
      · refine ⟨?_, digits_lt _, hv p (by simp)⟩
        dsimp only
        rw [digits_len]
        have := hk p (by simp)
        omega
      · exact ih' e he

end Tr
end Go.Proofs.Ytbmohenjphmlgaa

/- Laws on bytes that are appended, and on sums and digits, for walks. -/
namespace Go.Proofs.Ytbmohenjphmlgaa
open Go.RowKit
set_option maxRecDepth 100000

/-- Bytes that were just laid are appended to a row of the call's own: for a walk. -/
theorem wpList_push_bytes {ops : Array Oper} {rest : List Oper} {o : Oper} {act : Act} {Q' : Exit → Act → World → Prop} (hgd : o.guard = none) (s x : Operand)
    (hop : o.op = .call { callee := .builtin .append, args := #[s, x], argTypes := #[76, 76] }) {W wr : World} {B : Nat} {v1 : Value} {l1 : List UInt8} {zs : Array Value} (news : List UInt8) (L : Nat) (hL : wr.heap.size = L)
    (hs : act.eval s = v1) (hx : act.eval x = .slice (some ⟨L, 0, none⟩) news.length news.length) (ho : Bown wr B v1 l1) (hb : Below B W wr) (hB : B ≤ W.heap.size) (hz : zs.toList = Lib.byteCells news) (hlen : l1.length + news.length ≤ 1000000000)
    (h : ∀ v' w', Bown w' B v' (l1 ++ news) → Below B W w' → wpList Try.prog ops Q' rest (act.put o.dst v') w') : wpList Try.prog ops Q' (o :: rest) act (wr.alloc (.cells zs 5)) := by
  subst hL
  have hb2 : Below B W (wr.alloc (.cells zs 5)) := hb.alloc (Nat.le_trans hB hb.size) _
  have hBw : B ≤ (wr.alloc (.cells zs 5)).heap.size := Nat.le_trans hB hb2.size
  have ho2 : Bown (wr.alloc (.cells zs 5)) B v1 l1 := bown_frame ho (fun g hg => Below.heap_alloc _ _ _ (bown_lt ho g hg).2)
  have hbr : Brd (wr.alloc (.cells zs 5)).heap.size (wr.alloc (.cells zs 5)) (.slice (some ⟨wr.heap.size, 0, none⟩) news.length news.length) news := by
    refine .inr ⟨wr.heap.size, 0, news.length, rfl, by simp, fun j hj => ?_⟩
    rw [cell_of_row _ _ (0 + j) zs _ _ (heap_alloc_new wr _)]
    have : zs[0 + j]? = zs.toList[j]? := by simp
    rw [this, hz]
    simp [Lib.byteCells, List.getElem?_eq_getElem hj]
  refine wpList_append_bytes _ hgd s x hop B _ v1 _ l1 news hs hx ho2 hbr hlen hBw ?_
  intro v' w' ho' hg _
  exact h v' w' ho' (hb2.grown hg hBw (fun g hgg => (bown_lt ho g hgg).1))

theorem fnv_snoc (s : ByteArray) (k : Nat) (h : k < s.size) : Tr.fnv (s.data.toList.take (k + 1)) = Tr.step (Tr.fnv (s.data.toList.take k)) s[k] := by
  rw [take_snoc s k h, Tr.fnv_append]

theorem step_val (h : Nat) (c : UInt8) (hh : h < 18446744073709551616) : IntKind.u64.wrap (bits .xor .u64 (h : Int) (IntKind.u64.wrap (c.toNat : Int)) * 1099511628211) = ((Tr.step h c : Nat) : Int) := by
  have hc : c.toNat < 256 := c.toNat_lt
  have e2 : IntKind.u64.wrap (c.toNat : Int) = (c.toNat : Int) := by rw [IntKind.wrap_u64]; exact Int.emod_eq_of_lt (by omega) (by omega)
  rw [e2, u64_xor_nat _ _ hh (by omega), IntKind.wrap_u64]
  unfold Tr.step
  generalize h ^^^ c.toNat = x
  omega

/-- A byte of the sum, as the walk spells it. -/
theorem sum_byte (n m : Nat) (hn : n < 18446744073709551616) : bits .and .u64 ((n : Int) / 2 ^ (8 * (7 - m))) 255 % 256 = (((Tr.sumAt n m).toNat : Nat) : Int) := by
  have e2 : (n : Int) / 2 ^ (8 * (7 - m)) = ((n / 256 ^ (7 - m) : Nat) : Int) := by
    have : (256 : Nat) ^ (7 - m) = 2 ^ (8 * (7 - m)) := by rw [Nat.pow_mul]
    rw [this]
    simp
  rw [e2]
  have h3 : n / 256 ^ (7 - m) < 18446744073709551616 := Nat.lt_of_le_of_lt (Nat.div_le_self _ _) hn
  have h4 := u64_and_nat (n / 256 ^ (7 - m)) 255 h3 (by decide)
  rw [show ((255 : Nat) : Int) = 255 from rfl] at h4
  rw [h4]
  have h5 : n / 256 ^ (7 - m) &&& 255 = n / 256 ^ (7 - m) % 256 := Nat.and_two_pow_sub_one_eq_mod _ 8
  rw [h5]
  unfold Tr.sumAt
  simp

/-- Bytes that were just laid are appended to a row of the call's own: at a step of a region that draws. -/
theorem step_push_bytes {ops : Array Oper} {o : Oper} {act : Act} {K : Act → World → Prop} {Q' : Exit → Act → World → Prop} {E : Prop} (hgd : o.guard = none) (s x : Operand)
    (hop : o.op = .call { callee := .builtin .append, args := #[s, x], argTypes := #[76, 76] }) {W wr : World} {B : Nat} {v1 : Value} {l1 : List UInt8} {zs : Array Value} (news : List UInt8) (L : Nat) (hL : wr.heap.size = L)
    (hs : act.eval s = v1) (hx : act.eval x = .slice (some ⟨L, 0, none⟩) news.length news.length) (ho : Bown wr B v1 l1) (hb : Below B W wr) (hB : B ≤ W.heap.size) (hz : zs.toList = Lib.byteCells news) (hlen : l1.length + news.length ≤ 1000000000)
    (h : ∀ v' w', Bown w' B v' (l1 ++ news) → Below B W w' → K (act.put o.dst v') w') : if Region.wanted o (yielded ops act.tmps) = true then Oper.wp Try.prog o act (wr.alloc (.cells zs 5)) K Q' else E := by
  subst hL
  have hw : Region.wanted o (yielded ops act.tmps) = true := by simp [Region.wanted, hgd]
  rw [if_pos hw]
  obtain ⟨i0, hi, hz0, hz1, hz2⟩ := info_parts infoByte
  have hb2 : Below B W (wr.alloc (.cells zs 5)) := hb.alloc (Nat.le_trans hB hb.size) _
  have hBw : B ≤ (wr.alloc (.cells zs 5)).heap.size := Nat.le_trans hB hb2.size
  have ho2 : Bown (wr.alloc (.cells zs 5)) B v1 l1 := bown_frame ho (fun g hg => Below.heap_alloc _ _ _ (bown_lt ho g hg).2)
  have hnews : ∀ j u, (Lib.byteCells news)[j]? = some u → (wr.alloc (.cells zs 5)).cell? ((⟨wr.heap.size, 0, none⟩ : Addr).add j) = some u := by
    rw [← hz]
    exact World.news_of_block (heap_alloc_new wr _)
  obtain ⟨v', w', hr, h2, h3, _⟩ := run_append_mine (P := Try.prog) _ B 76 o.type 5 i0 _ 1 1 Try.underlying76 hi hz0 hz1 hz2 rfl (by decide) v1 l1.length (Lib.byteCells l1) ho2 ⟨wr.heap.size, 0, none⟩ news.length news.length (Lib.byteCells news) (by rw [Lib.byteCells_length]; omega) hnews (byteCells_one news) (by unfold maxLen; omega) (by omega) hBw
  unfold Oper.wp execOp
  simp only [hop, resolve, invoke, builtin, Sem.run_bind, Sem.run_pure, Result.andThen_ok, List.map_toArray, List.map_cons, List.map_nil, hs, hx, hr]
  refine h v' w' ?_ (hb2.grown h3 hBw (fun g hgg => (bown_lt ho g hgg).1))
  unfold Bown
  rw [List.length_append, Lib.byteCells_append]
  exact h2

theorem wrap_u8_small (n : Nat) (h : n < 256) : IntKind.u8.wrap (n : Int) = (n : Int) := by rw [IntKind.wrap_u8]; omega

theorem digit_cells (c : UInt8) : #[Value.int .u8 (IntKind.u8.wrap ((c.toNat : Int) / 16)), Value.int .u8 ((c.toNat : Int).tmod 16)].toList = Lib.byteCells [UInt8.ofNat (c.toNat / 16), UInt8.ofNat (c.toNat % 16)] := by
  have := c.toNat_lt
  simp only [Lib.byteCells, List.map_cons, List.map_nil]
  have e1 : (UInt8.ofNat (c.toNat / 16)).toNat = c.toNat / 16 := by simp; omega
  have e2 : (UInt8.ofNat (c.toNat % 16)).toNat = c.toNat % 16 := by simp; omega
  have e3 : (c.toNat : Int) / 16 = ((c.toNat / 16 : Nat) : Int) := by omega
  have e4 : (c.toNat : Int).tmod 16 = ((c.toNat % 16 : Nat) : Int) := by rw [Int.tmod_eq_emod_of_nonneg (by omega)]; omega
  rw [e1, e2, e3, e4, wrap_u8_small _ (by omega)]

end Go.Proofs.Ytbmohenjphmlgaa
