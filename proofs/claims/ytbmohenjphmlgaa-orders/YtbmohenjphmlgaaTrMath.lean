/- Plain mathematics of trees: sums, digits, paths, sound nodes, ways down, what a proof proves. Nothing of the program is in here. -/
import Derived.Test.YtbmohenjphmlgaaParse
namespace Go.Proofs.Ytbmohenjphmlgaa
set_option maxRecDepth 100000

namespace Tr

/-- One byte more in the sum. -/
def step (h : Nat) (b : UInt8) : Nat := ((h ^^^ b.toNat) * 1099511628211) % 18446744073709551616

/-- The sum of bytes, as a number. -/
def fnv (l : List UInt8) : Nat := l.foldl step 14695981039346656037

/-- The sum of bytes: eight bytes, the highest first. -/
def sum (l : List UInt8) : List UInt8 := (List.range 8).map fun i => UInt8.ofNat (fnv l / 256 ^ (7 - i) % 256)

theorem step_lt (h : Nat) (b : UInt8) : step h b < 18446744073709551616 := Nat.mod_lt _ (by decide)

theorem foldl_lt (l : List UInt8) (h : Nat) (hh : h < 18446744073709551616) : l.foldl step h < 18446744073709551616 := by
  induction l generalizing h with
  | nil => exact hh
  | cons b l ih => exact ih _ (step_lt _ _)

theorem fnv_lt (l : List UInt8) : fnv l < 18446744073709551616 := foldl_lt l _ (by decide)

theorem fnv_nil : fnv [] = 14695981039346656037 := by unfold fnv; rw [List.foldl_nil]

theorem fnv_append (l : List UInt8) (b : UInt8) : fnv (l ++ [b]) = step (fnv l) b := by unfold fnv; rw [List.foldl_append, List.foldl_cons, List.foldl_nil]

/-- The i-th byte of the sum. -/
def sumAt (n i : Nat) : UInt8 := UInt8.ofNat (n / 256 ^ (7 - i) % 256)

theorem sum_eq (l : List UInt8) : sum l = (List.range 8).map (sumAt (fnv l)) := rfl

theorem sum_len (l : List UInt8) : (sum l).length = 8 := by simp [sum]

/-- The digits of bytes. -/
def digits (l : List UInt8) : List UInt8 := l.flatMap fun b => [UInt8.ofNat (b.toNat / 16), UInt8.ofNat (b.toNat % 16)]

theorem digits_cons (b : UInt8) (l : List UInt8) : digits (b :: l) = UInt8.ofNat (b.toNat / 16) :: UInt8.ofNat (b.toNat % 16) :: digits l := by simp [digits]
theorem digits_append (a b : List UInt8) : digits (a ++ b) = digits a ++ digits b := by simp [digits]
theorem digits_len (l : List UInt8) : (digits l).length = 2 * l.length := by
  induction l with
  | nil => simp [digits]
  | cons b l ih => rw [digits_cons]; simp only [List.length_cons]; omega

/-- An item that is none of those that are there. -/
def zero : Itm := ⟨false, [], []⟩

/-- The i-th item within an item. -/
def kid (t : Itm) (i : Nat) : Itm := t.items.getD i zero

/-- The digits of a path, and whether it is marked. -/
def unpath (t : Itm) : Option (List UInt8 × Bool) :=
  if t.list || t.bytes.isEmpty || decide (64 ≤ (t.bytes.getD 0 0).toNat) then none
  else if decide ((t.bytes.getD 0 0).toNat / 16 % 2 ≠ 1) && decide ((t.bytes.getD 0 0).toNat % 16 ≠ 0) then none
  else some ((if (t.bytes.getD 0 0).toNat / 16 % 2 = 1 then [UInt8.ofNat ((t.bytes.getD 0 0).toNat % 16)] else []) ++ digits (t.bytes.drop 1), decide (32 ≤ (t.bytes.getD 0 0).toNat))

def isEmpty (t : Itm) : Bool := !t.list && t.bytes.isEmpty
def isBranch (t : Itm) : Bool := t.list && decide (t.items.length = 17)
def isValue (t : Itm) : Bool := !t.list && decide (1 ≤ t.bytes.length) && decide (t.bytes.length ≤ 40)
def isSum (t : Itm) : Bool := !t.list && decide (t.bytes.length = 8)

/-- Is what stands at a branch's place i as it should be? ok: whether it is itself a sound node. -/
def slotOk (i : Nat) (y : Itm) (ok : Bool) : Bool :=
  isEmpty y || (if i = 16 then isValue y else isSum y || (y.list && ok && decide ((Itm.enc y).length < 8)))

/-- How many of a branch's first n places are not empty. -/
def full (t : Itm) (n : Nat) : Nat := ((List.range n).filter fun i => !isEmpty (kid t i)).length

/-- Is a leaf or an extension as it should be? u: its path, y: what stands behind it. -/
def pairOk (u : Option (List UInt8 × Bool)) (y : Itm) : Bool :=
  match u with
  | none => false
  | some (p, leaf) => if leaf then isValue y else (decide (0 < p.length) && isSum y)

/-- Sound, once it is known which of the items within are. -/
def soundOf (t : Itm) (ok : Nat → Bool) : Bool :=
  isEmpty t ||
  (if t.items.length = 2 then
    pairOk (unpath (kid t 0)) (kid t 1)
  else isBranch t && (List.range 17).all (fun i => slotOk i (kid t i) (ok i)) && decide (2 ≤ full t 17))

/-- Is a node sound? -/
def sound (t : Itm) : Bool := soundOf t (fun i => if h : i < t.items.length then sound t.items[i] else false)
termination_by t
decreasing_by
  have := List.sizeOf_lt_of_mem (List.getElem_mem h)
  cases t
  simp_wf
  simp at this
  omega

theorem sound_eq (t : Itm) : sound t = soundOf t (fun i => if i < t.items.length then sound (kid t i) else false) := by
  rw [sound]
  congr 1
  funext i
  split
  · rename_i h
    unfold kid
    rw [List.getD_eq_getElem?_getD, List.getElem?_eq_getElem h]; rfl
  · rfl

theorem full_zero (t : Itm) : full t 0 = 0 := by unfold full; rw [List.range_zero, List.filter_nil, List.length_nil]

theorem slotOk_eq (i : Nat) (y : Itm) (ok : Bool) : slotOk i y ok = (isEmpty y || (if i = 16 then isValue y else isSum y || (y.list && ok && decide ((Itm.enc y).length < 8)))) := by unfold slotOk; rfl

theorem full_succ (t : Itm) (n : Nat) : full t (n + 1) = full t n + (if isEmpty (kid t n) then 0 else 1) := by
  unfold full
  rw [List.range_succ, List.filter_append, List.length_append]
  cases h : isEmpty (kid t n) <;> simp [h]

theorem full_le (t : Itm) (n : Nat) : full t n ≤ n := by
  have := List.length_filter_le (fun i => !isEmpty (kid t i)) (List.range n)
  rw [List.length_range] at this
  exact this

theorem sound_branch {t : Itm} (he : isEmpty t = false) (hb : isBranch t = true) : sound t = ((List.range 17).all (fun i => slotOk i (kid t i) (sound (kid t i))) && decide (2 ≤ full t 17)) := by
  have hl : t.items.length = 17 := by unfold isBranch at hb; simp at hb; exact hb.2
  have h2 : ¬ t.items.length = 2 := by omega
  rw [sound_eq]
  unfold soundOf
  rw [if_neg h2, he, hb]
  simp only [Bool.false_or, Bool.true_and]
  congr 1
  rw [Bool.eq_iff_iff, List.all_eq_true, List.all_eq_true]
  constructor
  · intro h i hi
    have := h i hi
    rw [List.mem_range] at hi
    rw [if_pos (by omega)] at this
    exact this
  · intro h i hi
    have := h i hi
    rw [List.mem_range] at hi
    rw [if_pos (by omega)]
    exact this

theorem sound_bad {t : Itm} (he : isEmpty t = false) (hb : isBranch t = true) (i : Nat) (hi : i < 17) (h : slotOk i (kid t i) (sound (kid t i)) = false) : sound t = false := by
  rw [sound_branch he hb]
  have : (List.range 17).all (fun i => slotOk i (kid t i) (sound (kid t i))) = false := by
    rw [List.all_eq_false]
    exact ⟨i, List.mem_range.2 hi, by rw [h]; decide⟩
  rw [this]; rfl

theorem sound_good {t : Itm} (he : isEmpty t = false) (hb : isBranch t = true) (h : ∀ i, i < 17 → slotOk i (kid t i) (sound (kid t i)) = true) : sound t = decide (2 ≤ full t 17) := by
  rw [sound_branch he hb]
  have : (List.range 17).all (fun i => slotOk i (kid t i) (sound (kid t i))) = true := by
    rw [List.all_eq_true]
    exact fun i hi => h i (List.mem_range.1 hi)
  rw [this]; rfl

/-- A way down: what it tells, or the sum that must be read next. -/
structure Way where
  digits : List UInt8
  branch : Bool
  value : List UInt8
  found : Bool
  need : List UInt8

def Way.none : Way := ⟨[], false, [], false, []⟩
def Way.tells (v : List UInt8) (b : Bool) : Way := ⟨[], false, v, b, []⟩

/-- The way through a reference. -/
def refersOf (t : Itm) (g : List UInt8 → Bool → Option Way) (k : List UInt8) (branch : Bool) : Option Way :=
  if isSum t then some ⟨k, branch, [], false, t.bytes⟩ else g k branch

/-- The way through a node, once the ways through those within are known. -/
def goesOf (t : Itm) (g : Nat → List UInt8 → Bool → Option Way) (k : List UInt8) (branch : Bool) : Option Way :=
  if branch && !isBranch t then none
  else if isEmpty t then some .none
  else if isBranch t then
    match k with
    | [] => some (.tells (kid t 16).bytes (!(kid t 16).bytes.isEmpty))
    | d :: r => refersOf (kid t d.toNat) (g d.toNat) r false
  else
    let u := (unpath (kid t 0)).getD ([], false)
    if u.2 then (if u.1 = k then some (.tells (kid t 1).bytes true) else some .none)
    else if k.length < u.1.length || k.take u.1.length != u.1 then some .none
    else refersOf (kid t 1) (g 1) (k.drop u.1.length) true

/-- The way through a node. -/
def goes (t : Itm) (k : List UInt8) (branch : Bool) : Option Way := goesOf t (fun i k b => if h : i < t.items.length then goes t.items[i] k b else none) k branch
termination_by t
decreasing_by
  have := List.sizeOf_lt_of_mem (List.getElem_mem h)
  cases t
  simp_wf
  simp at this
  omega

theorem goes_eq (t : Itm) (k : List UInt8) (branch : Bool) : goes t k branch = goesOf t (fun i k b => if i < t.items.length then goes (kid t i) k b else none) k branch := by
  rw [goes]
  congr 1
  funext i k b
  split
  · rename_i h
    unfold kid
    rw [List.getD_eq_getElem?_getD, List.getElem?_eq_getElem h]; rfl
  · rfl

def refers (t : Itm) (k : List UInt8) (branch : Bool) : Option Way := refersOf t (goes t) k branch

theorem branch_len {t : Itm} (hb : isBranch t = true) : t.items.length = 17 := by unfold isBranch at hb; simp at hb; exact hb.2

theorem branch_full {t : Itm} (hb : isBranch t = true) : isEmpty t = false := by
  unfold isBranch at hb; simp at hb
  unfold isEmpty; simp [hb.1]

theorem goes_stop {t : Itm} (k : List UInt8) (hb : isBranch t = false) : goes t k true = none := by
  rw [goes_eq]; unfold goesOf; rw [hb]; rfl

theorem goes_empty {t : Itm} (k : List UInt8) (he : isEmpty t = true) : goes t k false = some .none := by
  rw [goes_eq]; unfold goesOf; rw [he]; rfl

theorem goes_end {t : Itm} (br : Bool) (hb : isBranch t = true) : goes t [] br = some (.tells (kid t 16).bytes (!(kid t 16).bytes.isEmpty)) := by
  rw [goes_eq]; unfold goesOf; rw [hb, branch_full hb]; simp

theorem goes_down {t : Itm} (c : UInt8) (r : List UInt8) (br : Bool) (hb : isBranch t = true) (hc : c.toNat < 17) : goes t (c :: r) br = refers (kid t c.toNat) r false := by
  have hl := branch_len hb
  rw [goes_eq]; unfold goesOf refers; rw [hb, branch_full hb]
  have hi : c.toNat < t.items.length := by omega
  simp only [Bool.not_true, Bool.and_false, Bool.false_eq_true, if_false, if_true, hi]

theorem goes_leaf {t : Itm} (k p : List UInt8) (hb : isBranch t = false) (he : isEmpty t = false) (hu : unpath (kid t 0) = some (p, true)) : goes t k false = if p = k then some (.tells (kid t 1).bytes true) else some .none := by
  rw [goes_eq]; unfold goesOf; rw [hb, he, hu]; simp

theorem goes_miss {t : Itm} (k p : List UInt8) (hb : isBranch t = false) (he : isEmpty t = false) (hu : unpath (kid t 0) = some (p, false)) (hm : k.length < p.length ∨ k.take p.length ≠ p) : goes t k false = some .none := by
  rw [goes_eq]; unfold goesOf; rw [hb, he, hu]
  simp only [Bool.false_and, Bool.false_eq_true, if_false, Option.getD_some]
  rw [if_pos]
  rcases hm with h | h
  · simp [h]
  · simp [h]

theorem goes_hit {t : Itm} (k p : List UInt8) (hb : isBranch t = false) (he : isEmpty t = false) (h2 : t.items.length = 2) (hu : unpath (kid t 0) = some (p, false)) (hm : ¬ k.length < p.length) (hm2 : k.take p.length = p) : goes t k false = refers (kid t 1) (k.drop p.length) true := by
  rw [goes_eq]; unfold goesOf refers; rw [hb, he, hu]
  simp only [Bool.false_and, Bool.false_eq_true, if_false, Option.getD_some]
  rw [if_neg (by simp [hm, hm2])]
  have hi : 1 < t.items.length := by omega
  simp only [hi, if_true]

/-- What a sound node has in it. -/
theorem sound_two {t : Itm} (hs : sound t = true) (he : isEmpty t = false) (hb : isBranch t = false) : t.items.length = 2 ∧ pairOk (unpath (kid t 0)) (kid t 1) = true := by
  rw [sound_eq] at hs
  unfold soundOf at hs
  rw [he, hb] at hs
  simp only [Bool.false_or, Bool.false_and] at hs
  split at hs
  · rename_i h; exact ⟨h, hs⟩
  · simp at hs

theorem sound_down {t : Itm} (hs : sound t = true) (hb : isBranch t = true) (i : Nat) (hi : i < 16) : isSum (kid t i) = true ∨ sound (kid t i) = true := by
  rw [sound_branch (branch_full hb) hb] at hs
  simp only [Bool.and_eq_true, List.all_eq_true] at hs
  have := hs.1 i (List.mem_range.2 (by omega))
  rw [slotOk_eq, if_neg (by omega)] at this
  simp only [Bool.or_eq_true, Bool.and_eq_true] at this
  rcases this with h | h | h
  · right; rw [sound_eq]; unfold soundOf; rw [h]; rfl
  · exact .inl h
  · exact .inr h.1.2

/-- The item whose bytes these are. -/
def whole (s : List UInt8) : Option Itm := match Itm.parse s.length s with | some (t, []) => some t | _ => none

/-- One element of a proof. -/
def vstep (i : Nat) (w : Way) (s : List UInt8) : Option Way :=
  if w.need = [] || sum s != w.need || (decide (0 < i) && decide (s.length < 8)) then none
  else match whole s with
    | none => none
    | some t => if sound t then goes t w.digits w.branch else none

def vloop : Nat → Way → List (List UInt8) → Option Way
  | _, w, [] => some w
  | i, w, s :: l => match vstep i w s with
    | none => none
    | some w' => vloop (i + 1) w' l

/-- The answer at the end of the way. -/
def verEnd (o : Option Way) : List UInt8 × Bool × Nat :=
  match o with
  | none => ([], false, 6)
  | some w => if w.need = [] then (w.value, w.found, 0) else ([], false, 6)

/-- What a proof proves. -/
def verify (root key : List UInt8) (proof : List (List UInt8)) : List UInt8 × Bool × Nat :=
  if root.length ≠ 8 then ([], false, 5)
  else if 6 < key.length then ([], false, 3)
  else if 20 < proof.length ∨ ∃ s ∈ proof, 1000 < s.length then ([], false, 2)
  else verEnd (vloop 0 ⟨digits key, false, [], false, root⟩ proof)

theorem vloop_cons (i : Nat) (w : Way) (s : List UInt8) (l : List (List UInt8)) : vloop i w (s :: l) = match vstep i w s with | none => none | some w' => vloop (i + 1) w' l := by rw [vloop]

theorem vloop_stop {i : Nat} {w : Way} {s : List UInt8} {l : List (List UInt8)} (h : vstep i w s = none) : vloop i w (s :: l) = none := by rw [vloop_cons, h]

theorem vloop_go {i : Nat} {w w' : Way} {s : List UInt8} {l : List (List UInt8)} (h : vstep i w s = some w') : vloop i w (s :: l) = vloop (i + 1) w' l := by rw [vloop_cons, h]

theorem vstep_a {i : Nat} {w : Way} {s : List UInt8} (h : w.need = []) : vstep i w s = none := by unfold vstep; simp [h]
theorem vstep_b {i : Nat} {w : Way} {s : List UInt8} (h : sum s ≠ w.need) : vstep i w s = none := by unfold vstep; simp [h]
theorem vstep_c {i : Nat} {w : Way} {s : List UInt8} (h : 0 < i) (h2 : s.length < 8) : vstep i w s = none := by unfold vstep; simp [h, h2]
theorem vstep_d {i : Nat} {w : Way} {s : List UInt8} (h0 : w.need ≠ []) (h1 : sum s = w.need) (h2 : ¬ (0 < i ∧ s.length < 8)) : vstep i w s = match whole s with | none => none | some t => if sound t then goes t w.digits w.branch else none := by
  unfold vstep
  rw [if_neg]
  intro h
  simp only [Bool.or_eq_true, decide_eq_true_eq, bne_iff_ne, ne_eq, Bool.and_eq_true] at h
  rcases h with (h | h) | h
  · exact h0 h
  · exact h h1
  · exact h2 h
theorem vstep_none {i : Nat} {w : Way} {s : List UInt8} (h0 : w.need ≠ []) (h1 : sum s = w.need) (h2 : ¬ (0 < i ∧ s.length < 8)) (h : whole s = none) : vstep i w s = none := by rw [vstep_d h0 h1 h2, h]
theorem vstep_unsound {i : Nat} {w : Way} {s : List UInt8} {t : Itm} (h0 : w.need ≠ []) (h1 : sum s = w.need) (h2 : ¬ (0 < i ∧ s.length < 8)) (h : whole s = some t) (hs : sound t = false) : vstep i w s = none := by rw [vstep_d h0 h1 h2, h]; simp [hs]
theorem vstep_goes {i : Nat} {w : Way} {s : List UInt8} {t : Itm} (h0 : w.need ≠ []) (h1 : sum s = w.need) (h2 : ¬ (0 < i ∧ s.length < 8)) (h : whole s = some t) (hs : sound t = true) : vstep i w s = goes t w.digits w.branch := by rw [vstep_d h0 h1 h2, h]; simp [hs]

end Tr
end Go.Proofs.Ytbmohenjphmlgaa
