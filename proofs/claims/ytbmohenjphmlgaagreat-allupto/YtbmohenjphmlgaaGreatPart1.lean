/- Part 1 of a proof: what the last text needs. -/
import Derived.Test.YtbmohenjphmlgaaGreatProg
import Derived.WalkKit
import Derived.WalkSpells
import Derived.WalkLawsBesides
import Derived.BigQuiet
/- Plain mathematics of items: their bytes, reading them back, that the two are inverse. Nothing of the program is in here. -/
namespace Go.Proofs.YtbmohenjphmlgaaGreat
set_option maxRecDepth 100000

/-- An item: its mark 'list', its bytes, its items. -/
structure Itm where
  list : Bool
  bytes : List UInt8
  items : List Itm

namespace Itm

/-- The greatest of some numbers. -/
def top (l : List Nat) : Nat := l.foldl max 0

theorem foldl_max (l : List Nat) (a : Nat) : l.foldl max a = max a (l.foldl max 0) := by
  induction l generalizing a with
  | nil => simp
  | cons x l ih => simp only [List.foldl_cons]; rw [ih, ih (max 0 x)]; simp [Nat.max_assoc]

theorem top_cons (x : Nat) (l : List Nat) : top (x :: l) = max x (top l) := by
  unfold top; simp only [List.foldl_cons]; rw [foldl_max]; simp

theorem top_nil : top [] = 0 := rfl

theorem top_append (a b : List Nat) : top (a ++ b) = max (top a) (top b) := by
  induction a with
  | nil => simp [top_nil]
  | cons x a ih => simp [top_cons, ih, Nat.max_assoc]

theorem le_top {x : Nat} {l : List Nat} (h : x ∈ l) : x ≤ top l := by
  induction l with
  | nil => simp at h
  | cons y l ih =>
    rw [top_cons]
    rcases List.mem_cons.1 h with rfl | h
    · omega
    · have := ih h; omega

theorem top_le {l : List Nat} {n : Nat} (h : ∀ x ∈ l, x ≤ n) : top l ≤ n := by
  induction l with
  | nil => simp [top_nil]
  | cons y l ih =>
    rw [top_cons]
    have h1 := h y (by simp)
    have h2 := ih (fun x hx => h x (by simp [hx]))
    omega

/-- A number above 0 in as few bytes as may be, the highest first. -/
def be (n : Nat) : List UInt8 := if n < 256 then [UInt8.ofNat n] else be (n / 256) ++ [UInt8.ofNat (n % 256)]

/-- The number that bytes tell, the highest first. -/
def val (l : List UInt8) : Nat := l.foldl (fun n c => n * 256 + c.toNat) 0

def head (base n : Nat) : List UInt8 := if n ≤ 55 then [UInt8.ofNat (base + n)] else UInt8.ofNat (base + 55 + (be n).length) :: be n

def headed (base : Nat) (s : List UInt8) : List UInt8 := head base s.length ++ s

def stands (s : List UInt8) : Bool := decide (s.length = 1) && decide ((s.getD 0 0).toNat < 128)

def encB (b : List UInt8) : List UInt8 := if stands b then b else headed 128 b

/-- The bytes of an item. -/
def enc : Itm → List UInt8
  | ⟨l, b, is⟩ => if l then headed 192 (is.attach.flatMap fun ⟨x, _⟩ => enc x) else encB b

/-- Its depth, as its bytes have it (what it has no use for is passed by). -/
def deep : Itm → Nat
  | ⟨l, _, is⟩ => if l then top (is.attach.map fun ⟨x, _⟩ => deep x) + 1 else 0

/-- Has it, and all within it, but the fields that its kind uses? -/
def pure : Itm → Bool
  | ⟨l, b, is⟩ => (if l then b.isEmpty else is.isEmpty) && is.attach.all fun ⟨x, _⟩ => pure x

theorem enc_eq (t : Itm) : enc t = if t.list then headed 192 (t.items.flatMap enc) else encB t.bytes := by
  obtain ⟨l, b, is⟩ := t
  simp [enc]

theorem deep_eq (t : Itm) : deep t = if t.list then top (t.items.map deep) + 1 else 0 := by
  obtain ⟨l, b, is⟩ := t
  simp [deep]

theorem pure_eq (t : Itm) : pure t = ((if t.list then t.bytes.isEmpty else t.items.isEmpty) && t.items.all pure) := by
  obtain ⟨l, b, is⟩ := t
  simp [pure]

/-- Induction over items: what holds of an item if it holds of all in it. -/
theorem ind {p : Itm → Prop} (h : ∀ t : Itm, (∀ x ∈ t.items, p x) → p t) (t : Itm) : p t := by
  refine Itm.rec (motive_1 := p) (motive_2 := fun l => ∀ x ∈ l, p x) ?_ ?_ ?_ t
  · intro l b is ih; exact h ⟨l, b, is⟩ ih
  · intro x hx; simp at hx
  · intro a l ha hl x hx
    rcases List.mem_cons.1 hx with rfl | hx
    · exact ha
    · exact hl x hx

theorem be_small {n : Nat} (h : n < 256) : be n = [UInt8.ofNat n] := by rw [be, if_pos h]
theorem be_large {n : Nat} (h : ¬ n < 256) : be n = be (n / 256) ++ [UInt8.ofNat (n % 256)] := by rw [be, if_neg h]

theorem val_snoc (l : List UInt8) (c : UInt8) : val (l ++ [c]) = val l * 256 + c.toNat := by simp [val]

/-- Induction over a list from its end. -/
theorem snoc_ind {α : Type} {p : List α → Prop} (h0 : p []) (h1 : ∀ l c, p l → p (l ++ [c])) (l : List α) : p l := by
  have h : ∀ l : List α, p l.reverse := by
    intro l
    induction l with
    | nil => simpa using h0
    | cons c l ih => simpa using h1 _ c ih
  have := h l.reverse
  simpa using this

theorem getD_left (a b : List UInt8) (h : 0 < a.length) : (a ++ b).getD 0 0 = a.getD 0 0 := by
  simp [List.getD_eq_getElem?_getD, List.getElem?_append_left h]

theorem val_lt (l : List UInt8) : val l < 256 ^ l.length := by
  refine snoc_ind (p := fun l => val l < 256 ^ l.length) (by simp [val]) ?_ l
  · intro l c ih
    rw [val_snoc, List.length_append, List.length_singleton, Nat.pow_succ]
    have := c.toNat_lt
    omega

theorem be_len_le (n k : Nat) (h : n < 256 ^ k) (hk : 0 < k) : (be n).length ≤ k := by
  induction k generalizing n with
  | zero => omega
  | succ k ih =>
    by_cases hn : n < 256
    · rw [be_small hn]; simp
    · rw [be_large hn]
      have hk0 : 0 < k := by
        rcases Nat.eq_zero_or_pos k with rfl | h0
        · simp at h; omega
        · exact h0
      have : n / 256 < 256 ^ k := by
        rw [Nat.pow_succ] at h
        exact Nat.div_lt_of_lt_mul (by omega)
      have := ih (n / 256) this hk0
      simp; omega

/-- Bytes whose first is not 0 are the fewest for their number. -/
theorem be_val (l : List UInt8) : 0 < l.length → (l.getD 0 0).toNat ≠ 0 → be (val l) = l := by
  refine snoc_ind (p := fun l => 0 < l.length → (l.getD 0 0).toNat ≠ 0 → be (val l) = l) (by simp) ?_ l
  · intro l c ih _ h
    rw [val_snoc]
    have hc := c.toNat_lt
    rcases Nat.eq_zero_or_pos l.length with h1 | h1
    · have : l = [] := List.length_eq_zero_iff.1 h1
      subst this
      rw [be_small (by simp [val]; omega)]
      simp [val]
    · have hh : (l.getD 0 0).toNat ≠ 0 := by
        rw [getD_left _ _ h1] at h; exact h
      have hb := ih h1 hh
      have hv : 0 < val l := by
        rcases Nat.eq_zero_or_pos (val l) with hz | hz
        · exfalso
          rw [hz] at hb
          rw [be_small (by omega)] at hb
          rw [← hb] at hh
          simp at hh
        · exact hz
      rw [be_large (by omega)]
      have e1 : (val l * 256 + c.toNat) / 256 = val l := by omega
      have e2 : (val l * 256 + c.toNat) % 256 = c.toNat := by omega
      rw [e1, e2, hb]
      simp

end Itm
end Go.Proofs.YtbmohenjphmlgaaGreat

/- Plain mathematics of items, continued: an item is read of its bytes, and of no others. Nothing of the program is in here. -/
namespace Go.Proofs.YtbmohenjphmlgaaGreat
set_option maxRecDepth 100000
namespace Itm

/-- The body and what is behind it, of bytes that open with a head of the kind of 'base'. -/
def cutP (base : Nat) (s : List UInt8) : Option (List UInt8 × List UInt8) :=
  if (s.getD 0 0).toNat - base ≤ 55 then
    if (s.getD 0 0).toNat - base ≤ (s.drop 1).length then
      some ((s.drop 1).take ((s.getD 0 0).toNat - base), (s.drop 1).drop ((s.getD 0 0).toNat - base)) else none
  else
    if (s.drop 1).length < (s.getD 0 0).toNat - base - 55 ∨ ((s.drop 1).getD 0 0).toNat = 0 then none
    else
      if val ((s.drop 1).take ((s.getD 0 0).toNat - base - 55)) ≤ 55 ∨ ((s.drop 1).drop ((s.getD 0 0).toNat - base - 55)).length < val ((s.drop 1).take ((s.getD 0 0).toNat - base - 55)) then none
      else some (((s.drop 1).drop ((s.getD 0 0).toNat - base - 55)).take (val ((s.drop 1).take ((s.getD 0 0).toNat - base - 55))),
        ((s.drop 1).drop ((s.getD 0 0).toNat - base - 55)).drop (val ((s.drop 1).take ((s.getD 0 0).toNat - base - 55))))

/-- Items one behind the other, till nothing is left. -/
def loopP (p : List UInt8 → Option (Itm × List UInt8)) : Nat → List UInt8 → Option (List Itm)
  | 0, s => if s.isEmpty then some [] else none
  | m + 1, s => if s.isEmpty then some [] else
    match p s with
    | none => none
    | some (x, rest) => (loopP p m rest).map (x :: ·)

/-- The item that bytes begin with, and what is behind it: by a reading of what is within it. -/
def stepP (p : List UInt8 → Option (Itm × List UInt8)) (s : List UInt8) : Option (Itm × List UInt8) :=
  if s.isEmpty then none
  else if (s.getD 0 0).toNat < 128 then some (⟨false, s.take 1, []⟩, s.drop 1)
  else if (s.getD 0 0).toNat < 192 then
    match cutP 128 s with
    | none => none
    | some (body, rest) => if stands body then none else some (⟨false, body, []⟩, rest)
  else
    match cutP 192 s with
    | none => none
    | some (body, rest) =>
      match loopP p body.length body with
      | none => none
      | some l => some (⟨true, [], l⟩, rest)

def parse : Nat → List UInt8 → Option (Itm × List UInt8)
  | 0 => fun _ => none
  | f + 1 => stepP (parse f)

theorem parse_zero (s : List UInt8) : parse 0 s = none := by rw [parse]
theorem parse_succ (f : Nat) (s : List UInt8) : parse (f + 1) s = stepP (parse f) s := by rw [parse]

theorem cons_of_ne {s : List UInt8} (h : s ≠ []) : s = s.getD 0 0 :: s.drop 1 := by
  cases s with
  | nil => exact absurd rfl h
  | cons c l => simp

theorem ofNat_toNat' (c : UInt8) (n : Nat) (h : n = c.toNat) : UInt8.ofNat n = c := by subst h; simp

theorem cutP_sound {base : Nat} {s body rest : List UInt8} (hs : s ≠ []) (hb : base ≤ (s.getD 0 0).toNat) (h : cutP base s = some (body, rest)) :
    s = headed base body ++ rest ∧ body.length < s.length ∧ rest.length < s.length := by
  have hc := cons_of_ne hs
  generalize hc0 : s.getD 0 0 = c at *
  generalize hl : s.drop 1 = l at *
  unfold cutP at h
  simp only [hc0, hl] at h
  generalize hn : c.toNat - base = n at *
  by_cases h1 : n ≤ 55
  · rw [if_pos h1] at h
    by_cases h2 : n ≤ l.length
    · rw [if_pos h2] at h
      simp only [Option.some.injEq, Prod.mk.injEq] at h
      obtain ⟨rfl, rfl⟩ := h
      have hlen : (l.take n).length = n := by simp; omega
      refine ⟨?_, ?_, ?_⟩
      · unfold headed head
        rw [hlen, if_pos h1, ofNat_toNat' c (base + n) (by omega)]
        rw [hc]; simp
      · rw [hc]; simp; omega
      · rw [hc]; simp; omega
    · rw [if_neg h2] at h; cases h
  · rw [if_neg h1] at h
    generalize hk : n - 55 = k at *
    by_cases h2 : l.length < k ∨ (l.getD 0 0).toNat = 0
    · rw [if_pos h2] at h; cases h
    · rw [if_neg h2] at h
      have h2a : k ≤ l.length := by omega
      have h2b : (l.getD 0 0).toNat ≠ 0 := by omega
      by_cases h3 : val (l.take k) ≤ 55 ∨ (l.drop k).length < val (l.take k)
      · rw [if_pos h3] at h; cases h
      · rw [if_neg h3] at h
        simp only [Option.some.injEq, Prod.mk.injEq] at h
        obtain ⟨rfl, rfl⟩ := h
        have hlt : (l.take k).length = k := by simp; omega
        have hbe : be (val (l.take k)) = l.take k := by
          refine be_val _ (by omega) ?_
          have : (l.take k).getD 0 0 = l.getD 0 0 := by
            have hk0 : 0 < k := by omega
            simp [List.getD_eq_getElem?_getD, hk0]
          rw [this]; exact h2b
        have h3b : val (l.take k) ≤ (l.drop k).length := by omega
        have hlen : ((l.drop k).take (val (l.take k))).length = val (l.take k) := by rw [List.length_take]; omega
        have hld : (l.drop k).length = l.length - k := by simp
        refine ⟨?_, ?_, ?_⟩
        · unfold headed head
          rw [hlen, if_neg (by omega), hbe, hlt, ofNat_toNat' c (base + 55 + k) (by omega)]
          rw [hc]
          simp only [List.cons_append, List.append_assoc]
          rw [List.take_append_drop, List.take_append_drop]
        · rw [hlen, hc]; simp only [List.length_cons]; omega
        · rw [hc]; simp only [List.length_drop, List.length_cons]; omega

theorem headed_ne (base : Nat) (s r : List UInt8) : headed base s ++ r ≠ [] := by
  unfold headed head
  split <;> simp

theorem loopP_sound {p : List UInt8 → Option (Itm × List UInt8)} (hp : ∀ s x rest, p s = some (x, rest) → s = enc x ++ rest ∧ pure x = true) :
    ∀ (m : Nat) (s : List UInt8) (l : List Itm), loopP p m s = some l → s = l.flatMap enc ∧ l.all pure = true := by
  intro m
  induction m with
  | zero =>
    intro s l h
    unfold loopP at h
    by_cases hs : s.isEmpty
    · rw [if_pos hs] at h; simp at h; subst h; simpa using hs
    · rw [if_neg hs] at h; cases h
  | succ m ih =>
    intro s l h
    unfold loopP at h
    by_cases hs : s.isEmpty
    · rw [if_pos hs] at h; simp at h; subst h; simpa using hs
    · rw [if_neg hs] at h
      cases hps : p s with
      | none => rw [hps] at h; cases h
      | some xr =>
        obtain ⟨x, rest⟩ := xr
        rw [hps] at h
        simp only [Option.map_eq_some_iff] at h
        obtain ⟨l', hl', rfl⟩ := h
        obtain ⟨e1, p1⟩ := hp s x rest hps
        obtain ⟨e2, p2⟩ := ih rest l' hl'
        refine ⟨?_, ?_⟩
        · rw [List.flatMap_cons, ← e2]; exact e1
        · simp only [List.all_cons, p1, p2, Bool.and_self]

theorem parse_sound : ∀ (f : Nat) (s : List UInt8) (x : Itm) (rest : List UInt8), parse f s = some (x, rest) → s = enc x ++ rest ∧ pure x = true := by
  intro f
  induction f with
  | zero => intro s x rest h; rw [parse_zero] at h; cases h
  | succ f ih =>
    intro s x rest h
    rw [parse_succ] at h
    unfold stepP at h
    by_cases hs : s.isEmpty
    · rw [if_pos hs] at h; cases h
    rw [if_neg hs] at h
    have hne : s ≠ [] := by intro e; subst e; simp at hs
    by_cases h1 : (s.getD 0 0).toNat < 128
    · rw [if_pos h1] at h
      simp only [Option.some.injEq, Prod.mk.injEq] at h
      obtain ⟨rfl, rfl⟩ := h
      have hc := cons_of_ne hne
      have hst : stands (s.take 1) = true := by
        unfold stands
        rw [hc]; simp; simpa using h1
      refine ⟨?_, ?_⟩
      · rw [enc_eq]
        simp only [Bool.false_eq_true, if_false]
        unfold encB
        rw [if_pos hst, List.take_append_drop]
      · rw [pure_eq]; simp
    · rw [if_neg h1] at h
      by_cases h2 : (s.getD 0 0).toNat < 192
      · rw [if_pos h2] at h
        cases hcut : cutP 128 s with
        | none => rw [hcut] at h; cases h
        | some br =>
          obtain ⟨body, rest'⟩ := br
          rw [hcut] at h
          simp only at h
          by_cases h3 : stands body
          · rw [if_pos h3] at h; cases h
          · rw [if_neg h3] at h
            simp only [Option.some.injEq, Prod.mk.injEq] at h
            obtain ⟨rfl, rfl⟩ := h
            obtain ⟨e, _⟩ := cutP_sound hne (by omega) hcut
            refine ⟨?_, ?_⟩
            · rw [enc_eq]
              simp only [Bool.false_eq_true, if_false]
              unfold encB
              rw [if_neg h3]; exact e
            · rw [pure_eq]; simp
      · rw [if_neg h2] at h
        cases hcut : cutP 192 s with
        | none => rw [hcut] at h; cases h
        | some br =>
          obtain ⟨body, rest'⟩ := br
          rw [hcut] at h
          simp only at h
          cases hl : loopP (parse f) body.length body with
          | none => rw [hl] at h; cases h
          | some l =>
            rw [hl] at h
            simp only [Option.some.injEq, Prod.mk.injEq] at h
            obtain ⟨rfl, rfl⟩ := h
            obtain ⟨e, _⟩ := cutP_sound hne (by omega) hcut
            obtain ⟨e2, p2⟩ := loopP_sound ih _ _ _ hl
            refine ⟨?_, ?_⟩
            · rw [enc_eq]
              simp only [if_true]
              rw [← e2]; exact e
            · rw [pure_eq]; simp; simpa using p2

theorem enc_ne (t : Itm) : enc t ≠ [] := by
  rw [enc_eq]
  split
  · have := headed_ne 192 (t.items.flatMap enc) []
    simpa using this
  · unfold encB
    split
    · intro h
      rename_i hst
      rw [h] at hst
      simp [stands] at hst
    · have := headed_ne 128 t.bytes []
      simpa using this

theorem headed_len (base : Nat) (s : List UInt8) : s.length < (headed base s).length := by
  unfold headed head
  split <;> simp <;> omega

theorem mem_enc_len {x : Itm} {l : List Itm} (h : x ∈ l) : (enc x).length ≤ (l.flatMap enc).length := by
  induction l with
  | nil => simp at h
  | cons y l ih =>
    rw [List.flatMap_cons, List.length_append]
    rcases List.mem_cons.1 h with rfl | h
    · omega
    · have := ih h; omega

end Itm
end Go.Proofs.YtbmohenjphmlgaaGreat

/- Plain mathematics of trees: sums, digits, paths, sound nodes, ways down, what a proof proves. Nothing of the program is in here. -/
namespace Go.Proofs.YtbmohenjphmlgaaGreat
set_option maxRecDepth 100000

namespace Tr

/-- One byte more in the sum. -/
def step (h : Nat) (b : UInt8) : Nat := ((h ^^^ b.toNat) * 1099511628211) % 18446744073709551616

/-- The sum of bytes, as a number. -/
def fnv (l : List UInt8) : Nat := l.foldl step 14695981039346656037

/-- The sum of bytes: eight bytes, the highest first. -/
def sum (l : List UInt8) : List UInt8 := (List.range 8).map fun i => UInt8.ofNat (fnv l / 256 ^ (7 - i) % 256)

theorem step_lt (h : Nat) (b : UInt8) : step h b < 18446744073709551616 := Nat.mod_lt _ (by decide)

theorem foldl_lt (l : List UInt8) (h : Nat) (hh : h < 18446744073709551616) : l.foldl step h < 18446744073709551616 := by
  induction l generalizing h with
  | nil => exact hh
  | cons b l ih => exact ih _ (step_lt _ _)

theorem fnv_lt (l : List UInt8) : fnv l < 18446744073709551616 := foldl_lt l _ (by decide)

theorem fnv_nil : fnv [] = 14695981039346656037 := by unfold fnv; rw [List.foldl_nil]

theorem fnv_append (l : List UInt8) (b : UInt8) : fnv (l ++ [b]) = step (fnv l) b := by unfold fnv; rw [List.foldl_append, List.foldl_cons, List.foldl_nil]

/-- The i-th byte of the sum. -/
def sumAt (n i : Nat) : UInt8 := UInt8.ofNat (n / 256 ^ (7 - i) % 256)

theorem sum_eq (l : List UInt8) : sum l = (List.range 8).map (sumAt (fnv l)) := rfl

theorem sum_len (l : List UInt8) : (sum l).length = 8 := by simp [sum]

/-- The digits of bytes. -/
def digits (l : List UInt8) : List UInt8 := l.flatMap fun b => [UInt8.ofNat (b.toNat / 16), UInt8.ofNat (b.toNat % 16)]

theorem digits_cons (b : UInt8) (l : List UInt8) : digits (b :: l) = UInt8.ofNat (b.toNat / 16) :: UInt8.ofNat (b.toNat % 16) :: digits l := by simp [digits]
theorem digits_append (a b : List UInt8) : digits (a ++ b) = digits a ++ digits b := by simp [digits]
theorem digits_len (l : List UInt8) : (digits l).length = 2 * l.length := by
  induction l with
  | nil => simp [digits]
  | cons b l ih => rw [digits_cons]; simp only [List.length_cons]; omega

/-- An item that is none of those that are there. -/
def zero : Itm := ⟨false, [], []⟩

/-- The i-th item within an item. -/
def kid (t : Itm) (i : Nat) : Itm := t.items.getD i zero

/-- The digits of a path, and whether it is marked. -/
def unpath (t : Itm) : Option (List UInt8 × Bool) :=
  if t.list || t.bytes.isEmpty || decide (64 ≤ (t.bytes.getD 0 0).toNat) then none
  else if decide ((t.bytes.getD 0 0).toNat / 16 % 2 ≠ 1) && decide ((t.bytes.getD 0 0).toNat % 16 ≠ 0) then none
  else some ((if (t.bytes.getD 0 0).toNat / 16 % 2 = 1 then [UInt8.ofNat ((t.bytes.getD 0 0).toNat % 16)] else []) ++ digits (t.bytes.drop 1), decide (32 ≤ (t.bytes.getD 0 0).toNat))

def isEmpty (t : Itm) : Bool := !t.list && t.bytes.isEmpty
def isBranch (t : Itm) : Bool := t.list && decide (t.items.length = 17)
def isValue (t : Itm) : Bool := !t.list && decide (1 ≤ t.bytes.length) && decide (t.bytes.length ≤ 40)
def isSum (t : Itm) : Bool := !t.list && decide (t.bytes.length = 8)

/-- Is what stands at a branch's place i as it should be? ok: whether it is itself a sound node. -/
def slotOk (i : Nat) (y : Itm) (ok : Bool) : Bool :=
  isEmpty y || (if i = 16 then isValue y else isSum y || (y.list && ok && decide ((Itm.enc y).length < 8)))

/-- How many of a branch's first n places are not empty. -/
def full (t : Itm) (n : Nat) : Nat := ((List.range n).filter fun i => !isEmpty (kid t i)).length

/-- Is a leaf or an extension as it should be? u: its path, y: what stands behind it. -/
def pairOk (u : Option (List UInt8 × Bool)) (y : Itm) : Bool :=
  match u with
  | none => false
  | some (p, leaf) => if leaf then isValue y else (decide (0 < p.length) && isSum y)

/-- Sound, once it is known which of the items within are. -/
def soundOf (t : Itm) (ok : Nat → Bool) : Bool :=
  isEmpty t ||
  (if t.items.length = 2 then
    pairOk (unpath (kid t 0)) (kid t 1)
  else isBranch t && (List.range 17).all (fun i => slotOk i (kid t i) (ok i)) && decide (2 ≤ full t 17))

/-- Is a node sound? -/
def sound (t : Itm) : Bool := soundOf t (fun i => if h : i < t.items.length then sound t.items[i] else false)
termination_by t
decreasing_by
  have := List.sizeOf_lt_of_mem (List.getElem_mem h)
  cases t
  simp_wf
  simp at this
  omega

theorem sound_eq (t : Itm) : sound t = soundOf t (fun i => if i < t.items.length then sound (kid t i) else false) := by
  rw [sound]
  congr 1
  funext i
  split
  · rename_i h
    unfold kid
    rw [List.getD_eq_getElem?_getD, List.getElem?_eq_getElem h]; rfl
  · rfl

theorem full_zero (t : Itm) : full t 0 = 0 := by unfold full; rw [List.range_zero, List.filter_nil, List.length_nil]

theorem slotOk_eq (i : Nat) (y : Itm) (ok : Bool) : slotOk i y ok = (isEmpty y || (if i = 16 then isValue y else isSum y || (y.list && ok && decide ((Itm.enc y).length < 8)))) := by unfold slotOk; rfl

theorem full_succ (t : Itm) (n : Nat) : full t (n + 1) = full t n + (if isEmpty (kid t n) then 0 else 1) := by
  unfold full
  rw [List.range_succ, List.filter_append, List.length_append]
  cases h : isEmpty (kid t n) <;> simp [h]

theorem full_le (t : Itm) (n : Nat) : full t n ≤ n := by
  have := List.length_filter_le (fun i => !isEmpty (kid t i)) (List.range n)
  rw [List.length_range] at this
  exact this

theorem sound_branch {t : Itm} (he : isEmpty t = false) (hb : isBranch t = true) : sound t = ((List.range 17).all (fun i => slotOk i (kid t i) (sound (kid t i))) && decide (2 ≤ full t 17)) := by
  have hl : t.items.length = 17 := by unfold isBranch at hb; simp at hb; exact hb.2
  have h2 : ¬ t.items.length = 2 := by omega
  rw [sound_eq]
  unfold soundOf
  rw [if_neg h2, he, hb]
  simp only [Bool.false_or, Bool.true_and]
  congr 1
  rw [Bool.eq_iff_iff, List.all_eq_true, List.all_eq_true]
  constructor
  · intro h i hi
    have := h i hi
    rw [List.mem_range] at hi
    rw [if_pos (by omega)] at this
    exact this
  · intro h i hi
    have := h i hi
    rw [List.mem_range] at hi
    rw [if_pos (by omega)]
    exact this

theorem sound_bad {t : Itm} (he : isEmpty t = false) (hb : isBranch t = true) (i : Nat) (hi : i < 17) (h : slotOk i (kid t i) (sound (kid t i)) = false) : sound t = false := by
  rw [sound_branch he hb]
  have : (List.range 17).all (fun i => slotOk i (kid t i) (sound (kid t i))) = false := by
    rw [List.all_eq_false]
    exact ⟨i, List.mem_range.2 hi, by rw [h]; decide⟩
  rw [this]; rfl

theorem sound_good {t : Itm} (he : isEmpty t = false) (hb : isBranch t = true) (h : ∀ i, i < 17 → slotOk i (kid t i) (sound (kid t i)) = true) : sound t = decide (2 ≤ full t 17) := by
  rw [sound_branch he hb]
  have : (List.range 17).all (fun i => slotOk i (kid t i) (sound (kid t i))) = true := by
    rw [List.all_eq_true]
    exact fun i hi => h i (List.mem_range.1 hi)
  rw [this]; rfl

/-- A way down: what it tells, or the sum that must be read next. -/
structure Way where
  digits : List UInt8
  branch : Bool
  value : List UInt8
  found : Bool
  need : List UInt8

def Way.none : Way := ⟨[], false, [], false, []⟩
def Way.tells (v : List UInt8) (b : Bool) : Way := ⟨[], false, v, b, []⟩

/-- The way through a reference. -/
def refersOf (t : Itm) (g : List UInt8 → Bool → Option Way) (k : List UInt8) (branch : Bool) : Option Way :=
  if isSum t then some ⟨k, branch, [], false, t.bytes⟩ else g k branch

/-- The way through a node, once the ways through those within are known. -/
def goesOf (t : Itm) (g : Nat → List UInt8 → Bool → Option Way) (k : List UInt8) (branch : Bool) : Option Way :=
  if branch && !isBranch t then none
  else if isEmpty t then some .none
  else if isBranch t then
    match k with
    | [] => some (.tells (kid t 16).bytes (!(kid t 16).bytes.isEmpty))
    | d :: r => refersOf (kid t d.toNat) (g d.toNat) r false
  else
    let u := (unpath (kid t 0)).getD ([], false)
    if u.2 then (if u.1 = k then some (.tells (kid t 1).bytes true) else some .none)
    else if k.length < u.1.length || k.take u.1.length != u.1 then some .none
    else refersOf (kid t 1) (g 1) (k.drop u.1.length) true

/-- The way through a node. -/
def goes (t : Itm) (k : List UInt8) (branch : Bool) : Option Way := goesOf t (fun i k b => if h : i < t.items.length then goes t.items[i] k b else none) k branch
termination_by t
decreasing_by
  have := List.sizeOf_lt_of_mem (List.getElem_mem h)
  cases t
  simp_wf
  simp at this
  omega

theorem goes_eq (t : Itm) (k : List UInt8) (branch : Bool) : goes t k branch = goesOf t (fun i k b => if i < t.items.length then goes (kid t i) k b else none) k branch := by
  rw [goes]
  congr 1
  funext i k b
  split
  · rename_i h
    unfold kid
    rw [List.getD_eq_getElem?_getD, List.getElem?_eq_getElem h]; rfl
  · rfl

def refers (t : Itm) (k : List UInt8) (branch : Bool) : Option Way := refersOf t (goes t) k branch

theorem branch_len {t : Itm} (hb : isBranch t = true) : t.items.length = 17 := by unfold isBranch at hb; simp at hb; exact hb.2

theorem branch_full {t : Itm} (hb : isBranch t = true) : isEmpty t = false := by
  unfold isBranch at hb; simp at hb
  unfold isEmpty; simp [hb.1]

theorem goes_stop {t : Itm} (k : List UInt8) (hb : isBranch t = false) : goes t k true = none := by
  rw [goes_eq]; unfold goesOf; rw [hb]; rfl

theorem goes_empty {t : Itm} (k : List UInt8) (he : isEmpty t = true) : goes t k false = some .none := by
  rw [goes_eq]; unfold goesOf; rw [he]; rfl

theorem goes_end {t : Itm} (br : Bool) (hb : isBranch t = true) : goes t [] br = some (.tells (kid t 16).bytes (!(kid t 16).bytes.isEmpty)) := by
  rw [goes_eq]; unfold goesOf; rw [hb, branch_full hb]; simp

theorem goes_down {t : Itm} (c : UInt8) (r : List UInt8) (br : Bool) (hb : isBranch t = true) (hc : c.toNat < 17) : goes t (c :: r) br = refers (kid t c.toNat) r false := by
  have hl := branch_len hb
  rw [goes_eq]; unfold goesOf refers; rw [hb, branch_full hb]
  have hi : c.toNat < t.items.length := by omega
  simp only [Bool.not_true, Bool.and_false, Bool.false_eq_true, if_false, if_true, hi]

theorem goes_leaf {t : Itm} (k p : List UInt8) (hb : isBranch t = false) (he : isEmpty t = false) (hu : unpath (kid t 0) = some (p, true)) : goes t k false = if p = k then some (.tells (kid t 1).bytes true) else some .none := by
  rw [goes_eq]; unfold goesOf; rw [hb, he, hu]; simp

theorem goes_miss {t : Itm} (k p : List UInt8) (hb : isBranch t = false) (he : isEmpty t = false) (hu : unpath (kid t 0) = some (p, false)) (hm : k.length < p.length ∨ k.take p.length ≠ p) : goes t k false = some .none := by
  rw [goes_eq]; unfold goesOf; rw [hb, he, hu]
  simp only [Bool.false_and, Bool.false_eq_true, if_false, Option.getD_some]
  rw [if_pos]
  rcases hm with h | h
  · simp [h]
  · simp [h]

theorem goes_hit {t : Itm} (k p : List UInt8) (hb : isBranch t = false) (he : isEmpty t = false) (h2 : t.items.length = 2) (hu : unpath (kid t 0) = some (p, false)) (hm : ¬ k.length < p.length) (hm2 : k.take p.length = p) : goes t k false = refers (kid t 1) (k.drop p.length) true := by
  rw [goes_eq]; unfold goesOf refers; rw [hb, he, hu]
  simp only [Bool.false_and, Bool.false_eq_true, if_false, Option.getD_some]
  rw [if_neg (by simp [hm, hm2])]
  have hi : 1 < t.items.length := by omega
  simp only [hi, if_true]

/-- What a sound node has in it. -/
theorem sound_two {t : Itm} (hs : sound t = true) (he : isEmpty t = false) (hb : isBranch t = false) : t.items.length = 2 ∧ pairOk (unpath (kid t 0)) (kid t 1) = true := by
  rw [sound_eq] at hs
  unfold soundOf at hs
  rw [he, hb] at hs
  simp only [Bool.false_or, Bool.false_and] at hs
  split at hs
  · rename_i h; exact ⟨h, hs⟩
  · simp at hs

theorem sound_down {t : Itm} (hs : sound t = true) (hb : isBranch t = true) (i : Nat) (hi : i < 16) : isSum (kid t i) = true ∨ sound (kid t i) = true := by
  rw [sound_branch (branch_full hb) hb] at hs
  simp only [Bool.and_eq_true, List.all_eq_true] at hs
  have := hs.1 i (List.mem_range.2 (by omega))
  rw [slotOk_eq, if_neg (by omega)] at this
  simp only [Bool.or_eq_true, Bool.and_eq_true] at this
  rcases this with h | h | h
  · right; rw [sound_eq]; unfold soundOf; rw [h]; rfl
  · exact .inl h
  · exact .inr h.1.2

/-- The item whose bytes these are. -/
def whole (s : List UInt8) : Option Itm := match Itm.parse s.length s with | some (t, []) => some t | _ => none

/-- One element of a proof. -/
def vstep (i : Nat) (w : Way) (s : List UInt8) : Option Way :=
  if w.need = [] || sum s != w.need || (decide (0 < i) && decide (s.length < 8)) then none
  else match whole s with
    | none => none
    | some t => if sound t then goes t w.digits w.branch else none

def vloop : Nat → Way → List (List UInt8) → Option Way
  | _, w, [] => some w
  | i, w, s :: l => match vstep i w s with
    | none => none
    | some w' => vloop (i + 1) w' l

/-- The answer at the end of the way. -/
def verEnd (o : Option Way) : List UInt8 × Bool × Nat :=
  match o with
  | none => ([], false, 6)
  | some w => if w.need = [] then (w.value, w.found, 0) else ([], false, 6)

/-- What a proof proves. -/
def verify (root key : List UInt8) (proof : List (List UInt8)) : List UInt8 × Bool × Nat :=
  if root.length ≠ 8 then ([], false, 5)
  else if 6 < key.length then ([], false, 3)
  else if 20 < proof.length ∨ ∃ s ∈ proof, 1000 < s.length then ([], false, 2)
  else verEnd (vloop 0 ⟨digits key, false, [], false, root⟩ proof)

theorem vloop_cons (i : Nat) (w : Way) (s : List UInt8) (l : List (List UInt8)) : vloop i w (s :: l) = match vstep i w s with | none => none | some w' => vloop (i + 1) w' l := by rw [vloop]

theorem vloop_stop {i : Nat} {w : Way} {s : List UInt8} {l : List (List UInt8)} (h : vstep i w s = none) : vloop i w (s :: l) = none := by rw [vloop_cons, h]

theorem vloop_go {i : Nat} {w w' : Way} {s : List UInt8} {l : List (List UInt8)} (h : vstep i w s = some w') : vloop i w (s :: l) = vloop (i + 1) w' l := by rw [vloop_cons, h]

theorem vstep_a {i : Nat} {w : Way} {s : List UInt8} (h : w.need = []) : vstep i w s = none := by unfold vstep; simp [h]
theorem vstep_b {i : Nat} {w : Way} {s : List UInt8} (h : sum s ≠ w.need) : vstep i w s = none := by unfold vstep; simp [h]
theorem vstep_c {i : Nat} {w : Way} {s : List UInt8} (h : 0 < i) (h2 : s.length < 8) : vstep i w s = none := by unfold vstep; simp [h, h2]
theorem vstep_d {i : Nat} {w : Way} {s : List UInt8} (h0 : w.need ≠ []) (h1 : sum s = w.need) (h2 : ¬ (0 < i ∧ s.length < 8)) : vstep i w s = match whole s with | none => none | some t => if sound t then goes t w.digits w.branch else none := by
  unfold vstep
  rw [if_neg]
  intro h
  simp only [Bool.or_eq_true, decide_eq_true_eq, bne_iff_ne, ne_eq, Bool.and_eq_true] at h
  rcases h with (h | h) | h
  · exact h0 h
  · exact h h1
  · exact h2 h
end Tr
end Go.Proofs.YtbmohenjphmlgaaGreat

/- Plain mathematics of ways down. Nothing of the program is in here. -/
namespace Go.Proofs.YtbmohenjphmlgaaGreat
set_option maxRecDepth 100000

namespace Tr

theorem digits_lt (l : List UInt8) : ∀ c ∈ digits l, c.toNat < 16 := by
  intro c hc
  unfold digits at hc
  rw [List.mem_flatMap] at hc
  obtain ⟨b, _, hb⟩ := hc
  have hlt := b.toNat_lt
  simp only [List.mem_cons, List.not_mem_nil, or_false] at hb
  rcases hb with rfl | rfl
  · simp; omega
  · simp; omega

theorem goes_sub : ∀ (t : Itm) (k : List UInt8) (br : Bool) (y : Way), goes t k br = some y → (∀ c ∈ y.digits, c ∈ k) ∧ y.digits.length ≤ k.length := by
  intro t
  refine Itm.ind (p := fun t => ∀ (k : List UInt8) (br : Bool) (y : Way), goes t k br = some y → (∀ c ∈ y.digits, c ∈ k) ∧ y.digits.length ≤ k.length) ?_ t
  intro t ih k br y h
  have hnone : (some Way.none = some y) → (∀ c ∈ y.digits, c ∈ k) ∧ y.digits.length ≤ k.length := by
    intro e; cases e; exact ⟨fun c hc => (by simp [Way.none] at hc), by simp [Way.none]⟩
  have htells : ∀ v b, (some (Way.tells v b) = some y) → (∀ c ∈ y.digits, c ∈ k) ∧ y.digits.length ≤ k.length := by
    intro v b e; cases e; exact ⟨fun c hc => (by simp [Way.tells] at hc), by simp [Way.tells]⟩
  have hdown : ∀ (i : Nat) (r : List UInt8) (b : Bool), refersOf (kid t i) (fun k b => if i < t.items.length then goes (kid t i) k b else none) r b = some y → (∀ c ∈ r, c ∈ k) → r.length ≤ k.length → (∀ c ∈ y.digits, c ∈ k) ∧ y.digits.length ≤ k.length := by
    intro i r b e hr hl
    unfold refersOf at e
    split at e
    · cases e; exact ⟨hr, hl⟩
    · by_cases hi : i < t.items.length
      · simp only [hi, if_true] at e
        have hm : kid t i ∈ t.items := by
          unfold kid
          rw [List.getD_eq_getElem?_getD, List.getElem?_eq_getElem hi]
          exact List.getElem_mem hi
        obtain ⟨q1, q2⟩ := ih _ hm r b y e
        exact ⟨fun c hc => hr c (q1 c hc), Nat.le_trans q2 hl⟩
      · simp only [hi, if_false] at e
        cases e
  rw [goes_eq] at h
  unfold goesOf at h
  split at h
  · cases h
  · split at h
    · exact hnone h
    · split at h
      · split at h
        · exact htells _ _ h
        · exact hdown _ _ _ h (fun c hc => by simp [hc]) (by simp)
      · dsimp only at h
        split at h
        · split at h
          · exact htells _ _ h
          · exact hnone h
        · split at h
          · exact hnone h
          · exact hdown 1 _ _ h (fun c hc => List.mem_of_mem_drop hc) (by simp)

theorem whole_some {s : List UInt8} {t : Itm} (h : whole s = some t) : Itm.parse s.length s = some (t, []) := by
  unfold whole at h
  split at h
  · rename_i t' h'
    cases h
    exact h'
  · cases h

theorem whole_none {s : List UInt8} (h : whole s = none) : ∀ t, Itm.parse s.length s ≠ some (t, []) := by
  intro t e
  unfold whole at h
  rw [e] at h
  cases h

end Tr
end Go.Proofs.YtbmohenjphmlgaaGreat

/- Plain mathematics of trees: paths, tables, their nodes, the root. Nothing of the program is in here. -/
namespace Go.Proofs.YtbmohenjphmlgaaGreat
set_option maxRecDepth 100000

namespace Tr

/-- What is left of a key's digits, and its value. -/
structure Ent where
  dig : List UInt8
  val : List UInt8

/-- Two digits a byte. -/
def pack : List UInt8 → List UInt8
  | a :: b :: r => UInt8.ofNat (16 * a.toNat + b.toNat) :: pack r
  | _ => []

/-- The path of digits. -/
def path (l : List UInt8) (leaf : Bool) : List UInt8 :=
  if l.length % 2 = 1 then UInt8.ofNat ((if leaf then 32 else 0) + 16 + (l.getD 0 0).toNat) :: pack (l.drop 1)
  else UInt8.ofNat (if leaf then 32 else 0) :: pack l

/-- What two begin with alike. -/
def lcp : List UInt8 → List UInt8 → List UInt8
  | a :: r, b :: s => if a = b then a :: lcp r s else []
  | _, _ => []

def sharedFrom (s : List UInt8) (l : List Ent) : List UInt8 := l.foldl (fun s x => lcp s x.dig) s

/-- What all begin with alike. -/
def shared : List Ent → List UInt8
  | [] => []
  | e :: l => sharedFrom e.dig (e :: l)

/-- Those that begin with s, without it. -/
def behind (s : List UInt8) (l : List Ent) : List Ent := l.filterMap fun e => if s.isPrefixOf e.dig then some ⟨e.dig.drop s.length, e.val⟩ else none

/-- The value of the one without digits. -/
def valOf (l : List Ent) : List UInt8 := l.foldl (fun v e => if e.dig = [] then e.val else v) []

def itB (s : List UInt8) : Itm := ⟨false, s, []⟩
def itL (l : List Itm) : Itm := ⟨true, [], l⟩

/-- The reference to a node. -/
def ref (t : Itm) : Itm := if (Itm.enc t).length < 8 then t else itB (sum (Itm.enc t))

/-- The node of entries, once those of fewer digits are known. -/
def nodeOf (g : List Ent → Itm) (l : List Ent) : Itm :=
  match l with
  | [] => itB []
  | [e] => itL [itB (path e.dig true), itB e.val]
  | _ => if shared l = [] then itL ((List.range 16).map (fun d => ref (g (behind [UInt8.ofNat d] l))) ++ [itB (valOf l)])
         else itL [itB (path (shared l) false), ref (g (behind (shared l) l))]

/-- The node of entries, with so many steps down at most. -/
def node : Nat → List Ent → Itm
  | 0, _ => zero
  | f + 1, l => nodeOf (node f) l

/-- The pairs that count. -/
def table : List (List UInt8 × List UInt8) → List Ent
  | [] => []
  | p :: r => if p.1 ∈ r.map (·.1) ∨ p.2 = [] then table r else ⟨digits p.1, p.2⟩ :: table r

/-- What is wrong with pairs: nought if nothing is. -/
def fault (ps : List (List UInt8 × List UInt8)) (key : List UInt8) : Nat :=
  if 60 < ps.length then 2
  else if (∃ p ∈ ps, 6 < p.1.length) ∨ 6 < key.length then 3
  else if ∃ p ∈ ps, 40 < p.2.length then 4
  else 0

/-- The root of a table. -/
def root (ps : List (List UInt8 × List UInt8)) : List UInt8 × Nat :=
  if fault ps [] = 0 then (sum (Itm.enc (node 13 (table ps))), 0) else ([], fault ps [])

/-- Entries of at most so many digits, each below 16, with values that may be. -/
def Fits (f : Nat) (l : List Ent) : Prop := ∀ e ∈ l, e.dig.length < f ∧ (∀ c ∈ e.dig, c.toNat < 16) ∧ e.val.length ≤ 40

theorem enc_itB (s : List UInt8) : Itm.enc (itB s) = Itm.encB s := by rw [Itm.enc_eq]; rfl
theorem deep_le (t : Itm) : Itm.deep t ≤ (Itm.enc t).length := by
  refine Itm.ind (p := fun t => Itm.deep t ≤ (Itm.enc t).length) ?_ t
  intro t ih
  rw [Itm.deep_eq, Itm.enc_eq]
  split
  · have h1 := Itm.headed_len 192 (t.items.flatMap Itm.enc)
    have h2 : Itm.top (t.items.map Itm.deep) ≤ (t.items.flatMap Itm.enc).length := by
      apply Itm.top_le
      intro x hx
      rw [List.mem_map] at hx
      obtain ⟨y, hy, rfl⟩ := hx
      refine Nat.le_trans (ih y hy) ?_
      have : ∀ l : List Itm, y ∈ l → (Itm.enc y).length ≤ (l.flatMap Itm.enc).length := by
        intro l
        induction l with
        | nil => intro h; simp at h
        | cons z l ihl =>
          intro h
          simp only [List.flatMap_cons, List.length_append]
          rcases List.mem_cons.1 h with rfl | h
          · omega
          · have := ihl h; omega
      exact this _ hy
    omega
  · omega

end Tr
end Go.Proofs.YtbmohenjphmlgaaGreat

/- Walks of the functions that read texts alone: standsForItself, longLength, cut. -/
namespace Go.Proofs.YtbmohenjphmlgaaGreat
open Go.RowKit
set_option maxRecDepth 100000

theorem ba_getD (s : ByteArray) (h : 0 < s.size) : s.data.toList.getD 0 0 = s[0] := by
  have h' : 0 < s.data.size := h
  rw [List.getD_eq_getElem?_getD, Array.getElem?_toList, Array.getElem?_eq_getElem h']
  rfl

theorem ba_len (s : ByteArray) : s.data.toList.length = s.size := by simp

theorem stands_eq (s : ByteArray) : Itm.stands s.data.toList = (decide (s.size = 1) && decide ((s.data.toList.getD 0 0).toNat < 128)) := by
  unfold Itm.stands; rw [ba_len]

set_option maxHeartbeats 400000 in
theorem stands_any (s : ByteArray) (w : World) :
    Calls Tryz.prog 158 #[.string s] w fun e w' => e = .returned (.bool (Itm.stands s.data.toList)) ∧ w' = w := by
  rw [stands_eq]
  by_cases h1 : s.size = 1
  · have hlt : 0 < s.size := by omega
    have HG : Hid (s.data.toList.getD 0 0 = s[0]) := ba_getD s hlt
    have HS : Hid (s.size = 1) := h1
    have hb : ((s.size : Int) == 1) = true := by simp; omega
    go_enter Tryz.func158, Tryz.ntmps158
    clear h1
    go_wp2
    · go_ret
      have e1 : decide (s.size = 1) = true := by simp [HS.out]
      exact ⟨by rw [HG.out, e1]; simp; omega, rfl⟩
  · have hb : ((s.size : Int) == 1) = false := by simp; omega
    go_enter Tryz.func158, Tryz.ntmps158
    go_wp2
    go_ret
    exact ⟨by simp [h1], rfl⟩

theorem or_byte (n c : Nat) (hc : c < 256) (hn : n * 256 + c < 18446744073709551616) :
    bits .or .u64 (IntKind.u64.wrap ((n : Int) * 256)) (IntKind.u64.wrap (c : Int)) = ((n * 256 + c : Nat) : Int) := by
  rw [IntKind.wrap_u64, IntKind.wrap_u64]
  have a1 : (0 : Int) ≤ (n : Int) * 256 := by omega
  have a2 : (n : Int) * 256 < 18446744073709551616 := by omega
  have e1 : ((n : Int) * 256) % 18446744073709551616 = ((n * 256 : Nat) : Int) := by
    rw [Int.emod_eq_of_lt a1 a2]; omega
  have e2 : (c : Int) % 18446744073709551616 = (c : Int) := Int.emod_eq_of_lt (by omega) (by omega)
  have a3 : n * 256 < 18446744073709551616 := Nat.lt_of_le_of_lt (Nat.le_add_right _ _) hn
  have a4 : c < 18446744073709551616 := Nat.lt_of_le_of_lt (Nat.le_add_left _ _) hn
  rw [e1, e2, u64_or_nat _ _ a3 a4]
  have := Nat.two_pow_add_eq_or_of_lt (i := 8) (b := c) (by omega) n
  have e3 : 2 ^ 8 * n = n * 256 := by omega
  rw [e3] at this
  rw [this]

theorem take_snoc (s : ByteArray) (k : Nat) (h : k < s.size) : s.data.toList.take (k + 1) = s.data.toList.take k ++ [s[k]] := by
  rw [List.take_succ_eq_append_getElem (by simpa using h)]; rfl

theorem val_take_lt (l : List UInt8) (j : Nat) (hj : j ≤ 7) : Itm.val (l.take j) < 256 ^ 7 := by
  have h := Itm.val_lt (l.take j)
  have h2 : (l.take j).length ≤ 7 := by simp; omega
  exact Nat.lt_of_lt_of_le h (Nat.pow_le_pow_right (by omega) h2)

set_option maxHeartbeats 400000 in
theorem long_yes (s : ByteArray) (k : Nat) (w : World) (hs : s.size ≤ maxLen) (hk : 1 ≤ k) (hk8 : k ≤ 8) (h0 : k ≤ s.size) (h1 : 0 < s.size) (hz : ((s[0].toNat : Int) == 0) = false) :
    Calls Tryz.prog 166 #[.string s, .int .i64 k] w fun e w' => e = .returned (.tuple #[.int .u64 (Itm.val (s.data.toList.take k)), .bool (decide (55 < Itm.val (s.data.toList.take k)))]) ∧ w' = w := by
  unfold maxLen at hs
  have hlt : decide (s.size < k) = false := by simp; omega
  go_enter Tryz.func166, Tryz.ntmps166
  go_wp2
  go_loop [6, 18] (fun n i => ∃ j : Nat, j ≤ k ∧ i = .int .i64 j ∧ n = .int .u64 (Itm.val (s.data.toList.take j))) (fun _ i => k - (intOf i).toNat)
  case atStart => exact ⟨0, Nat.zero_le _, rfl, rfl⟩
  case round =>
    obtain ⟨j, hj, rfl, rfl⟩ := hrel
    by_cases hlt : j < k
    · have hts := take_snoc s j (by omega)
      have hv := val_take_lt s.data.toList j (by omega)
      have hob := or_byte (Itm.val (s.data.toList.take j)) (s[j]'(by omega)).toNat (s[j]'(by omega)).toNat_lt (by have := (s[j]'(by omega)).toNat_lt; omega)
      have HO : Hid (bits .or .u64 (IntKind.u64.wrap ((Itm.val (s.data.toList.take j) : Nat) * 256)) (IntKind.u64.wrap ((s[j]'(by omega)).toNat : Int)) = ((Itm.val (s.data.toList.take (j + 1)) : Nat) : Int)) := by
        rw [hts, Itm.val_snoc]; exact hob
      clear hts hob hv
      go_wp2
      go_round
      case rel => exact ⟨j + 1, by omega, by go_num, by rw [HO.out]⟩
      case measure => simp [intOf]; omega
    · go_wp2
      go_ret2
      have hjk : j = k := by omega
      subst hjk
      refine ⟨?_, rfl⟩
      simp
      omega

set_option maxHeartbeats 400000 in
theorem long_short (s : ByteArray) (k : Nat) (w : World) (h0 : s.size < k) :
    Calls Tryz.prog 166 #[.string s, .int .i64 k] w fun e w' => e = .returned (.tuple #[.int .u64 0, .bool false]) ∧ w' = w := by
  have hlt : decide (s.size < k) = true := by simp; omega
  go_enter Tryz.func166, Tryz.ntmps166
  go_wp2
  go_ret2
  exact ⟨rfl, rfl⟩

set_option maxHeartbeats 400000 in
theorem long_zero (s : ByteArray) (k : Nat) (w : World) (h0 : k ≤ s.size) (h1 : 0 < s.size) (hz : ((s[0].toNat : Int) == 0) = true) :
    Calls Tryz.prog 166 #[.string s, .int .i64 k] w fun e w' => e = .returned (.tuple #[.int .u64 0, .bool false]) ∧ w' = w := by
  have hlt : decide (s.size < k) = false := by simp; omega
  go_enter Tryz.func166, Tryz.ntmps166
  go_wp2
  go_ret2
  exact ⟨rfl, rfl⟩

end Go.Proofs.YtbmohenjphmlgaaGreat
