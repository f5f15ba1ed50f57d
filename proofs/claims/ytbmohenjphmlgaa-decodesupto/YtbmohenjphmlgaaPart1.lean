/- Part 1 of a proof: what the last text needs. -/
import Derived.Test.YtbmohenjphmlgaaProg
import Derived.WalkKit
import Derived.WalkSpells
import Derived.WalkLawsBesides
import Derived.BigQuiet
import Derived.Lib.Strings
import Derived.Lib.IndexBytes
import Derived.Shelf.LaysM
import Derived.Shelf.Strconv.Clone
/- Plain mathematics of items: their bytes, reading them back, that the two are inverse. Nothing of the program is in here. -/
namespace Go.Proofs.Ytbmohenjphmlgaa
set_option maxRecDepth 100000

/-- An item: its mark 'list', its bytes, its items. -/
structure Itm where
  list : Bool
  bytes : List UInt8
  items : List Itm

namespace Itm

/-- The greatest of some numbers. -/
def top (l : List Nat) : Nat := l.foldl max 0

theorem foldl_max (l : List Nat) (a : Nat) : l.foldl max a = max a (l.foldl max 0) := by
  induction l generalizing a with
  | nil => simp
  | cons x l ih => simp only [List.foldl_cons]; rw [ih, ih (max 0 x)]; simp [Nat.max_assoc]

theorem top_cons (x : Nat) (l : List Nat) : top (x :: l) = max x (top l) := by
  unfold top; simp only [List.foldl_cons]; rw [foldl_max]; simp

theorem top_nil : top [] = 0 := rfl

theorem top_append (a b : List Nat) : top (a ++ b) = max (top a) (top b) := by
  induction a with
  | nil => simp [top_nil]
  | cons x a ih => simp [top_cons, ih, Nat.max_assoc]

theorem le_top {x : Nat} {l : List Nat} (h : x ∈ l) : x ≤ top l := by
  induction l with
  | nil => simp at h
  | cons y l ih =>
    rw [top_cons]
    rcases List.mem_cons.1 h with rfl | h
    · omega
    · have := ih h; omega

theorem top_le {l : List Nat} {n : Nat} (h : ∀ x ∈ l, x ≤ n) : top l ≤ n := by
  induction l with
  | nil => simp [top_nil]
  | cons y l ih =>
    rw [top_cons]
    have h1 := h y (by simp)
    have h2 := ih (fun x hx => h x (by simp [hx]))
    omega

/-- A number above 0 in as few bytes as may be, the highest first. -/
def be (n : Nat) : List UInt8 := if n < 256 then [UInt8.ofNat n] else be (n / 256) ++ [UInt8.ofNat (n % 256)]

/-- The number that bytes tell, the highest first. -/
def val (l : List UInt8) : Nat := l.foldl (fun n c => n * 256 + c.toNat) 0

def head (base n : Nat) : List UInt8 := if n ≤ 55 then [UInt8.ofNat (base + n)] else UInt8.ofNat (base + 55 + (be n).length) :: be n

def headed (base : Nat) (s : List UInt8) : List UInt8 := head base s.length ++ s

def stands (s : List UInt8) : Bool := decide (s.length = 1) && decide ((s.getD 0 0).toNat < 128)

def encB (b : List UInt8) : List UInt8 := if stands b then b else headed 128 b

/-- The bytes of an item. -/
def enc : Itm → List UInt8
  | ⟨l, b, is⟩ => if l then headed 192 (is.attach.flatMap fun ⟨x, _⟩ => enc x) else encB b

/-- Its depth, as its bytes have it (what it has no use for is passed by). -/
def deep : Itm → Nat
  | ⟨l, _, is⟩ => if l then top (is.attach.map fun ⟨x, _⟩ => deep x) + 1 else 0

/-- Has it, and all within it, but the fields that its kind uses? -/
def pure : Itm → Bool
  | ⟨l, b, is⟩ => (if l then b.isEmpty else is.isEmpty) && is.attach.all fun ⟨x, _⟩ => pure x

theorem enc_eq (t : Itm) : enc t = if t.list then headed 192 (t.items.flatMap enc) else encB t.bytes := by
  obtain ⟨l, b, is⟩ := t
  simp [enc]

theorem deep_eq (t : Itm) : deep t = if t.list then top (t.items.map deep) + 1 else 0 := by
  obtain ⟨l, b, is⟩ := t
  simp [deep]

theorem pure_eq (t : Itm) : pure t = ((if t.list then t.bytes.isEmpty else t.items.isEmpty) && t.items.all pure) := by
  obtain ⟨l, b, is⟩ := t
  simp [pure]

/-- Induction over items: what holds of an item if it holds of all in it. -/
theorem ind {p : Itm → Prop} (h : ∀ t : Itm, (∀ x ∈ t.items, p x) → p t) (t : Itm) : p t := by
  refine Itm.rec (motive_1 := p) (motive_2 := fun l => ∀ x ∈ l, p x) ?_ ?_ ?_ t
  · intro l b is ih; exact h ⟨l, b, is⟩ ih
  · intro x hx; simp at hx
  · intro a l ha hl x hx
    rcases List.mem_cons.1 hx with rfl | hx
    · exact ha
    · exact hl x hx

theorem be_small {n : Nat} (h : n < 256) : be n = [UInt8.ofNat n] := by rw [be, if_pos h]
theorem be_large {n : Nat} (h : ¬ n < 256) : be n = be (n / 256) ++ [UInt8.ofNat (n % 256)] := by rw [be, if_neg h]

theorem be_len_pos (n : Nat) : 0 < (be n).length := by
  rw [be]; split <;> simp

theorem val_snoc (l : List UInt8) (c : UInt8) : val (l ++ [c]) = val l * 256 + c.toNat := by simp [val]

theorem val_be (n : Nat) : val (be n) = n := by
  induction n using Nat.strongRecOn with
  | _ n ih =>
    by_cases h : n < 256
    · rw [be_small h]; simp [val]; omega
    · rw [be_large h, val_snoc, ih (n / 256) (by omega)]
      simp; omega

/-- Induction over a list from its end. -/
theorem snoc_ind {α : Type} {p : List α → Prop} (h0 : p []) (h1 : ∀ l c, p l → p (l ++ [c])) (l : List α) : p l := by
  have h : ∀ l : List α, p l.reverse := by
    intro l
    induction l with
    | nil => simpa using h0
    | cons c l ih => simpa using h1 _ c ih
  have := h l.reverse
  simpa using this

theorem getD_left (a b : List UInt8) (h : 0 < a.length) : (a ++ b).getD 0 0 = a.getD 0 0 := by
  simp [List.getD_eq_getElem?_getD, List.getElem?_append_left h]

theorem val_lt (l : List UInt8) : val l < 256 ^ l.length := by
  refine snoc_ind (p := fun l => val l < 256 ^ l.length) (by simp [val]) ?_ l
  · intro l c ih
    rw [val_snoc, List.length_append, List.length_singleton, Nat.pow_succ]
    have := c.toNat_lt
    omega

theorem be_len_le (n k : Nat) (h : n < 256 ^ k) (hk : 0 < k) : (be n).length ≤ k := by
  induction k generalizing n with
  | zero => omega
  | succ k ih =>
    by_cases hn : n < 256
    · rw [be_small hn]; simp
    · rw [be_large hn]
      have hk0 : 0 < k := by
        rcases Nat.eq_zero_or_pos k with rfl | h0
        · simp at h; omega
        · exact h0
      have : n / 256 < 256 ^ k := by
        rw [Nat.pow_succ] at h
        exact Nat.div_lt_of_lt_mul (by omega)
      have := ih (n / 256) this hk0
      simp; omega

theorem be_head_ne {n : Nat} (h : 0 < n) : ((be n).getD 0 0).toNat ≠ 0 := by
  induction n using Nat.strongRecOn with
  | _ n ih =>
    by_cases hn : n < 256
    · rw [be_small hn]; simp; omega
    · rw [be_large hn]
      have hp := be_len_pos (n / 256)
      have := ih (n / 256) (by omega) (by omega)
      rw [getD_left _ _ hp]
      exact this

/-- Bytes whose first is not 0 are the fewest for their number. -/
theorem be_val (l : List UInt8) : 0 < l.length → (l.getD 0 0).toNat ≠ 0 → be (val l) = l := by
  refine snoc_ind (p := fun l => 0 < l.length → (l.getD 0 0).toNat ≠ 0 → be (val l) = l) (by simp) ?_ l
  · intro l c ih _ h
    rw [val_snoc]
    have hc := c.toNat_lt
    rcases Nat.eq_zero_or_pos l.length with h1 | h1
    · have : l = [] := List.length_eq_zero_iff.1 h1
      subst this
      rw [be_small (by simp [val]; omega)]
      simp [val]
    · have hh : (l.getD 0 0).toNat ≠ 0 := by
        rw [getD_left _ _ h1] at h; exact h
      have hb := ih h1 hh
      have hv : 0 < val l := by
        rcases Nat.eq_zero_or_pos (val l) with hz | hz
        · exfalso
          rw [hz] at hb
          rw [be_small (by omega)] at hb
          rw [← hb] at hh
          simp at hh
        · exact hz
      rw [be_large (by omega)]
      have e1 : (val l * 256 + c.toNat) / 256 = val l := by omega
      have e2 : (val l * 256 + c.toNat) % 256 = c.toNat := by omega
      rw [e1, e2, hb]
      simp

end Itm
end Go.Proofs.Ytbmohenjphmlgaa

/- Plain mathematics of items, continued: an item is read of its bytes, and of no others. Nothing of the program is in here. -/
namespace Go.Proofs.Ytbmohenjphmlgaa
set_option maxRecDepth 100000
namespace Itm

/-- The body and what is behind it, of bytes that open with a head of the kind of 'base'. -/
def cutP (base : Nat) (s : List UInt8) : Option (List UInt8 × List UInt8) :=
  if (s.getD 0 0).toNat - base ≤ 55 then
    if (s.getD 0 0).toNat - base ≤ (s.drop 1).length then
      some ((s.drop 1).take ((s.getD 0 0).toNat - base), (s.drop 1).drop ((s.getD 0 0).toNat - base)) else none
  else
    if (s.drop 1).length < (s.getD 0 0).toNat - base - 55 ∨ ((s.drop 1).getD 0 0).toNat = 0 then none
    else
      if val ((s.drop 1).take ((s.getD 0 0).toNat - base - 55)) ≤ 55 ∨ ((s.drop 1).drop ((s.getD 0 0).toNat - base - 55)).length < val ((s.drop 1).take ((s.getD 0 0).toNat - base - 55)) then none
      else some (((s.drop 1).drop ((s.getD 0 0).toNat - base - 55)).take (val ((s.drop 1).take ((s.getD 0 0).toNat - base - 55))),
        ((s.drop 1).drop ((s.getD 0 0).toNat - base - 55)).drop (val ((s.drop 1).take ((s.getD 0 0).toNat - base - 55))))

/-- Items one behind the other, till nothing is left. -/
def loopP (p : List UInt8 → Option (Itm × List UInt8)) : Nat → List UInt8 → Option (List Itm)
  | 0, s => if s.isEmpty then some [] else none
  | m + 1, s => if s.isEmpty then some [] else
    match p s with
    | none => none
    | some (x, rest) => (loopP p m rest).map (x :: ·)

/-- The item that bytes begin with, and what is behind it: by a reading of what is within it. -/
def stepP (p : List UInt8 → Option (Itm × List UInt8)) (s : List UInt8) : Option (Itm × List UInt8) :=
  if s.isEmpty then none
  else if (s.getD 0 0).toNat < 128 then some (⟨false, s.take 1, []⟩, s.drop 1)
  else if (s.getD 0 0).toNat < 192 then
    match cutP 128 s with
    | none => none
    | some (body, rest) => if stands body then none else some (⟨false, body, []⟩, rest)
  else
    match cutP 192 s with
    | none => none
    | some (body, rest) =>
      match loopP p body.length body with
      | none => none
      | some l => some (⟨true, [], l⟩, rest)

def parse : Nat → List UInt8 → Option (Itm × List UInt8)
  | 0 => fun _ => none
  | f + 1 => stepP (parse f)

theorem parse_zero (s : List UInt8) : parse 0 s = none := by rw [parse]
theorem parse_succ (f : Nat) (s : List UInt8) : parse (f + 1) s = stepP (parse f) s := by rw [parse]

theorem cons_of_ne {s : List UInt8} (h : s ≠ []) : s = s.getD 0 0 :: s.drop 1 := by
  cases s with
  | nil => exact absurd rfl h
  | cons c l => simp

theorem ofNat_toNat' (c : UInt8) (n : Nat) (h : n = c.toNat) : UInt8.ofNat n = c := by subst h; simp

theorem cutP_sound {base : Nat} {s body rest : List UInt8} (hs : s ≠ []) (hb : base ≤ (s.getD 0 0).toNat) (h : cutP base s = some (body, rest)) :
    s = headed base body ++ rest ∧ body.length < s.length ∧ rest.length < s.length := by
  have hc := cons_of_ne hs
  generalize hc0 : s.getD 0 0 = c at *
  generalize hl : s.drop 1 = l at *
  unfold cutP at h
  simp only [hc0, hl] at h
  generalize hn : c.toNat - base = n at *
  by_cases h1 : n ≤ 55
  · rw [if_pos h1] at h
    by_cases h2 : n ≤ l.length
    · rw [if_pos h2] at h
      simp only [Option.some.injEq, Prod.mk.injEq] at h
      obtain ⟨rfl, rfl⟩ := h
      have hlen : (l.take n).length = n := by simp; omega
      refine ⟨?_, ?_, ?_⟩
      · unfold headed head
        rw [hlen, if_pos h1, ofNat_toNat' c (base + n) (by omega)]
        rw [hc]; simp
      · rw [hc]; simp; omega
      · rw [hc]; simp; omega
    · rw [if_neg h2] at h; cases h
  · rw [if_neg h1] at h
    generalize hk : n - 55 = k at *
    by_cases h2 : l.length < k ∨ (l.getD 0 0).toNat = 0
    · rw [if_pos h2] at h; cases h
    · rw [if_neg h2] at h
      have h2a : k ≤ l.length := by omega
      have h2b : (l.getD 0 0).toNat ≠ 0 := by omega
      by_cases h3 : val (l.take k) ≤ 55 ∨ (l.drop k).length < val (l.take k)
      · rw [if_pos h3] at h; cases h
      · rw [if_neg h3] at h
        simp only [Option.some.injEq, Prod.mk.injEq] at h
        obtain ⟨rfl, rfl⟩ := h
        have hlt : (l.take k).length = k := by simp; omega
        have hbe : be (val (l.take k)) = l.take k := by
          refine be_val _ (by omega) ?_
          have : (l.take k).getD 0 0 = l.getD 0 0 := by
            have hk0 : 0 < k := by omega
            simp [List.getD_eq_getElem?_getD, hk0]
          rw [this]; exact h2b
        have h3b : val (l.take k) ≤ (l.drop k).length := by omega
        have hlen : ((l.drop k).take (val (l.take k))).length = val (l.take k) := by rw [List.length_take]; omega
        have hld : (l.drop k).length = l.length - k := by simp
        refine ⟨?_, ?_, ?_⟩
        · unfold headed head
          rw [hlen, if_neg (by omega), hbe, hlt, ofNat_toNat' c (base + 55 + k) (by omega)]
          rw [hc]
          simp only [List.cons_append, List.append_assoc]
          rw [List.take_append_drop, List.take_append_drop]
        · rw [hlen, hc]; simp only [List.length_cons]; omega
        · rw [hc]; simp only [List.length_drop, List.length_cons]; omega

theorem headed_ne (base : Nat) (s r : List UInt8) : headed base s ++ r ≠ [] := by
  unfold headed head
  split <;> simp

theorem headed_first (base : Nat) (s r : List UInt8) (hb : base + 63 < 256) (hs : s.length < 256 ^ 8) :
    ((headed base s ++ r).getD 0 0).toNat = base + (if s.length ≤ 55 then s.length else 55 + (be s.length).length) := by
  have hl := be_len_le s.length 8 hs (by omega)
  unfold headed head
  split
  · simp; omega
  · simp; omega

theorem cutP_complete {base : Nat} (s rest : List UInt8) (hb : base + 63 < 256) (hs : s.length < 256 ^ 8) : cutP base (headed base s ++ rest) = some (s, rest) := by
  have hf := headed_first base s rest hb hs
  have hl := be_len_le s.length 8 hs (by omega)
  have hp := be_len_pos s.length
  unfold cutP
  rw [hf]
  by_cases h1 : s.length ≤ 55
  · have hd : (headed base s ++ rest).drop 1 = s ++ rest := by unfold headed head; rw [if_pos h1]; simp
    rw [hd, if_pos h1]
    have e : base + s.length - base = s.length := by omega
    rw [e, if_pos h1, if_pos (by simp)]
    simp
  · have hd : (headed base s ++ rest).drop 1 = be s.length ++ s ++ rest := by unfold headed head; rw [if_neg h1]; simp
    rw [hd, if_neg h1]
    have e : base + (55 + (be s.length).length) - base - 55 = (be s.length).length := by omega
    have e' : ¬ base + (55 + (be s.length).length) - base ≤ 55 := by omega
    rw [e, if_neg e']
    have hne := be_head_ne (n := s.length) (by omega)
    have hg : ((be s.length ++ s ++ rest).getD 0 0) = (be s.length).getD 0 0 := by rw [List.append_assoc, getD_left _ _ hp]
    have ht : (be s.length ++ s ++ rest).take (be s.length).length = be s.length := by simp
    have hdr : (be s.length ++ s ++ rest).drop (be s.length).length = s ++ rest := by simp
    rw [if_neg (by rw [hg]; simp only [List.length_append]; omega), ht, hdr, val_be]
    rw [if_neg (by simp only [List.length_append]; omega)]
    simp

theorem loopP_sound {p : List UInt8 → Option (Itm × List UInt8)} (hp : ∀ s x rest, p s = some (x, rest) → s = enc x ++ rest ∧ pure x = true) :
    ∀ (m : Nat) (s : List UInt8) (l : List Itm), loopP p m s = some l → s = l.flatMap enc ∧ l.all pure = true := by
  intro m
  induction m with
  | zero =>
    intro s l h
    unfold loopP at h
    by_cases hs : s.isEmpty
    · rw [if_pos hs] at h; simp at h; subst h; simpa using hs
    · rw [if_neg hs] at h; cases h
  | succ m ih =>
    intro s l h
    unfold loopP at h
    by_cases hs : s.isEmpty
    · rw [if_pos hs] at h; simp at h; subst h; simpa using hs
    · rw [if_neg hs] at h
      cases hps : p s with
      | none => rw [hps] at h; cases h
      | some xr =>
        obtain ⟨x, rest⟩ := xr
        rw [hps] at h
        simp only [Option.map_eq_some_iff] at h
        obtain ⟨l', hl', rfl⟩ := h
        obtain ⟨e1, p1⟩ := hp s x rest hps
        obtain ⟨e2, p2⟩ := ih rest l' hl'
        refine ⟨?_, ?_⟩
        · rw [List.flatMap_cons, ← e2]; exact e1
        · simp only [List.all_cons, p1, p2, Bool.and_self]

theorem parse_sound : ∀ (f : Nat) (s : List UInt8) (x : Itm) (rest : List UInt8), parse f s = some (x, rest) → s = enc x ++ rest ∧ pure x = true := by
  intro f
  induction f with
  | zero => intro s x rest h; rw [parse_zero] at h; cases h
  | succ f ih =>
    intro s x rest h
    rw [parse_succ] at h
    unfold stepP at h
    by_cases hs : s.isEmpty
    · rw [if_pos hs] at h; cases h
    rw [if_neg hs] at h
    have hne : s ≠ [] := by intro e; subst e; simp at hs
    by_cases h1 : (s.getD 0 0).toNat < 128
    · rw [if_pos h1] at h
      simp only [Option.some.injEq, Prod.mk.injEq] at h
      obtain ⟨rfl, rfl⟩ := h
      have hc := cons_of_ne hne
      have hst : stands (s.take 1) = true := by
        unfold stands
        rw [hc]; simp; simpa using h1
      refine ⟨?_, ?_⟩
      · rw [enc_eq]
        simp only [Bool.false_eq_true, if_false]
        unfold encB
        rw [if_pos hst, List.take_append_drop]
      · rw [pure_eq]; simp
    · rw [if_neg h1] at h
      by_cases h2 : (s.getD 0 0).toNat < 192
      · rw [if_pos h2] at h
        cases hcut : cutP 128 s with
        | none => rw [hcut] at h; cases h
        | some br =>
          obtain ⟨body, rest'⟩ := br
          rw [hcut] at h
          simp only at h
          by_cases h3 : stands body
          · rw [if_pos h3] at h; cases h
          · rw [if_neg h3] at h
            simp only [Option.some.injEq, Prod.mk.injEq] at h
            obtain ⟨rfl, rfl⟩ := h
            obtain ⟨e, _⟩ := cutP_sound hne (by omega) hcut
            refine ⟨?_, ?_⟩
            · rw [enc_eq]
              simp only [Bool.false_eq_true, if_false]
              unfold encB
              rw [if_neg h3]; exact e
            · rw [pure_eq]; simp
      · rw [if_neg h2] at h
        cases hcut : cutP 192 s with
        | none => rw [hcut] at h; cases h
        | some br =>
          obtain ⟨body, rest'⟩ := br
          rw [hcut] at h
          simp only at h
          cases hl : loopP (parse f) body.length body with
          | none => rw [hl] at h; cases h
          | some l =>
            rw [hl] at h
            simp only [Option.some.injEq, Prod.mk.injEq] at h
            obtain ⟨rfl, rfl⟩ := h
            obtain ⟨e, _⟩ := cutP_sound hne (by omega) hcut
            obtain ⟨e2, p2⟩ := loopP_sound ih _ _ _ hl
            refine ⟨?_, ?_⟩
            · rw [enc_eq]
              simp only [if_true]
              rw [← e2]; exact e
            · rw [pure_eq]; simp; simpa using p2

theorem enc_ne (t : Itm) : enc t ≠ [] := by
  rw [enc_eq]
  split
  · have := headed_ne 192 (t.items.flatMap enc) []
    simpa using this
  · unfold encB
    split
    · intro h
      rename_i hst
      rw [h] at hst
      simp [stands] at hst
    · have := headed_ne 128 t.bytes []
      simpa using this

theorem headed_len (base : Nat) (s : List UInt8) : s.length < (headed base s).length := by
  unfold headed head
  split <;> simp <;> omega

theorem mem_enc_len {x : Itm} {l : List Itm} (h : x ∈ l) : (enc x).length ≤ (l.flatMap enc).length := by
  induction l with
  | nil => simp at h
  | cons y l ih =>
    rw [List.flatMap_cons, List.length_append]
    rcases List.mem_cons.1 h with rfl | h
    · omega
    · have := ih h; omega

theorem loopP_complete {p : List UInt8 → Option (Itm × List UInt8)} (l : List Itm) (hp : ∀ x ∈ l, ∀ rest, p (enc x ++ rest) = some (x, rest)) :
    ∀ m, (l.flatMap enc).length ≤ m → loopP p m (l.flatMap enc) = some l := by
  induction l with
  | nil => intro m _; cases m <;> simp [loopP]
  | cons x l ih =>
    intro m hm
    rw [List.flatMap_cons, List.length_append] at hm
    have hne := enc_ne x
    have hpos : 0 < (enc x).length := List.length_pos_iff.2 hne
    cases m with
    | zero => omega
    | succ m =>
      rw [List.flatMap_cons]
      unfold loopP
      rw [if_neg (by simp [hne]), hp x (by simp)]
      simp only
      rw [ih (fun y hy => hp y (by simp [hy])) m (by omega)]
      rfl

theorem parse_complete : ∀ (f : Nat) (t : Itm) (rest : List UInt8), pure t = true → (enc t).length ≤ f → (enc t).length < 256 ^ 8 → parse f (enc t ++ rest) = some (t, rest) := by
  intro f
  induction f with
  | zero =>
    intro t rest _ h
    exact absurd (List.length_eq_zero_iff.1 (by omega)) (enc_ne t)
  | succ f ih =>
    intro t rest hp hf hb
    have hne : enc t ++ rest ≠ [] := by simp [enc_ne t]
    rw [parse_succ]
    unfold stepP
    rw [if_neg (by simpa using fun h => absurd h (enc_ne t))]
    rw [pure_eq] at hp
    simp only [Bool.and_eq_true] at hp
    obtain ⟨hp1, hp2⟩ := hp
    by_cases hl : t.list
    · rw [if_pos hl] at hp1
      have he : enc t = headed 192 (t.items.flatMap enc) := by rw [enc_eq, if_pos hl]
      have hlen := headed_len 192 (t.items.flatMap enc)
      rw [he] at hf hb ⊢
      have hfi := headed_first 192 (t.items.flatMap enc) rest (by omega) (by omega)
      rw [if_neg (by omega), if_neg (by omega), cutP_complete _ _ (by omega) (by omega)]
      simp only
      rw [loopP_complete t.items (fun x hx r => ih x r (by simp only [List.all_eq_true] at hp2; exact hp2 x hx)
        (by have := mem_enc_len hx; omega) (by have := mem_enc_len hx; omega)) _ (Nat.le_refl _)]
      obtain ⟨l, b, is⟩ := t
      simp only at hl hp1
      simp only [Option.some.injEq, Prod.mk.injEq, and_true]
      subst hl
      simp at hp1
      rw [hp1]
    · rw [if_neg hl] at hp1
      have he : enc t = encB t.bytes := by rw [enc_eq, if_neg hl]
      have ht : t = ⟨false, t.bytes, []⟩ := by
        obtain ⟨l, b, is⟩ := t
        simp at hl hp1
        subst hl hp1
        rfl
      rw [he] at hf hb ⊢
      unfold encB at hf hb ⊢
      by_cases hst : stands t.bytes
      · rw [if_pos hst] at hf hb ⊢
        unfold stands at hst
        simp only [Bool.and_eq_true, decide_eq_true_eq] at hst
        obtain ⟨h1, h2⟩ := hst
        rw [if_pos (by rw [getD_left _ _ (by omega)]; exact h2)]
        have e1 : (t.bytes ++ rest).take 1 = t.bytes := by rw [← h1]; simp
        have e2 : (t.bytes ++ rest).drop 1 = rest := by rw [← h1]; simp
        rw [e1, e2, ← ht]
      · rw [if_neg hst] at hf hb ⊢
        have hlen := headed_len 128 t.bytes
        have hfi := headed_first 128 t.bytes rest (by omega) (by omega)
        have hbe := be_len_le t.bytes.length 8 (by omega) (by omega)
        rw [if_neg (by omega)]
        rw [if_pos (by rw [hfi]; split <;> omega)]
        rw [cutP_complete _ _ (by omega) (by omega)]
        simp only
        rw [if_neg hst, ← ht]

end Itm
end Go.Proofs.Ytbmohenjphmlgaa

/- Walks of the functions that read texts alone: standsForItself, longLength, cut. -/
namespace Go.Proofs.Ytbmohenjphmlgaa
open Go.RowKit
set_option maxRecDepth 100000

theorem ba_getD (s : ByteArray) (h : 0 < s.size) : s.data.toList.getD 0 0 = s[0] := by
  have h' : 0 < s.data.size := h
  rw [List.getD_eq_getElem?_getD, Array.getElem?_toList, Array.getElem?_eq_getElem h']
  rfl

theorem ba_len (s : ByteArray) : s.data.toList.length = s.size := by simp

theorem stands_eq (s : ByteArray) : Itm.stands s.data.toList = (decide (s.size = 1) && decide ((s.data.toList.getD 0 0).toNat < 128)) := by
  unfold Itm.stands; rw [ba_len]

set_option maxHeartbeats 400000 in
theorem stands_any (s : ByteArray) (w : World) :
    Calls Try.prog 92 #[.string s] w fun e w' => e = .returned (.bool (Itm.stands s.data.toList)) ∧ w' = w := by
  rw [stands_eq]
  by_cases h1 : s.size = 1
  · have hlt : 0 < s.size := by omega
    have HG : Hid (s.data.toList.getD 0 0 = s[0]) := ba_getD s hlt
    have HS : Hid (s.size = 1) := h1
    have hb : ((s.size : Int) == 1) = true := by simp; omega
    go_enter Try.func92, Try.ntmps92
    clear h1
    go_wp2
    · go_ret
      have e1 : decide (s.size = 1) = true := by simp [HS.out]
      exact ⟨by rw [HG.out, e1]; simp; omega, rfl⟩
  · have hb : ((s.size : Int) == 1) = false := by simp; omega
    go_enter Try.func92, Try.ntmps92
    go_wp2
    go_ret
    exact ⟨by simp [h1], rfl⟩

theorem or_byte (n c : Nat) (hc : c < 256) (hn : n * 256 + c < 18446744073709551616) :
    bits .or .u64 (IntKind.u64.wrap ((n : Int) * 256)) (IntKind.u64.wrap (c : Int)) = ((n * 256 + c : Nat) : Int) := by
  rw [IntKind.wrap_u64, IntKind.wrap_u64]
  have a1 : (0 : Int) ≤ (n : Int) * 256 := by omega
  have a2 : (n : Int) * 256 < 18446744073709551616 := by omega
  have e1 : ((n : Int) * 256) % 18446744073709551616 = ((n * 256 : Nat) : Int) := by
    rw [Int.emod_eq_of_lt a1 a2]; omega
  have e2 : (c : Int) % 18446744073709551616 = (c : Int) := Int.emod_eq_of_lt (by omega) (by omega)
  have a3 : n * 256 < 18446744073709551616 := Nat.lt_of_le_of_lt (Nat.le_add_right _ _) hn
  have a4 : c < 18446744073709551616 := Nat.lt_of_le_of_lt (Nat.le_add_left _ _) hn
  rw [e1, e2, u64_or_nat _ _ a3 a4]
  have := Nat.two_pow_add_eq_or_of_lt (i := 8) (b := c) (by omega) n
  have e3 : 2 ^ 8 * n = n * 256 := by omega
  rw [e3] at this
  rw [this]

theorem take_snoc (s : ByteArray) (k : Nat) (h : k < s.size) : s.data.toList.take (k + 1) = s.data.toList.take k ++ [s[k]] := by
  rw [List.take_succ_eq_append_getElem (by simpa using h)]; rfl

theorem val_take_lt (l : List UInt8) (j : Nat) (hj : j ≤ 7) : Itm.val (l.take j) < 256 ^ 7 := by
  have h := Itm.val_lt (l.take j)
  have h2 : (l.take j).length ≤ 7 := by simp; omega
  exact Nat.lt_of_lt_of_le h (Nat.pow_le_pow_right (by omega) h2)

set_option maxHeartbeats 400000 in
theorem long_yes (s : ByteArray) (k : Nat) (w : World) (hs : s.size ≤ maxLen) (hk : 1 ≤ k) (hk8 : k ≤ 8) (h0 : k ≤ s.size) (h1 : 0 < s.size) (hz : ((s[0].toNat : Int) == 0) = false) :
    Calls Try.prog 111 #[.string s, .int .i64 k] w fun e w' => e = .returned (.tuple #[.int .u64 (Itm.val (s.data.toList.take k)), .bool (decide (55 < Itm.val (s.data.toList.take k)))]) ∧ w' = w := by
  unfold maxLen at hs
  have hlt : decide (s.size < k) = false := by simp; omega
  go_enter Try.func111, Try.ntmps111
  go_wp2
  go_loop [6, 18] (fun n i => ∃ j : Nat, j ≤ k ∧ i = .int .i64 j ∧ n = .int .u64 (Itm.val (s.data.toList.take j))) (fun _ i => k - (intOf i).toNat)
  case atStart => exact ⟨0, Nat.zero_le _, rfl, rfl⟩
  case round =>
    obtain ⟨j, hj, rfl, rfl⟩ := hrel
    by_cases hlt : j < k
    · have hts := take_snoc s j (by omega)
      have hv := val_take_lt s.data.toList j (by omega)
      have hob := or_byte (Itm.val (s.data.toList.take j)) (s[j]'(by omega)).toNat (s[j]'(by omega)).toNat_lt (by have := (s[j]'(by omega)).toNat_lt; omega)
      have HO : Hid (bits .or .u64 (IntKind.u64.wrap ((Itm.val (s.data.toList.take j) : Nat) * 256)) (IntKind.u64.wrap ((s[j]'(by omega)).toNat : Int)) = ((Itm.val (s.data.toList.take (j + 1)) : Nat) : Int)) := by
        rw [hts, Itm.val_snoc]; exact hob
      clear hts hob hv
      go_wp2
      go_round
      case rel => exact ⟨j + 1, by omega, by go_num, by rw [HO.out]⟩
      case measure => simp [intOf]; omega
    · go_wp2
      go_ret2
      have hjk : j = k := by omega
      subst hjk
      refine ⟨?_, rfl⟩
      simp
      omega

set_option maxHeartbeats 400000 in
theorem long_short (s : ByteArray) (k : Nat) (w : World) (h0 : s.size < k) :
    Calls Try.prog 111 #[.string s, .int .i64 k] w fun e w' => e = .returned (.tuple #[.int .u64 0, .bool false]) ∧ w' = w := by
  have hlt : decide (s.size < k) = true := by simp; omega
  go_enter Try.func111, Try.ntmps111
  go_wp2
  go_ret2
  exact ⟨rfl, rfl⟩

set_option maxHeartbeats 400000 in
theorem long_zero (s : ByteArray) (k : Nat) (w : World) (h0 : k ≤ s.size) (h1 : 0 < s.size) (hz : ((s[0].toNat : Int) == 0) = true) :
    Calls Try.prog 111 #[.string s, .int .i64 k] w fun e w' => e = .returned (.tuple #[.int .u64 0, .bool false]) ∧ w' = w := by
  have hlt : decide (s.size < k) = false := by simp; omega
  go_enter Try.func111, Try.ntmps111
  go_wp2
  go_ret2
  exact ⟨rfl, rfl⟩

end Go.Proofs.Ytbmohenjphmlgaa

/- Walks of 'cut': the head of some bytes, what follows parted into the body and the rest, as 'cutP' says. -/
namespace Go.Proofs.Ytbmohenjphmlgaa
open Go.RowKit
set_option maxRecDepth 100000

theorem hid {p : Prop} (h : p) : Hid p := h

theorem str_eq {a : ByteArray} {l : List UInt8} (h : a.data.toList = l) : Value.string a = Value.string ⟨l.toArray⟩ := by
  subst h; simp

theorem ret3 {a b c a' b' c' : Value} (h1 : a = a') (h2 : b = b') (h3 : c = c') : Ending.returned (.tuple #[a, b, c]) = .returned (.tuple #[a', b', c']) := by
  subst h1 h2 h3; rfl

theorem empty_str : (Value.string ⟨#[]⟩) = .string ByteArray.empty := rfl

section
variable (s : ByteArray) (base n : Nat) (w : World)

set_option maxHeartbeats 400000 in
theorem cut_short_yes (hs : s.size ≤ maxLen) (h1 : 0 < s.size) (hb : base ≤ s[0].toNat) (hb2 : Hid (s[0].toNat - base = n)) (hsh : n ≤ 55) (hn : n ≤ s.size - 1) :
    Calls Try.prog 91 #[.string s, .int .u8 base] w fun e w' =>
      e = .returned (.tuple #[.string ⟨((s.data.toList.drop 1).take n).toArray⟩, .string ⟨((s.data.toList.drop 1).drop n).toArray⟩, .bool true]) ∧ ∃ nq, w' = w.drewN nq := by
  unfold maxLen at hs
  have hb8 := s[0].toNat_lt
  have E : Hid (((s[0].toNat : Int) - (base : Int)) = (n : Int)) := by have := hb2.out; show _ = _; omega
  have c1 : ((s[0].toNat : Int) - (base : Int)) ≤ 55 := by rw [E.out]; omega
  have c2 : (0 : Int) ≤ ((s[0].toNat : Int) - (base : Int)) := by rw [E.out]; omega
  have c3 : ((s[0].toNat : Int) - (base : Int)) ≤ ((s.size - 1 : Nat) : Int) := by rw [E.out]; omega
  go_enter Try.func91, Try.ntmps91
  go_wp2_with fail
  rw [E.out]
  go_quiet (fail)
  go_wp2
  go_ret3
  refine ⟨ret3 (str_eq ?_) (str_eq ?_) rfl, _, rfl⟩
  · rw [Lib.extract_data, Lib.extract_to_end]; simp
  · rw [Lib.extract_data, Lib.extract_to_end, List.take_of_length_le]; simp; omega

set_option maxHeartbeats 400000 in
theorem cut_short_no (hs : s.size ≤ maxLen) (h1 : 0 < s.size) (hb : base ≤ s[0].toNat) (hb2 : Hid (s[0].toNat - base = n)) (hsh : n ≤ 55) (hn : s.size - 1 < n) :
    Calls Try.prog 91 #[.string s, .int .u8 base] w fun e w' =>
      e = .returned (.tuple #[.string ⟨#[]⟩, .string ⟨#[]⟩, .bool false]) ∧ ∃ nq, w' = w.drewN nq := by
  unfold maxLen at hs
  have hb8 := s[0].toNat_lt
  have E : Hid (((s[0].toNat : Int) - (base : Int)) = (n : Int)) := by have := hb2.out; show _ = _; omega
  have c1 : ((s[0].toNat : Int) - (base : Int)) ≤ 55 := by rw [E.out]; omega
  have c2 : (0 : Int) ≤ ((s[0].toNat : Int) - (base : Int)) := by rw [E.out]; omega
  have c3 : ((s.size - 1 : Nat) : Int) < ((s[0].toNat : Int) - (base : Int)) := by rw [E.out]; omega
  go_enter Try.func91, Try.ntmps91
  go_wp2_with fail
  go_ret3
  exact ⟨rfl, 0, rfl⟩

/-- What 'longLength' says of a length that is none. -/
theorem long_no (t : ByteArray) (k : Nat) (h8 : 1 ≤ k) (h : t.size < k ∨ (t.data.toList.getD 0 0).toNat = 0) :
    Calls Try.prog 111 #[.string t, .int .i64 k] w fun e w' => e = .returned (.tuple #[.int .u64 0, .bool false]) ∧ w' = w := by
  by_cases hk : t.size < k
  · exact long_short t k w hk
  · have h0 : 0 < t.size := by omega
    refine long_zero t k w (by omega) h0 ?_
    have hz : (t.data.toList.getD 0 0).toNat = 0 := by omega
    rw [ba_getD t h0] at hz
    rw [hz]; rfl

set_option maxHeartbeats 400000 in
theorem cut_long_none (hs : s.size ≤ maxLen) (h1 : 0 < s.size) (hb : base ≤ s[0].toNat) (hb2 : Hid (s[0].toNat - base = n + 55)) (hsh : 1 ≤ n) (hn8 : n ≤ 8)
    (hn : s.size - 1 < n ∨ ((s.data.toList.drop 1).getD 0 0).toNat = 0) :
    Calls Try.prog 91 #[.string s, .int .u8 base] w fun e w' =>
      e = .returned (.tuple #[.string ⟨#[]⟩, .string ⟨#[]⟩, .bool false]) ∧ ∃ nq, w' = w.drewN nq := by
  have hl := long_no w (s.extract 1 s.size) n hsh (by rw [Lib.extract_to_end]; simpa using hn)
  unfold maxLen at hs
  have hb8 := s[0].toNat_lt
  have E : Hid (((s[0].toNat : Int) - (base : Int) - 55) = (n : Int)) := by have := hb2.out; show _ = _; omega
  have c1 : 55 < ((s[0].toNat : Int) - (base : Int)) := by have := hb2.out; omega
  have c2 : ((s[0].toNat : Int) - (base : Int)) ≤ 63 := by have := hb2.out; omega
  clear hn
  have HL := hid hl
  clear hl
  go_enter Try.func91, Try.ntmps91
  go_wp2_with fail
  rw [E.out]
  refine HL.out.mono ?_
  rintro e w' ⟨rfl, rfl⟩
  go_wp2_with fail
  go_ret3
  exact ⟨rfl, 0, rfl⟩

/-- What 'longLength' says of a length that is one. -/
theorem long_ok (t : ByteArray) (k : Nat) (hs : t.size ≤ maxLen) (h8 : 1 ≤ k) (hk8 : k ≤ 8) (h : k ≤ t.size) (h' : (t.data.toList.getD 0 0).toNat ≠ 0) :
    Calls Try.prog 111 #[.string t, .int .i64 k] w fun e w' => e = .returned (.tuple #[.int .u64 (Itm.val (t.data.toList.take k)), .bool (decide (55 < Itm.val (t.data.toList.take k)))]) ∧ w' = w := by
  have h0 : 0 < t.size := by omega
  refine long_yes t k w hs h8 hk8 h h0 ?_
  rw [ba_getD t h0] at h'
  simpa using h'

set_option maxHeartbeats 400000 in
theorem cut_long_few (hs : s.size ≤ maxLen) (h1 : 0 < s.size) (hb : base ≤ s[0].toNat) (hb2 : Hid (s[0].toNat - base = n + 55)) (hsh : 1 ≤ n) (hn8 : n ≤ 8)
    (hn : n ≤ s.size - 1) (hz : ((s.data.toList.drop 1).getD 0 0).toNat ≠ 0) (hv : Itm.val ((s.data.toList.drop 1).take n) ≤ 55) :
    Calls Try.prog 91 #[.string s, .int .u8 base] w fun e w' =>
      e = .returned (.tuple #[.string ⟨#[]⟩, .string ⟨#[]⟩, .bool false]) ∧ ∃ nq, w' = w.drewN nq := by
  have hl := long_ok w (s.extract 1 s.size) n (by unfold maxLen at *; simp; omega) hsh hn8 (by simpa using hn) (by rw [Lib.extract_to_end]; exact hz)
  rw [Lib.extract_to_end, show decide (55 < Itm.val ((s.data.toList.drop 1).take n)) = false from decide_eq_false (by omega)] at hl
  unfold maxLen at hs
  have hb8 := s[0].toNat_lt
  have E : Hid (((s[0].toNat : Int) - (base : Int) - 55) = (n : Int)) := by have := hb2.out; show _ = _; omega
  have c1 : 55 < ((s[0].toNat : Int) - (base : Int)) := by have := hb2.out; omega
  have c2 : ((s[0].toNat : Int) - (base : Int)) ≤ 63 := by have := hb2.out; omega
  clear hn hz
  have HL := hid hl
  clear hl
  go_enter Try.func91, Try.ntmps91
  go_wp2_with fail
  rw [E.out]
  refine HL.out.mono ?_
  rintro e w' ⟨rfl, rfl⟩
  go_wp2_with fail
  go_ret3
  exact ⟨rfl, 0, rfl⟩

set_option maxHeartbeats 400000 in
theorem cut_long_much (hs : s.size ≤ maxLen) (h1 : 0 < s.size) (hb : base ≤ s[0].toNat) (hb2 : Hid (s[0].toNat - base = n + 55)) (hsh : 1 ≤ n) (hn8 : n ≤ 8)
    (hn : n ≤ s.size - 1) (hz : ((s.data.toList.drop 1).getD 0 0).toNat ≠ 0) (hv : 55 < Itm.val ((s.data.toList.drop 1).take n)) (hv2 : s.size - 1 - n < Itm.val ((s.data.toList.drop 1).take n)) :
    Calls Try.prog 91 #[.string s, .int .u8 base] w fun e w' =>
      e = .returned (.tuple #[.string ⟨#[]⟩, .string ⟨#[]⟩, .bool false]) ∧ ∃ nq, w' = w.drewN nq := by
  have hl := long_ok w (s.extract 1 s.size) n (by unfold maxLen at *; simp; omega) hsh hn8 (by simpa using hn) (by rw [Lib.extract_to_end]; exact hz)
  rw [Lib.extract_to_end, show decide (55 < Itm.val ((s.data.toList.drop 1).take n)) = true from decide_eq_true (by omega)] at hl
  have hlt : Itm.val ((s.data.toList.drop 1).take n) < 256 ^ 8 := by
    have h := Itm.val_lt ((s.data.toList.drop 1).take n)
    exact Nat.lt_of_lt_of_le h (Nat.pow_le_pow_right (by omega) (by simp; omega))
  generalize Itm.val ((s.data.toList.drop 1).take n) = V at *
  unfold maxLen at hs
  have hb8 := s[0].toNat_lt
  have E : Hid (((s[0].toNat : Int) - (base : Int) - 55) = (n : Int)) := by have := hb2.out; show _ = _; omega
  have c1 : 55 < ((s[0].toNat : Int) - (base : Int)) := by have := hb2.out; omega
  have c2 : ((s[0].toNat : Int) - (base : Int)) ≤ 63 := by have := hb2.out; omega
  clear hz
  have HL := hid hl
  clear hl
  go_enter Try.func91, Try.ntmps91
  go_wp2_with fail
  rw [E.out]
  refine HL.out.mono ?_
  rintro e w' ⟨rfl, rfl⟩
  go_wp2_with fail
  go_ret3
  exact ⟨rfl, 0, rfl⟩

set_option maxHeartbeats 400000 in
theorem cut_long_yes (hs : s.size ≤ maxLen) (h1 : 0 < s.size) (hb : base ≤ s[0].toNat) (hb2 : Hid (s[0].toNat - base = n + 55)) (hsh : 1 ≤ n) (hn8 : n ≤ 8)
    (hn : n ≤ s.size - 1) (hz : ((s.data.toList.drop 1).getD 0 0).toNat ≠ 0) (hv : 55 < Itm.val ((s.data.toList.drop 1).take n)) (hv2 : Itm.val ((s.data.toList.drop 1).take n) ≤ s.size - 1 - n) :
    Calls Try.prog 91 #[.string s, .int .u8 base] w fun e w' =>
      e = .returned (.tuple #[.string ⟨(((s.data.toList.drop 1).drop n).take (Itm.val ((s.data.toList.drop 1).take n))).toArray⟩,
        .string ⟨(((s.data.toList.drop 1).drop n).drop (Itm.val ((s.data.toList.drop 1).take n))).toArray⟩, .bool true]) ∧ ∃ nq, w' = w.drewN nq := by
  have hl := long_ok w (s.extract 1 s.size) n (by unfold maxLen at *; simp; omega) hsh hn8 (by simpa using hn) (by rw [Lib.extract_to_end]; exact hz)
  rw [Lib.extract_to_end, show decide (55 < Itm.val ((s.data.toList.drop 1).take n)) = true from decide_eq_true (by omega)] at hl
  generalize Itm.val ((s.data.toList.drop 1).take n) = V at *
  unfold maxLen at hs
  have hb8 := s[0].toNat_lt
  have E : Hid (((s[0].toNat : Int) - (base : Int) - 55) = (n : Int)) := by have := hb2.out; show _ = _; omega
  have c1 : 55 < ((s[0].toNat : Int) - (base : Int)) := by have := hb2.out; omega
  have c2 : ((s[0].toNat : Int) - (base : Int)) ≤ 63 := by have := hb2.out; omega
  clear hz
  have HL := hid hl
  clear hl
  go_enter Try.func91, Try.ntmps91
  go_wp2_with fail
  rw [E.out]
  refine HL.out.mono ?_
  rintro e w' ⟨rfl, rfl⟩
  go_wp2_with fail
  go_quiet (fail)
  go_wp2
  go_ret3
  refine ⟨ret3 (str_eq ?_) (str_eq ?_) rfl, _, rfl⟩
  · rw [Lib.extract_data, Lib.extract_data, Lib.extract_to_end, Nat.sub_zero, List.drop_zero, List.take_take]
    congr 1
    omega
  · rw [Lib.extract_data, Lib.extract_data, Lib.extract_to_end, List.take_of_length_le, List.take_of_length_le]
    · simp; omega
    · simp; omega

theorem hid_mk (a b : Nat) (h : a = b) : Hid (a = b) := h

/-- What 'cut' gives where there is a body and a rest. -/
theorem cut_yes (hs : s.size ≤ maxLen) (h1 : 0 < s.size) (hb : base ≤ s[0].toNat) (hb2 : s[0].toNat - base < 64) (body rest : List UInt8) (h : Itm.cutP base s.data.toList = some (body, rest)) :
    Calls Try.prog 91 #[.string s, .int .u8 base] w fun e w' => e = .returned (.tuple #[.string ⟨body.toArray⟩, .string ⟨rest.toArray⟩, .bool true]) ∧ ∃ nq, w' = w.drewN nq := by
  unfold Itm.cutP at h
  rw [ba_getD s h1] at h
  have hl : (s.data.toList.drop 1).length = s.size - 1 := by simp
  generalize hn : s[0].toNat - base = n at *
  by_cases h3 : n ≤ 55
  · rw [if_pos h3] at h
    by_cases h4 : n ≤ (s.data.toList.drop 1).length
    · rw [if_pos h4] at h
      simp only [Option.some.injEq, Prod.mk.injEq] at h
      obtain ⟨rfl, rfl⟩ := h
      exact cut_short_yes s base n w hs h1 hb (hid_mk _ _ hn) h3 (by omega)
    · rw [if_neg h4] at h; cases h
  · rw [if_neg h3] at h
    obtain ⟨k, rfl⟩ : ∃ k, n = k + 55 := ⟨n - 55, by omega⟩
    rw [Nat.add_sub_cancel] at h
    by_cases h4 : (s.data.toList.drop 1).length < k ∨ ((s.data.toList.drop 1).getD 0 0).toNat = 0
    · rw [if_pos h4] at h; cases h
    · rw [if_neg h4] at h
      have hl2 : ((s.data.toList.drop 1).drop k).length = s.size - 1 - k := by rw [List.length_drop, hl]
      by_cases h5 : Itm.val ((s.data.toList.drop 1).take k) ≤ 55 ∨ ((s.data.toList.drop 1).drop k).length < Itm.val ((s.data.toList.drop 1).take k)
      · rw [if_pos h5] at h; cases h
      · rw [if_neg h5] at h
        simp only [Option.some.injEq, Prod.mk.injEq] at h
        obtain ⟨rfl, rfl⟩ := h
        exact cut_long_yes s base k w hs h1 hb (hid_mk _ _ hn) (by omega) (by omega) (by omega) (by omega) (by omega) (by omega)

/-- What 'cut' gives where there are none. -/
theorem cut_no (hs : s.size ≤ maxLen) (h1 : 0 < s.size) (hb : base ≤ s[0].toNat) (hb2 : s[0].toNat - base < 64) (h : Itm.cutP base s.data.toList = none) :
    Calls Try.prog 91 #[.string s, .int .u8 base] w fun e w' => e = .returned (.tuple #[.string ⟨#[]⟩, .string ⟨#[]⟩, .bool false]) ∧ ∃ nq, w' = w.drewN nq := by
  unfold Itm.cutP at h
  rw [ba_getD s h1] at h
  have hl : (s.data.toList.drop 1).length = s.size - 1 := by simp
  generalize hn : s[0].toNat - base = n at *
  by_cases h3 : n ≤ 55
  · rw [if_pos h3] at h
    by_cases h4 : n ≤ (s.data.toList.drop 1).length
    · rw [if_pos h4] at h; cases h
    · exact cut_short_no s base n w hs h1 hb (hid_mk _ _ hn) h3 (by omega)
  · rw [if_neg h3] at h
    obtain ⟨k, rfl⟩ : ∃ k, n = k + 55 := ⟨n - 55, by omega⟩
    rw [Nat.add_sub_cancel] at h
    by_cases h4 : (s.data.toList.drop 1).length < k ∨ ((s.data.toList.drop 1).getD 0 0).toNat = 0
    · exact cut_long_none s base k w hs h1 hb (hid_mk _ _ hn) (by omega) (by omega) (by rw [hl] at h4; exact h4)
    · rw [if_neg h4] at h
      have hl2 : ((s.data.toList.drop 1).drop k).length = s.size - 1 - k := by rw [List.length_drop, hl]
      by_cases h5 : Itm.val ((s.data.toList.drop 1).take k) ≤ 55 ∨ ((s.data.toList.drop 1).drop k).length < Itm.val ((s.data.toList.drop 1).take k)
      · by_cases h6 : Itm.val ((s.data.toList.drop 1).take k) ≤ 55
        · exact cut_long_few s base k w hs h1 hb (hid_mk _ _ hn) (by omega) (by omega) (by omega) (by omega) h6
        · exact cut_long_much s base k w hs h1 hb (hid_mk _ _ hn) (by omega) (by omega) (by omega) (by omega) (by omega) (by omega)
      · rw [if_neg h5] at h; cases h
end
end Go.Proofs.Ytbmohenjphmlgaa

/- The library's contract of strings.Clone at this program: the same bytes; of what was there nothing has turned. -/
namespace Go.Proofs
open Go.Shelf
def Try.laysM316_ren : Go.Shelf.Ren := ⟨fun | 316 => 110 | n => n, fun | 9 => 9 | 3 => 3 | 4 => 4 | 37 => 76 | 0 => 0 | 127 => 176 | 5 => 5 | n => n, fun | n => n⟩
theorem Try.laysM316 : Go.Proofs.LaysM.n316 Try.prog Try.laysM316_ren := {
  mixed := by kernel_rfl
  f316 := Try.func110.trans (congrArg some (by kernel_rfl))
  t0 := Try.underlying0
  a0 := Try.isAgg0
  z0 := Try.sizeOf0
  v0 := Try.zeroValue0
  t3 := Try.underlying3
  a3 := Try.isAgg3
  z3 := Try.sizeOf3
  v3 := Try.zeroValue3
  t4 := Try.underlying4
  a4 := Try.isAgg4
  z4 := Try.sizeOf4
  v4 := Try.zeroValue4
  t9 := Try.underlying9
  a9 := Try.isAgg9
  z9 := Try.sizeOf9
  v9 := Try.zeroValue9
  t37 := Try.underlying76
  a37 := Try.isAgg76
  z37 := Try.sizeOf76
  v37 := Try.zeroValue76
  t127 := Try.underlying176
  a127 := Try.isAgg176
  z127 := Try.sizeOf176
  v127 := Try.zeroValue176
  t5 := Try.underlying5
  a5 := Try.isAgg5
  z5 := Try.sizeOf5
  v5 := Try.zeroValue5
  i0 := by kernel_rfl
  i3 := by kernel_rfl
  i4 := by kernel_rfl
  i5 := by kernel_rfl
  i9 := by kernel_rfl
  i37 := by kernel_rfl
  i127 := by kernel_rfl }
namespace Ytbmohenjphmlgaa
open Go.RowKit
theorem lite_any (s : ByteArray) (w : World) (hlim : s.size ≤ 281474976710656) :
    Calls Try.prog 110 #[.string s] w fun e w' => e = .returned (.string s) ∧ Below w.heap.size w w' := Any.stringslite_Clone Try.laysM316 s w hlim

set_option maxRecDepth 100000 in
set_option maxHeartbeats 400000 in
theorem clone_any (s : ByteArray) (w : World) (hlim : s.size ≤ 281474976710656) :
    Calls Try.prog 90 #[.string s] w fun e w' => e = .returned (.string s) ∧ Below w.heap.size w w' := by
  go_enter Try.func90, Try.ntmps90
  go_wp2_with fail
  refine (lite_any s w hlim).mono ?_
  rintro e w' ⟨rfl, hb⟩
  go_wp2_with fail
  go_ret
  exact ⟨rfl, hb⟩
end Ytbmohenjphmlgaa
end Go.Proofs
