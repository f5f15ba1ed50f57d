/- Plain mathematics of items, continued: an item is read of its bytes, and of no others. Nothing of the program is in here. -/
import Derived.Test.YtbmohenjphmlgaaMath
namespace Go.Proofs.Ytbmohenjphmlgaa
set_option maxRecDepth 100000
namespace Itm

/-- The body and what is behind it, of bytes that open with a head of the kind of 'base'. -/
def cutP (base : Nat) (s : List UInt8) : Option (List UInt8 × List UInt8) :=
  if (s.getD 0 0).toNat - base ≤ 55 then
    if (s.getD 0 0).toNat - base ≤ (s.drop 1).length then
      some ((s.drop 1).take ((s.getD 0 0).toNat - base), (s.drop 1).drop ((s.getD 0 0).toNat - base)) else none
  else
    if (s.drop 1).length < (s.getD 0 0).toNat - base - 55 ∨ ((s.drop 1).getD 0 0).toNat = 0 then none
    else
      if val ((s.drop 1).take ((s.getD 0 0).toNat - base - 55)) ≤ 55 ∨ ((s.drop 1).drop ((s.getD 0 0).toNat - base - 55)).length < val ((s.drop 1).take ((s.getD 0 0).toNat - base - 55)) then none
      else some (((s.drop 1).drop ((s.getD 0 0).toNat - base - 55)).take (val ((s.drop 1).take ((s.getD 0 0).toNat - base - 55))),
        ((s.drop 1).drop ((s.getD 0 0).toNat - base - 55)).drop (val ((s.drop 1).take ((s.getD 0 0).toNat - base - 55))))

/-- Items one behind the other, till nothing is left. -/
def loopP (p : List UInt8 → Option (Itm × List UInt8)) : Nat → List UInt8 → Option (List Itm)
  | 0, s => if s.isEmpty then some [] else none
  | m + 1, s => if s.isEmpty then some [] else
    match p s with
    | none => none
    | some (x, rest) => (loopP p m rest).map (x :: ·)

/-- The item that bytes begin with, and what is behind it: by a reading of what is within it. -/
def stepP (p : List UInt8 → Option (Itm × List UInt8)) (s : List UInt8) : Option (Itm × List UInt8) :=
  if s.isEmpty then none
  else if (s.getD 0 0).toNat < 128 then some (⟨false, s.take 1, []⟩, s.drop 1)
  else if (s.getD 0 0).toNat < 192 then
    match cutP 128 s with
    | none => none
    | some (body, rest) => if stands body then none else some (⟨false, body, []⟩, rest)
  else
    match cutP 192 s with
    | none => none
    | some (body, rest) =>
      match loopP p body.length body with
      | none => none
      | some l => some (⟨true, [], l⟩, rest)

def parse : Nat → List UInt8 → Option (Itm × List UInt8)
  | 0 => fun _ => none
  | f + 1 => stepP (parse f)

theorem parse_zero (s : List UInt8) : parse 0 s = none := by rw [parse]
theorem parse_succ (f : Nat) (s : List UInt8) : parse (f + 1) s = stepP (parse f) s := by rw [parse]

theorem cons_of_ne {s : List UInt8} (h : s ≠ []) : s = s.getD 0 0 :: s.drop 1 := by
  cases s with
  | nil => exact absurd rfl h
  | cons c l => simp

theorem ofNat_toNat' (c : UInt8) (n : Nat) (h : n = c.toNat) : UInt8.ofNat n = c := by subst h; simp

theorem cutP_sound {base : Nat} {s body rest : List UInt8} (hs : s ≠ []) (hb : base ≤ (s.getD 0 0).toNat) (h : cutP base s = some (body, rest)) :
    s = headed base body ++ rest ∧ body.length < s.length ∧ rest.length < s.length := by
  have hc := cons_of_ne hs
  generalize hc0 : s.getD 0 0 = c at *
  generalize hl : s.drop 1 = l at *
  unfold cutP at h
  simp only [hc0, hl] at h
  generalize hn : c.toNat - base = n at *
  by_cases h1 : n ≤ 55
  · rw [if_pos h1] at h
    by_cases h2 : n ≤ l.length
    · rw [if_pos h2] at h
      simp only [Option.some.injEq, Prod.mk.injEq] at h
      obtain ⟨rfl, rfl⟩ := h
      have hlen : (l.take n).length = n := by simp; omega
      refine ⟨?_, ?_, ?_⟩
      · unfold headed head
        rw [hlen, if_pos h1, ofNat_toNat' c (base + n) (by omega)]
        rw [hc]; simp
      · rw [hc]; simp; omega
      · rw [hc]; simp; omega
    · rw [if_neg h2] at h; cases h
  · rw [if_neg h1] at h
    generalize hk : n - 55 = k at *
    by_cases h2 : l.length < k ∨ (l.getD 0 0).toNat = 0
    · rw [if_pos h2] at h; cases h
    · rw [if_neg h2] at h
      have h2a : k ≤ l.length := by omega
      have h2b : (l.getD 0 0).toNat ≠ 0 := by omega
      by_cases h3 : val (l.take k) ≤ 55 ∨ (l.drop k).length < val (l.take k)
      · rw [if_pos h3] at h; cases h
      · rw [if_neg h3] at h
        simp only [Option.some.injEq, Prod.mk.injEq] at h
        obtain ⟨rfl, rfl⟩ := h
        have hlt : (l.take k).length = k := by simp; omega
        have hbe : be (val (l.take k)) = l.take k := by
          refine be_val _ (by omega) ?_
          have : (l.take k).getD 0 0 = l.getD 0 0 := by
            have hk0 : 0 < k := by omega
            simp [List.getD_eq_getElem?_getD, hk0]
          rw [this]; exact h2b
        have h3b : val (l.take k) ≤ (l.drop k).length := by omega
        have hlen : ((l.drop k).take (val (l.take k))).length = val (l.take k) := by rw [List.length_take]; omega
        have hld : (l.drop k).length = l.length - k := by simp
        refine ⟨?_, ?_, ?_⟩
        · unfold headed head
          rw [hlen, if_neg (by omega), hbe, hlt, ofNat_toNat' c (base + 55 + k) (by omega)]
          rw [hc]
          simp only [List.cons_append, List.append_assoc]
          rw [List.take_append_drop, List.take_append_drop]
        · rw [hlen, hc]; simp only [List.length_cons]; omega
        · rw [hc]; simp only [List.length_drop, List.length_cons]; omega

theorem headed_ne (base : Nat) (s r : List UInt8) : headed base s ++ r ≠ [] := by
  unfold headed head
  split <;> simp

theorem headed_first (base : Nat) (s r : List UInt8) (hb : base + 63 < 256) (hs : s.length < 256 ^ 8) :
    ((headed base s ++ r).getD 0 0).toNat = base + (if s.length ≤ 55 then s.length else 55 + (be s.length).length) := by
  have hl := be_len_le s.length 8 hs (by omega)
  unfold headed head
  split
  · simp; omega
  · simp; omega

theorem cutP_complete {base : Nat} (s rest : List UInt8) (hb : base + 63 < 256) (hs : s.length < 256 ^ 8) : cutP base (headed base s ++ rest) = some (s, rest) := by
  have hf := headed_first base s rest hb hs
  have hl := be_len_le s.length 8 hs (by omega)
  have hp := be_len_pos s.length
  unfold cutP
  rw [hf]
  by_cases h1 : s.length ≤ 55
  · have hd : (headed base s ++ rest).drop 1 = s ++ rest := by unfold headed head; rw [if_pos h1]; simp
    rw [hd, if_pos h1]
    have e : base + s.length - base = s.length := by omega
    rw [e, if_pos h1, if_pos (by simp)]
    simp
  · have hd : (headed base s ++ rest).drop 1 = be s.length ++ s ++ rest := by unfold headed head; rw [if_neg h1]; simp
    rw [hd, if_neg h1]
    have e : base + (55 + (be s.length).length) - base - 55 = (be s.length).length := by omega
    have e' : ¬ base + (55 + (be s.length).length) - base ≤ 55 := by omega
    rw [e, if_neg e']
    have hne := be_head_ne (n := s.length) (by omega)
    have hg : ((be s.length ++ s ++ rest).getD 0 0) = (be s.length).getD 0 0 := by rw [List.append_assoc, getD_left _ _ hp]
    have ht : (be s.length ++ s ++ rest).take (be s.length).length = be s.length := by simp
    have hdr : (be s.length ++ s ++ rest).drop (be s.length).length = s ++ rest := by simp
    rw [if_neg (by rw [hg]; simp only [List.length_append]; omega), ht, hdr, val_be]
    rw [if_neg (by simp only [List.length_append]; omega)]
    simp

theorem loopP_sound {p : List UInt8 → Option (Itm × List UInt8)} (hp : ∀ s x rest, p s = some (x, rest) → s = enc x ++ rest ∧ pure x = true) :
    ∀ (m : Nat) (s : List UInt8) (l : List Itm), loopP p m s = some l → s = l.flatMap enc ∧ l.all pure = true := by
  intro m
  induction m with
  | zero =>
    intro s l h
    unfold loopP at h
    by_cases hs : s.isEmpty
    · rw [if_pos hs] at h; simp at h; subst h; simpa using hs
    · rw [if_neg hs] at h; cases h
  | succ m ih =>
    intro s l h
    unfold loopP at h
    by_cases hs : s.isEmpty
    · rw [if_pos hs] at h; simp at h; subst h; simpa using hs
    · rw [if_neg hs] at h
      cases hps : p s with
      | none => rw [hps] at h; cases h
      | some xr =>
        obtain ⟨x, rest⟩ := xr
        rw [hps] at h
        simp only [Option.map_eq_some_iff] at h
        obtain ⟨l', hl', rfl⟩ := h
        obtain ⟨e1, p1⟩ := hp s x rest hps
        obtain ⟨e2, p2⟩ := ih rest l' hl'
        refine ⟨?_, ?_⟩
        · rw [List.flatMap_cons, ← e2]; exact e1
        · simp only [List.all_cons, p1, p2, Bool.and_self]

theorem parse_sound : ∀ (f : Nat) (s : List UInt8) (x : Itm) (rest : List UInt8), parse f s = some (x, rest) → s = enc x ++ rest ∧ pure x = true := by
  intro f
  induction f with
  | zero => intro s x rest h; rw [parse_zero] at h; cases h
  | succ f ih =>
    intro s x rest h
    rw [parse_succ] at h
    unfold stepP at h
    by_cases hs : s.isEmpty
    · rw [if_pos hs] at h; cases h
    rw [if_neg hs] at h
    have hne : s ≠ [] := by intro e; subst e; simp at hs
    by_cases h1 : (s.getD 0 0).toNat < 128
    · rw [if_pos h1] at h
      simp only [Option.some.injEq, Prod.mk.injEq] at h
      obtain ⟨rfl, rfl⟩ := h
      have hc := cons_of_ne hne
      have hst : stands (s.take 1) = true := by
        unfold stands
        rw [hc]; simp; simpa using h1
      refine ⟨?_, ?_⟩
      · rw [enc_eq]
        simp only [Bool.false_eq_true, if_false]
        unfold encB
        rw [if_pos hst, List.take_append_drop]
      · rw [pure_eq]; simp
    · rw [if_neg h1] at h
      by_cases h2 : (s.getD 0 0).toNat < 192
      · rw [if_pos h2] at h
        cases hcut : cutP 128 s with
        | none => rw [hcut] at h; cases h
        | some br =>
          obtain ⟨body, rest'⟩ := br
          rw [hcut] at h
          simp only at h
          by_cases h3 : stands body
          · rw [if_pos h3] at h; cases h
          · rw [if_neg h3] at h
            simp only [Option.some.injEq, Prod.mk.injEq] at h
            obtain ⟨rfl, rfl⟩ := h
            obtain ⟨e, _⟩ := cutP_sound hne (by omega) hcut
            refine ⟨?_, ?_⟩
            · rw [enc_eq]
              simp only [Bool.false_eq_true, if_false]
              unfold encB
              rw [if_neg h3]; exact e
            · rw [pure_eq]; simp
      · rw [if_neg h2] at h
        cases hcut : cutP 192 s with
        | none => rw [hcut] at h; cases h
        | some br =>
          obtain ⟨body, rest'⟩ := br
          rw [hcut] at h
          simp only at h
          cases hl : loopP (parse f) body.length body with
          | none => rw [hl] at h; cases h
          | some l =>
            rw [hl] at h
            simp only [Option.some.injEq, Prod.mk.injEq] at h
            obtain ⟨rfl, rfl⟩ := h
            obtain ⟨e, _⟩ := cutP_sound hne (by omega) hcut
            obtain ⟨e2, p2⟩ := loopP_sound ih _ _ _ hl
            refine ⟨?_, ?_⟩
            · rw [enc_eq]
              simp only [if_true]
              rw [← e2]; exact e
            · rw [pure_eq]; simp; simpa using p2

theorem enc_ne (t : Itm) : enc t ≠ [] := by
  rw [enc_eq]
  split
  · have := headed_ne 192 (t.items.flatMap enc) []
    simpa using this
  · unfold encB
    split
    · intro h
      rename_i hst
      rw [h] at hst
      simp [stands] at hst
    · have := headed_ne 128 t.bytes []
      simpa using this

theorem headed_len (base : Nat) (s : List UInt8) : s.length < (headed base s).length := by
  unfold headed head
  split <;> simp <;> omega

theorem mem_enc_len {x : Itm} {l : List Itm} (h : x ∈ l) : (enc x).length ≤ (l.flatMap enc).length := by
  induction l with
  | nil => simp at h
  | cons y l ih =>
    rw [List.flatMap_cons, List.length_append]
    rcases List.mem_cons.1 h with rfl | h
    · omega
    · have := ih h; omega

theorem loopP_complete {p : List UInt8 → Option (Itm × List UInt8)} (l : List Itm) (hp : ∀ x ∈ l, ∀ rest, p (enc x ++ rest) = some (x, rest)) :
    ∀ m, (l.flatMap enc).length ≤ m → loopP p m (l.flatMap enc) = some l := by
  induction l with
  | nil => intro m _; cases m <;> simp [loopP]
  | cons x l ih =>
    intro m hm
    rw [List.flatMap_cons, List.length_append] at hm
    have hne := enc_ne x
    have hpos : 0 < (enc x).length := List.length_pos_iff.2 hne
    cases m with
    | zero => omega
    | succ m =>
      rw [List.flatMap_cons]
      unfold loopP
      rw [if_neg (by simp [hne]), hp x (by simp)]
      simp only
      rw [ih (fun y hy => hp y (by simp [hy])) m (by omega)]
      rfl

theorem parse_complete : ∀ (f : Nat) (t : Itm) (rest : List UInt8), pure t = true → (enc t).length ≤ f → (enc t).length < 256 ^ 8 → parse f (enc t ++ rest) = some (t, rest) := by
  intro f
  induction f with
  | zero =>
    intro t rest _ h
    exact absurd (List.length_eq_zero_iff.1 (by omega)) (enc_ne t)
  | succ f ih =>
    intro t rest hp hf hb
    have hne : enc t ++ rest ≠ [] := by simp [enc_ne t]
    rw [parse_succ]
    unfold stepP
    rw [if_neg (by simpa using fun h => absurd h (enc_ne t))]
    rw [pure_eq] at hp
    simp only [Bool.and_eq_true] at hp
    obtain ⟨hp1, hp2⟩ := hp
    by_cases hl : t.list
    · rw [if_pos hl] at hp1
      have he : enc t = headed 192 (t.items.flatMap enc) := by rw [enc_eq, if_pos hl]
      have hlen := headed_len 192 (t.items.flatMap enc)
      rw [he] at hf hb ⊢
      have hfi := headed_first 192 (t.items.flatMap enc) rest (by omega) (by omega)
      rw [if_neg (by omega), if_neg (by omega), cutP_complete _ _ (by omega) (by omega)]
      simp only
      rw [loopP_complete t.items (fun x hx r => ih x r (by simp only [List.all_eq_true] at hp2; exact hp2 x hx)
        (by have := mem_enc_len hx; omega) (by have := mem_enc_len hx; omega)) _ (Nat.le_refl _)]
      obtain ⟨l, b, is⟩ := t
      simp only at hl hp1
      simp only [Option.some.injEq, Prod.mk.injEq, and_true]
      subst hl
      simp at hp1
      rw [hp1]
    · rw [if_neg hl] at hp1
      have he : enc t = encB t.bytes := by rw [enc_eq, if_neg hl]
      have ht : t = ⟨false, t.bytes, []⟩ := by
        obtain ⟨l, b, is⟩ := t
        simp at hl hp1
        subst hl hp1
        rfl
      rw [he] at hf hb ⊢
      unfold encB at hf hb ⊢
      by_cases hst : stands t.bytes
      · rw [if_pos hst] at hf hb ⊢
        unfold stands at hst
        simp only [Bool.and_eq_true, decide_eq_true_eq] at hst
        obtain ⟨h1, h2⟩ := hst
        rw [if_pos (by rw [getD_left _ _ (by omega)]; exact h2)]
        have e1 : (t.bytes ++ rest).take 1 = t.bytes := by rw [← h1]; simp
        have e2 : (t.bytes ++ rest).drop 1 = rest := by rw [← h1]; simp
        rw [e1, e2, ← ht]
      · rw [if_neg hst] at hf hb ⊢
        have hlen := headed_len 128 t.bytes
        have hfi := headed_first 128 t.bytes rest (by omega) (by omega)
        have hbe := be_len_le t.bytes.length 8 (by omega) (by omega)
        rw [if_neg (by omega)]
        rw [if_pos (by rw [hfi]; split <;> omega)]
        rw [cutP_complete _ _ (by omega) (by omega)]
        simp only
        rw [if_neg hst, ← ht]

end Itm
end Go.Proofs.Ytbmohenjphmlgaa
