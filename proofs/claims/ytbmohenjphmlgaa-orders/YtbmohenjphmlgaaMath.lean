/- Plain mathematics of items: their bytes, reading them back, that the two are inverse. Nothing of the program is in here. -/
namespace Go.Proofs.Ytbmohenjphmlgaa
set_option maxRecDepth 100000

/-- An item: its mark 'list', its bytes, its items. -/
structure Itm where
  list : Bool
  bytes : List UInt8
  items : List Itm

namespace Itm

/-- The greatest of some numbers. -/
def top (l : List Nat) : Nat := l.foldl max 0

theorem foldl_max (l : List Nat) (a : Nat) : l.foldl max a = max a (l.foldl max 0) := by
  induction l generalizing a with
  | nil => simp
  | cons x l ih => simp only [List.foldl_cons]; rw [ih, ih (max 0 x)]; simp [Nat.max_assoc]

theorem top_cons (x : Nat) (l : List Nat) : top (x :: l) = max x (top l) := by
  unfold top; simp only [List.foldl_cons]; rw [foldl_max]; simp

theorem top_nil : top [] = 0 := rfl

theorem top_append (a b : List Nat) : top (a ++ b) = max (top a) (top b) := by
  induction a with
  | nil => simp [top_nil]
  | cons x a ih => simp [top_cons, ih, Nat.max_assoc]

theorem le_top {x : Nat} {l : List Nat} (h : x ∈ l) : x ≤ top l := by
  induction l with
  | nil => simp at h
  | cons y l ih =>
    rw [top_cons]
    rcases List.mem_cons.1 h with rfl | h
    · omega
    · have := ih h; omega

theorem top_le {l : List Nat} {n : Nat} (h : ∀ x ∈ l, x ≤ n) : top l ≤ n := by
  induction l with
  | nil => simp [top_nil]
  | cons y l ih =>
    rw [top_cons]
    have h1 := h y (by simp)
    have h2 := ih (fun x hx => h x (by simp [hx]))
    omega

/-- A number above 0 in as few bytes as may be, the highest first. -/
def be (n : Nat) : List UInt8 := if n < 256 then [UInt8.ofNat n] else be (n / 256) ++ [UInt8.ofNat (n % 256)]

/-- The number that bytes tell, the highest first. -/
def val (l : List UInt8) : Nat := l.foldl (fun n c => n * 256 + c.toNat) 0

def head (base n : Nat) : List UInt8 := if n ≤ 55 then [UInt8.ofNat (base + n)] else UInt8.ofNat (base + 55 + (be n).length) :: be n

def headed (base : Nat) (s : List UInt8) : List UInt8 := head base s.length ++ s

def stands (s : List UInt8) : Bool := decide (s.length = 1) && decide ((s.getD 0 0).toNat < 128)

def encB (b : List UInt8) : List UInt8 := if stands b then b else headed 128 b

/-- The bytes of an item. -/
def enc : Itm → List UInt8
  | ⟨l, b, is⟩ => if l then headed 192 (is.attach.flatMap fun ⟨x, _⟩ => enc x) else encB b

/-- Its depth, as its bytes have it (what it has no use for is passed by). -/
def deep : Itm → Nat
  | ⟨l, _, is⟩ => if l then top (is.attach.map fun ⟨x, _⟩ => deep x) + 1 else 0

/-- Has it, and all within it, but the fields that its kind uses? -/
def pure : Itm → Bool
  | ⟨l, b, is⟩ => (if l then b.isEmpty else is.isEmpty) && is.attach.all fun ⟨x, _⟩ => pure x

theorem enc_eq (t : Itm) : enc t = if t.list then headed 192 (t.items.flatMap enc) else encB t.bytes := by
  obtain ⟨l, b, is⟩ := t
  simp [enc]

theorem deep_eq (t : Itm) : deep t = if t.list then top (t.items.map deep) + 1 else 0 := by
  obtain ⟨l, b, is⟩ := t
  simp [deep]

theorem pure_eq (t : Itm) : pure t = ((if t.list then t.bytes.isEmpty else t.items.isEmpty) && t.items.all pure) := by
  obtain ⟨l, b, is⟩ := t
  simp [pure]

/-- Induction over items: what holds of an item if it holds of all in it. -/
theorem ind {p : Itm → Prop} (h : ∀ t : Itm, (∀ x ∈ t.items, p x) → p t) (t : Itm) : p t := by
  refine Itm.rec (motive_1 := p) (motive_2 := fun l => ∀ x ∈ l, p x) ?_ ?_ ?_ t
  · intro l b is ih; exact h ⟨l, b, is⟩ ih
  · intro x hx; simp at hx
  · intro a l ha hl x hx
    rcases List.mem_cons.1 hx with rfl | hx
    · exact ha
    · exact hl x hx

theorem be_small {n : Nat} (h : n < 256) : be n = [UInt8.ofNat n] := by rw [be, if_pos h]
theorem be_large {n : Nat} (h : ¬ n < 256) : be n = be (n / 256) ++ [UInt8.ofNat (n % 256)] := by rw [be, if_neg h]

theorem be_len_pos (n : Nat) : 0 < (be n).length := by
  rw [be]; split <;> simp

theorem val_snoc (l : List UInt8) (c : UInt8) : val (l ++ [c]) = val l * 256 + c.toNat := by simp [val]

theorem val_be (n : Nat) : val (be n) = n := by
  induction n using Nat.strongRecOn with
  | _ n ih =>
    by_cases h : n < 256
    · rw [be_small h]; simp [val]; omega
    · rw [be_large h, val_snoc, ih (n / 256) (by omega)]
      simp; omega

/-- Induction over a list from its end. -/
theorem snoc_ind {α : Type} {p : List α → Prop} (h0 : p []) (h1 : ∀ l c, p l → p (l ++ [c])) (l : List α) : p l := by
  have h : ∀ l : List α, p l.reverse := by
    intro l
    induction l with
    | nil => simpa using h0
    | cons c l ih => simpa using h1 _ c ih
  have := h l.reverse
  simpa using this

theorem getD_left (a b : List UInt8) (h : 0 < a.length) : (a ++ b).getD 0 0 = a.getD 0 0 := by
  simp [List.getD_eq_getElem?_getD, List.getElem?_append_left h]

theorem val_lt (l : List UInt8) : val l < 256 ^ l.length := by
  refine snoc_ind (p := fun l => val l < 256 ^ l.length) (by simp [val]) ?_ l
  · intro l c ih
    rw [val_snoc, List.length_append, List.length_singleton, Nat.pow_succ]
    have := c.toNat_lt
    omega

theorem be_len_le (n k : Nat) (h : n < 256 ^ k) (hk : 0 < k) : (be n).length ≤ k := by
  induction k generalizing n with
  | zero => omega
  | succ k ih =>
    by_cases hn : n < 256
    · rw [be_small hn]; simp
    · rw [be_large hn]
      have hk0 : 0 < k := by
        rcases Nat.eq_zero_or_pos k with rfl | h0
        · simp at h; omega
        · exact h0
      have : n / 256 < 256 ^ k := by
        rw [Nat.pow_succ] at h
        exact Nat.div_lt_of_lt_mul (by omega)
      have := ih (n / 256) this hk0
      simp; omega

theorem be_head_ne {n : Nat} (h : 0 < n) : ((be n).getD 0 0).toNat ≠ 0 := by
  induction n using Nat.strongRecOn with
  | _ n ih =>
    by_cases hn : n < 256
    · rw [be_small hn]; simp; omega
    · rw [be_large hn]
      have hp := be_len_pos (n / 256)
      have := ih (n / 256) (by omega) (by omega)
      rw [getD_left _ _ hp]
      exact this

/-- Bytes whose first is not 0 are the fewest for their number. -/
theorem be_val (l : List UInt8) : 0 < l.length → (l.getD 0 0).toNat ≠ 0 → be (val l) = l := by
  refine snoc_ind (p := fun l => 0 < l.length → (l.getD 0 0).toNat ≠ 0 → be (val l) = l) (by simp) ?_ l
  · intro l c ih _ h
    rw [val_snoc]
    have hc := c.toNat_lt
    rcases Nat.eq_zero_or_pos l.length with h1 | h1
    · have : l = [] := List.length_eq_zero_iff.1 h1
      subst this
      rw [be_small (by simp [val]; omega)]
      simp [val]
    · have hh : (l.getD 0 0).toNat ≠ 0 := by
        rw [getD_left _ _ h1] at h; exact h
      have hb := ih h1 hh
      have hv : 0 < val l := by
        rcases Nat.eq_zero_or_pos (val l) with hz | hz
        · exfalso
          rw [hz] at hb
          rw [be_small (by omega)] at hb
          rw [← hb] at hh
          simp at hh
        · exact hz
      rw [be_large (by omega)]
      have e1 : (val l * 256 + c.toNat) / 256 = val l := by omega
      have e2 : (val l * 256 + c.toNat) % 256 = c.toNat := by omega
      rw [e1, e2, hb]
      simp

end Itm
end Go.Proofs.Ytbmohenjphmlgaa
