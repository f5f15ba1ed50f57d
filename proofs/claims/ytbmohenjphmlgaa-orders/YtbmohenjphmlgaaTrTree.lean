/- Plain mathematics of trees: paths, tables, their nodes, the root. Nothing of the program is in here. -/
import Derived.Test.YtbmohenjphmlgaaTrMath3
namespace Go.Proofs.Ytbmohenjphmlgaa
set_option maxRecDepth 100000

namespace Tr

/-- What is left of a key's digits, and its value. -/
structure Ent where
  dig : List UInt8
  val : List UInt8

/-- Two digits a byte. -/
def pack : List UInt8 → List UInt8
  | a :: b :: r => UInt8.ofNat (16 * a.toNat + b.toNat) :: pack r
  | _ => []

/-- The path of digits. -/
def path (l : List UInt8) (leaf : Bool) : List UInt8 :=
  if l.length % 2 = 1 then UInt8.ofNat ((if leaf then 32 else 0) + 16 + (l.getD 0 0).toNat) :: pack (l.drop 1)
  else UInt8.ofNat (if leaf then 32 else 0) :: pack l

/-- What two begin with alike. -/
def lcp : List UInt8 → List UInt8 → List UInt8
  | a :: r, b :: s => if a = b then a :: lcp r s else []
  | _, _ => []

def sharedFrom (s : List UInt8) (l : List Ent) : List UInt8 := l.foldl (fun s x => lcp s x.dig) s

/-- What all begin with alike. -/
def shared : List Ent → List UInt8
  | [] => []
  | e :: l => sharedFrom e.dig (e :: l)

/-- Those that begin with s, without it. -/
def behind (s : List UInt8) (l : List Ent) : List Ent := l.filterMap fun e => if s.isPrefixOf e.dig then some ⟨e.dig.drop s.length, e.val⟩ else none

/-- The value of the one without digits. -/
def valOf (l : List Ent) : List UInt8 := l.foldl (fun v e => if e.dig = [] then e.val else v) []

def itB (s : List UInt8) : Itm := ⟨false, s, []⟩
def itL (l : List Itm) : Itm := ⟨true, [], l⟩

/-- The reference to a node. -/
def ref (t : Itm) : Itm := if (Itm.enc t).length < 8 then t else itB (sum (Itm.enc t))

/-- The node of entries, once those of fewer digits are known. -/
def nodeOf (g : List Ent → Itm) (l : List Ent) : Itm :=
  match l with
  | [] => itB []
  | [e] => itL [itB (path e.dig true), itB e.val]
  | _ => if shared l = [] then itL ((List.range 16).map (fun d => ref (g (behind [UInt8.ofNat d] l))) ++ [itB (valOf l)])
         else itL [itB (path (shared l) false), ref (g (behind (shared l) l))]

/-- The node of entries, with so many steps down at most. -/
def node : Nat → List Ent → Itm
  | 0, _ => zero
  | f + 1, l => nodeOf (node f) l

/-- The pairs that count. -/
def table : List (List UInt8 × List UInt8) → List Ent
  | [] => []
  | p :: r => if p.1 ∈ r.map (·.1) ∨ p.2 = [] then table r else ⟨digits p.1, p.2⟩ :: table r

/-- What is wrong with pairs: nought if nothing is. -/
def fault (ps : List (List UInt8 × List UInt8)) (key : List UInt8) : Nat :=
  if 60 < ps.length then 2
  else if (∃ p ∈ ps, 6 < p.1.length) ∨ 6 < key.length then 3
  else if ∃ p ∈ ps, 40 < p.2.length then 4
  else 0

/-- The root of a table. -/
def root (ps : List (List UInt8 × List UInt8)) : List UInt8 × Nat :=
  if fault ps [] = 0 then (sum (Itm.enc (node 13 (table ps))), 0) else ([], fault ps [])

theorem lcp_left : ∀ a b : List UInt8, lcp a b <+: a
  | [], _ => by simp [lcp]
  | _ :: _, [] => by simp [lcp]
  | a :: r, b :: s => by
    rw [lcp]
    split
    · rw [List.cons_prefix_cons]; exact ⟨rfl, lcp_left r s⟩
    · exact List.nil_prefix

theorem lcp_right : ∀ a b : List UInt8, lcp a b <+: b
  | [], _ => by simp [lcp]
  | _ :: _, [] => by simp [lcp]
  | a :: r, b :: s => by
    rw [lcp]
    split
    · rename_i h; rw [List.cons_prefix_cons]; exact ⟨h, lcp_right r s⟩
    · exact List.nil_prefix

theorem lcp_most : ∀ (p a b : List UInt8), p <+: a → p <+: b → p <+: lcp a b
  | [], _, _, _, _ => List.nil_prefix
  | c :: p, [], _, h, _ => by simp at h
  | c :: p, _ :: _, [], _, h => by simp at h
  | c :: p, a :: r, b :: s, h1, h2 => by
    rw [List.cons_prefix_cons] at h1 h2
    obtain ⟨rfl, h1⟩ := h1
    obtain ⟨rfl, h2⟩ := h2
    rw [lcp, if_pos rfl, List.cons_prefix_cons]
    exact ⟨rfl, lcp_most p r s h1 h2⟩

theorem lcp_self (a : List UInt8) : lcp a a = a := by
  induction a with
  | nil => rfl
  | cons c a ih => rw [lcp, if_pos rfl, ih]

theorem sharedFrom_cons (s : List UInt8) (e : Ent) (l : List Ent) : sharedFrom s (e :: l) = sharedFrom (lcp s e.dig) l := rfl

theorem sharedFrom_iff (p s : List UInt8) (l : List Ent) : p <+: sharedFrom s l ↔ p <+: s ∧ ∀ e ∈ l, p <+: e.dig := by
  induction l generalizing s with
  | nil => simp [sharedFrom]
  | cons e l ih =>
    rw [sharedFrom_cons, ih]
    constructor
    · rintro ⟨h1, h2⟩
      refine ⟨h1.trans (lcp_left _ _), fun x hx => ?_⟩
      rcases List.mem_cons.1 hx with rfl | hx
      · exact h1.trans (lcp_right _ _)
      · exact h2 x hx
    · rintro ⟨h1, h2⟩
      exact ⟨lcp_most _ _ _ h1 (h2 e (by simp)), fun x hx => h2 x (by simp [hx])⟩

theorem shared_iff (p : List UInt8) (l : List Ent) (hl : l ≠ []) : p <+: shared l ↔ ∀ e ∈ l, p <+: e.dig := by
  cases l with
  | nil => exact absurd rfl hl
  | cons e l =>
    unfold shared
    rw [sharedFrom_iff]
    exact ⟨fun h => h.2, fun h => ⟨h e (by simp), h⟩⟩

theorem shared_pre (l : List Ent) (e : Ent) (he : e ∈ l) : shared l <+: e.dig := (shared_iff (shared l) l (fun h => by rw [h] at he; simp at he)).1 (List.prefix_refl _) e he

/-- The first n digits are those that all begin with, if all do and no more of them. -/
theorem shared_eq (e : Ent) (l : List Ent) (n : Nat) (h1 : ∀ x ∈ e :: l, n ≤ x.dig.length ∧ x.dig.take n = e.dig.take n) (x : Ent) (hx : x ∈ e :: l) (h2 : x.dig.length ≤ n ∨ x.dig[n]? ≠ e.dig[n]?) : shared (e :: l) = e.dig.take n := by
  have hp : e.dig.take n <+: shared (e :: l) := (shared_iff _ _ (by simp)).2 (fun y hy => by rw [← (h1 y hy).2]; exact List.take_prefix _ _)
  have h0 := h1 e (by simp)
  have hle : (shared (e :: l)).length ≤ n := by
    rcases Nat.lt_or_ge n (shared (e :: l)).length with hlt | hge
    · exfalso
      have ha := shared_pre (e :: l) x hx
      have hb := shared_pre (e :: l) e (by simp)
      obtain ⟨ra, ha⟩ := ha
      obtain ⟨rb, hb⟩ := hb
      rcases h2 with h2 | h2
      · have := congrArg List.length ha
        rw [List.length_append] at this
        omega
      · apply h2
        rw [← ha, ← hb, List.getElem?_append_left hlt, List.getElem?_append_left hlt]
    · exact hge
  have hlen : (e.dig.take n).length = n := by rw [List.length_take]; omega
  exact (List.IsPrefix.eq_of_length_le hp (by omega)).symm

theorem pack_even (l : List UInt8) : ∀ k, l.length = 2 * k → (pack l).length = k := by
  intro k
  induction k generalizing l with
  | zero => intro h; have : l = [] := by simpa using h
            subst this; rfl
  | succ k ih =>
    intro h
    match l, h with
    | a :: b :: r, h => rw [pack]; simp only [List.length_cons]; rw [ih r (by simp at h; omega)]

theorem pack_two (a b : UInt8) (r : List UInt8) : pack (a :: b :: r) = UInt8.ofNat (16 * a.toNat + b.toNat) :: pack r := by rw [pack]

theorem pack_snoc (l : List UInt8) (a b : UInt8) : ∀ k, l.length = 2 * k → pack (l ++ [a, b]) = pack l ++ [UInt8.ofNat (16 * a.toNat + b.toNat)] := by
  intro k
  induction k generalizing l with
  | zero => intro h; have : l = [] := by simpa using h
            subst this; rfl
  | succ k ih =>
    intro h
    match l, h with
    | c :: d :: r, h => rw [List.cons_append, List.cons_append, pack_two, pack_two, ih r (by simp at h; omega), List.cons_append]

theorem pack_le (l : List UInt8) : 2 * (pack l).length ≤ l.length := by
  fun_induction pack l with
  | case1 a b r ih => simp only [List.length_cons]; omega
  | case2 => simp

theorem path_len (l : List UInt8) (leaf : Bool) : (path l leaf).length ≤ l.length / 2 + 1 := by
  unfold path
  split
  · have := pack_le (l.drop 1)
    rw [List.length_drop] at this
    simp only [List.length_cons]; omega
  · have := pack_le l
    simp only [List.length_cons]; omega

theorem behind_mem {s : List UInt8} {l : List Ent} {x : Ent} (h : x ∈ behind s l) : ∃ e ∈ l, e.dig = s ++ x.dig ∧ e.val = x.val := by
  unfold behind at h
  rw [List.mem_filterMap] at h
  obtain ⟨e, he, h⟩ := h
  split at h
  · rename_i hp
    rw [List.isPrefixOf_iff_prefix] at hp
    obtain ⟨r, hr⟩ := hp
    cases h
    exact ⟨e, he, by rw [← hr]; simp, rfl⟩
  · cases h

theorem behind_nil (s : List UInt8) : behind s [] = [] := rfl
theorem behind_hit {s : List UInt8} {e : Ent} {l : List Ent} (h : s <+: e.dig) : behind s (e :: l) = ⟨e.dig.drop s.length, e.val⟩ :: behind s l := by
  unfold behind
  rw [List.filterMap_cons, if_pos (List.isPrefixOf_iff_prefix.2 h)]
theorem behind_miss {s : List UInt8} {e : Ent} {l : List Ent} (h : ¬ s <+: e.dig) : behind s (e :: l) = behind s l := by
  unfold behind
  rw [List.filterMap_cons, if_neg (by rw [List.isPrefixOf_iff_prefix]; exact h)]
theorem behind_append (s : List UInt8) (a b : List Ent) : behind s (a ++ b) = behind s a ++ behind s b := by unfold behind; rw [List.filterMap_append]
theorem behind_all {s : List UInt8} {l : List Ent} (h : ∀ e ∈ l, s <+: e.dig) : behind s l = l.map fun e => ⟨e.dig.drop s.length, e.val⟩ := by
  induction l with
  | nil => rfl
  | cons e l ih => rw [behind_hit (h e (by simp)), ih (fun x hx => h x (by simp [hx])), List.map_cons]

/-- Entries of at most so many digits, each below 16, with values that may be. -/
def Fits (f : Nat) (l : List Ent) : Prop := ∀ e ∈ l, e.dig.length < f ∧ (∀ c ∈ e.dig, c.toNat < 16) ∧ e.val.length ≤ 40

theorem Fits.behind {f : Nat} {l : List Ent} {s : List UInt8} (h : Fits (f + 1) l) (hs : s ≠ []) : Fits f (behind s l) := by
  intro x hx
  obtain ⟨e, he, h1, h2⟩ := behind_mem hx
  obtain ⟨a1, a2, a3⟩ := h e he
  rw [h1] at a1 a2
  rw [List.length_append] at a1
  have : 0 < s.length := List.length_pos_iff.2 hs
  exact ⟨by omega, fun c hc => a2 c (by simp [hc]), by rw [← h2]; exact a3⟩

theorem encB_len (s : List UInt8) (h : s.length ≤ 55) : (Itm.encB s).length ≤ s.length + 1 := by
  unfold Itm.encB
  split
  · omega
  · unfold Itm.headed Itm.head
    rw [if_pos h]
    simp

theorem enc_itB (s : List UInt8) : Itm.enc (itB s) = Itm.encB s := by rw [Itm.enc_eq]; rfl
theorem enc_itL (l : List Itm) : Itm.enc (itL l) = Itm.headed 192 (l.flatMap Itm.enc) := by rw [Itm.enc_eq]; rfl

theorem headed_short (b : Nat) (s : List UInt8) (h : s.length < 65536) : (Itm.headed b s).length ≤ s.length + 3 := by
  unfold Itm.headed Itm.head
  split
  · simp
  · have := Itm.be_len_le s.length 2 h (by decide)
    simp; omega

theorem ref_len (t : Itm) : (Itm.enc (ref t)).length ≤ 9 := by
  unfold ref
  split
  · omega
  · rw [enc_itB]
    have := encB_len (sum (Itm.enc t)) (by rw [sum_len]; decide)
    rw [sum_len] at this
    exact this

theorem flatMap_len (l : List Itm) (n : Nat) (h : ∀ x ∈ l, (Itm.enc x).length ≤ n) : (l.flatMap Itm.enc).length ≤ n * l.length := by
  induction l with
  | nil => simp
  | cons x l ih =>
    have h1 := h x (by simp)
    have h2 := ih (fun y hy => h y (by simp [hy]))
    simp only [List.flatMap_cons, List.length_append, List.length_cons]
    rw [Nat.mul_succ]
    omega

theorem valOf_le (l : List Ent) (n : Nat) (h : ∀ e ∈ l, e.val.length ≤ n) : (valOf l).length ≤ n := by
  unfold valOf
  have : ∀ (l : List Ent) (v : List UInt8), v.length ≤ n → (∀ e ∈ l, e.val.length ≤ n) → (l.foldl (fun v e => if e.dig = [] then e.val else v) v).length ≤ n := by
    intro l
    induction l with
    | nil => intro v hv _; exact hv
    | cons e l ih =>
      intro v hv hl
      rw [List.foldl_cons]
      refine ih _ ?_ (fun x hx => hl x (by simp [hx]))
      split
      · exact hl e (by simp)
      · exact hv
  exact this l [] (by simp) h

theorem node_len (f : Nat) (l : List Ent) (hf : f ≤ 100) (h : Fits f l) : (Itm.enc (node f l)).length ≤ 300 := by
  cases f with
  | zero => rw [node]; unfold zero; rw [Itm.enc_eq]; decide
  | succ f =>
    rw [node]
    unfold nodeOf
    match l, h with
    | [], _ => rw [enc_itB]; decide
    | [e], h =>
      obtain ⟨a1, _, a3⟩ := h e (by simp)
      dsimp only
      rw [enc_itL]
      have h1 := path_len e.dig true
      have h2 := encB_len (path e.dig true) (by omega)
      have h3 := encB_len e.val (by omega)
      have h4 := headed_short 192 ([itB (path e.dig true), itB e.val].flatMap Itm.enc) (by simp only [List.flatMap_cons, List.flatMap_nil, enc_itB, List.length_append, List.length_nil]; omega)
      simp only [List.flatMap_cons, List.flatMap_nil, enc_itB, List.length_append, List.length_nil] at h4 ⊢
      omega
    | e :: e2 :: r, h =>
      dsimp only
      split
      · rw [enc_itL]
        have h1 := valOf_le (e :: e2 :: r) 40 (fun x hx => (h x hx).2.2)
        have h2 := encB_len (valOf (e :: e2 :: r)) (by omega)
        have h3 := flatMap_len ((List.range 16).map (fun d => ref (node f (behind [UInt8.ofNat d] (e :: e2 :: r))))) 9 (fun x hx => by rw [List.mem_map] at hx; obtain ⟨d, _, rfl⟩ := hx; exact ref_len _)
        rw [List.length_map, List.length_range] at h3
        have h4 := headed_short 192 (((List.range 16).map (fun d => ref (node f (behind [UInt8.ofNat d] (e :: e2 :: r)))) ++ [itB (valOf (e :: e2 :: r))]).flatMap Itm.enc) (by rw [List.flatMap_append, List.length_append]; simp only [List.flatMap_cons, List.flatMap_nil, enc_itB, List.length_append, List.length_nil]; omega)
        rw [List.flatMap_append, List.length_append] at h4
        rw [List.flatMap_append]
        simp only [List.flatMap_cons, List.flatMap_nil, enc_itB, List.length_append, List.length_nil] at h4 ⊢
        omega
      · rw [enc_itL]
        have h0 : (shared (e :: e2 :: r)).length ≤ e.dig.length := (shared_pre _ e (by simp)).length_le
        obtain ⟨a1, _, _⟩ := h e (by simp)
        have h1 := path_len (shared (e :: e2 :: r)) false
        have h2 := encB_len (path (shared (e :: e2 :: r)) false) (by omega)
        have h3 := ref_len (node f (behind (shared (e :: e2 :: r)) (e :: e2 :: r)))
        have h4 := headed_short 192 ([itB (path (shared (e :: e2 :: r)) false), ref (node f (behind (shared (e :: e2 :: r)) (e :: e2 :: r)))].flatMap Itm.enc) (by simp only [List.flatMap_cons, List.flatMap_nil, enc_itB, List.length_append, List.length_nil]; omega)
        simp only [List.flatMap_cons, List.flatMap_nil, enc_itB, List.length_append, List.length_nil] at h4 ⊢
        omega

theorem deep_le (t : Itm) : Itm.deep t ≤ (Itm.enc t).length := by
  refine Itm.ind (p := fun t => Itm.deep t ≤ (Itm.enc t).length) ?_ t
  intro t ih
  rw [Itm.deep_eq, Itm.enc_eq]
  split
  · have h1 := Itm.headed_len 192 (t.items.flatMap Itm.enc)
    have h2 : Itm.top (t.items.map Itm.deep) ≤ (t.items.flatMap Itm.enc).length := by
      apply Itm.top_le
      intro x hx
      rw [List.mem_map] at hx
      obtain ⟨y, hy, rfl⟩ := hx
      refine Nat.le_trans (ih y hy) ?_
      have : ∀ l : List Itm, y ∈ l → (Itm.enc y).length ≤ (l.flatMap Itm.enc).length := by
        intro l
        induction l with
        | nil => intro h; simp at h
        | cons z l ihl =>
          intro h
          simp only [List.flatMap_cons, List.length_append]
          rcases List.mem_cons.1 h with rfl | h
          · omega
          · have := ihl h; omega
      exact this _ hy
    omega
  · omega

theorem ref_deep (t : Itm) : Itm.deep (ref t) ≤ 7 := by
  unfold ref
  split
  · have := deep_le t; omega
  · rw [Itm.deep_eq]; simp [itB]

theorem itB_deep (s : List UInt8) : Itm.deep (itB s) = 0 := by rw [Itm.deep_eq]; simp [itB]

theorem node_deep (f : Nat) (l : List Ent) : Itm.deep (node f l) ≤ 8 := by
  cases f with
  | zero => rw [node, Itm.deep_eq]; simp [zero]
  | succ f =>
    rw [node]
    have hl : ∀ l : List Itm, (∀ x ∈ l, Itm.deep x ≤ 7) → Itm.deep (itL l) ≤ 8 := by
      intro l h
      rw [Itm.deep_eq]
      have : Itm.top (l.map Itm.deep) ≤ 7 := Itm.top_le (fun x hx => by rw [List.mem_map] at hx; obtain ⟨y, hy, rfl⟩ := hx; exact h y hy)
      simp only [itL, if_true]
      omega
    unfold nodeOf
    split
    · rw [itB_deep]; omega
    · apply hl; intro x hx
      simp only [List.mem_cons, List.not_mem_nil, or_false] at hx
      rcases hx with rfl | rfl <;> (rw [itB_deep]; omega)
    · split
      · apply hl; intro x hx
        rw [List.mem_append, List.mem_map] at hx
        rcases hx with ⟨d, _, rfl⟩ | hx
        · exact ref_deep _
        · simp only [List.mem_cons, List.not_mem_nil, or_false] at hx; subst hx; rw [itB_deep]; omega
      · apply hl; intro x hx
        simp only [List.mem_cons, List.not_mem_nil, or_false] at hx
        rcases hx with rfl | rfl
        · rw [itB_deep]; omega
        · exact ref_deep _

theorem itB_pure (s : List UInt8) : Itm.pure (itB s) = true := by rw [Itm.pure_eq]; simp [itB]
theorem itL_pure (l : List Itm) (h : ∀ x ∈ l, Itm.pure x = true) : Itm.pure (itL l) = true := by
  rw [Itm.pure_eq]; simp only [itL, if_true, List.isEmpty_nil, Bool.true_and, List.all_eq_true]; exact h
theorem ref_pure {t : Itm} (h : Itm.pure t = true) : Itm.pure (ref t) = true := by
  unfold ref; split
  · exact h
  · exact itB_pure _

theorem node_pure (f : Nat) (l : List Ent) : Itm.pure (node f l) = true := by
  induction f generalizing l with
  | zero => rw [node, Itm.pure_eq]; simp [zero]
  | succ f ih =>
    rw [node]
    unfold nodeOf
    split
    · exact itB_pure _
    · apply itL_pure; intro x hx
      simp only [List.mem_cons, List.not_mem_nil, or_false] at hx
      rcases hx with rfl | rfl <;> exact itB_pure _
    · split
      · apply itL_pure; intro x hx
        rw [List.mem_append, List.mem_map] at hx
        rcases hx with ⟨d, _, rfl⟩ | hx
        · exact ref_pure (ih _)
        · simp only [List.mem_cons, List.not_mem_nil, or_false] at hx; subst hx; exact itB_pure _
      · apply itL_pure; intro x hx
        simp only [List.mem_cons, List.not_mem_nil, or_false] at hx
        rcases hx with rfl | rfl
        · exact itB_pure _
        · exact ref_pure (ih _)

theorem table_fits (ps : List (List UInt8 × List UInt8)) (hk : ∀ p ∈ ps, p.1.length ≤ 6) (hv : ∀ p ∈ ps, p.2.length ≤ 40) : Fits 13 (table ps) := by
  induction ps with
  | nil => intro e he; simp [table] at he
  | cons p r ih =>
    have ih' := ih (fun q hq => hk q (by simp [hq])) (fun q hq => hv q (by simp [hq]))
    rw [table]
    split
    · exact ih'
    · intro e he
      rcases List.mem_cons.1 he with rfl | he
      · refine ⟨?_, digits_lt _, hv p (by simp)⟩
        dsimp only
        rw [digits_len]
        have := hk p (by simp)
        omega
      · exact ih' e he

end Tr
end Go.Proofs.Ytbmohenjphmlgaa
