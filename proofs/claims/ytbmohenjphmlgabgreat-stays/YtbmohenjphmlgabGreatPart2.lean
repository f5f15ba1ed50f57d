/- Part 2 of a proof: what the last text needs. -/
import Derived.Test.YtbmohenjphmlgabGreatPart1
import Derived.Test.YtbmohenjphmlgabGreatProg
import Derived.WalkKit
import Derived.WalkSpells
import Derived.WalkLawsBesides
import Derived.BigQuiet
import Derived.Lib.Strings
import Derived.Lib.IndexBytes
import Derived.Shelf.LaysM
import Derived.Shelf.Strconv.Clone
/- Plain mathematics of trees: paths, tables, their nodes, the root. Nothing of the program is in here. -/
namespace Go.Proofs.YtbmohenjphmlgabGreat
set_option maxRecDepth 100000

namespace Tr

/-- What is left of a key's digits, and its value. -/
structure Ent where
  dig : List UInt8
  val : List UInt8

/-- Two digits a byte. -/
def pack : List UInt8 → List UInt8
  | a :: b :: r => UInt8.ofNat (16 * a.toNat + b.toNat) :: pack r
  | _ => []

/-- The path of digits. -/
def path (l : List UInt8) (leaf : Bool) : List UInt8 :=
  if l.length % 2 = 1 then UInt8.ofNat ((if leaf then 32 else 0) + 16 + (l.getD 0 0).toNat) :: pack (l.drop 1)
  else UInt8.ofNat (if leaf then 32 else 0) :: pack l

/-- What two begin with alike. -/
def lcp : List UInt8 → List UInt8 → List UInt8
  | a :: r, b :: s => if a = b then a :: lcp r s else []
  | _, _ => []

def sharedFrom (s : List UInt8) (l : List Ent) : List UInt8 := l.foldl (fun s x => lcp s x.dig) s

/-- What all begin with alike. -/
def shared : List Ent → List UInt8
  | [] => []
  | e :: l => sharedFrom e.dig (e :: l)

/-- Those that begin with s, without it. -/
def behind (s : List UInt8) (l : List Ent) : List Ent := l.filterMap fun e => if s.isPrefixOf e.dig then some ⟨e.dig.drop s.length, e.val⟩ else none

/-- The value of the one without digits. -/
def valOf (l : List Ent) : List UInt8 := l.foldl (fun v e => if e.dig = [] then e.val else v) []

def itB (s : List UInt8) : Itm := ⟨false, s, []⟩
def itL (l : List Itm) : Itm := ⟨true, [], l⟩

/-- The reference to a node. -/
def ref (t : Itm) : Itm := if (Itm.enc t).length < 8 then t else itB (sum (Itm.enc t))

/-- The node of entries, once those of fewer digits are known. -/
def nodeOf (g : List Ent → Itm) (l : List Ent) : Itm :=
  match l with
  | [] => itB []
  | [e] => itL [itB (path e.dig true), itB e.val]
  | _ => if shared l = [] then itL ((List.range 16).map (fun d => ref (g (behind [UInt8.ofNat d] l))) ++ [itB (valOf l)])
         else itL [itB (path (shared l) false), ref (g (behind (shared l) l))]

/-- The node of entries, with so many steps down at most. -/
def node : Nat → List Ent → Itm
  | 0, _ => zero
  | f + 1, l => nodeOf (node f) l

/-- The pairs that count. -/
def table : List (List UInt8 × List UInt8) → List Ent
  | [] => []
  | p :: r => if p.1 ∈ r.map (·.1) ∨ p.2 = [] then table r else ⟨digits p.1, p.2⟩ :: table r

/-- What is wrong with pairs: nought if nothing is. -/
def fault (ps : List (List UInt8 × List UInt8)) (key : List UInt8) : Nat :=
  if 60 < ps.length then 2
  else if (∃ p ∈ ps, 6 < p.1.length) ∨ 6 < key.length then 3
  else if ∃ p ∈ ps, 40 < p.2.length then 4
  else 0

/-- The root of a table. -/
def root (ps : List (List UInt8 × List UInt8)) : List UInt8 × Nat :=
  if fault ps [] = 0 then (sum (Itm.enc (node 13 (table ps))), 0) else ([], fault ps [])

theorem lcp_left : ∀ a b : List UInt8, lcp a b <+: a
  | [], _ => by simp [lcp]
  | _ :: _, [] => by simp [lcp]
  | a :: r, b :: s => by
    rw [lcp]
    split
    · rw [List.cons_prefix_cons]; exact ⟨rfl, lcp_left r s⟩
    · exact List.nil_prefix

theorem lcp_right : ∀ a b : List UInt8, lcp a b <+: b
  | [], _ => by simp [lcp]
  | _ :: _, [] => by simp [lcp]
  | a :: r, b :: s => by
    rw [lcp]
    split
    · rename_i h; rw [List.cons_prefix_cons]; exact ⟨h, lcp_right r s⟩
    · exact List.nil_prefix

theorem lcp_most : ∀ (p a b : List UInt8), p <+: a → p <+: b → p <+: lcp a b
  | [], _, _, _, _ => List.nil_prefix
  | c :: p, [], _, h, _ => by simp at h
  | c :: p, _ :: _, [], _, h => by simp at h
  | c :: p, a :: r, b :: s, h1, h2 => by
    rw [List.cons_prefix_cons] at h1 h2
    obtain ⟨rfl, h1⟩ := h1
    obtain ⟨rfl, h2⟩ := h2
    rw [lcp, if_pos rfl, List.cons_prefix_cons]
    exact ⟨rfl, lcp_most p r s h1 h2⟩

theorem lcp_self (a : List UInt8) : lcp a a = a := by
  induction a with
  | nil => rfl
  | cons c a ih => rw [lcp, if_pos rfl, ih]

theorem sharedFrom_cons (s : List UInt8) (e : Ent) (l : List Ent) : sharedFrom s (e :: l) = sharedFrom (lcp s e.dig) l := rfl

theorem sharedFrom_iff (p s : List UInt8) (l : List Ent) : p <+: sharedFrom s l ↔ p <+: s ∧ ∀ e ∈ l, p <+: e.dig := by
  induction l generalizing s with
  | nil => simp [sharedFrom]
  | cons e l ih =>
    rw [sharedFrom_cons, ih]
    constructor
    · rintro ⟨h1, h2⟩
      refine ⟨h1.trans (lcp_left _ _), fun x hx => ?_⟩
      rcases List.mem_cons.1 hx with rfl | hx
      · exact h1.trans (lcp_right _ _)
      · exact h2 x hx
    · rintro ⟨h1, h2⟩
      exact ⟨lcp_most _ _ _ h1 (h2 e (by simp)), fun x hx => h2 x (by simp [hx])⟩

theorem shared_iff (p : List UInt8) (l : List Ent) (hl : l ≠ []) : p <+: shared l ↔ ∀ e ∈ l, p <+: e.dig := by
  cases l with
  | nil => exact absurd rfl hl
  | cons e l =>
    unfold shared
    rw [sharedFrom_iff]
    exact ⟨fun h => h.2, fun h => ⟨h e (by simp), h⟩⟩

theorem shared_pre (l : List Ent) (e : Ent) (he : e ∈ l) : shared l <+: e.dig := (shared_iff (shared l) l (fun h => by rw [h] at he; simp at he)).1 (List.prefix_refl _) e he

/-- The first n digits are those that all begin with, if all do and no more of them. -/
theorem shared_eq (e : Ent) (l : List Ent) (n : Nat) (h1 : ∀ x ∈ e :: l, n ≤ x.dig.length ∧ x.dig.take n = e.dig.take n) (x : Ent) (hx : x ∈ e :: l) (h2 : x.dig.length ≤ n ∨ x.dig[n]? ≠ e.dig[n]?) : shared (e :: l) = e.dig.take n := by
  have hp : e.dig.take n <+: shared (e :: l) := (shared_iff _ _ (by simp)).2 (fun y hy => by rw [← (h1 y hy).2]; exact List.take_prefix _ _)
  have h0 := h1 e (by simp)
  have hle : (shared (e :: l)).length ≤ n := by
    rcases Nat.lt_or_ge n (shared (e :: l)).length with hlt | hge
    · exfalso
      have ha := shared_pre (e :: l) x hx
      have hb := shared_pre (e :: l) e (by simp)
      obtain ⟨ra, ha⟩ := ha
      obtain ⟨rb, hb⟩ := hb
      rcases h2 with h2 | h2
      · have := congrArg List.length ha
        rw [List.length_append] at this
        omega
      · apply h2
        rw [← ha, ← hb, List.getElem?_append_left hlt, List.getElem?_append_left hlt]
    · exact hge
  have hlen : (e.dig.take n).length = n := by rw [List.length_take]; omega
  exact (List.IsPrefix.eq_of_length_le hp (by omega)).symm

theorem pack_even (l : List UInt8) : ∀ k, l.length = 2 * k → (pack l).length = k := by
  intro k
  induction k generalizing l with
  | zero => intro h; have : l = [] := by simpa using h
            subst this; rfl
  | succ k ih =>
    intro h
    match l, h with
    | a :: b :: r, h => rw [pack]; simp only [List.length_cons]; rw [ih r (by simp at h; omega)]

theorem pack_two (a b : UInt8) (r : List UInt8) : pack (a :: b :: r) = UInt8.ofNat (16 * a.toNat + b.toNat) :: pack r := by rw [pack]

theorem pack_snoc (l : List UInt8) (a b : UInt8) : ∀ k, l.length = 2 * k → pack (l ++ [a, b]) = pack l ++ [UInt8.ofNat (16 * a.toNat + b.toNat)] := by
  intro k
  induction k generalizing l with
  | zero => intro h; have : l = [] := by simpa using h
            subst this; rfl
  | succ k ih =>
    intro h
    match l, h with
    | c :: d :: r, h => rw [List.cons_append, List.cons_append, pack_two, pack_two, ih r (by simp at h; omega), List.cons_append]

theorem pack_le (l : List UInt8) : 2 * (pack l).length ≤ l.length := by
  fun_induction pack l with
  | case1 a b r ih => simp only [List.length_cons]; omega
  | case2 => simp

theorem path_len (l : List UInt8) (leaf : Bool) : (path l leaf).length ≤ l.length / 2 + 1 := by
  unfold path
  split
  · have := pack_le (l.drop 1)
    rw [List.length_drop] at this
    simp only [List.length_cons]; omega
  · have := pack_le l
    simp only [List.length_cons]; omega

theorem behind_mem {s : List UInt8} {l : List Ent} {x : Ent} (h : x ∈ behind s l) : ∃ e ∈ l, e.dig = s ++ x.dig ∧ e.val = x.val := by
  unfold behind at h
  rw [List.mem_filterMap] at h
  obtain ⟨e, he, h⟩ := h
  split at h
  · rename_i hp
    rw [List.isPrefixOf_iff_prefix] at hp
    obtain ⟨r, hr⟩ := hp
    cases h
    exact ⟨e, he, by rw [← hr]; simp, rfl⟩
  · cases h

theorem behind_nil (s : List UInt8) : behind s [] = [] := rfl
theorem behind_hit {s : List UInt8} {e : Ent} {l : List Ent} (h : s <+: e.dig) : behind s (e :: l) = ⟨e.dig.drop s.length, e.val⟩ :: behind s l := by
  unfold behind
  rw [List.filterMap_cons, if_pos (List.isPrefixOf_iff_prefix.2 h)]
theorem behind_miss {s : List UInt8} {e : Ent} {l : List Ent} (h : ¬ s <+: e.dig) : behind s (e :: l) = behind s l := by
  unfold behind
  rw [List.filterMap_cons, if_neg (by rw [List.isPrefixOf_iff_prefix]; exact h)]
theorem behind_append (s : List UInt8) (a b : List Ent) : behind s (a ++ b) = behind s a ++ behind s b := by unfold behind; rw [List.filterMap_append]
theorem behind_all {s : List UInt8} {l : List Ent} (h : ∀ e ∈ l, s <+: e.dig) : behind s l = l.map fun e => ⟨e.dig.drop s.length, e.val⟩ := by
  induction l with
  | nil => rfl
  | cons e l ih => rw [behind_hit (h e (by simp)), ih (fun x hx => h x (by simp [hx])), List.map_cons]

/-- Entries of at most so many digits, each below 16, with values that may be. -/
def Fits (f : Nat) (l : List Ent) : Prop := ∀ e ∈ l, e.dig.length < f ∧ (∀ c ∈ e.dig, c.toNat < 16) ∧ e.val.length ≤ 40

theorem Fits.behind {f : Nat} {l : List Ent} {s : List UInt8} (h : Fits (f + 1) l) (hs : s ≠ []) : Fits f (behind s l) := by
  intro x hx
  obtain ⟨e, he, h1, h2⟩ := behind_mem hx
  obtain ⟨a1, a2, a3⟩ := h e he
  rw [h1] at a1 a2
  rw [List.length_append] at a1
  have : 0 < s.length := List.length_pos_iff.2 hs
  exact ⟨by omega, fun c hc => a2 c (by simp [hc]), by rw [← h2]; exact a3⟩

theorem encB_len (s : List UInt8) (h : s.length ≤ 55) : (Itm.encB s).length ≤ s.length + 1 := by
  unfold Itm.encB
  split
  · omega
  · unfold Itm.headed Itm.head
    rw [if_pos h]
    simp

theorem enc_itB (s : List UInt8) : Itm.enc (itB s) = Itm.encB s := by rw [Itm.enc_eq]; rfl
theorem enc_itL (l : List Itm) : Itm.enc (itL l) = Itm.headed 192 (l.flatMap Itm.enc) := by rw [Itm.enc_eq]; rfl

theorem headed_short (b : Nat) (s : List UInt8) (h : s.length < 65536) : (Itm.headed b s).length ≤ s.length + 3 := by
  unfold Itm.headed Itm.head
  split
  · simp
  · have := Itm.be_len_le s.length 2 h (by decide)
    simp; omega

theorem ref_len (t : Itm) : (Itm.enc (ref t)).length ≤ 9 := by
  unfold ref
  split
  · omega
  · rw [enc_itB]
    have := encB_len (sum (Itm.enc t)) (by rw [sum_len]; decide)
    rw [sum_len] at this
    exact this

theorem flatMap_len (l : List Itm) (n : Nat) (h : ∀ x ∈ l, (Itm.enc x).length ≤ n) : (l.flatMap Itm.enc).length ≤ n * l.length := by
  induction l with
  | nil => simp
  | cons x l ih =>
    have h1 := h x (by simp)
    have h2 := ih (fun y hy => h y (by simp [hy]))
    simp only [List.flatMap_cons, List.length_append, List.length_cons]
    rw [Nat.mul_succ]
    omega

theorem valOf_le (l : List Ent) (n : Nat) (h : ∀ e ∈ l, e.val.length ≤ n) : (valOf l).length ≤ n := by
  unfold valOf
  have : ∀ (l : List Ent) (v : List UInt8), v.length ≤ n → (∀ e ∈ l, e.val.length ≤ n) → (l.foldl (fun v e => if e.dig = [] then e.val else v) v).length ≤ n := by
    intro l
    induction l with
    | nil => intro v hv _; exact hv
    | cons e l ih =>
      intro v hv hl
      rw [List.foldl_cons]
      refine ih _ ?_ (fun x hx => hl x (by simp [hx]))
      split
      · exact hl e (by simp)
      · exact hv
  exact this l [] (by simp) h

theorem node_len (f : Nat) (l : List Ent) (hf : f ≤ 100) (h : Fits f l) : (Itm.enc (node f l)).length ≤ 300 := by
  cases f with
  | zero => rw [node]; unfold zero; rw [Itm.enc_eq]; decide
  | succ f =>
    rw [node]
    unfold nodeOf
    match l, h with
    | [], _ => rw [enc_itB]; decide
    | [e], h =>
      obtain ⟨a1, _, a3⟩ := h e (by simp)
      dsimp only
      rw [enc_itL]
      have h1 := path_len e.dig true
      have h2 := encB_len (path e.dig true) (by omega)
      have h3 := encB_len e.val (by omega)
      have h4 := headed_short 192 ([itB (path e.dig true), itB e.val].flatMap Itm.enc) (by simp only [List.flatMap_cons, List.flatMap_nil, enc_itB, List.length_append, List.length_nil]; omega)
      simp only [List.flatMap_cons, List.flatMap_nil, enc_itB, List.length_append, List.length_nil] at h4 ⊢
      omega
    | e :: e2 :: r, h =>
      dsimp only
      split
      · rw [enc_itL]
        have h1 := valOf_le (e :: e2 :: r) 40 (fun x hx => (h x hx).2.2)
        have h2 := encB_len (valOf (e :: e2 :: r)) (by omega)
        have h3 := flatMap_len ((List.range 16).map (fun d => ref (node f (behind [UInt8.ofNat d] (e :: e2 :: r))))) 9 (fun x hx => by rw [List.mem_map] at hx; obtain ⟨d, _, rfl⟩ := hx; exact ref_len _)
        rw [List.length_map, List.length_range] at h3
        have h4 := headed_short 192 (((List.range 16).map (fun d => ref (node f (behind [UInt8.ofNat d] (e :: e2 :: r)))) ++ [itB (valOf (e :: e2 :: r))]).flatMap Itm.enc) (by rw [List.flatMap_append, List.length_append]; simp only [List.flatMap_cons, List.flatMap_nil, enc_itB, List.length_append, List.length_nil]; omega)
        rw [List.flatMap_append, List.length_append] at h4
        rw [List.flatMap_append]
        simp only [List.flatMap_cons, List.flatMap_nil, enc_itB, List.length_append, List.length_nil] at h4 ⊢
        omega
      · rw [enc_itL]
        have h0 : (shared (e :: e2 :: r)).length ≤ e.dig.length := (shared_pre _ e (by simp)).length_le
        obtain ⟨a1, _, _⟩ := h e (by simp)
        have h1 := path_len (shared (e :: e2 :: r)) false
        have h2 := encB_len (path (shared (e :: e2 :: r)) false) (by omega)
        have h3 := ref_len (node f (behind (shared (e :: e2 :: r)) (e :: e2 :: r)))
        have h4 := headed_short 192 ([itB (path (shared (e :: e2 :: r)) false), ref (node f (behind (shared (e :: e2 :: r)) (e :: e2 :: r)))].flatMap Itm.enc) (by simp only [List.flatMap_cons, List.flatMap_nil, enc_itB, List.length_append, List.length_nil]; omega)
        simp only [List.flatMap_cons, List.flatMap_nil, enc_itB, List.length_append, List.length_nil] at h4 ⊢
        omega

theorem deep_le (t : Itm) : Itm.deep t ≤ (Itm.enc t).length := by
  refine Itm.ind (p := fun t => Itm.deep t ≤ (Itm.enc t).length) ?_ t
  intro t ih
  rw [Itm.deep_eq, Itm.enc_eq]
  split
  · have h1 := Itm.headed_len 192 (t.items.flatMap Itm.enc)
    have h2 : Itm.top (t.items.map Itm.deep) ≤ (t.items.flatMap Itm.enc).length := by
      apply Itm.top_le
      intro x hx
      rw [List.mem_map] at hx
      obtain ⟨y, hy, rfl⟩ := hx
      refine Nat.le_trans (ih y hy) ?_
      have : ∀ l : List Itm, y ∈ l → (Itm.enc y).length ≤ (l.flatMap Itm.enc).length := by
        intro l
        induction l with
        | nil => intro h; simp at h
        | cons z l ihl =>
          intro h
          simp only [List.flatMap_cons, List.length_append]
          rcases List.mem_cons.1 h with rfl | h
          · omega
          · have := ihl h; omega
      exact this _ hy
    omega
  · omega

theorem ref_deep (t : Itm) : Itm.deep (ref t) ≤ 7 := by
  unfold ref
  split
  · have := deep_le t; omega
  · rw [Itm.deep_eq]; simp [itB]

theorem itB_deep (s : List UInt8) : Itm.deep (itB s) = 0 := by rw [Itm.deep_eq]; simp [itB]

theorem node_deep (f : Nat) (l : List Ent) : Itm.deep (node f l) ≤ 8 := by
  cases f with
  | zero => rw [node, Itm.deep_eq]; simp [zero]
  | succ f =>
    rw [node]
    have hl : ∀ l : List Itm, (∀ x ∈ l, Itm.deep x ≤ 7) → Itm.deep (itL l) ≤ 8 := by
      intro l h
      rw [Itm.deep_eq]
      have : Itm.top (l.map Itm.deep) ≤ 7 := Itm.top_le (fun x hx => by rw [List.mem_map] at hx; obtain ⟨y, hy, rfl⟩ := hx; exact h y hy)
      simp only [itL, if_true]
      omega
    unfold nodeOf
    split
    · rw [itB_deep]; omega
    · apply hl; intro x hx
      simp only [List.mem_cons, List.not_mem_nil, or_false] at hx
      rcases hx with rfl | rfl <;> (rw [itB_deep]; omega)
    · split
      · apply hl; intro x hx
        rw [List.mem_append, List.mem_map] at hx
        rcases hx with ⟨d, _, rfl⟩ | hx
        · exact ref_deep _
        · simp only [List.mem_cons, List.not_mem_nil, or_false] at hx; subst hx; rw [itB_deep]; omega
      · apply hl; intro x hx
        simp only [List.mem_cons, List.not_mem_nil, or_false] at hx
        rcases hx with rfl | rfl
        · rw [itB_deep]; omega
        · exact ref_deep _

theorem itB_pure (s : List UInt8) : Itm.pure (itB s) = true := by rw [Itm.pure_eq]; simp [itB]
theorem itL_pure (l : List Itm) (h : ∀ x ∈ l, Itm.pure x = true) : Itm.pure (itL l) = true := by
  rw [Itm.pure_eq]; simp only [itL, if_true, List.isEmpty_nil, Bool.true_and, List.all_eq_true]; exact h
theorem ref_pure {t : Itm} (h : Itm.pure t = true) : Itm.pure (ref t) = true := by
  unfold ref; split
  · exact h
  · exact itB_pure _

theorem node_pure (f : Nat) (l : List Ent) : Itm.pure (node f l) = true := by
  induction f generalizing l with
  | zero => rw [node, Itm.pure_eq]; simp [zero]
  | succ f ih =>
    rw [node]
    unfold nodeOf
    split
    · exact itB_pure _
    · apply itL_pure; intro x hx
      simp only [List.mem_cons, List.not_mem_nil, or_false] at hx
      rcases hx with rfl | rfl <;> exact itB_pure _
    · split
      · apply itL_pure; intro x hx
        rw [List.mem_append, List.mem_map] at hx
        rcases hx with ⟨d, _, rfl⟩ | hx
        · exact ref_pure (ih _)
        · simp only [List.mem_cons, List.not_mem_nil, or_false] at hx; subst hx; exact itB_pure _
      · apply itL_pure; intro x hx
        simp only [List.mem_cons, List.not_mem_nil, or_false] at hx
        rcases hx with rfl | rfl
        · exact itB_pure _
        · exact ref_pure (ih _)

theorem table_fits (ps : List (List UInt8 × List UInt8)) (hk : ∀ p ∈ ps, p.1.length ≤ 6) (hv : ∀ p ∈ ps, p.2.length ≤ 40) : Fits 13 (table ps) := by
  induction ps with
  | nil => intro e he; simp [table] at he
  | cons p r ih =>
    have ih' := ih (fun q hq => hk q (by simp [hq])) (fun q hq => hv q (by simp [hq]))
    rw [table]
    split
    · exact ih'
    · intro e he
      rcases List.mem_cons.1 he with rfl | he
      · refine ⟨?_, digits_lt _, hv p (by simp)⟩
        dsimp only
        rw [digits_len]
        have := hk p (by simp)
        omega
      · exact ih' e he

end Tr
end Go.Proofs.YtbmohenjphmlgabGreat

/- Walks of the functions that read texts alone: standsForItself, longLength, cut. -/
namespace Go.Proofs.YtbmohenjphmlgabGreat
open Go.RowKit
set_option maxRecDepth 100000

theorem ba_getD (s : ByteArray) (h : 0 < s.size) : s.data.toList.getD 0 0 = s[0] := by
  have h' : 0 < s.data.size := h
  rw [List.getD_eq_getElem?_getD, Array.getElem?_toList, Array.getElem?_eq_getElem h']
  rfl

theorem ba_len (s : ByteArray) : s.data.toList.length = s.size := by simp

theorem stands_eq (s : ByteArray) : Itm.stands s.data.toList = (decide (s.size = 1) && decide ((s.data.toList.getD 0 0).toNat < 128)) := by
  unfold Itm.stands; rw [ba_len]

set_option maxHeartbeats 400000 in
theorem stands_any (s : ByteArray) (w : World) :
    Calls Tryz.prog 83 #[.string s] w fun e w' => e = .returned (.bool (Itm.stands s.data.toList)) ∧ w' = w := by
  rw [stands_eq]
  by_cases h1 : s.size = 1
  · have hlt : 0 < s.size := by omega
    have HG : Hid (s.data.toList.getD 0 0 = s[0]) := ba_getD s hlt
    have HS : Hid (s.size = 1) := h1
    have hb : ((s.size : Int) == 1) = true := by simp; omega
    go_enter Tryz.func83, Tryz.ntmps83
    clear h1
    go_wp2
    · go_ret
      have e1 : decide (s.size = 1) = true := by simp [HS.out]
      exact ⟨by rw [HG.out, e1]; simp; omega, rfl⟩
  · have hb : ((s.size : Int) == 1) = false := by simp; omega
    go_enter Tryz.func83, Tryz.ntmps83
    go_wp2
    go_ret
    exact ⟨by simp [h1], rfl⟩

theorem or_byte (n c : Nat) (hc : c < 256) (hn : n * 256 + c < 18446744073709551616) :
    bits .or .u64 (IntKind.u64.wrap ((n : Int) * 256)) (IntKind.u64.wrap (c : Int)) = ((n * 256 + c : Nat) : Int) := by
  rw [IntKind.wrap_u64, IntKind.wrap_u64]
  have a1 : (0 : Int) ≤ (n : Int) * 256 := by omega
  have a2 : (n : Int) * 256 < 18446744073709551616 := by omega
  have e1 : ((n : Int) * 256) % 18446744073709551616 = ((n * 256 : Nat) : Int) := by
    rw [Int.emod_eq_of_lt a1 a2]; omega
  have e2 : (c : Int) % 18446744073709551616 = (c : Int) := Int.emod_eq_of_lt (by omega) (by omega)
  have a3 : n * 256 < 18446744073709551616 := Nat.lt_of_le_of_lt (Nat.le_add_right _ _) hn
  have a4 : c < 18446744073709551616 := Nat.lt_of_le_of_lt (Nat.le_add_left _ _) hn
  rw [e1, e2, u64_or_nat _ _ a3 a4]
  have := Nat.two_pow_add_eq_or_of_lt (i := 8) (b := c) (by omega) n
  have e3 : 2 ^ 8 * n = n * 256 := by omega
  rw [e3] at this
  rw [this]

theorem take_snoc (s : ByteArray) (k : Nat) (h : k < s.size) : s.data.toList.take (k + 1) = s.data.toList.take k ++ [s[k]] := by
  rw [List.take_succ_eq_append_getElem (by simpa using h)]; rfl

theorem val_take_lt (l : List UInt8) (j : Nat) (hj : j ≤ 7) : Itm.val (l.take j) < 256 ^ 7 := by
  have h := Itm.val_lt (l.take j)
  have h2 : (l.take j).length ≤ 7 := by simp; omega
  exact Nat.lt_of_lt_of_le h (Nat.pow_le_pow_right (by omega) h2)

set_option maxHeartbeats 400000 in
theorem long_yes (s : ByteArray) (k : Nat) (w : World) (hs : s.size ≤ maxLen) (hk : 1 ≤ k) (hk8 : k ≤ 8) (h0 : k ≤ s.size) (h1 : 0 < s.size) (hz : ((s[0].toNat : Int) == 0) = false) :
    Calls Tryz.prog 103 #[.string s, .int .i64 k] w fun e w' => e = .returned (.tuple #[.int .u64 (Itm.val (s.data.toList.take k)), .bool (decide (55 < Itm.val (s.data.toList.take k)))]) ∧ w' = w := by
  unfold maxLen at hs
  have hlt : decide (s.size < k) = false := by simp; omega
  go_enter Tryz.func103, Tryz.ntmps103
  go_wp2
  go_loop [6, 18] (fun n i => ∃ j : Nat, j ≤ k ∧ i = .int .i64 j ∧ n = .int .u64 (Itm.val (s.data.toList.take j))) (fun _ i => k - (intOf i).toNat)
  case atStart => exact ⟨0, Nat.zero_le _, rfl, rfl⟩
  case round =>
    obtain ⟨j, hj, rfl, rfl⟩ := hrel
    by_cases hlt : j < k
    · have hts := take_snoc s j (by omega)
      have hv := val_take_lt s.data.toList j (by omega)
      have hob := or_byte (Itm.val (s.data.toList.take j)) (s[j]'(by omega)).toNat (s[j]'(by omega)).toNat_lt (by have := (s[j]'(by omega)).toNat_lt; omega)
      have HO : Hid (bits .or .u64 (IntKind.u64.wrap ((Itm.val (s.data.toList.take j) : Nat) * 256)) (IntKind.u64.wrap ((s[j]'(by omega)).toNat : Int)) = ((Itm.val (s.data.toList.take (j + 1)) : Nat) : Int)) := by
        rw [hts, Itm.val_snoc]; exact hob
      clear hts hob hv
      go_wp2
      go_round
      case rel => exact ⟨j + 1, by omega, by go_num, by rw [HO.out]⟩
      case measure => simp [intOf]; omega
    · go_wp2
      go_ret2
      have hjk : j = k := by omega
      subst hjk
      refine ⟨?_, rfl⟩
      simp
      omega

set_option maxHeartbeats 400000 in
theorem long_short (s : ByteArray) (k : Nat) (w : World) (h0 : s.size < k) :
    Calls Tryz.prog 103 #[.string s, .int .i64 k] w fun e w' => e = .returned (.tuple #[.int .u64 0, .bool false]) ∧ w' = w := by
  have hlt : decide (s.size < k) = true := by simp; omega
  go_enter Tryz.func103, Tryz.ntmps103
  go_wp2
  go_ret2
  exact ⟨rfl, rfl⟩

set_option maxHeartbeats 400000 in
theorem long_zero (s : ByteArray) (k : Nat) (w : World) (h0 : k ≤ s.size) (h1 : 0 < s.size) (hz : ((s[0].toNat : Int) == 0) = true) :
    Calls Tryz.prog 103 #[.string s, .int .i64 k] w fun e w' => e = .returned (.tuple #[.int .u64 0, .bool false]) ∧ w' = w := by
  have hlt : decide (s.size < k) = false := by simp; omega
  go_enter Tryz.func103, Tryz.ntmps103
  go_wp2
  go_ret2
  exact ⟨rfl, rfl⟩

end Go.Proofs.YtbmohenjphmlgabGreat

/- Walks of 'cut': the head of some bytes, what follows parted into the body and the rest, as 'cutP' says. -/
namespace Go.Proofs.YtbmohenjphmlgabGreat
open Go.RowKit
set_option maxRecDepth 100000

theorem hid {p : Prop} (h : p) : Hid p := h

theorem str_eq {a : ByteArray} {l : List UInt8} (h : a.data.toList = l) : Value.string a = Value.string ⟨l.toArray⟩ := by
  subst h; simp

theorem ret3 {a b c a' b' c' : Value} (h1 : a = a') (h2 : b = b') (h3 : c = c') : Ending.returned (.tuple #[a, b, c]) = .returned (.tuple #[a', b', c']) := by
  subst h1 h2 h3; rfl

theorem empty_str : (Value.string ⟨#[]⟩) = .string ByteArray.empty := rfl

section
variable (s : ByteArray) (base n : Nat) (w : World)

set_option maxHeartbeats 400000 in
theorem cut_short_yes (hs : s.size ≤ maxLen) (h1 : 0 < s.size) (hb : base ≤ s[0].toNat) (hb2 : Hid (s[0].toNat - base = n)) (hsh : n ≤ 55) (hn : n ≤ s.size - 1) :
    Calls Tryz.prog 82 #[.string s, .int .u8 base] w fun e w' =>
      e = .returned (.tuple #[.string ⟨((s.data.toList.drop 1).take n).toArray⟩, .string ⟨((s.data.toList.drop 1).drop n).toArray⟩, .bool true]) ∧ ∃ nq, w' = w.drewN nq := by
  unfold maxLen at hs
  have hb8 := s[0].toNat_lt
  have E : Hid (((s[0].toNat : Int) - (base : Int)) = (n : Int)) := by have := hb2.out; show _ = _; omega
  have c1 : ((s[0].toNat : Int) - (base : Int)) ≤ 55 := by rw [E.out]; omega
  have c2 : (0 : Int) ≤ ((s[0].toNat : Int) - (base : Int)) := by rw [E.out]; omega
  have c3 : ((s[0].toNat : Int) - (base : Int)) ≤ ((s.size - 1 : Nat) : Int) := by rw [E.out]; omega
  go_enter Tryz.func82, Tryz.ntmps82
  go_wp2_with fail
  rw [E.out]
  go_quiet (fail)
  go_wp2
  go_ret3
  refine ⟨ret3 (str_eq ?_) (str_eq ?_) rfl, _, rfl⟩
  · rw [Lib.extract_data, Lib.extract_to_end]; simp
  · rw [Lib.extract_data, Lib.extract_to_end, List.take_of_length_le]; simp; omega

set_option maxHeartbeats 400000 in
theorem cut_short_no (hs : s.size ≤ maxLen) (h1 : 0 < s.size) (hb : base ≤ s[0].toNat) (hb2 : Hid (s[0].toNat - base = n)) (hsh : n ≤ 55) (hn : s.size - 1 < n) :
    Calls Tryz.prog 82 #[.string s, .int .u8 base] w fun e w' =>
      e = .returned (.tuple #[.string ⟨#[]⟩, .string ⟨#[]⟩, .bool false]) ∧ ∃ nq, w' = w.drewN nq := by
  unfold maxLen at hs
  have hb8 := s[0].toNat_lt
  have E : Hid (((s[0].toNat : Int) - (base : Int)) = (n : Int)) := by have := hb2.out; show _ = _; omega
  have c1 : ((s[0].toNat : Int) - (base : Int)) ≤ 55 := by rw [E.out]; omega
  have c2 : (0 : Int) ≤ ((s[0].toNat : Int) - (base : Int)) := by rw [E.out]; omega
  have c3 : ((s.size - 1 : Nat) : Int) < ((s[0].toNat : Int) - (base : Int)) := by rw [E.out]; omega
  go_enter Tryz.func82, Tryz.ntmps82
  go_wp2_with fail
  go_ret3
  exact ⟨rfl, 0, rfl⟩

/-- What 'longLength' says of a length that is none. -/
theorem long_no (t : ByteArray) (k : Nat) (h8 : 1 ≤ k) (h : t.size < k ∨ (t.data.toList.getD 0 0).toNat = 0) :
    Calls Tryz.prog 103 #[.string t, .int .i64 k] w fun e w' => e = .returned (.tuple #[.int .u64 0, .bool false]) ∧ w' = w := by
  by_cases hk : t.size < k
  · exact long_short t k w hk
  · have h0 : 0 < t.size := by omega
    refine long_zero t k w (by omega) h0 ?_
    have hz : (t.data.toList.getD 0 0).toNat = 0 := by omega
    rw [ba_getD t h0] at hz
    rw [hz]; rfl

set_option maxHeartbeats 400000 in
theorem cut_long_none (hs : s.size ≤ maxLen) (h1 : 0 < s.size) (hb : base ≤ s[0].toNat) (hb2 : Hid (s[0].toNat - base = n + 55)) (hsh : 1 ≤ n) (hn8 : n ≤ 8)
    (hn : s.size - 1 < n ∨ ((s.data.toList.drop 1).getD 0 0).toNat = 0) :
    Calls Tryz.prog 82 #[.string s, .int .u8 base] w fun e w' =>
      e = .returned (.tuple #[.string ⟨#[]⟩, .string ⟨#[]⟩, .bool false]) ∧ ∃ nq, w' = w.drewN nq := by
  have hl := long_no w (s.extract 1 s.size) n hsh (by rw [Lib.extract_to_end]; simpa using hn)
  unfold maxLen at hs
  have hb8 := s[0].toNat_lt
  have E : Hid (((s[0].toNat : Int) - (base : Int) - 55) = (n : Int)) := by have := hb2.out; show _ = _; omega
  have c1 : 55 < ((s[0].toNat : Int) - (base : Int)) := by have := hb2.out; omega
  have c2 : ((s[0].toNat : Int) - (base : Int)) ≤ 63 := by have := hb2.out; omega
  clear hn
  have HL := hid hl
  clear hl
  go_enter Tryz.func82, Tryz.ntmps82
  go_wp2_with fail
  rw [E.out]
  refine HL.out.mono ?_
  rintro e w' ⟨rfl, rfl⟩
  go_wp2_with fail
  go_ret3
  exact ⟨rfl, 0, rfl⟩

/-- What 'longLength' says of a length that is one. -/
theorem long_ok (t : ByteArray) (k : Nat) (hs : t.size ≤ maxLen) (h8 : 1 ≤ k) (hk8 : k ≤ 8) (h : k ≤ t.size) (h' : (t.data.toList.getD 0 0).toNat ≠ 0) :
    Calls Tryz.prog 103 #[.string t, .int .i64 k] w fun e w' => e = .returned (.tuple #[.int .u64 (Itm.val (t.data.toList.take k)), .bool (decide (55 < Itm.val (t.data.toList.take k)))]) ∧ w' = w := by
  have h0 : 0 < t.size := by omega
  refine long_yes t k w hs h8 hk8 h h0 ?_
  rw [ba_getD t h0] at h'
  simpa using h'

set_option maxHeartbeats 400000 in
theorem cut_long_few (hs : s.size ≤ maxLen) (h1 : 0 < s.size) (hb : base ≤ s[0].toNat) (hb2 : Hid (s[0].toNat - base = n + 55)) (hsh : 1 ≤ n) (hn8 : n ≤ 8)
    (hn : n ≤ s.size - 1) (hz : ((s.data.toList.drop 1).getD 0 0).toNat ≠ 0) (hv : Itm.val ((s.data.toList.drop 1).take n) ≤ 55) :
    Calls Tryz.prog 82 #[.string s, .int .u8 base] w fun e w' =>
      e = .returned (.tuple #[.string ⟨#[]⟩, .string ⟨#[]⟩, .bool false]) ∧ ∃ nq, w' = w.drewN nq := by
  have hl := long_ok w (s.extract 1 s.size) n (by unfold maxLen at *; simp; omega) hsh hn8 (by simpa using hn) (by rw [Lib.extract_to_end]; exact hz)
  rw [Lib.extract_to_end, show decide (55 < Itm.val ((s.data.toList.drop 1).take n)) = false from decide_eq_false (by omega)] at hl
  unfold maxLen at hs
  have hb8 := s[0].toNat_lt
  have E : Hid (((s[0].toNat : Int) - (base : Int) - 55) = (n : Int)) := by have := hb2.out; show _ = _; omega
  have c1 : 55 < ((s[0].toNat : Int) - (base : Int)) := by have := hb2.out; omega
  have c2 : ((s[0].toNat : Int) - (base : Int)) ≤ 63 := by have := hb2.out; omega
  clear hn hz
  have HL := hid hl
  clear hl
  go_enter Tryz.func82, Tryz.ntmps82
  go_wp2_with fail
  rw [E.out]
  refine HL.out.mono ?_
  rintro e w' ⟨rfl, rfl⟩
  go_wp2_with fail
  go_ret3
  exact ⟨rfl, 0, rfl⟩

set_option maxHeartbeats 400000 in
theorem cut_long_much (hs : s.size ≤ maxLen) (h1 : 0 < s.size) (hb : base ≤ s[0].toNat) (hb2 : Hid (s[0].toNat - base = n + 55)) (hsh : 1 ≤ n) (hn8 : n ≤ 8)
    (hn : n ≤ s.size - 1) (hz : ((s.data.toList.drop 1).getD 0 0).toNat ≠ 0) (hv : 55 < Itm.val ((s.data.toList.drop 1).take n)) (hv2 : s.size - 1 - n < Itm.val ((s.data.toList.drop 1).take n)) :
    Calls Tryz.prog 82 #[.string s, .int .u8 base] w fun e w' =>
      e = .returned (.tuple #[.string ⟨#[]⟩, .string ⟨#[]⟩, .bool false]) ∧ ∃ nq, w' = w.drewN nq := by
  have hl := long_ok w (s.extract 1 s.size) n (by unfold maxLen at *; simp; omega) hsh hn8 (by simpa using hn) (by rw [Lib.extract_to_end]; exact hz)
  rw [Lib.extract_to_end, show decide (55 < Itm.val ((s.data.toList.drop 1).take n)) = true from decide_eq_true (by omega)] at hl
  have hlt : Itm.val ((s.data.toList.drop 1).take n) < 256 ^ 8 := by
    have h := Itm.val_lt ((s.data.toList.drop 1).take n)
    exact Nat.lt_of_lt_of_le h (Nat.pow_le_pow_right (by omega) (by simp; omega))
  generalize Itm.val ((s.data.toList.drop 1).take n) = V at *
  unfold maxLen at hs
  have hb8 := s[0].toNat_lt
  have E : Hid (((s[0].toNat : Int) - (base : Int) - 55) = (n : Int)) := by have := hb2.out; show _ = _; omega
  have c1 : 55 < ((s[0].toNat : Int) - (base : Int)) := by have := hb2.out; omega
  have c2 : ((s[0].toNat : Int) - (base : Int)) ≤ 63 := by have := hb2.out; omega
  clear hz
  have HL := hid hl
  clear hl
  go_enter Tryz.func82, Tryz.ntmps82
  go_wp2_with fail
  rw [E.out]
  refine HL.out.mono ?_
  rintro e w' ⟨rfl, rfl⟩
  go_wp2_with fail
  go_ret3
  exact ⟨rfl, 0, rfl⟩

set_option maxHeartbeats 400000 in
theorem cut_long_yes (hs : s.size ≤ maxLen) (h1 : 0 < s.size) (hb : base ≤ s[0].toNat) (hb2 : Hid (s[0].toNat - base = n + 55)) (hsh : 1 ≤ n) (hn8 : n ≤ 8)
    (hn : n ≤ s.size - 1) (hz : ((s.data.toList.drop 1).getD 0 0).toNat ≠ 0) (hv : 55 < Itm.val ((s.data.toList.drop 1).take n)) (hv2 : Itm.val ((s.data.toList.drop 1).take n) ≤ s.size - 1 - n) :
    Calls Tryz.prog 82 #[.string s, .int .u8 base] w fun e w' =>
      e = .returned (.tuple #[.string ⟨(((s.data.toList.drop 1).drop n).take (Itm.val ((s.data.toList.drop 1).take n))).toArray⟩,
        .string ⟨(((s.data.toList.drop 1).drop n).drop (Itm.val ((s.data.toList.drop 1).take n))).toArray⟩, .bool true]) ∧ ∃ nq, w' = w.drewN nq := by
  have hl := long_ok w (s.extract 1 s.size) n (by unfold maxLen at *; simp; omega) hsh hn8 (by simpa using hn) (by rw [Lib.extract_to_end]; exact hz)
  rw [Lib.extract_to_end, show decide (55 < Itm.val ((s.data.toList.drop 1).take n)) = true from decide_eq_true (by omega)] at hl
  generalize Itm.val ((s.data.toList.drop 1).take n) = V at *
  unfold maxLen at hs
  have hb8 := s[0].toNat_lt
  have E : Hid (((s[0].toNat : Int) - (base : Int) - 55) = (n : Int)) := by have := hb2.out; show _ = _; omega
  have c1 : 55 < ((s[0].toNat : Int) - (base : Int)) := by have := hb2.out; omega
  have c2 : ((s[0].toNat : Int) - (base : Int)) ≤ 63 := by have := hb2.out; omega
  clear hz
  have HL := hid hl
  clear hl
  go_enter Tryz.func82, Tryz.ntmps82
  go_wp2_with fail
  rw [E.out]
  refine HL.out.mono ?_
  rintro e w' ⟨rfl, rfl⟩
  go_wp2_with fail
  go_quiet (fail)
  go_wp2
  go_ret3
  refine ⟨ret3 (str_eq ?_) (str_eq ?_) rfl, _, rfl⟩
  · rw [Lib.extract_data, Lib.extract_data, Lib.extract_to_end, Nat.sub_zero, List.drop_zero, List.take_take]
    congr 1
    omega
  · rw [Lib.extract_data, Lib.extract_data, Lib.extract_to_end, List.take_of_length_le, List.take_of_length_le]
    · simp; omega
    · simp; omega

theorem hid_mk (a b : Nat) (h : a = b) : Hid (a = b) := h

/-- What 'cut' gives where there is a body and a rest. -/
theorem cut_yes (hs : s.size ≤ maxLen) (h1 : 0 < s.size) (hb : base ≤ s[0].toNat) (hb2 : s[0].toNat - base < 64) (body rest : List UInt8) (h : Itm.cutP base s.data.toList = some (body, rest)) :
    Calls Tryz.prog 82 #[.string s, .int .u8 base] w fun e w' => e = .returned (.tuple #[.string ⟨body.toArray⟩, .string ⟨rest.toArray⟩, .bool true]) ∧ ∃ nq, w' = w.drewN nq := by
  unfold Itm.cutP at h
  rw [ba_getD s h1] at h
  have hl : (s.data.toList.drop 1).length = s.size - 1 := by simp
  generalize hn : s[0].toNat - base = n at *
  by_cases h3 : n ≤ 55
  · rw [if_pos h3] at h
    by_cases h4 : n ≤ (s.data.toList.drop 1).length
    · rw [if_pos h4] at h
      simp only [Option.some.injEq, Prod.mk.injEq] at h
      obtain ⟨rfl, rfl⟩ := h
      exact cut_short_yes s base n w hs h1 hb (hid_mk _ _ hn) h3 (by omega)
    · rw [if_neg h4] at h; cases h
  · rw [if_neg h3] at h
    obtain ⟨k, rfl⟩ : ∃ k, n = k + 55 := ⟨n - 55, by omega⟩
    rw [Nat.add_sub_cancel] at h
    by_cases h4 : (s.data.toList.drop 1).length < k ∨ ((s.data.toList.drop 1).getD 0 0).toNat = 0
    · rw [if_pos h4] at h; cases h
    · rw [if_neg h4] at h
      have hl2 : ((s.data.toList.drop 1).drop k).length = s.size - 1 - k := by rw [List.length_drop, hl]
      by_cases h5 : Itm.val ((s.data.toList.drop 1).take k) ≤ 55 ∨ ((s.data.toList.drop 1).drop k).length < Itm.val ((s.data.toList.drop 1).take k)
      · rw [if_pos h5] at h; cases h
      · rw [if_neg h5] at h
        simp only [Option.some.injEq, Prod.mk.injEq] at h
        obtain ⟨rfl, rfl⟩ := h
        exact cut_long_yes s base k w hs h1 hb (hid_mk _ _ hn) (by omega) (by omega) (by omega) (by omega) (by omega) (by omega)

/-- What 'cut' gives where there are none. -/
theorem cut_no (hs : s.size ≤ maxLen) (h1 : 0 < s.size) (hb : base ≤ s[0].toNat) (hb2 : s[0].toNat - base < 64) (h : Itm.cutP base s.data.toList = none) :
    Calls Tryz.prog 82 #[.string s, .int .u8 base] w fun e w' => e = .returned (.tuple #[.string ⟨#[]⟩, .string ⟨#[]⟩, .bool false]) ∧ ∃ nq, w' = w.drewN nq := by
  unfold Itm.cutP at h
  rw [ba_getD s h1] at h
  have hl : (s.data.toList.drop 1).length = s.size - 1 := by simp
  generalize hn : s[0].toNat - base = n at *
  by_cases h3 : n ≤ 55
  · rw [if_pos h3] at h
    by_cases h4 : n ≤ (s.data.toList.drop 1).length
    · rw [if_pos h4] at h; cases h
    · exact cut_short_no s base n w hs h1 hb (hid_mk _ _ hn) h3 (by omega)
  · rw [if_neg h3] at h
    obtain ⟨k, rfl⟩ : ∃ k, n = k + 55 := ⟨n - 55, by omega⟩
    rw [Nat.add_sub_cancel] at h
    by_cases h4 : (s.data.toList.drop 1).length < k ∨ ((s.data.toList.drop 1).getD 0 0).toNat = 0
    · exact cut_long_none s base k w hs h1 hb (hid_mk _ _ hn) (by omega) (by omega) (by rw [hl] at h4; exact h4)
    · rw [if_neg h4] at h
      have hl2 : ((s.data.toList.drop 1).drop k).length = s.size - 1 - k := by rw [List.length_drop, hl]
      by_cases h5 : Itm.val ((s.data.toList.drop 1).take k) ≤ 55 ∨ ((s.data.toList.drop 1).drop k).length < Itm.val ((s.data.toList.drop 1).take k)
      · by_cases h6 : Itm.val ((s.data.toList.drop 1).take k) ≤ 55
        · exact cut_long_few s base k w hs h1 hb (hid_mk _ _ hn) (by omega) (by omega) (by omega) (by omega) h6
        · exact cut_long_much s base k w hs h1 hb (hid_mk _ _ hn) (by omega) (by omega) (by omega) (by omega) (by omega) (by omega)
      · rw [if_neg h5] at h; cases h
end
end Go.Proofs.YtbmohenjphmlgabGreat

/- The library's contract of strings.Clone at this program: the same bytes; of what was there nothing has turned. -/
namespace Go.Proofs
open Go.Shelf
def Tryz.laysM316_ren : Go.Shelf.Ren := ⟨fun | 316 => 71 | n => n, fun | 9 => 9 | 3 => 3 | 4 => 4 | 37 => 46 | 0 => 0 | 127 => 155 | 5 => 5 | n => n, fun | n => n⟩
theorem Tryz.laysM316 : Go.Proofs.LaysM.n316 Tryz.prog Tryz.laysM316_ren := {
  mixed := by kernel_rfl
  f316 := Tryz.func71.trans (congrArg some (by kernel_rfl))
  t0 := Tryz.underlying0
  a0 := Tryz.isAgg0
  z0 := Tryz.sizeOf0
  v0 := Tryz.zeroValue0
  t3 := Tryz.underlying3
  a3 := Tryz.isAgg3
  z3 := Tryz.sizeOf3
  v3 := Tryz.zeroValue3
  t4 := Tryz.underlying4
  a4 := Tryz.isAgg4
  z4 := Tryz.sizeOf4
  v4 := Tryz.zeroValue4
  t9 := Tryz.underlying9
  a9 := Tryz.isAgg9
  z9 := Tryz.sizeOf9
  v9 := Tryz.zeroValue9
  t37 := Tryz.underlying46
  a37 := Tryz.isAgg46
  z37 := Tryz.sizeOf46
  v37 := Tryz.zeroValue46
  t127 := Tryz.underlying155
  a127 := Tryz.isAgg155
  z127 := Tryz.sizeOf155
  v127 := Tryz.zeroValue155
  t5 := Tryz.underlying5
  a5 := Tryz.isAgg5
  z5 := Tryz.sizeOf5
  v5 := Tryz.zeroValue5
  i0 := by kernel_rfl
  i3 := by kernel_rfl
  i4 := by kernel_rfl
  i5 := by kernel_rfl
  i9 := by kernel_rfl
  i37 := by kernel_rfl
  i127 := by kernel_rfl }
namespace YtbmohenjphmlgabGreat
open Go.RowKit
theorem lite_any (s : ByteArray) (w : World) (hlim : s.size ≤ 281474976710656) :
    Calls Tryz.prog 71 #[.string s] w fun e w' => e = .returned (.string s) ∧ Below w.heap.size w w' := Any.stringslite_Clone Tryz.laysM316 s w hlim

set_option maxRecDepth 100000 in
set_option maxHeartbeats 400000 in
theorem clone_any (s : ByteArray) (w : World) (hlim : s.size ≤ 281474976710656) :
    Calls Tryz.prog 45 #[.string s] w fun e w' => e = .returned (.string s) ∧ Below w.heap.size w w' := by
  go_enter Tryz.func45, Tryz.ntmps45
  go_wp2_with fail
  refine (lite_any s w hlim).mono ?_
  rintro e w' ⟨rfl, hb⟩
  go_wp2_with fail
  go_ret
  exact ⟨rfl, hb⟩
end YtbmohenjphmlgabGreat
end Go.Proofs
