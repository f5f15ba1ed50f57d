/- Part 3 of a proof: what the last text needs. -/
import Derived.Test.YtbmohenjphmlgaaPart2
import Derived.Deep.RegionWith
/- Plain mathematics of trees: paths, tables, their nodes, the root. Nothing of the program is in here. -/
namespace Go.Proofs.Ytbmohenjphmlgaa
set_option maxRecDepth 100000

namespace Tr

/-- What is left of a key's digits, and its value. -/
structure Ent where
  dig : List UInt8
  val : List UInt8

/-- Two digits a byte. -/
def pack : List UInt8 → List UInt8
  | a :: b :: r => UInt8.ofNat (16 * a.toNat + b.toNat) :: pack r
  | _ => []

/-- The path of digits. -/
def path (l : List UInt8) (leaf : Bool) : List UInt8 :=
  if l.length % 2 = 1 then UInt8.ofNat ((if leaf then 32 else 0) + 16 + (l.getD 0 0).toNat) :: pack (l.drop 1)
  else UInt8.ofNat (if leaf then 32 else 0) :: pack l

/-- What two begin with alike. -/
def lcp : List UInt8 → List UInt8 → List UInt8
  | a :: r, b :: s => if a = b then a :: lcp r s else []
  | _, _ => []

def sharedFrom (s : List UInt8) (l : List Ent) : List UInt8 := l.foldl (fun s x => lcp s x.dig) s

/-- What all begin with alike. -/
def shared : List Ent → List UInt8
  | [] => []
  | e :: l => sharedFrom e.dig (e :: l)

/-- Those that begin with s, without it. -/
def behind (s : List UInt8) (l : List Ent) : List Ent := l.filterMap fun e => if s.isPrefixOf e.dig then some ⟨e.dig.drop s.length, e.val⟩ else none

/-- The value of the one without digits. -/
def valOf (l : List Ent) : List UInt8 := l.foldl (fun v e => if e.dig = [] then e.val else v) []

def itB (s : List UInt8) : Itm := ⟨false, s, []⟩
def itL (l : List Itm) : Itm := ⟨true, [], l⟩

/-- The reference to a node. -/
def ref (t : Itm) : Itm := if (Itm.enc t).length < 8 then t else itB (sum (Itm.enc t))

/-- The node of entries, once those of fewer digits are known. -/
def nodeOf (g : List Ent → Itm) (l : List Ent) : Itm :=
  match l with
  | [] => itB []
  | [e] => itL [itB (path e.dig true), itB e.val]
  | _ => if shared l = [] then itL ((List.range 16).map (fun d => ref (g (behind [UInt8.ofNat d] l))) ++ [itB (valOf l)])
         else itL [itB (path (shared l) false), ref (g (behind (shared l) l))]

/-- The node of entries, with so many steps down at most. -/
def node : Nat → List Ent → Itm
  | 0, _ => zero
  | f + 1, l => nodeOf (node f) l

/-- The pairs that count. -/
def table : List (List UInt8 × List UInt8) → List Ent
  | [] => []
  | p :: r => if p.1 ∈ r.map (·.1) ∨ p.2 = [] then table r else ⟨digits p.1, p.2⟩ :: table r

/-- What is wrong with pairs: nought if nothing is. -/
def fault (ps : List (List UInt8 × List UInt8)) (key : List UInt8) : Nat :=
  if 60 < ps.length then 2
  else if (∃ p ∈ ps, 6 < p.1.length) ∨ 6 < key.length then 3
  else if ∃ p ∈ ps, 40 < p.2.length then 4
  else 0

/-- The root of a table. -/
def root (ps : List (List UInt8 × List UInt8)) : List UInt8 × Nat :=
  if fault ps [] = 0 then (sum (Itm.enc (node 13 (table ps))), 0) else ([], fault ps [])

theorem lcp_left : ∀ a b : List UInt8, lcp a b <+: a
  | [], _ => by simp [lcp]
  | _ :: _, [] => by simp [lcp]
  | a :: r, b :: s => by
    rw [lcp]
    split
    · rw [List.cons_prefix_cons]; exact ⟨rfl, lcp_left r s⟩
    · exact List.nil_prefix

theorem lcp_right : ∀ a b : List UInt8, lcp a b <+: b
  | [], _ => by simp [lcp]
  | _ :: _, [] => by simp [lcp]
  | a :: r, b :: s => by
    rw [lcp]
    split
    · rename_i h; rw [List.cons_prefix_cons]; exact ⟨h, lcp_right r s⟩
    · exact List.nil_prefix

theorem lcp_most : ∀ (p a b : List UInt8), p <+: a → p <+: b → p <+: lcp a b
  | [], _, _, _, _ => List.nil_prefix
  | c :: p, [], _, h, _ => by simp at h
  | c :: p, _ :: _, [], _, h => by simp at h
  | c :: p, a :: r, b :: s, h1, h2 => by
    rw [List.cons_prefix_cons] at h1 h2
    obtain ⟨rfl, h1⟩ := h1
    obtain ⟨rfl, h2⟩ := h2
    rw [lcp, if_pos rfl, List.cons_prefix_cons]
    exact ⟨rfl, lcp_most p r s h1 h2⟩

theorem lcp_self (a : List UInt8) : lcp a a = a := by
  induction a with
  | nil => rfl
  | cons c a ih => rw [lcp, if_pos rfl, ih]

theorem sharedFrom_cons (s : List UInt8) (e : Ent) (l : List Ent) : sharedFrom s (e :: l) = sharedFrom (lcp s e.dig) l := rfl

theorem sharedFrom_iff (p s : List UInt8) (l : List Ent) : p <+: sharedFrom s l ↔ p <+: s ∧ ∀ e ∈ l, p <+: e.dig := by
  induction l generalizing s with
  | nil => simp [sharedFrom]
  | cons e l ih =>
    rw [sharedFrom_cons, ih]
    constructor
    · rintro ⟨h1, h2⟩
      refine ⟨h1.trans (lcp_left _ _), fun x hx => ?_⟩
      rcases List.mem_cons.1 hx with rfl | hx
      · exact h1.trans (lcp_right _ _)
      · exact h2 x hx
    · rintro ⟨h1, h2⟩
      exact ⟨lcp_most _ _ _ h1 (h2 e (by simp)), fun x hx => h2 x (by simp [hx])⟩

theorem shared_iff (p : List UInt8) (l : List Ent) (hl : l ≠ []) : p <+: shared l ↔ ∀ e ∈ l, p <+: e.dig := by
  cases l with
  | nil => exact absurd rfl hl
  | cons e l =>
    unfold shared
    rw [sharedFrom_iff]
    exact ⟨fun h => h.2, fun h => ⟨h e (by simp), h⟩⟩

theorem shared_pre (l : List Ent) (e : Ent) (he : e ∈ l) : shared l <+: e.dig := (shared_iff (shared l) l (fun h => by rw [h] at he; simp at he)).1 (List.prefix_refl _) e he

/-- The first n digits are those that all begin with, if all do and no more of them. -/
theorem shared_eq (e : Ent) (l : List Ent) (n : Nat) (h1 : ∀ x ∈ e :: l, n ≤ x.dig.length ∧ x.dig.take n = e.dig.take n) (x : Ent) (hx : x ∈ e :: l) (h2 : x.dig.length ≤ n ∨ x.dig[n]? ≠ e.dig[n]?) : shared (e :: l) = e.dig.take n := by
  have hp : e.dig.take n <+: shared (e :: l) := (shared_iff _ _ (by simp)).2 (fun y hy => by rw [← (h1 y hy).2]; exact List.take_prefix _ _)
  have h0 := h1 e (by simp)
  have hle : (shared (e :: l)).length ≤ n := by
    rcases Nat.lt_or_ge n (shared (e :: l)).length with hlt | hge
    · exfalso
      have ha := shared_pre (e :: l) x hx
      have hb := shared_pre (e :: l) e (by simp)
      obtain ⟨ra, ha⟩ := ha
      obtain ⟨rb, hb⟩ := hb
      rcases h2 with h2 | h2
      · have := congrArg List.length ha
        rw [List.length_append] at this
        omega
      · apply h2
        rw [← ha, ← hb, List.getElem?_append_left hlt, List.getElem?_append_left hlt]
    · exact hge
  have hlen : (e.dig.take n).length = n := by rw [List.length_take]; omega
  exact (List.IsPrefix.eq_of_length_le hp (by omega)).symm

theorem pack_even (l : List UInt8) : ∀ k, l.length = 2 * k → (pack l).length = k := by
  intro k
  induction k generalizing l with
  | zero => intro h; have : l = [] := by simpa using h
            subst this; rfl
  | succ k ih =>
    intro h
    match l, h with
    | a :: b :: r, h => rw [pack]; simp only [List.length_cons]; rw [ih r (by simp at h; omega)]

theorem pack_two (a b : UInt8) (r : List UInt8) : pack (a :: b :: r) = UInt8.ofNat (16 * a.toNat + b.toNat) :: pack r := by rw [pack]

theorem pack_snoc (l : List UInt8) (a b : UInt8) : ∀ k, l.length = 2 * k → pack (l ++ [a, b]) = pack l ++ [UInt8.ofNat (16 * a.toNat + b.toNat)] := by
  intro k
  induction k generalizing l with
  | zero => intro h; have : l = [] := by simpa using h
            subst this; rfl
  | succ k ih =>
    intro h
    match l, h with
    | c :: d :: r, h => rw [List.cons_append, List.cons_append, pack_two, pack_two, ih r (by simp at h; omega), List.cons_append]

theorem pack_le (l : List UInt8) : 2 * (pack l).length ≤ l.length := by
  fun_induction pack l with
  | case1 a b r ih => simp only [List.length_cons]; omega
  | case2 => simp

theorem path_len (l : List UInt8) (leaf : Bool) : (path l leaf).length ≤ l.length / 2 + 1 := by
  unfold path
  split
  · have := pack_le (l.drop 1)
    rw [List.length_drop] at this
    simp only [List.length_cons]; omega
  · have := pack_le l
    simp only [List.length_cons]; omega

theorem behind_mem {s : List UInt8} {l : List Ent} {x : Ent} (h : x ∈ behind s l) : ∃ e ∈ l, e.dig = s ++ x.dig ∧ e.val = x.val := by
  unfold behind at h
  rw [List.mem_filterMap] at h
  obtain ⟨e, he, h⟩ := h
  split at h
  · rename_i hp
    rw [List.isPrefixOf_iff_prefix] at hp
    obtain ⟨r, hr⟩ := hp
    cases h
    exact ⟨e, he, by rw [← hr]; simp, rfl⟩
  · cases h

theorem behind_nil (s : List UInt8) : behind s [] = [] := rfl
theorem behind_hit {s : List UInt8} {e : Ent} {l : List Ent} (h : s <+: e.dig) : behind s (e :: l) = ⟨e.dig.drop s.length, e.val⟩ :: behind s l := by
  unfold behind
  rw [List.filterMap_cons, if_pos (List.isPrefixOf_iff_prefix.2 h)]
theorem behind_miss {s : List UInt8} {e : Ent} {l : List Ent} (h : ¬ s <+: e.dig) : behind s (e :: l) = behind s l := by
  unfold behind
  rw [List.filterMap_cons, if_neg (by rw [List.isPrefixOf_iff_prefix]; exact h)]
theorem behind_append (s : List UInt8) (a b : List Ent) : behind s (a ++ b) = behind s a ++ behind s b := by unfold behind; rw [List.filterMap_append]
theorem behind_all {s : List UInt8} {l : List Ent} (h : ∀ e ∈ l, s <+: e.dig) : behind s l = l.map fun e => ⟨e.dig.drop s.length, e.val⟩ := by
  induction l with
  | nil => rfl
  | cons e l ih => rw [behind_hit (h e (by simp)), ih (fun x hx => h x (by simp [hx])), List.map_cons]

/-- Entries of at most so many digits, each below 16, with values that may be. -/
def Fits (f : Nat) (l : List Ent) : Prop := ∀ e ∈ l, e.dig.length < f ∧ (∀ c ∈ e.dig, c.toNat < 16) ∧ e.val.length ≤ 40

theorem Fits.behind {f : Nat} {l : List Ent} {s : List UInt8} (h : Fits (f + 1) l) (hs : s ≠ []) : Fits f (behind s l) := by
  intro x hx
  obtain ⟨e, he, h1, h2⟩ := behind_mem hx
  obtain ⟨a1, a2, a3⟩ := h e he
  rw [h1] at a1 a2
  rw [List.length_append] at a1
  have : 0 < s.length := List.length_pos_iff.2 hs
  exact ⟨by omega, fun c hc => a2 c (by simp [hc]), by rw [← h2]; exact a3⟩

theorem encB_len (s : List UInt8) (h : s.length ≤ 55) : (Itm.encB s).length ≤ s.length + 1 := by
  unfold Itm.encB
  split
  · omega
  · unfold Itm.headed Itm.head
    rw [if_pos h]
    simp

theorem enc_itB (s : List UInt8) : Itm.enc (itB s) = Itm.encB s := by rw [Itm.enc_eq]; rfl
theorem enc_itL (l : List Itm) : Itm.enc (itL l) = Itm.headed 192 (l.flatMap Itm.enc) := by rw [Itm.enc_eq]; rfl

theorem headed_short (b : Nat) (s : List UInt8) (h : s.length < 65536) : (Itm.headed b s).length ≤ s.length + 3 := by
  unfold Itm.headed Itm.head
  split
  · simp
  · have := Itm.be_len_le s.length 2 h (by decide)
    simp; omega

theorem ref_len (t : Itm) : (Itm.enc (ref t)).length ≤ 9 := by
  unfold ref
  split
  · omega
  · rw [enc_itB]
    have := encB_len (sum (Itm.enc t)) (by rw [sum_len]; decide)
    rw [sum_len] at this
    exact this

theorem flatMap_len (l : List Itm) (n : Nat) (h : ∀ x ∈ l, (Itm.enc x).length ≤ n) : (l.flatMap Itm.enc).length ≤ n * l.length := by
  induction l with
  | nil => simp
  | cons x l ih =>
    have h1 := h x (by simp)
    have h2 := ih (fun y hy => h y (by simp [hy]))
    simp only [List.flatMap_cons, List.length_append, List.length_cons]
    rw [Nat.mul_succ]
    omega

theorem valOf_le (l : List Ent) (n : Nat) (h : ∀ e ∈ l, e.val.length ≤ n) : (valOf l).length ≤ n := by
  unfold valOf
  have : ∀ (l : List Ent) (v : List UInt8), v.length ≤ n → (∀ e ∈ l, e.val.length ≤ n) → (l.foldl (fun v e => if e.dig = [] then e.val else v) v).length ≤ n := by
    intro l
    induction l with
    | nil => intro v hv _; exact hv
    | cons e l ih =>
      intro v hv hl
      rw [List.foldl_cons]
      refine ih _ ?_ (fun x hx => hl x (by simp [hx]))
      split
      · exact hl e (by simp)
      · exact hv
  exact this l [] (by simp) h

theorem node_len (f : Nat) (l : List Ent) (hf : f ≤ 100) (h : Fits f l) : (Itm.enc (node f l)).length ≤ 300 := by
  cases f with
  | zero => rw [node]; unfold zero; rw [Itm.enc_eq]; decide
  | succ f =>
    rw [node]
    unfold nodeOf
    match l, h with
    | [], _ => rw [enc_itB]; decide
    | [e], h =>
      obtain ⟨a1, _, a3⟩ := h e (by simp)
      dsimp only
      rw [enc_itL]
      have h1 := path_len e.dig true
      have h2 := encB_len (path e.dig true) (by omega)
      have h3 := encB_len e.val (by omega)
      have h4 := headed_short 192 ([itB (path e.dig true), itB e.val].flatMap Itm.enc) (by simp only [List.flatMap_cons, List.flatMap_nil, enc_itB, List.length_append, List.length_nil]; omega)
      simp only [List.flatMap_cons, List.flatMap_nil, enc_itB, List.length_append, List.length_nil] at h4 ⊢
      omega
    | e :: e2 :: r, h =>
      dsimp only
      split
      · rw [enc_itL]
        have h1 := valOf_le (e :: e2 :: r) 40 (fun x hx => (h x hx).2.2)
        have h2 := encB_len (valOf (e :: e2 :: r)) (by omega)
        have h3 := flatMap_len ((List.range 16).map (fun d => ref (node f (behind [UInt8.ofNat d] (e :: e2 :: r))))) 9 (fun x hx => by rw [List.mem_map] at hx; obtain ⟨d, _, rfl⟩ := hx; exact ref_len _)
        rw [List.length_map, List.length_range] at h3
        have h4 := headed_short 192 (((List.range 16).map (fun d => ref (node f (behind [UInt8.ofNat d] (e :: e2 :: r)))) ++ [itB (valOf (e :: e2 :: r))]).flatMap Itm.enc) (by rw [List.flatMap_append, List.length_append]; simp only [List.flatMap_cons, List.flatMap_nil, enc_itB, List.length_append, List.length_nil]; omega)
        rw [List.flatMap_append, List.length_append] at h4
        rw [List.flatMap_append]
        simp only [List.flatMap_cons, List.flatMap_nil, enc_itB, List.length_append, List.length_nil] at h4 ⊢
        omega
      · rw [enc_itL]
        have h0 : (shared (e :: e2 :: r)).length ≤ e.dig.length := (shared_pre _ e (by simp)).length_le
        obtain ⟨a1, _, _⟩ := h e (by simp)
        have h1 := path_len (shared (e :: e2 :: r)) false
        have h2 := encB_len (path (shared (e :: e2 :: r)) false) (by omega)
        have h3 := ref_len (node f (behind (shared (e :: e2 :: r)) (e :: e2 :: r)))
        have h4 := headed_short 192 ([itB (path (shared (e :: e2 :: r)) false), ref (node f (behind (shared (e :: e2 :: r)) (e :: e2 :: r)))].flatMap Itm.enc) (by simp only [List.flatMap_cons, List.flatMap_nil, enc_itB, List.length_append, List.length_nil]; omega)
        simp only [List.flatMap_cons, List.flatMap_nil, enc_itB, List.length_append, List.length_nil] at h4 ⊢
        omega

theorem deep_le (t : Itm) : Itm.deep t ≤ (Itm.enc t).length := by
  refine Itm.ind (p := fun t => Itm.deep t ≤ (Itm.enc t).length) ?_ t
  intro t ih
  rw [Itm.deep_eq, Itm.enc_eq]
  split
  · have h1 := Itm.headed_len 192 (t.items.flatMap Itm.enc)
    have h2 : Itm.top (t.items.map Itm.deep) ≤ (t.items.flatMap Itm.enc).length := by
      apply Itm.top_le
      intro x hx
      rw [List.mem_map] at hx
      obtain ⟨y, hy, rfl⟩ := hx
      refine Nat.le_trans (ih y hy) ?_
      have : ∀ l : List Itm, y ∈ l → (Itm.enc y).length ≤ (l.flatMap Itm.enc).length := by
        intro l
        induction l with
        | nil => intro h; simp at h
        | cons z l ihl =>
          intro h
          simp only [List.flatMap_cons, List.length_append]
          rcases List.mem_cons.1 h with rfl | h
          · omega
          · have := ihl h; omega
      exact this _ hy
    omega
  · omega

theorem ref_deep (t : Itm) : Itm.deep (ref t) ≤ 7 := by
  unfold ref
  split
  · have := deep_le t; omega
  · rw [Itm.deep_eq]; simp [itB]

theorem itB_deep (s : List UInt8) : Itm.deep (itB s) = 0 := by rw [Itm.deep_eq]; simp [itB]

theorem node_deep (f : Nat) (l : List Ent) : Itm.deep (node f l) ≤ 8 := by
  cases f with
  | zero => rw [node, Itm.deep_eq]; simp [zero]
  | succ f =>
    rw [node]
    have hl : ∀ l : List Itm, (∀ x ∈ l, Itm.deep x ≤ 7) → Itm.deep (itL l) ≤ 8 := by
      intro l h
      rw [Itm.deep_eq]
      have : Itm.top (l.map Itm.deep) ≤ 7 := Itm.top_le (fun x hx => by rw [List.mem_map] at hx; obtain ⟨y, hy, rfl⟩ := hx; exact h y hy)
      simp only [itL, if_true]
      omega
    unfold nodeOf
    split
    · rw [itB_deep]; omega
    · apply hl; intro x hx
      simp only [List.mem_cons, List.not_mem_nil, or_false] at hx
      rcases hx with rfl | rfl <;> (rw [itB_deep]; omega)
    · split
      · apply hl; intro x hx
        rw [List.mem_append, List.mem_map] at hx
        rcases hx with ⟨d, _, rfl⟩ | hx
        · exact ref_deep _
        · simp only [List.mem_cons, List.not_mem_nil, or_false] at hx; subst hx; rw [itB_deep]; omega
      · apply hl; intro x hx
        simp only [List.mem_cons, List.not_mem_nil, or_false] at hx
        rcases hx with rfl | rfl
        · rw [itB_deep]; omega
        · exact ref_deep _

theorem itB_pure (s : List UInt8) : Itm.pure (itB s) = true := by rw [Itm.pure_eq]; simp [itB]
theorem itL_pure (l : List Itm) (h : ∀ x ∈ l, Itm.pure x = true) : Itm.pure (itL l) = true := by
  rw [Itm.pure_eq]; simp only [itL, if_true, List.isEmpty_nil, Bool.true_and, List.all_eq_true]; exact h
theorem ref_pure {t : Itm} (h : Itm.pure t = true) : Itm.pure (ref t) = true := by
  unfold ref; split
  · exact h
  · exact itB_pure _

theorem node_pure (f : Nat) (l : List Ent) : Itm.pure (node f l) = true := by
  induction f generalizing l with
  | zero => rw [node, Itm.pure_eq]; simp [zero]
  | succ f ih =>
    rw [node]
    unfold nodeOf
    split
    · exact itB_pure _
    · apply itL_pure; intro x hx
      simp only [List.mem_cons, List.not_mem_nil, or_false] at hx
      rcases hx with rfl | rfl <;> exact itB_pure _
    · split
      · apply itL_pure; intro x hx
        rw [List.mem_append, List.mem_map] at hx
        rcases hx with ⟨d, _, rfl⟩ | hx
        · exact ref_pure (ih _)
        · simp only [List.mem_cons, List.not_mem_nil, or_false] at hx; subst hx; exact itB_pure _
      · apply itL_pure; intro x hx
        simp only [List.mem_cons, List.not_mem_nil, or_false] at hx
        rcases hx with rfl | rfl
        · exact itB_pure _
        · exact ref_pure (ih _)

theorem table_fits (ps : List (List UInt8 × List UInt8)) (hk : ∀ p ∈ ps, p.1.length ≤ 6) (hv : ∀ p ∈ ps, p.2.length ≤ 40) : Fits 13 (table ps) := by
  induction ps with
  | nil => intro e he; simp [table] at he
  | cons p r ih =>
    have ih' := ih (fun q hq => hk q (by simp [hq])) (fun q hq => hv q (by simp [hq]))
    rw [table]
    split
    · exact ih'
    · intro e he
      rcases List.mem_cons.1 he with rfl | he
      · refine ⟨?_, digits_lt _, hv p (by simp)⟩
        dsimp only
        rw [digits_len]
        have := hk p (by simp)
        omega
      · exact ih' e he

end Tr
end Go.Proofs.Ytbmohenjphmlgaa

/- The walk of 'first': the item that bytes begin with, as 'parse' says, in lists of its own. -/
namespace Go.Proofs.Ytbmohenjphmlgaa
open Go.RowKit
set_option maxRecDepth 100000

theorem bcell {W w1 : World} (hb : Below W.heap.size W w1) : (∀ b o, b < W.heap.size → w1.cell? ⟨b, o, none⟩ = W.cell? ⟨b, o, none⟩) ∧ (∀ b o, b < W.heap.size → w1.frozen? ⟨b, o, none⟩ = W.frozen? ⟨b, o, none⟩) :=
  ⟨fun b o h => hb.cell (p := ⟨b, o, none⟩) h, fun b o h => hb.frozen (p := ⟨b, o, none⟩) h⟩

theorem below_undrew {B : Nat} {w w1 : World} (h : Below B w.drew w1) : Below B w w1 := ⟨h.os, h.tape, h.output, h.size, h.block⟩

theorem below_undrewN {B : Nat} (n : Nat) {w w1 : World} (h : Below B (w.drewN n) w1) : Below B w w1 := ⟨h.os, h.tape, h.output, h.size, h.block⟩

theorem drewN_below (w : World) (n : Nat) : Below w.heap.size w (w.drewN n) := ⟨rfl, rfl, rfl, Nat.le_refl _, fun _ _ => rfl⟩

theorem set3 {w1 : World} {g : Nat} {x0 x1 x2 : Value} {e : TypeId} {fz : Nat × Nat} (h : w1.heap[g]? = some (.cells #[x0, x1, x2] e fz)) (a b c : Value) :
    (((w1.setCell ⟨g, 0, none⟩ a).setCell ⟨g, 1, none⟩ b).setCell ⟨g, 2, none⟩ c).cell? ⟨g, 0, none⟩ = some a ∧
    (((w1.setCell ⟨g, 0, none⟩ a).setCell ⟨g, 1, none⟩ b).setCell ⟨g, 2, none⟩ c).cell? ⟨g, 1, none⟩ = some b ∧
    (((w1.setCell ⟨g, 0, none⟩ a).setCell ⟨g, 1, none⟩ b).setCell ⟨g, 2, none⟩ c).cell? ⟨g, 2, none⟩ = some c := by
  simp [World.setCell, World.cell?, Array.getElem?_modify, h]

theorem old_block {w w1 : World} {O : Obj} (hb : Below (w.alloc O).heap.size (w.alloc O) w1) : w1.heap[w.heap.size]? = some O := by
  rw [hb.block _ (by simp)]; exact heap_alloc_new w O

theorem box_below {w w1 : World} {O : Obj} (hb : Below (w.alloc O).heap.size (w.alloc O) w1) (a b c : Value) :
    Below w.heap.size w (((w1.setCell ⟨w.heap.size, 0, none⟩ a).setCell ⟨w.heap.size, 1, none⟩ b).setCell ⟨w.heap.size, 2, none⟩ c) := by
  have h1 : Below w.heap.size w w1 := ((Below.refl w.heap.size w).alloc (Nat.le_refl _) O).trans (hb.mono (by simp))
  exact ((h1.setCell (p := ⟨w.heap.size, 0, none⟩) (Nat.le_refl _) a).setCell (p := ⟨w.heap.size, 1, none⟩) (Nat.le_refl _) b).setCell (p := ⟨w.heap.size, 2, none⟩) (Nat.le_refl _) c

theorem setCell_block (w : World) (a : Addr) (u : Value) (k : Nat) (h : k ≠ a.block) : (w.setCell a u).heap[k]? = w.heap[k]? := Below.heap_setCell w a u k h

theorem box_other {w1 : World} {g k : Nat} (h : k ≠ g) (a b c : Value) :
    (((w1.setCell ⟨g, 0, none⟩ a).setCell ⟨g, 1, none⟩ b).setCell ⟨g, 2, none⟩ c).heap[k]? = w1.heap[k]? := by
  rw [setCell_block _ _ _ _ h, setCell_block _ _ _ _ h, setCell_block _ _ _ _ h]

theorem box_size (w1 : World) (g : Nat) (a b c : Value) :
    (((w1.setCell ⟨g, 0, none⟩ a).setCell ⟨g, 1, none⟩ b).setCell ⟨g, 2, none⟩ c).heap.size = w1.heap.size := by simp [World.setCell]

/-- An item of bytes alone, wherever. -/
theorem ow_bytes (w : World) (n lo hi : Nat) (b : ByteArray) (l : List UInt8) (h : b.data.toList = l) : Ow w (n + 1) lo hi (.agg #[.bool false, .string b, .slice none 0 0]) ⟨false, l, []⟩ :=
  ⟨.slice none 0 0, by rw [str_eq h], ownL_nil _ _ _ _ _⟩

/-- A list, once its items are owned. -/
theorem ow_list {w1 : World} {n lo hi : Nat} {sl : Value} {l : List Itm} (h : OwL w1 n lo hi sl l) : Ow w1 (n + 1) lo hi (.agg #[.bool true, .string ⟨#[]⟩, sl]) ⟨true, [], l⟩ := ⟨sl, rfl, h⟩

theorem ow_box {w1 : World} {g n hi : Nat} {v : Value} {t : Itm} (a b c : Value) (h : Ow w1 n (g + 1) hi v t) :
    Ow (((w1.setCell ⟨g, 0, none⟩ a).setCell ⟨g, 1, none⟩ b).setCell ⟨g, 2, none⟩ c) n (g + 1) hi v t :=
  own_frame n _ _ _ _ (fun k h1 _ => box_other (by omega) a b c) h

section
variable (f : Nat) (s : ByteArray) (w : World)

set_option maxHeartbeats 400000 in
theorem first_empty (hb : s.toList.isEmpty = true) :
    Calls Try.prog 67 #[.string s] w fun e w' => (∃ b r, e = .returned (.tuple #[.agg #[.bool b, .string ⟨#[]⟩, .slice none 0 0], .string r, .bool false])) ∧ Below w.heap.size w w' := by
  go_enter Try.func67, Try.ntmps67
  go_wp2_with fail
  exact bodyPost_ret (v := .tuple #[.agg #[.bool false, .string ⟨#[]⟩, .slice none 0 0], .string ⟨#[]⟩, .bool false]) (by simp [results, Try.results67, go_sem]) rfl ⟨⟨_, _, rfl⟩, (Below.refl _ _).alloc (Nat.le_refl _) _⟩

set_option maxHeartbeats 400000 in
theorem first_byte (h2 : s.size ≤ 1000000) (hb : s.toList.isEmpty = false) (h1 : 0 < s.size) (hlt : s[0].toNat < 128) :
    Calls Try.prog 67 #[.string s] w fun e w' => ∃ v, e = .returned (.tuple #[v, .string ⟨(s.data.toList.drop 1).toArray⟩, .bool true]) ∧ Ow w' (f + 1) w.heap.size w'.heap.size v ⟨false, s.data.toList.take 1, []⟩ ∧ Below w.heap.size w w' := by
  have hlt' : (s[0].toNat : Int) < 128 := by omega
  go_enter Try.func67, Try.ntmps67
  go_wp2_with fail
  go_region_with (go_at_call 90; refine (clone_any _ _ (by simp; omega)).mono ?_; rintro e w1 ⟨rfl, hbel⟩; obtain ⟨hc, hf⟩ := bcell hbel)
  all_goals go_wp2_with fail
  all_goals
    have hbel' := below_undrew hbel
    obtain ⟨c0, c1, c2⟩ := set3 (old_block hbel') (.bool false) (.string (s.extract 0 1)) (.slice none 0 0)
    exact bodyPost_ret (v := .tuple #[.agg #[.bool false, .string (s.extract 0 1), .slice none 0 0], .string (s.extract 1 s.size), .bool true]) (by simp [results, Try.results67, go_sem, Act.put, c0, c1, c2]) rfl ⟨_, ret3 rfl (str_eq (Lib.extract_to_end _ _)) rfl, ow_bytes _ _ _ _ _ _ (by rw [Lib.extract_data]; simp), box_below hbel' _ _ _⟩

set_option maxHeartbeats 400000 in
theorem first_bytes_no (h2 : s.size ≤ 1000000) (hb : s.toList.isEmpty = false) (h1 : 0 < s.size) (hge : 128 ≤ s[0].toNat) (hlt : s[0].toNat < 192) (hcut : Itm.cutP 128 s.data.toList = none) :
    Calls Try.prog 67 #[.string s] w fun e w' => (∃ b r, e = .returned (.tuple #[.agg #[.bool b, .string ⟨#[]⟩, .slice none 0 0], .string r, .bool false])) ∧ Below w.heap.size w w' := by
  have hc : ∀ w, Calls Try.prog 91 #[.string s, .int .u8 128] w fun e w' => e = .returned (.tuple #[.string ⟨#[]⟩, .string ⟨#[]⟩, .bool false]) ∧ ∃ nq, w' = w.drewN nq := fun w => cut_no s 128 w (by unfold maxLen; omega) h1 hge (by omega) hcut
  have HC := hid hc
  clear hc hcut
  have hge' : (128 : Int) ≤ (s[0].toNat : Int) := by omega
  have hlt' : (s[0].toNat : Int) < 192 := by omega
  go_enter Try.func67, Try.ntmps67
  go_wp2_with fail
  refine (HC.out _).mono ?_
  rintro e w1 ⟨rfl, nq, rfl⟩
  go_wp2_with fail
  exact bodyPost_ret (v := .tuple #[.agg #[.bool false, .string ⟨#[]⟩, .slice none 0 0], .string ⟨#[]⟩, .bool false]) (by simp [results, Try.results67, go_sem]) rfl ⟨⟨_, _, rfl⟩, box_below (drewN_below _ _) _ _ _⟩

set_option maxHeartbeats 400000 in
theorem first_bytes_stands (h2 : s.size ≤ 1000000) (hb : s.toList.isEmpty = false) (h1 : 0 < s.size) (hge : 128 ≤ s[0].toNat) (hlt : s[0].toNat < 192) (body rest : List UInt8) (hcut : Itm.cutP 128 s.data.toList = some (body, rest)) (hst : Itm.stands body = true) :
    Calls Try.prog 67 #[.string s] w fun e w' => (∃ b r, e = .returned (.tuple #[.agg #[.bool b, .string ⟨#[]⟩, .slice none 0 0], .string r, .bool false])) ∧ Below w.heap.size w w' := by
  have hc : ∀ w, Calls Try.prog 91 #[.string s, .int .u8 128] w fun e w' => e = .returned (.tuple #[.string ⟨body.toArray⟩, .string ⟨rest.toArray⟩, .bool true]) ∧ ∃ nq, w' = w.drewN nq := fun w => cut_yes s 128 w (by unfold maxLen; omega) h1 hge (by omega) body rest hcut
  have hs2 : ∀ w, Calls Try.prog 92 #[.string ⟨body.toArray⟩] w fun e w' => e = .returned (.bool true) ∧ w' = w := fun w => by
    have := stands_any ⟨body.toArray⟩ w
    rw [show Itm.stands ((⟨body.toArray⟩ : ByteArray).data.toList) = true from hst] at this
    exact this
  have HC := hid hc
  have HS := hid hs2
  clear hc hcut hs2 hst
  have hge' : (128 : Int) ≤ (s[0].toNat : Int) := by omega
  have hlt' : (s[0].toNat : Int) < 192 := by omega
  go_enter Try.func67, Try.ntmps67
  go_wp2_with fail
  refine (HC.out _).mono ?_
  rintro e w1 ⟨rfl, nq, rfl⟩
  go_wp2_with fail
  refine (HS.out _).mono ?_
  rintro e w1 ⟨rfl, rfl⟩
  go_wp2_with fail
  exact bodyPost_ret (v := .tuple #[.agg #[.bool false, .string ⟨#[]⟩, .slice none 0 0], .string ⟨#[]⟩, .bool false]) (by simp [results, Try.results67, go_sem]) rfl ⟨⟨_, _, rfl⟩, box_below (drewN_below _ _) _ _ _⟩

set_option maxHeartbeats 400000 in
theorem first_bytes_yes (h2 : s.size ≤ 1000000) (hb : s.toList.isEmpty = false) (h1 : 0 < s.size) (hge : 128 ≤ s[0].toNat) (hlt : s[0].toNat < 192) (body rest : List UInt8) (hcut : Itm.cutP 128 s.data.toList = some (body, rest)) (hst : Itm.stands body = false) :
    Calls Try.prog 67 #[.string s] w fun e w' => ∃ v, e = .returned (.tuple #[v, .string ⟨rest.toArray⟩, .bool true]) ∧ Ow w' (f + 1) w.heap.size w'.heap.size v ⟨false, body, []⟩ ∧ Below w.heap.size w w' := by
  have hlen : body.length ≤ 1000000 := by
    have := (Itm.cutP_sound (by intro h; rw [h] at hcut; simp [← ba_len, h] at h1) (by rw [ba_getD s h1]; exact hge) hcut).2.1
    rw [ba_len] at this
    omega
  have hc : ∀ w, Calls Try.prog 91 #[.string s, .int .u8 128] w fun e w' => e = .returned (.tuple #[.string ⟨body.toArray⟩, .string ⟨rest.toArray⟩, .bool true]) ∧ ∃ nq, w' = w.drewN nq := fun w => cut_yes s 128 w (by unfold maxLen; omega) h1 hge (by omega) body rest hcut
  have hs2 : ∀ w, Calls Try.prog 92 #[.string ⟨body.toArray⟩] w fun e w' => e = .returned (.bool false) ∧ w' = w := fun w => by
    have := stands_any ⟨body.toArray⟩ w
    rw [show Itm.stands ((⟨body.toArray⟩ : ByteArray).data.toList) = false from hst] at this
    exact this
  have hcl : ∀ w, Calls Try.prog 90 #[.string ⟨body.toArray⟩] w fun e w' => e = .returned (.string ⟨body.toArray⟩) ∧ Below w.heap.size w w' := fun w => clone_any ⟨body.toArray⟩ w (by show body.toArray.size ≤ _; simp; omega)
  have HC := hid hc
  have HS := hid hs2
  have HD := hid hcl
  clear hc hcut hs2 hst hcl
  have hge' : (128 : Int) ≤ (s[0].toNat : Int) := by omega
  have hlt' : (s[0].toNat : Int) < 192 := by omega
  go_enter Try.func67, Try.ntmps67
  go_wp2_with fail
  refine (HC.out _).mono ?_
  rintro e w1 ⟨rfl, nq, rfl⟩
  go_wp2_with fail
  refine (HS.out _).mono ?_
  rintro e w1 ⟨rfl, rfl⟩
  go_wp2_with fail
  refine (HD.out _).mono ?_
  rintro e w1 ⟨rfl, hbel⟩
  obtain ⟨hcc, hff⟩ := bcell hbel
  go_wp2_with fail
  have hbel' := below_undrewN _ hbel
  obtain ⟨c0, c1, c2⟩ := set3 (old_block hbel') (.bool false) (.string ⟨body.toArray⟩) (.slice none 0 0)
  exact bodyPost_ret (v := .tuple #[.agg #[.bool false, .string ⟨body.toArray⟩, .slice none 0 0], .string ⟨rest.toArray⟩, .bool true]) (by simp [results, Try.results67, go_sem, c0, c1, c2]) rfl ⟨_, rfl, ow_bytes _ _ _ _ _ _ (by simp), box_below hbel' _ _ _⟩

set_option maxHeartbeats 400000 in
theorem first_list_cut (h2 : s.size ≤ 1000000) (hb : s.toList.isEmpty = false) (h1 : 0 < s.size) (hge : 192 ≤ s[0].toNat) (hcut : Itm.cutP 192 s.data.toList = none) :
    Calls Try.prog 67 #[.string s] w fun e w' => (∃ b r, e = .returned (.tuple #[.agg #[.bool b, .string ⟨#[]⟩, .slice none 0 0], .string r, .bool false])) ∧ Below w.heap.size w w' := by
  have h8 := s[0].toNat_lt
  have hc : ∀ w, Calls Try.prog 91 #[.string s, .int .u8 192] w fun e w' => e = .returned (.tuple #[.string ⟨#[]⟩, .string ⟨#[]⟩, .bool false]) ∧ ∃ nq, w' = w.drewN nq := fun w => cut_no s 192 w (by unfold maxLen; omega) h1 hge (by omega) hcut
  have HC := hid hc
  clear hc hcut
  have hge' : (192 : Int) ≤ (s[0].toNat : Int) := by omega
  go_enter Try.func67, Try.ntmps67
  go_wp2_with fail
  refine (HC.out _).mono ?_
  rintro e w1 ⟨rfl, nq, rfl⟩
  go_wp2_with fail
  exact bodyPost_ret (v := .tuple #[.agg #[.bool false, .string ⟨#[]⟩, .slice none 0 0], .string ⟨#[]⟩, .bool false]) (by simp [results, Try.results67, go_sem]) rfl ⟨⟨_, _, rfl⟩, box_below (drewN_below _ _) _ _ _⟩

set_option maxHeartbeats 400000 in
theorem first_list (hF : FirstOk f) (hf : s.size ≤ f + 1) (h2 : s.size ≤ 1000000) (hb : s.toList.isEmpty = false) (h1 : 0 < s.size) (hge : 192 ≤ s[0].toNat) (body rest : List UInt8) (hcut : Itm.cutP 192 s.data.toList = some (body, rest)) :
    (∀ l, Itm.loopP (Itm.parse f) body.length body = some l → Calls Try.prog 67 #[.string s] w fun e w' => ∃ v, e = .returned (.tuple #[v, .string ⟨rest.toArray⟩, .bool true]) ∧ Ow w' (f + 1) w.heap.size w'.heap.size v ⟨true, [], l⟩ ∧ Below w.heap.size w w') ∧
    (Itm.loopP (Itm.parse f) body.length body = none → Calls Try.prog 67 #[.string s] w fun e w' => (∃ b r, e = .returned (.tuple #[.agg #[.bool b, .string ⟨#[]⟩, .slice none 0 0], .string r, .bool false])) ∧ Below w.heap.size w w') := by
  have h8 := s[0].toNat_lt
  have hlen : body.length < s.size := by
    have := (Itm.cutP_sound (by intro h; rw [h] at hcut; simp [← ba_len, h] at h1) (by rw [ba_getD s h1]; exact hge) hcut).2.1
    rw [ba_len] at this
    omega
  have hc : ∀ w, Calls Try.prog 91 #[.string s, .int .u8 192] w fun e w' => e = .returned (.tuple #[.string ⟨body.toArray⟩, .string ⟨rest.toArray⟩, .bool true]) ∧ ∃ nq, w' = w.drewN nq := fun w => cut_yes s 192 w (by unfold maxLen; omega) h1 hge (by omega) body rest hcut
  have ha := fun w o => all_any f hF ⟨body.toArray⟩ w o (by show body.toArray.size ≤ _; simp; omega) (by show body.toArray.size ≤ _; simp; omega)
  have hbs : (⟨body.toArray⟩ : ByteArray).size = body.length := by show body.toArray.size = _; simp
  rw [hbs] at ha
  have HC := hid hc
  have HA := hid ha
  have hge' : (192 : Int) ≤ (s[0].toNat : Int) := by omega
  clear hc hcut ha hbs
  constructor
  · intro l hl
    have HL := hid hl
    clear hl
    go_enter Try.func67, Try.ntmps67
    go_wp2_with fail
    refine (HC.out _).mono ?_
    rintro e w1 ⟨rfl, nq, rfl⟩
    go_wp2_with fail
    refine (HA.out _ (some l) HL.out.symm).mono ?_
    rintro e w1 ⟨hyes, _, hbel⟩
    obtain ⟨sl, rfl, hown⟩ := hyes l rfl
    obtain ⟨a2, cap2, rfl⟩ := ownL_len hown
    have HO := hid hown
    clear hyes hown
    obtain ⟨hcc, hff⟩ := bcell hbel
    go_wp2_with fail
    have hbel' := below_undrewN _ hbel
    obtain ⟨c0, c1, c2⟩ := set3 (old_block hbel') (.bool true) (.string ⟨#[]⟩) (.slice a2 l.length cap2)
    refine bodyPost_ret (v := .tuple #[.agg #[.bool true, .string ⟨#[]⟩, .slice a2 l.length cap2], .string ⟨rest.toArray⟩, .bool true]) (by simp [results, Try.results67, go_sem, c0, c1, c2]) rfl ⟨_, rfl, ?_, box_below hbel' _ _ _⟩
    rw [box_size]
    refine own_widen (ow_box _ _ _ (ow_list (lo := w.heap.size + 1) ?_)) (Nat.le_succ _) (Nat.le_refl _)
    have := HO.out
    simpa using this
  · intro hn
    have HL := hid hn
    clear hn
    go_enter Try.func67, Try.ntmps67
    go_wp2_with fail
    refine (HC.out _).mono ?_
    rintro e w1 ⟨rfl, nq, rfl⟩
    go_wp2_with fail
    refine (HA.out _ none HL.out.symm).mono ?_
    rintro e w1 ⟨_, hno, hbel⟩
    obtain rfl := hno rfl
    obtain ⟨hcc, hff⟩ := bcell hbel
    go_wp2_with fail
    have hbel' := below_undrewN _ hbel
    obtain ⟨c0, c1, c2⟩ := set3 (old_block hbel') (.bool true) (.string ⟨#[]⟩) (.slice none 0 0)
    exact bodyPost_ret (v := .tuple #[.agg #[.bool true, .string ⟨#[]⟩, .slice none 0 0], .string ⟨rest.toArray⟩, .bool false]) (by simp [results, Try.results67, go_sem, c0, c1, c2]) rfl ⟨⟨_, _, rfl⟩, box_below hbel' _ _ _⟩
end

theorem ba_empty (s : ByteArray) (h : s.size = 0) : s.data.toList = [] := List.eq_nil_of_length_eq_zero (by rw [ba_len]; exact h)

/-- 'first' does what 'parse' says, of however many bytes. -/
theorem first_ok : ∀ f, FirstOk f := by
  intro f
  induction f with
  | zero =>
    refine ⟨?_, ?_⟩
    · intro s w h0 _ _
      exact first_empty s w (by rw [toList_isEmpty, ba_empty s (by omega)]; rfl)
    · intro s w t rest _ _ hp
      rw [Itm.parse_zero] at hp; cases hp
  | succ f ih =>
    have key : ∀ (s : ByteArray) (w : World), s.size ≤ f + 1 → s.size ≤ 1000000 →
        (Itm.parse (f + 1) s.data.toList = none → Calls Try.prog 67 #[.string s] w fun e w' => (∃ b r, e = .returned (.tuple #[.agg #[.bool b, .string ⟨#[]⟩, .slice none 0 0], .string r, .bool false])) ∧ Below w.heap.size w w') ∧
        (∀ t rest, Itm.parse (f + 1) s.data.toList = some (t, rest) → Calls Try.prog 67 #[.string s] w fun e w' => ∃ v, e = .returned (.tuple #[v, .string ⟨rest.toArray⟩, .bool true]) ∧ Ow w' (f + 1) w.heap.size w'.heap.size v t ∧ Below w.heap.size w w') := by
      intro s w hf h2
      rw [Itm.parse_succ]
      unfold Itm.stepP
      by_cases h0 : s.data.toList.isEmpty
      · rw [if_pos h0]
        refine ⟨fun _ => first_empty s w (by rw [toList_isEmpty]; exact h0), ?_⟩
        intro t rest hp; cases hp
      · rw [if_neg h0]
        have hb : s.toList.isEmpty = false := by rw [toList_isEmpty]; simpa using h0
        have h1 : 0 < s.size := by
          rcases Nat.eq_zero_or_pos s.size with hz | hz
          · rw [ba_empty s hz] at h0; simp at h0
          · exact hz
        rw [ba_getD s h1]
        by_cases h3 : s[0].toNat < 128
        · rw [if_pos h3]
          refine ⟨fun hp => by (cases hp), ?_⟩
          intro t rest hp
          simp only [Option.some.injEq, Prod.mk.injEq] at hp
          obtain ⟨rfl, rfl⟩ := hp
          exact first_byte f s w h2 hb h1 h3
        · rw [if_neg h3]
          by_cases h4 : s[0].toNat < 192
          · rw [if_pos h4]
            cases hcut : Itm.cutP 128 s.data.toList with
            | none =>
              refine ⟨fun _ => first_bytes_no s w h2 hb h1 (by omega) h4 hcut, ?_⟩
              intro t rest hp; cases hp
            | some br =>
              obtain ⟨body, rest'⟩ := br
              simp only
              by_cases h5 : Itm.stands body
              · rw [if_pos h5]
                refine ⟨fun _ => first_bytes_stands s w h2 hb h1 (by omega) h4 body rest' hcut h5, ?_⟩
                intro t rest hp; cases hp
              · rw [if_neg h5]
                refine ⟨fun hp => by (cases hp), ?_⟩
                intro t rest hp
                simp only [Option.some.injEq, Prod.mk.injEq] at hp
                obtain ⟨rfl, rfl⟩ := hp
                exact first_bytes_yes f s w h2 hb h1 (by omega) h4 body rest' hcut (by simpa using h5)
          · rw [if_neg h4]
            cases hcut : Itm.cutP 192 s.data.toList with
            | none =>
              refine ⟨fun _ => first_list_cut s w h2 hb h1 (by omega) hcut, ?_⟩
              intro t rest hp; cases hp
            | some br =>
              obtain ⟨body, rest'⟩ := br
              simp only
              obtain ⟨k1, k2⟩ := first_list f s w ih hf h2 hb h1 (by omega) body rest' hcut
              cases hl : Itm.loopP (Itm.parse f) body.length body with
              | none =>
                refine ⟨fun _ => k2 hl, ?_⟩
                intro t rest hp; cases hp
              | some l =>
                refine ⟨fun hp => by (cases hp), ?_⟩
                intro t rest hp
                simp only [Option.some.injEq, Prod.mk.injEq] at hp
                obtain ⟨rfl, rfl⟩ := hp
                exact k1 l hl
    exact ⟨fun s w h1 h2 hp => (key s w h1 h2).1 hp, fun s w t rest h1 h2 hp => (key s w h1 h2).2 t rest hp⟩
end Go.Proofs.Ytbmohenjphmlgaa
