/- Part 10 of a proof: what the last text needs. -/
import Derived.Test.YtbmohenjphmlgaaGreatPart9
import Derived.Test.YtbmohenjphmlgaaGreatPart5
/- Plain mathematics of trees: the proof for a key in a table, that it is sound, and what it tells. Nothing of the program is in here. -/
namespace Go.Proofs.YtbmohenjphmlgaaGreat
set_option maxRecDepth 100000

namespace Tr

theorem digits_pack (l : List UInt8) : ∀ k, l.length = 2 * k → (∀ c ∈ l, c.toNat < 16) → digits (pack l) = l := by
  intro k
  induction k generalizing l with
  | zero => intro h _; have : l = [] := by simpa using h
            subst this; rfl
  | succ k ih =>
    intro h hd
    match l, h, hd with
    | a :: b :: r, h, hd =>
      have ha := hd a (by simp)
      have hb := hd b (by simp)
      rw [pack_two, digits_cons, ih r (by simp at h; omega) (fun c hc => hd c (by simp [hc]))]
      have e : (UInt8.ofNat (16 * a.toNat + b.toNat)).toNat = 16 * a.toNat + b.toNat := by rw [UInt8.toNat_ofNat']; omega
      rw [e, Itm.ofNat_toNat' a _ (by omega), Itm.ofNat_toNat' b _ (by omega)]

theorem unpath_path (d : List UInt8) (leaf : Bool) (hd : ∀ c ∈ d, c.toNat < 16) : unpath (itB (path d leaf)) = some (d, leaf) := by
  unfold path
  split
  · rename_i h
    match d, h, hd with
    | a :: r, h, hd =>
      have ha := hd a (by simp)
      have e : (UInt8.ofNat ((if leaf then 32 else 0) + 16 + ((a :: r).getD 0 0).toNat)).toNat = (if leaf then 32 else 0) + 16 + a.toNat := by
        rw [UInt8.toNat_ofNat']
        show ((if leaf then 32 else 0) + 16 + a.toNat) % 256 = _
        cases leaf <;> simp <;> omega
      have hp := digits_pack r ((r.length) / 2) (by simp at h; omega) (fun c hc => hd c (by simp [hc]))
      unfold unpath itB
      simp only [List.getD_cons_zero] at e
      simp only [List.drop_succ_cons, List.drop_zero, List.isEmpty_cons, List.getD_cons_zero, e, hp]
      cases leaf with
      | true =>
        have h1 : ¬ (64 ≤ 32 + 16 + a.toNat) := by omega
        have h2 : (32 + 16 + a.toNat) / 16 % 2 = 1 := by omega
        have h3 : 32 ≤ 32 + 16 + a.toNat := by omega
        have h4 : (32 + 16 + a.toNat) % 16 = a.toNat := by omega
        simp only [if_true, h1, h2, h3, h4]
        simp
      | false =>
        have h1 : ¬ (64 ≤ 0 + 16 + a.toNat) := by omega
        have h2 : (0 + 16 + a.toNat) / 16 % 2 = 1 := by omega
        have h3 : ¬ 32 ≤ 0 + 16 + a.toNat := by omega
        have h4 : (0 + 16 + a.toNat) % 16 = a.toNat := by omega
        simp only [Bool.false_eq_true, if_false, h1, h2, h3, h4]
        simp
    | [], h, _ => simp at h
  · rename_i h
    have hp := digits_pack d (d.length / 2) (by omega) hd
    unfold unpath itB
    cases leaf with
    | true => simp [hp]
    | false => simp [hp]

/-- What entries have for digits. -/
def look (l : List Ent) (k : List UInt8) : List UInt8 := match l.find? (fun e => e.dig = k) with | some e => e.val | none => []

theorem apart_eq {a b : Ent} : ∀ l : List Ent, Apart l → a ∈ l → b ∈ l → a.dig = b.dig → a = b
  | [], _, h, _, _ => by simp at h
  | x :: l, ha, h1, h2, hd => by
    have ha' := List.pairwise_cons.1 ha
    rcases List.mem_cons.1 h1 with e1 | m1
    · rcases List.mem_cons.1 h2 with e2 | m2
      · exact e1.trans e2.symm
      · exact absurd (e1 ▸ hd) (ha'.1 b m2)
    · rcases List.mem_cons.1 h2 with e2 | m2
      · exact absurd (e2 ▸ hd.symm) (ha'.1 a m1)
      · exact apart_eq l ha'.2 m1 m2 hd

theorem look_some {l : List Ent} (ha : Apart l) {e : Ent} (he : e ∈ l) : look l e.dig = e.val := by
  unfold look
  cases hf : l.find? (fun x => x.dig = e.dig) with
  | none => exact absurd (decide_eq_true rfl) (List.find?_eq_none.1 hf e he)
  | some x =>
    have hx := List.mem_of_find?_eq_some hf
    have hd : x.dig = e.dig := by have := List.find?_some hf; simpa using this
    rw [apart_eq l ha hx he hd]

theorem look_none {l : List Ent} {k : List UInt8} (h : ∀ e ∈ l, e.dig ≠ k) : look l k = [] := by
  unfold look
  rw [List.find?_eq_none.2 (fun e he => by simpa using h e he)]

theorem look_behind {l : List Ent} (ha : Apart l) (s k : List UInt8) : look (behind s l) k = look l (s ++ k) := by
  by_cases h : ∃ e ∈ l, e.dig = s ++ k
  · obtain ⟨e, he, hd⟩ := h
    have hm : (⟨k, e.val⟩ : Ent) ∈ behind s l := by
      unfold behind
      rw [List.mem_filterMap]
      refine ⟨e, he, ?_⟩
      rw [if_pos (List.isPrefixOf_iff_prefix.2 (by rw [hd]; exact List.prefix_append _ _)), hd, List.drop_left]
    rw [← hd, look_some ha he]
    exact look_some (ha.behind (s := s)) hm
  · rw [look_none (fun e he hd => h ⟨e, he, hd⟩), look_none]
    intro e he hd
    obtain ⟨x, hx, h1, _⟩ := behind_mem he
    exact h ⟨x, hx, by rw [h1, hd]⟩

theorem valOf_look {l : List Ent} (ha : Apart l) : valOf l = look l [] := by
  by_cases hx : ∃ e ∈ l, e.dig = []
  · obtain ⟨e, he, h0⟩ := hx
    rw [valOf_some ha he h0, ← h0, look_some ha he]
  · have h1 : ∀ e ∈ l, e.dig ≠ [] := fun e he h0 => hx ⟨e, he, h0⟩
    rw [valOf_none h1, look_none h1]

theorem look_table (ps : List (List UInt8 × List UInt8)) (k : List UInt8) : look (table ps) (digits k) = value ps k := by
  by_cases h : value ps k = []
  · rw [h]
    refine look_none fun e he hd => ?_
    obtain ⟨k', rfl, hk⟩ := (table_mem ps e).1 he
    rw [digits_inj hd] at hk
    exact hk h
  · exact look_some (table_apart ps) (e := ⟨digits k, value ps k⟩) ((table_mem ps _).2 ⟨k, rfl, h⟩)

/-- The elements of a proof below a node, on the way of the digits k. -/
def elems : Nat → List Ent → List UInt8 → List (List UInt8)
  | 0, _, _ => []
  | f + 1, l, k =>
    match l with
    | [] => []
    | [_] => []
    | _ => if shared l = [] then (match k with
             | [] => []
             | c :: r => (if (Itm.enc (node f (behind [c] l))).length < 8 then [] else [Itm.enc (node f (behind [c] l))]) ++ elems f (behind [c] l) r)
           else if (shared l).isPrefixOf k then Itm.enc (node f (behind (shared l) l)) :: elems f (behind (shared l) l) (k.drop (shared l).length) else []

/-- The proof for digits. -/
def proofOf (f : Nat) (l : List Ent) (k : List UInt8) : List (List UInt8) := Itm.enc (node f l) :: elems f l k

/-- Entries whose values are not empty. -/
def Full (l : List Ent) : Prop := ∀ e ∈ l, e.val ≠ []

theorem Full.behind {l : List Ent} {s : List UInt8} (h : Full l) : Full (behind s l) := fun e he => by
  obtain ⟨x, hx, _, h2⟩ := behind_mem he
  rw [← h2]; exact h x hx

/-- Several entries that begin with nothing alike. -/
def Forks (l : List Ent) : Prop := ∃ a b r, l = a :: b :: r ∧ shared l = []

theorem forks_behind {l : List Ent} {a b : Ent} {r : List Ent} (hl : l = a :: b :: r) : Forks (behind (shared l) l) := by
  have hall : ∀ e ∈ l, shared l <+: e.dig := fun e he => shared_pre l e he
  have hb := behind_all hall
  refine ⟨⟨a.dig.drop (shared l).length, a.val⟩, ⟨b.dig.drop (shared l).length, b.val⟩, r.map fun e => ⟨e.dig.drop (shared l).length, e.val⟩, by rw [hb]; subst hl; rfl, ?_⟩
  have hne : behind (shared l) l ≠ [] := by rw [hb]; subst hl; simp
  have h1 : shared l ++ shared (behind (shared l) l) <+: shared l := by
    rw [shared_iff _ _ (by subst hl; simp)]
    intro e he
    have h2 : (⟨e.dig.drop (shared l).length, e.val⟩ : Ent) ∈ behind (shared l) l := by rw [hb]; exact List.mem_map.2 ⟨e, he, rfl⟩
    have h3 := shared_pre _ _ h2
    obtain ⟨t, ht⟩ := hall e he
    rw [← ht]
    refine (List.prefix_append_right_inj _).2 ?_
    have h4 : shared (behind (shared l) l) <+: e.dig.drop (shared l).length := h3
    rw [← ht, List.drop_left] at h4
    exact h4
  have := h1.length_le
  rw [List.length_append] at this
  exact List.eq_nil_of_length_eq_zero (by omega)

theorem node_fork (f : Nat) {l : List Ent} (h : Forks l) : node (f + 1) l = itL ((List.range 16).map (fun d => ref (node f (behind [UInt8.ofNat d] l))) ++ [itB (valOf l)]) := by
  obtain ⟨a, b, r, rfl, hs⟩ := h
  rw [node]
  unfold nodeOf
  rw [if_pos hs]

theorem node_ext (f : Nat) {l : List Ent} {a b : Ent} {r : List Ent} (hl : l = a :: b :: r) (hs : shared l ≠ []) : node (f + 1) l = itL [itB (path (shared l) false), ref (node f (behind (shared l) l))] := by
  subst hl
  rw [node]
  unfold nodeOf
  rw [if_neg hs]

theorem encB_pos (s : List UInt8) : 1 ≤ (Itm.encB s).length := by
  have := Itm.enc_ne (itB s)
  rw [enc_itB] at this
  cases h : Itm.encB s with
  | nil => exact absurd h this
  | cons => simp

theorem flatMap_pos (l : List Itm) : l.length ≤ (l.flatMap Itm.enc).length := by
  induction l with
  | nil => simp
  | cons x l ih =>
    have := Itm.enc_ne x
    have : 1 ≤ (Itm.enc x).length := by
      cases h : Itm.enc x with
      | nil => exact absurd h this
      | cons => simp
    simp only [List.length_cons, List.flatMap_cons, List.length_append]; omega

/-- A branch has more than eight bytes. -/
theorem fork_long (f : Nat) {l : List Ent} (h : Forks l) : ¬ (Itm.enc (node (f + 1) l)).length < 8 := by
  rw [node_fork f h, enc_itL]
  have h1 := Itm.headed_len 192 (((List.range 16).map (fun d => ref (node f (behind [UInt8.ofNat d] l))) ++ [itB (valOf l)]).flatMap Itm.enc)
  have h2 := flatMap_pos ((List.range 16).map (fun d => ref (node f (behind [UInt8.ofNat d] l))) ++ [itB (valOf l)])
  simp only [List.length_append, List.length_map, List.length_range, List.length_cons, List.length_nil] at h2
  omega

theorem isBranch_fork (f : Nat) {l : List Ent} (h : Forks l) : isBranch (node (f + 1) l) = true := by
  rw [node_fork f h]
  unfold isBranch itL
  simp

theorem kid_fork (f : Nat) {l : List Ent} (h : Forks l) (i : Nat) (hi : i < 16) : kid (node (f + 1) l) i = ref (node f (behind [UInt8.ofNat i] l)) := by
  rw [node_fork f h]
  unfold kid itL
  simp only [List.getD_eq_getElem?_getD]
  rw [List.getElem?_append_left (by simpa using hi)]
  simp [hi]

theorem kid_fork16 (f : Nat) {l : List Ent} (h : Forks l) : kid (node (f + 1) l) 16 = itB (valOf l) := by
  rw [node_fork f h]
  unfold kid itL
  simp only [List.getD_eq_getElem?_getD]
  rw [List.getElem?_append_right (by simp)]
  simp

theorem ref_short {t : Itm} (h : (Itm.enc t).length < 8) : ref t = t := by unfold ref; rw [if_pos h]
theorem ref_long {t : Itm} (h : ¬ (Itm.enc t).length < 8) : ref t = itB (sum (Itm.enc t)) := by unfold ref; rw [if_neg h]

theorem isSum_itB (s : List UInt8) (h : s.length = 8) : isSum (itB s) = true := by unfold isSum itB; simp [h]

theorem isEmpty_itB_nil : isEmpty (itB []) = true := rfl

theorem isSum_short {t : Itm} (h : (Itm.enc t).length < 8) : isSum t = false := by
  by_cases ht : t.list = true
  · unfold isSum; rw [ht]; rfl
  · have : t.list = false := by simpa using ht
    unfold isSum
    rw [this]
    have h8 : ¬ t.bytes.length = 8 := by
      intro h8
      rw [Itm.enc_eq, if_neg ht] at h
      unfold Itm.encB at h
      split at h
      · omega
      · have := Itm.headed_len 128 t.bytes; omega
    simp [h8]

theorem refers_ref (t : Itm) (k : List UInt8) (br : Bool) : refers (ref t) k br = if (Itm.enc t).length < 8 then goes t k br else some ⟨k, br, [], false, sum (Itm.enc t)⟩ := by
  by_cases h : (Itm.enc t).length < 8
  · rw [ref_short h, if_pos h]
    unfold refers refersOf
    rw [isSum_short h]; rfl
  · rw [ref_long h, if_neg h]
    unfold refers refersOf
    rw [isSum_itB _ (sum_len _)]; rfl

end Tr
end Go.Proofs.YtbmohenjphmlgaaGreat

/- A tree of nodes as the program builds it, and what is left of it when memory turns. -/
namespace Go.Proofs.YtbmohenjphmlgaaGreat
open Go.RowKit
set_option maxRecDepth 100000

theorem branchCells_at (a : Option Addr) (cap : Nat) (cs : Array Value) (x : ByteArray) : (branchCells a cap cs x)[0]? = some (.int .i64 3) ∧ (branchCells a cap cs x)[1]? = some (.bool true) ∧ (branchCells a cap cs x)[2]? = some (.string ⟨#[]⟩) ∧ (branchCells a cap cs x)[3]? = some (.slice a 17 cap) := by
  unfold branchCells
  refine ⟨?_, ?_, ?_, ?_⟩ <;> rw [Array.append_assoc, Array.getElem?_append_left (by simp)] <;> rfl

theorem branchCells_head (a : Option Addr) (cap : Nat) (cs : Array Value) (x : ByteArray) : (branchCells a cap cs x).extract 0 4 = #[.int .i64 3, .bool true, .string ⟨#[]⟩, .slice a 17 cap] := by
  unfold branchCells
  rw [Array.append_assoc, Array.extract_append]
  simp

theorem nd_branch (a : Option Addr) (cap : Nat) (cs : Array Value) (x : ByteArray) : Nd (.iface 142 (.agg (branchCells a cap cs x))) 3 true ⟨#[]⟩ a 17 cap :=
  ⟨_, _, .inr (.inr (.inr rfl)), rfl, branchCells_head a cap cs x⟩

def emptyV : Value := .iface 168 (.agg #[.int .i64 0, .bool false, .string ⟨#[]⟩, .slice none 0 0])
def leafV (a : Option Addr) (cap : Nat) (d x : ByteArray) : Value := .iface 172 (.agg #[.int .i64 1, .bool true, .string ⟨#[]⟩, .slice a 2 cap, .string d, .string x])
def branchV (a : Option Addr) (cap : Nat) (cs : Array Value) (x : ByteArray) : Value := .iface 142 (.agg (branchCells a cap cs x))
def extV (a : Option Addr) (cap : Nat) (d s : ByteArray) (v : Value) : Value := .iface 176 (.agg #[.int .i64 2, .bool true, .string ⟨#[]⟩, .slice a 2 cap, .string d, .string s, v])

/-- v is the node of entries, as it was built, with at most f steps down; what is in it lies in blocks from lo on. -/
def BT (lo : Nat) (w : World) : Nat → Value → List Tr.Ent → Prop
  | 0 => fun v l => l = [] ∧ v = emptyV
  | f + 1 => fun v l =>
    (l = [] ∧ v = emptyV) ∨
    (∃ e a cap d x, l = [e] ∧ v = leafV a cap d x ∧ d.data.toList = e.dig ∧ x.data.toList = e.val ∧ RepW lo w.heap.size w (f + 3) (.agg #[.bool true, .string ⟨#[]⟩, .slice a 2 cap]) (Tr.node (f + 1) l)) ∨
    (∃ p q r, l = p :: q :: r ∧ Tr.shared l ≠ [] ∧ ∃ a cap d a2 c2 cs x, v = extV a cap d (refSum (Tr.node f (Tr.behind (Tr.shared l) l))) (branchV a2 c2 cs x) ∧ d.data.toList = Tr.shared l ∧ RepW lo w.heap.size w (f + 3) (.agg #[.bool true, .string ⟨#[]⟩, .slice a 2 cap]) (Tr.node (f + 1) l) ∧ BT lo w f (branchV a2 c2 cs x) (Tr.behind (Tr.shared l) l)) ∨
    (Tr.Forks l ∧ ∃ a cap cs x, v = branchV a cap cs x ∧ cs.size = 32 ∧ x.data.toList = Tr.valOf l ∧ RepW lo w.heap.size w (f + 3) (.agg #[.bool true, .string ⟨#[]⟩, .slice a 17 cap]) (Tr.node (f + 1) l) ∧
      ∀ d, d < 16 → ∃ vd, cs[2 * d]? = some (.string (refSum (Tr.node f (Tr.behind [UInt8.ofNat d] l)))) ∧ cs[2 * d + 1]? = some vd ∧ BT lo w f vd (Tr.behind [UInt8.ofNat d] l))

theorem bt_turn {lo lo' : Nat} {w w' : World} (hlo : lo' ≤ lo) (hs : w.heap.size ≤ w'.heap.size) (hb : ∀ k, lo ≤ k → k < w.heap.size → w'.heap[k]? = w.heap[k]?) : ∀ (f : Nat) (v : Value) (l : List Tr.Ent), BT lo w f v l → BT lo' w' f v l := by
  intro f
  induction f with
  | zero => intro v l h; exact h
  | succ f ih =>
    intro v l h
    rcases h with h | ⟨e, a, cap, d, x, h1, h2, h3, h4, h5⟩ | ⟨p, q, r, h1, h2, a, cap, d, a2, c2, cs, x, h3, h4, h5, h6⟩ | ⟨h1, a, cap, cs, x, h2, h3, h4, h5, h6⟩
    · exact .inl h
    · exact .inr (.inl ⟨e, a, cap, d, x, h1, h2, h3, h4, repW_turn hlo hs hb _ _ _ h5⟩)
    · exact .inr (.inr (.inl ⟨p, q, r, h1, h2, a, cap, d, a2, c2, cs, x, h3, h4, repW_turn hlo hs hb _ _ _ h5, ih _ _ h6⟩))
    · exact .inr (.inr (.inr ⟨h1, a, cap, cs, x, h2, h3, h4, repW_turn hlo hs hb _ _ _ h5, fun d hd => by
        obtain ⟨vd, g1, g2, g3⟩ := h6 d hd
        exact ⟨vd, g1, g2, ih _ _ g3⟩⟩))

theorem bt_later {lo : Nat} {w w' : World} {f : Nat} {v : Value} {l : List Tr.Ent} (h : BT lo w f v l) (hb : Below w.heap.size w w') : BT lo w' f v l := bt_turn (Nat.le_refl _) hb.size (fun k _ hk => hb.block k hk) f v l h
theorem bt_low {lo lo' : Nat} {w : World} {f : Nat} {v : Value} {l : List Tr.Ent} (h : BT lo w f v l) (hlo : lo' ≤ lo) : BT lo' w f v l := bt_turn hlo (Nat.le_refl _) (fun _ _ _ => rfl) f v l h

theorem nd_empty : Nd emptyV 0 false ⟨#[]⟩ none 0 0 := ⟨_, _, .inl rfl, rfl, rfl⟩
theorem nd_leaf (a : Option Addr) (cap : Nat) (d x : ByteArray) : Nd (leafV a cap d x) 1 true ⟨#[]⟩ a 2 cap := ⟨_, _, .inr (.inl rfl), rfl, rfl⟩
theorem nd_ext (a : Option Addr) (cap : Nat) (d s : ByteArray) (v : Value) : Nd (extV a cap d s v) 2 true ⟨#[]⟩ a 2 cap := ⟨_, _, .inr (.inr (.inl rfl)), rfl, rfl⟩

theorem node_nil_is (f : Nat) : Tr.node f [] = Tr.itB [] := by cases f <;> rfl

theorem repW_empty (lo B : Nat) (w : World) (m : Nat) : RepW lo B w (m + 1) (.agg #[.bool false, .string ⟨#[]⟩, .slice none 0 0]) (Tr.itB []) := ⟨none, 0, rfl, by simp [Tr.itB], fun i hi => by simp [Tr.itB] at hi⟩

/-- Of whatever kind: what it begins with, and its item. -/
theorem bt_nd {lo : Nat} {w : World} {f : Nat} {v : Value} {l : List Tr.Ent} (h : BT lo w f v l) : ∃ k l0 s a n cap, Nd v k l0 s a n cap ∧ RepW lo w.heap.size w (f + 2) (.agg #[.bool l0, .string s, .slice a n cap]) (Tr.node f l) := by
  cases f with
  | zero =>
    obtain ⟨rfl, rfl⟩ := h
    exact ⟨_, _, _, _, _, _, nd_empty, repW_empty _ _ _ _⟩
  | succ f =>
    rcases h with ⟨rfl, rfl⟩ | ⟨e, a, cap, d, x, h1, rfl, h3, h4, h5⟩ | ⟨p, q, r, h1, h2, a, cap, d, a2, c2, cs, x, rfl, h4, h5, h6⟩ | ⟨h1, a, cap, cs, x, rfl, h3, h4, h5, h6⟩
    · exact ⟨_, _, _, _, _, _, nd_empty, repW_empty _ _ _ _⟩
    · exact ⟨_, _, _, _, _, _, nd_leaf _ _ _ _, h5⟩
    · exact ⟨_, _, _, _, _, _, nd_ext _ _ _ _ _, h5⟩
    · exact ⟨_, _, _, _, _, _, nd_branch _ _ _ _, h5⟩

end Go.Proofs.YtbmohenjphmlgaaGreat

/- One step of a way through nodes (of the program): next and valueAt, by the kind of the node. -/
namespace Go.Proofs.YtbmohenjphmlgaaGreat
open Go.RowKit
set_option maxRecDepth 100000

theorem belowAA (w : World) (a b : Obj) : Below w.heap.size w ((w.alloc a).alloc b) := ((Below.refl _ _).alloc (Nat.le_refl _) _).alloc (by simp) _

theorem commonNext_any (k : Int) (l : Bool) (s : ByteArray) (x : Value) (d : ByteArray) (w : World) : Calls Tryz.prog 186 #[.agg #[.int .i64 k, .bool l, .string s, x], .string d] w fun e w' => e = .returned (.tuple #[.agg #[.string ⟨#[]⟩, .nilIface], .string ⟨#[]⟩, .bool false]) ∧ Below w.heap.size w w' := by
  go_enter Tryz.func186, Tryz.ntmps186
  go_wp2_with fail
  exact bodyPost_ret (v := .tuple #[.agg #[.string ⟨#[]⟩, .nilIface], .string ⟨#[]⟩, .bool false]) (by simp [results, Tryz.results186, go_sem]) rfl ⟨rfl, belowAA _ _ _⟩

theorem commonValueAt_any (k : Int) (l : Bool) (s : ByteArray) (x : Value) (d : ByteArray) (w : World) : Calls Tryz.prog 188 #[.agg #[.int .i64 k, .bool l, .string s, x], .string d] w fun e w' => e = .returned (.string ⟨#[]⟩) ∧ Below w.heap.size w w' := by
  go_enter Tryz.func188, Tryz.ntmps188
  go_wp2_with fail
  go_ret
  exact ⟨rfl, (Below.refl _ _).alloc (Nat.le_refl _) _⟩

theorem leafValueAt_any (a : Option Addr) (n cap : Nat) (k : Int) (l : Bool) (s t x : ByteArray) (d : ByteArray) (w : World) : Calls Tryz.prog 192 #[.agg #[.int .i64 k, .bool l, .string s, .slice a n cap, .string t, .string x], .string d] w fun e w' => e = .returned (.string (if d = t then x else ⟨#[]⟩)) ∧ Below w.heap.size w w' := by
  by_cases h : d = t
  · rw [if_pos h]
    have he : (d.toList == t.toList) = true := by rw [h]; exact beq_self_eq_true _
    clear h
    go_enter Tryz.func192, Tryz.ntmps192
    go_wp2_with fail
    go_ret
    exact ⟨rfl, (Below.refl _ _).alloc (Nat.le_refl _) _⟩
  · rw [if_neg h]
    have he : (d.toList == t.toList) = false := by
      rw [beq_eq_false_iff_ne]
      intro e
      apply h
      rw [ByteArray.toList_eq, ByteArray.toList_eq] at e
      cases d; cases t
      simp only [Array.toList_inj] at e
      rw [e]
    clear h
    go_enter Tryz.func192, Tryz.ntmps192
    go_wp2_with fail
    go_ret
    exact ⟨rfl, (Below.refl _ _).alloc (Nat.le_refl _) _⟩

/-- A node or none. -/
def IsNode (v : Value) : Prop := v = .nilIface ∨ ∃ T x, v = .iface T x

theorem extNext_any (a : Option Addr) (n cap : Nat) (k : Int) (l : Bool) (s t x : ByteArray) (v : Value) (d : ByteArray) (w : World) (hv : IsNode v) : Calls Tryz.prog 193 #[.agg #[.int .i64 k, .bool l, .string s, .slice a n cap, .string t, .string x, v], .string d] w fun e w' => e = .returned (.tuple #[.agg #[.string x, v], .string (cutP t d), .bool (pre t d)]) ∧ Below w.heap.size w w' := by
  have HC := hid (fun w => cutPrefix_any d t w)
  rcases hv with rfl | ⟨T, y, rfl⟩
  all_goals
    go_enter Tryz.func193, Tryz.ntmps193
    go_wp2_with fail
    refine (HC.out _).mono ?_
    rintro e w1 ⟨rfl, rfl⟩
    go_wp2_with fail
  · exact bodyPost_ret (v := .tuple #[.agg #[.string x, .nilIface], .string (cutP t d), .bool (pre t d)]) (by simp [results, Tryz.results193, go_sem]) rfl ⟨rfl, belowAA _ _ _⟩
  · exact bodyPost_ret (v := .tuple #[.agg #[.string x, .iface T y], .string (cutP t d), .bool (pre t d)]) (by simp [results, Tryz.results193, go_sem]) rfl ⟨rfl, belowAA _ _ _⟩

theorem branchCells_to (a : Option Addr) (cap : Nat) (cs : Array Value) (x : ByteArray) (i : Nat) (hi : i < cs.size) : (branchCells a cap cs x)[4 + i]? = cs[i]? := by
  unfold branchCells
  rw [Array.getElem?_append_left (by simp; omega), Array.getElem?_append_right (by simp)]
  simp

theorem branchCells_last (a : Option Addr) (cap : Nat) (cs : Array Value) (x : ByteArray) (hcs : cs.size = 32) : (branchCells a cap cs x)[36]? = some (.string x) := by
  unfold branchCells
  rw [Array.getElem?_append_right (by simp [hcs])]
  simp [hcs]

theorem branchValueAt_any (a : Option Addr) (cap : Nat) (cs : Array Value) (x d : ByteArray) (w : World) (hcs : cs.size = 32) : Calls Tryz.prog 191 #[.agg (branchCells a cap cs x), .string d] w fun e w' => e = .returned (.string x) ∧ Below w.heap.size w w' := by
  have h36 := branchCells_last a cap cs x hcs
  generalize branchCells a cap cs x = BB at *
  have hc := (cell_of_row (w.alloc (.cells BB 142)) _ 36 _ _ _ (heap_alloc_new w _)).trans h36
  go_enter Tryz.func191, Tryz.ntmps191
  go_wp2_with fail
  go_ret
  exact ⟨rfl, (Below.refl _ _).alloc (Nat.le_refl _) _⟩

theorem branchNext_nil (a : Option Addr) (cap : Nat) (cs : Array Value) (x : ByteArray) (w : World) : Calls Tryz.prog 189 #[.agg (branchCells a cap cs x), .string ⟨#[]⟩] w fun e w' => e = .returned (.tuple #[.agg #[.string ⟨#[]⟩, .nilIface], .string ⟨#[]⟩, .bool false]) ∧ Below w.heap.size w w' := by
  generalize branchCells a cap cs x = BB at *
  go_enter Tryz.func189, Tryz.ntmps189
  go_wp2_with fail
  exact bodyPost_ret (v := .tuple #[.agg #[.string ⟨#[]⟩, .nilIface], .string ⟨#[]⟩, .bool false]) (by simp [results, Tryz.results189, go_sem]) rfl ⟨rfl, belowAA _ _ _⟩

theorem branchNext_any (a : Option Addr) (cap : Nat) (cs : Array Value) (x d : ByteArray) (w : World) (hd : 0 < d.size) (c : UInt8) (r : List UInt8) (hcr : d.data.toList = c :: r) (hc : c.toNat < 16) (s : ByteArray) (v : Value) (hv : IsNode v)
    (h0 : cs[2 * c.toNat]? = some (.string s)) (h1 : cs[2 * c.toNat + 1]? = some v) :
    Calls Tryz.prog 189 #[.agg (branchCells a cap cs x), .string d] w fun e w' => e = .returned (.tuple #[.agg #[.string s, v], .string ⟨r.toArray⟩, .bool true]) ∧ Below w.heap.size w w' := by
  have k0 := (branchCells_to a cap cs x _ (Array.getElem?_eq_some_iff.1 h0).1).trans h0
  have k1 := (branchCells_to a cap cs x _ (Array.getElem?_eq_some_iff.1 h1).1).trans h1
  generalize branchCells a cap cs x = BB at *
  have he : d.toList.isEmpty = false := by rw [ByteArray.toList_eq, hcr]; rfl
  have HD0 : Hid (∀ h : 0 < d.size, d[0] = c) := fun h => by
    have e : d.data.toList[0]? = some c := by rw [hcr]; rfl
    rw [Array.getElem?_toList] at e
    exact (Array.getElem?_eq_some_iff.1 e).2
  have k0 : BB[4 + c.toNat * 2]? = some (.string s) := by rw [Nat.mul_comm]; exact k0
  have k1 : BB[4 + c.toNat * 2 + 1]? = some v := by rw [Nat.mul_comm, Nat.add_assoc]; exact k1
  have HDR : Hid (d.extract 1 d.size = ⟨r.toArray⟩) := by
    rw [Hid]
    have e : (d.extract 1 d.size).data.toList = r := by rw [Lib.extract_to_end, hcr]; rfl
    have e2 : (d.extract 1 d.size).data = r.toArray := by rw [← e]
    generalize d.extract 1 d.size = u at *
    cases u
    rw [← e2]
  have i1 : (0 : Int) < (d.size : Int) := by omega
  have hc1 : (c.toNat : Int) < 16 := by omega
  have hc0 : (0 : Int) ≤ (c.toNat : Int) := by omega
  have i2 : (1 : Int) ≤ (d.size : Int) := by omega
  have HG : Hid ((w.alloc (.cells BB 142)).heap[w.heap.size]? = some (.cells BB 142 (0, 0))) := heap_alloc_new w _
  clear h0 h1 hd
  go_enter Tryz.func189, Tryz.ntmps189
  go_wp2_with fail
  refine wp_region_L (fun w' => w'.heap[w.heap.size]? = some (.cells BB 142 (0, 0))) 9 (by kernel_rfl) ?_
  have hS : (fun w' : World => w'.heap[w.heap.size]? = some (.cells BB 142 (0, 0))) (((w.alloc (.cells BB 142)).alloc (.cells #[.string ⟨#[]⟩, .nilIface] 139)).drew) := (Below.heap_alloc _ _ _ (by rw [alloc_size]; omega)).trans HG.out
  refine wpAnyL_take (i := 0) (v := .string d) rfl (by kernel_rfl) (by kernel_rfl) (by kernel_rfl) (by kernel_rfl) (by kernel_rfl) (fun _ _ _ h => h) hS (Or.inl ⟨by kernel_rfl, ?_⟩) ?_
  · (intro w' hSw; go_simp)
  try simp only [Act.put]
  refine wpAnyL_take (i := 1) (v := .int .u8 c.toNat) rfl (by kernel_rfl) (by kernel_rfl) (by kernel_rfl) (by kernel_rfl) (by kernel_rfl) (fun _ _ _ h => h) hS (Or.inl ⟨by kernel_rfl, ?_⟩) ?_
  · intro w' hSw
    go_simp
    rw [dif_pos (by omega)]
    rw [HD0.out]
    rfl
  try simp only [Act.put]
  refine wpAnyL_take (i := 2) (v := .pointer (some ⟨w.heap.size, 4, none⟩)) rfl (by kernel_rfl) (by kernel_rfl) (by kernel_rfl) (by kernel_rfl) (by kernel_rfl) (fun _ _ _ h => h) hS (Or.inl ⟨by kernel_rfl, ?_⟩) ?_
  · (intro w' hSw; go_simp)
  try simp only [Act.put]
  refine wpAnyL_take (i := 3) (v := .pointer (some ⟨w.heap.size, 4 + c.toNat * 2, none⟩)) rfl (by kernel_rfl) (by kernel_rfl) (by kernel_rfl) (by kernel_rfl) (by kernel_rfl) (fun _ _ _ h => h) hS (Or.inl ⟨by kernel_rfl, ?_⟩) ?_
  · intro w' hSw
    go_simp
  try simp only [Act.put]
  refine wpAnyL_take (i := 4) (v := .agg #[.string s, v]) rfl (by kernel_rfl) (by kernel_rfl) (by kernel_rfl) (by kernel_rfl) (by kernel_rfl) (fun _ _ _ h => h) hS (Or.inl ⟨by kernel_rfl, ?_⟩) ?_
  · intro w' hSw
    have z0 := (cell_of_row w' _ (4 + c.toNat * 2) _ _ _ hSw).trans k0
    have z1 := (cell_of_row w' _ (4 + c.toNat * 2 + 1) _ _ _ hSw).trans k1
    go_simp
  try simp only [Act.put]
  refine wpAnyL_take (i := 5) (v := .string d) rfl (by kernel_rfl) (by kernel_rfl) (by kernel_rfl) (by kernel_rfl) (by kernel_rfl) (fun _ _ _ h => h) hS (Or.inl ⟨by kernel_rfl, ?_⟩) ?_
  · (intro w' hSw; go_simp)
  try simp only [Act.put]
  refine wpAnyL_take (i := 6) (v := .string (d.extract 1 d.size)) rfl (by kernel_rfl) (by kernel_rfl) (by kernel_rfl) (by kernel_rfl) (by kernel_rfl) (fun _ _ _ h => h) hS (Or.inl ⟨by kernel_rfl, ?_⟩) ?_
  · (intro w' hSw; go_simp)
  try simp only [Act.put]
  rcases hv with rfl | ⟨T, y, rfl⟩
  all_goals
    refine wpAnyL_ready (rs := [7]) (by kernel_rfl) (by simp) ?_
    refine AllReadyL.cons rfl (fun K hK => ?_) AllReadyL.nil
    go_simp
    refine hK.out _ _ ((Below.heap_alloc _ _ _ (by rw [alloc_size]; omega)).trans HG.out) ?_
    clear hK K
    try simp only [Act.put]
    refine wpAnyL_ready (rs := [8]) (by kernel_rfl) (by simp) ?_
    refine AllReadyL.cons rfl (fun K hK => ?_) AllReadyL.nil
    go_simp
    refine hK.out _ _ ((Below.heap_alloc _ _ _ (by rw [alloc_size]; omega)).trans HG.out) ?_
    clear hK K
    try simp only [Act.put]
    refine wpAnyL_ready (rs := [9]) (by kernel_rfl) (by simp) ?_
    refine AllReadyL.last rfl (fun K hK => ?_)
    go_simp
    refine hK.out _ _ ?_
    clear hK K
    try simp only [Act.put]
    refine wpAny_done (by kernel_rfl) ?_ _
    go_wp2_with fail
  · exact bodyPost_ret (v := .tuple #[.agg #[.string s, .nilIface], .string (d.extract 1 d.size), .bool true]) (by simp [results, Tryz.results189, go_sem]) rfl ⟨by rw [HDR.out], (belowAA _ _ _).drew⟩
  · exact bodyPost_ret (v := .tuple #[.agg #[.string s, .iface T y], .string (d.extract 1 d.size), .bool true]) (by simp [results, Tryz.results189, go_sem]) rfl ⟨by rw [HDR.out], (belowAA _ _ _).drew⟩

end Go.Proofs.YtbmohenjphmlgaaGreat

/- The walk of walk (of the program), for any finder that keeps what it must. -/
namespace Go.Proofs.YtbmohenjphmlgaaGreat
open Go.RowKit
set_option maxRecDepth 100000

/-- A function that is entered when it is called. -/
def Enters (F : Nat) : Prop := ∀ (args : Array Value) (w : World), (callFunc F args).run Tryz.prog w = .ok (.enter F args) w

theorem enters_proof : Enters 97 := fun args w => by kernel_rfl
theorem enters_check : Enters 125 := fun args w => by kernel_rfl

/-- What next and valueAt of a node tell, for digits. -/
def Steps (v : Value) (d s : ByteArray) (n : Value) (rest : ByteArray) (on : Bool) (x : ByteArray) : Prop :=
  ∃ T A f1 r1 f2 r2, v = .iface T A ∧ Enters f1 ∧ Enters f2 ∧
    (∀ w, (method 334 T A "witness/tree.next").run Tryz.prog w = .ok (f1, r1) w) ∧ (∀ w, Calls Tryz.prog f1 #[r1, .string d] w fun e w' => e = .returned (.tuple #[.agg #[.string s, n], .string rest, .bool on]) ∧ Below w.heap.size w w') ∧
    (∀ w, (method 334 T A "witness/tree.valueAt").run Tryz.prog w = .ok (f2, r2) w) ∧ (on = false → ∀ w, Calls Tryz.prog f2 #[r2, .string d] w fun e w' => e = .returned (.string x) ∧ Below w.heap.size w w')

theorem steps_empty (d : ByteArray) : Steps emptyV d ⟨#[]⟩ .nilIface ⟨#[]⟩ false ⟨#[]⟩ :=
  ⟨_, _, 186, .agg #[.int .i64 0, .bool false, .string ⟨#[]⟩, .slice none 0 0], 188, .agg #[.int .i64 0, .bool false, .string ⟨#[]⟩, .slice none 0 0], rfl, fun _ _ => by kernel_rfl, fun _ _ => by kernel_rfl, fun _ => by kernel_rfl, fun w => commonNext_any _ _ _ _ _ w, fun _ => by kernel_rfl, fun _ w => commonValueAt_any _ _ _ _ _ w⟩

theorem steps_leaf (a : Option Addr) (cap : Nat) (t x d : ByteArray) : Steps (leafV a cap t x) d ⟨#[]⟩ .nilIface ⟨#[]⟩ false (if d = t then x else ⟨#[]⟩) :=
  ⟨_, _, 186, .agg #[.int .i64 1, .bool true, .string ⟨#[]⟩, .slice a 2 cap], 192, .agg #[.int .i64 1, .bool true, .string ⟨#[]⟩, .slice a 2 cap, .string t, .string x], rfl, fun _ _ => by kernel_rfl, fun _ _ => by kernel_rfl, fun _ => by kernel_rfl, fun w => commonNext_any _ _ _ _ _ w, fun _ => by kernel_rfl, fun _ w => leafValueAt_any _ _ _ _ _ _ _ _ _ w⟩

theorem steps_ext (a : Option Addr) (cap : Nat) (t s d : ByteArray) (v : Value) (hv : IsNode v) : Steps (extV a cap t s v) d s v (cutP t d) (pre t d) ⟨#[]⟩ :=
  ⟨_, _, 193, .agg #[.int .i64 2, .bool true, .string ⟨#[]⟩, .slice a 2 cap, .string t, .string s, v], 188, .agg #[.int .i64 2, .bool true, .string ⟨#[]⟩, .slice a 2 cap], rfl, fun _ _ => by kernel_rfl, fun _ _ => by kernel_rfl, fun _ => by kernel_rfl, fun w => extNext_any _ _ _ _ _ _ _ _ _ _ w hv, fun _ => by kernel_rfl, fun _ w => commonValueAt_any _ _ _ _ _ w⟩

theorem steps_end (a : Option Addr) (cap : Nat) (cs : Array Value) (x : ByteArray) (hcs : cs.size = 32) : Steps (branchV a cap cs x) ⟨#[]⟩ ⟨#[]⟩ .nilIface ⟨#[]⟩ false x :=
  ⟨_, _, 189, .agg (branchCells a cap cs x), 191, .agg (branchCells a cap cs x), rfl, fun _ _ => by kernel_rfl, fun _ _ => by kernel_rfl, fun _ => by kernel_rfl, fun w => branchNext_nil _ _ _ _ w, fun _ => by kernel_rfl, fun _ w => branchValueAt_any _ _ _ _ _ w hcs⟩

theorem steps_branch (a : Option Addr) (cap : Nat) (cs : Array Value) (x d : ByteArray) (hcs : cs.size = 32) (c : UInt8) (r : List UInt8) (hcr : d.data.toList = c :: r) (hc : c.toNat < 16) (s : ByteArray) (v : Value) (hv : IsNode v)
    (h0 : cs[2 * c.toNat]? = some (.string s)) (h1 : cs[2 * c.toNat + 1]? = some v) : Steps (branchV a cap cs x) d s v ⟨r.toArray⟩ true x :=
  ⟨_, _, 189, .agg (branchCells a cap cs x), 191, .agg (branchCells a cap cs x), rfl, fun _ _ => by kernel_rfl, fun _ _ => by kernel_rfl, fun _ => by kernel_rfl, fun w => branchNext_any _ _ _ _ _ w (by rw [← ba_len, hcr]; simp) c r hcr hc s v hv h0 h1, fun _ => by kernel_rfl, fun _ w => branchValueAt_any _ _ _ _ _ w hcs⟩

/-- What a way does at a node: it ends there, or goes on by a reference. -/
structure Way (F : Nat) (c : Addr) (J : World → Value → ByteArray → Prop) (Q : ByteArray → Bool → World → Prop) (w : World) (v : Value) (d : ByteArray) : Prop where
  step : ∃ s n rest on x, Steps v d s n rest on x ∧ IsNode n ∧
    (on = false → ∀ w', Below w.heap.size w w' → Q x true w') ∧
    (on = true → rest.size < d.size ∧ ∀ w', Below w.heap.size w w' → Calls Tryz.prog 122 #[v, .agg #[.string s, n], .func (.func F) #[] #[.pointer (some c)]] w' fun e w'' => ∃ v' ok, e = .returned (.tuple #[v', .bool ok]) ∧ (ok = true → J w'' v' rest) ∧ (ok = false → Q ⟨#[]⟩ false w''))

set_option maxHeartbeats 3200000 in
theorem walk_any (F : Nat) (hF : Enters F) (c : Addr) (s : ByteArray) (n : Value) (hn : IsNode n) (d : ByteArray) (w : World) (J : World → Value → ByteArray → Prop) (Q : ByteArray → Bool → World → Prop)
    (h0 : ∀ w', Below w.heap.size w w' → Calls Tryz.prog F #[.agg #[.string s, n], .pointer (some c)] w' fun e w'' => ∃ v' ok, e = .returned (.tuple #[v', .bool ok]) ∧ (ok = true → J w'' v' d) ∧ (ok = false → Q ⟨#[]⟩ false w''))
    (hJ : ∀ w v d, J w v d → Way F c J Q w v d) :
    Calls Tryz.prog 96 #[.agg #[.string s, n], .string d, .func (.func F) #[] #[.pointer (some c)]] w fun e w' => ∃ x ok, e = .returned (.tuple #[.string x, .bool ok]) ∧ Q x ok w' := by
  have H0 := hid h0
  have HJ := hid hJ
  clear h0 hJ
  unfold Enters at hF
  rcases hn with rfl | ⟨T, y, rfl⟩
  all_goals
    go_enter Tryz.func96, Tryz.ntmps96
    go_wp2_with fail
    refine (H0.out _ ((Below.refl _ _).alloc (Nat.le_refl _) _)).mono ?_
    rintro e w1 ⟨v1, ok, rfl, g1, g2⟩
    have HG1 := hid g1
    have HG2 := hid g2
    clear g1 g2
    go_wp2_with fail
    go_loopw [1, 7, 8] (fun dd oo vv wr => ∃ d' ok', dd = .string d' ∧ oo = .bool ok' ∧ (ok' = true → J wr vv d') ∧ (ok' = false → Q ⟨#[]⟩ false wr)) (fun dd _ _ _ => (match dd with | .string d' => d'.size | _ => 0))
    case atStart => exact ⟨d, ok, rfl, rfl, HG1.out, HG2.out⟩
    case round =>
      obtain ⟨d', ok', rfl, rfl, hg1, hg2⟩ := hrel
      cases ok' with
      | false =>
        have HQ := hid (hg2 rfl)
        clear hg1 hg2
        go_wp2_with fail
        exact bodyPost_ret (v := .tuple #[.string ⟨#[]⟩, .bool false]) (by simp [results, Tryz.results96, go_sem]) rfl ⟨_, _, rfl, HQ.out⟩
      | true =>
        obtain ⟨⟨s', n', rest, on, x, hst, hn', hq, hf⟩⟩ := HJ.out _ _ _ (hg1 rfl)
        obtain ⟨T', A', f1, r1, f2, r2, rfl, e1, e2, m1, c1, m2, c2⟩ := hst
        unfold Enters at e1 e2
        have HC1 := hid c1
        have HC2 := hid c2
        have HQ := hid hq
        have HF := hid hf
        clear c1 c2 hq hf hg1 hg2
        rcases hn' with rfl | ⟨T2, y2, rfl⟩
        all_goals
          cases on with
          | false =>
            go_wp2_with fail
            refine (HC1.out _).mono ?_
            rintro e w2 ⟨rfl, b2⟩
            have HB2 := hid b2
            clear b2
            go_wp2_with fail
            refine (HC2.out (by trivial) _).mono ?_
            rintro e w3 ⟨rfl, b3⟩
            have HB3 := hid b3
            clear b3
            go_wp2_with fail
            exact bodyPost_ret (v := .tuple #[.string x, .bool true]) (by simp [results, Tryz.results96, go_sem]) rfl ⟨_, _, rfl, HQ.out (by trivial) _ ((HB2.out.alloc HB2.out.size _).trans (HB3.out.mono (by simp; exact Nat.le_succ_of_le HB2.out.size)))⟩
          | true =>
            go_wp2_with fail
            refine (HC1.out _).mono ?_
            rintro e w2 ⟨rfl, b2⟩
            have HB2 := hid b2
            clear b2
            go_wp2_with fail
            refine ((HF.out (by trivial)).2 _ (HB2.out.alloc HB2.out.size _)).mono ?_
            rintro e w3 ⟨v3, ok3, rfl, g1, g2⟩
            have HG1 := hid g1
            have HG2 := hid g2
            clear g1 g2
            go_wp2_with fail
            exact ⟨⟨rest, ok3, rfl, rfl, HG1.out, HG2.out⟩, (HF.out (by trivial)).1⟩
end Go.Proofs.YtbmohenjphmlgaaGreat

/- The walks of mayFollow and follow (of the program). -/
namespace Go.Proofs.YtbmohenjphmlgaaGreat
open Go.RowKit
set_option maxRecDepth 100000

/-- May a node of kind k' stand where one of kind k refers to it by its sum? -/
def mayB (k k' : Nat) (short : Bool) : Bool := !short && (decide (k ≠ 2) || decide (k' = 3))

set_option maxHeartbeats 1600000 in
theorem mayFollow_any {v v' : Value} {k k' : Nat} {l l' : Bool} {s s' : ByteArray} {a a' : Option Addr} {n n' cap cap' m : Nat} {t : Itm} (w : World) (h : Nd v k l s a n cap) (h' : Nd v' k' l' s' a' n' cap') (hs : Small t) (hr : Rep w.heap.size w (m + 1) (.agg #[.bool l', .string s', .slice a' n' cap']) t) :
    Calls Tryz.prog 137 #[v, v'] w fun e w' => e = .returned (.bool (mayB k k' (decide ((Itm.enc t).length < 8)))) ∧ Below w.heap.size w w' := by
  have HS := hid (isShort_any w h' hs hr)
  have HK := hid (fun k a n cap l s w => commonKind_any k a n cap l s w)
  obtain ⟨T, A, rfl, _, _, hm, _⟩ := nd_call h
  obtain ⟨T', A', rfl, _, _, hm', _⟩ := nd_call h'
  have HM : Hid (mayB k k' (decide ((Itm.enc t).length < 8)) = (!(decide ((Itm.enc t).length < 8)) && (decide (k ≠ 2) || decide (k' = 3)))) := rfl
  generalize decide ((Itm.enc t).length < 8) = b at *
  clear hr h h' hs
  cases b with
  | true =>
    go_enter Tryz.func137, Tryz.ntmps137
    go_wp2_with fail
    refine HS.out.mono ?_
    rintro e w1 ⟨rfl, b1⟩
    have HB := hid b1
    clear b1
    go_wp2_with fail
    go_ret
    exact ⟨by rw [HM.out]; rfl, HB.out⟩
  | false =>
    by_cases h2 : k = 2
    · subst h2
      by_cases h3 : k' = 3
      · subst h3
        go_enter Tryz.func137, Tryz.ntmps137
        go_wp2_with fail
        refine HS.out.mono ?_
        rintro e w1 ⟨rfl, b1⟩
        have HB := hid b1
        clear b1
        go_wp2_with fail
        refine (HK.out _ _ _ _ _ _ _).mono ?_
        rintro e w2 ⟨rfl, b2⟩
        have HB2 := hid b2
        clear b2
        go_wp2_with fail
        refine (HK.out _ _ _ _ _ _ _).mono ?_
        rintro e w3 ⟨rfl, b3⟩
        have HB3 := hid b3
        clear b3
        go_wp2_with fail
        go_ret
        exact ⟨by rw [HM.out]; rfl, HB.out.trans ((HB2.out.trans (HB3.out.mono HB2.out.size)).mono HB.out.size)⟩
      · have i3 : ((k' : Int) == 3) = false := by rw [beq_eq_false_iff_ne]; omega
        rw [decide_eq_false h3] at HM
        clear h3
        go_enter Tryz.func137, Tryz.ntmps137
        go_wp2_with fail
        refine HS.out.mono ?_
        rintro e w1 ⟨rfl, b1⟩
        have HB := hid b1
        clear b1
        go_wp2_with fail
        refine (HK.out _ _ _ _ _ _ _).mono ?_
        rintro e w2 ⟨rfl, b2⟩
        have HB2 := hid b2
        clear b2
        go_wp2_with fail
        refine (HK.out _ _ _ _ _ _ _).mono ?_
        rintro e w3 ⟨rfl, b3⟩
        have HB3 := hid b3
        clear b3
        go_wp2_with fail
        go_ret
        exact ⟨by rw [HM.out]; rfl, HB.out.trans ((HB2.out.trans (HB3.out.mono HB2.out.size)).mono HB.out.size)⟩
    · have i2 : ¬ (k : Int) = 2 := by omega
      rw [decide_eq_true h2] at HM
      clear h2
      go_enter Tryz.func137, Tryz.ntmps137
      go_wp2_with fail
      refine HS.out.mono ?_
      rintro e w1 ⟨rfl, b1⟩
      have HB := hid b1
      clear b1
      go_wp2_with fail
      refine (HK.out _ _ _ _ _ _ _).mono ?_
      rintro e w2 ⟨rfl, b2⟩
      have HB2 := hid b2
      clear b2
      go_wp2_with fail
      go_ret
      exact ⟨by rw [HM.out]; rfl, HB.out.trans (HB2.out.mono HB.out.size)⟩

/-- A reference with no sum is followed to its own node. -/
theorem follow_own {v n : Value} {F : Nat} {c : Addr} (w : World) (hn : IsNode n) : Calls Tryz.prog 122 #[v, .agg #[.string ⟨#[]⟩, n], .func (.func F) #[] #[.pointer (some c)]] w fun e w' => e = .returned (.tuple #[n, .bool true]) ∧ Below w.heap.size w w' := by
  rcases hn with rfl | ⟨T, y, rfl⟩
  · go_enter Tryz.func122, Tryz.ntmps122
    go_wp2_with fail
    exact bodyPost_ret (v := .tuple #[.nilIface, .bool true]) (by simp [results, Tryz.results122, go_sem]) rfl ⟨rfl, (Below.refl _ _).alloc (Nat.le_refl _) _⟩
  · go_enter Tryz.func122, Tryz.ntmps122
    go_wp2_with fail
    exact bodyPost_ret (v := .tuple #[.iface T y, .bool true]) (by simp [results, Tryz.results122, go_sem]) rfl ⟨rfl, (Below.refl _ _).alloc (Nat.le_refl _) _⟩

/-- A reference by a sum is asked of the finder, and what it gives is looked at. -/
theorem follow_sum {v n : Value} {F : Nat} {c : Addr} {s : ByteArray} (w : World) (hF : Enters F) (hn : IsNode n) (hs : 0 < s.size) (Q : Value → Bool → World → Prop)
    (h : ∀ w', Below w.heap.size w w' → Calls Tryz.prog F #[.agg #[.string s, n], .pointer (some c)] w' fun e w'' => ∃ v' ok, e = .returned (.tuple #[v', .bool ok]) ∧ (ok = false → Q v' false w'') ∧
      (ok = true → Calls Tryz.prog 137 #[v, v'] w'' fun e w3 => ∃ b, e = .returned (.bool b) ∧ Q v' b w3)) :
    Calls Tryz.prog 122 #[v, .agg #[.string s, n], .func (.func F) #[] #[.pointer (some c)]] w fun e w' => ∃ v' ok, e = .returned (.tuple #[v', .bool ok]) ∧ Q v' ok w' := by
  have he : s.toList.isEmpty = false := by
    rw [ByteArray.toList_eq, List.isEmpty_eq_false_iff]
    intro e
    have := ba_len s
    rw [e] at this
    simp at this
    omega
  have H := hid h
  unfold Enters at hF
  clear h hs
  rcases hn with rfl | ⟨T, y, rfl⟩
  all_goals
    go_enter Tryz.func122, Tryz.ntmps122
    go_wp2_with fail
    refine (H.out _ ((Below.refl _ _).alloc (Nat.le_refl _) _)).mono ?_
    rintro e w1 ⟨v1, ok, rfl, g1, g2⟩
    have HG1 := hid g1
    have HG2 := hid g2
    clear g1 g2
    cases ok with
    | false =>
      go_wp2_with fail
      exact bodyPost_ret (v := .tuple #[v1, .bool false]) (by simp [results, Tryz.results122, go_sem]) rfl ⟨_, _, rfl, HG1.out (by trivial)⟩
    | true =>
      go_wp2_with fail
      refine (HG2.out (by trivial)).mono ?_
      rintro e w3 ⟨b, rfl, q⟩
      have HQ := hid q
      clear q
      go_wp2_with fail
      exact bodyPost_ret (v := .tuple #[v1, .bool b]) (by simp [results, Tryz.results122, go_sem]) rfl ⟨_, _, rfl, HQ.out⟩
end Go.Proofs.YtbmohenjphmlgaaGreat
