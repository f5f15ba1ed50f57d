/- Plain mathematics of trees: the proof for a key in a table, that it is sound, and what it tells. Nothing of the program is in here. -/
import Derived.Test.YtbmohenjphmlgaaTrPerm
namespace Go.Proofs.Ytbmohenjphmlgaa
set_option maxRecDepth 100000

namespace Tr

theorem digits_pack (l : List UInt8) : ∀ k, l.length = 2 * k → (∀ c ∈ l, c.toNat < 16) → digits (pack l) = l := by
  intro k
  induction k generalizing l with
  | zero => intro h _; have : l = [] := by simpa using h
            subst this; rfl
  | succ k ih =>
    intro h hd
    match l, h, hd with
    | a :: b :: r, h, hd =>
      have ha := hd a (by simp)
      have hb := hd b (by simp)
      rw [pack_two, digits_cons, ih r (by simp at h; omega) (fun c hc => hd c (by simp [hc]))]
      have e : (UInt8.ofNat (16 * a.toNat + b.toNat)).toNat = 16 * a.toNat + b.toNat := by rw [UInt8.toNat_ofNat']; omega
      rw [e, Itm.ofNat_toNat' a _ (by omega), Itm.ofNat_toNat' b _ (by omega)]

theorem unpath_path (d : List UInt8) (leaf : Bool) (hd : ∀ c ∈ d, c.toNat < 16) : unpath (itB (path d leaf)) = some (d, leaf) := by
  unfold path
  split
  · rename_i h
    match d, h, hd with
    | a :: r, h, hd =>
      have ha := hd a (by simp)
      have e : (UInt8.ofNat ((if leaf then 32 else 0) + 16 + ((a :: r).getD 0 0).toNat)).toNat = (if leaf then 32 else 0) + 16 + a.toNat := by
        rw [UInt8.toNat_ofNat']
        show ((if leaf then 32 else 0) + 16 + a.toNat) % 256 = _
        cases leaf <;> simp <;> omega
      have hp := digits_pack r ((r.length) / 2) (by simp at h; omega) (fun c hc => hd c (by simp [hc]))
      unfold unpath itB
      simp only [List.getD_cons_zero] at e
      simp only [List.drop_succ_cons, List.drop_zero, List.isEmpty_cons, List.getD_cons_zero, e, hp]
      cases leaf with
      | true =>
        have h1 : ¬ (64 ≤ 32 + 16 + a.toNat) := by omega
        have h2 : (32 + 16 + a.toNat) / 16 % 2 = 1 := by omega
        have h3 : 32 ≤ 32 + 16 + a.toNat := by omega
        have h4 : (32 + 16 + a.toNat) % 16 = a.toNat := by omega
        simp only [if_true, h1, h2, h3, h4]
        simp
      | false =>
        have h1 : ¬ (64 ≤ 0 + 16 + a.toNat) := by omega
        have h2 : (0 + 16 + a.toNat) / 16 % 2 = 1 := by omega
        have h3 : ¬ 32 ≤ 0 + 16 + a.toNat := by omega
        have h4 : (0 + 16 + a.toNat) % 16 = a.toNat := by omega
        simp only [Bool.false_eq_true, if_false, h1, h2, h3, h4]
        simp
    | [], h, _ => simp at h
  · rename_i h
    have hp := digits_pack d (d.length / 2) (by omega) hd
    unfold unpath itB
    cases leaf with
    | true => simp [hp]
    | false => simp [hp]

/-- What entries have for digits. -/
def look (l : List Ent) (k : List UInt8) : List UInt8 := match l.find? (fun e => e.dig = k) with | some e => e.val | none => []

theorem apart_eq {a b : Ent} : ∀ l : List Ent, Apart l → a ∈ l → b ∈ l → a.dig = b.dig → a = b
  | [], _, h, _, _ => by simp at h
  | x :: l, ha, h1, h2, hd => by
    have ha' := List.pairwise_cons.1 ha
    rcases List.mem_cons.1 h1 with e1 | m1
    · rcases List.mem_cons.1 h2 with e2 | m2
      · exact e1.trans e2.symm
      · exact absurd (e1 ▸ hd) (ha'.1 b m2)
    · rcases List.mem_cons.1 h2 with e2 | m2
      · exact absurd (e2 ▸ hd.symm) (ha'.1 a m1)
      · exact apart_eq l ha'.2 m1 m2 hd

theorem look_some {l : List Ent} (ha : Apart l) {e : Ent} (he : e ∈ l) : look l e.dig = e.val := by
  unfold look
  cases hf : l.find? (fun x => x.dig = e.dig) with
  | none => exact absurd (decide_eq_true rfl) (List.find?_eq_none.1 hf e he)
  | some x =>
    have hx := List.mem_of_find?_eq_some hf
    have hd : x.dig = e.dig := by have := List.find?_some hf; simpa using this
    rw [apart_eq l ha hx he hd]

theorem look_none {l : List Ent} {k : List UInt8} (h : ∀ e ∈ l, e.dig ≠ k) : look l k = [] := by
  unfold look
  rw [List.find?_eq_none.2 (fun e he => by simpa using h e he)]

theorem look_behind {l : List Ent} (ha : Apart l) (s k : List UInt8) : look (behind s l) k = look l (s ++ k) := by
  by_cases h : ∃ e ∈ l, e.dig = s ++ k
  · obtain ⟨e, he, hd⟩ := h
    have hm : (⟨k, e.val⟩ : Ent) ∈ behind s l := by
      unfold behind
      rw [List.mem_filterMap]
      refine ⟨e, he, ?_⟩
      rw [if_pos (List.isPrefixOf_iff_prefix.2 (by rw [hd]; exact List.prefix_append _ _)), hd, List.drop_left]
    rw [← hd, look_some ha he]
    exact look_some (ha.behind (s := s)) hm
  · rw [look_none (fun e he hd => h ⟨e, he, hd⟩), look_none]
    intro e he hd
    obtain ⟨x, hx, h1, _⟩ := behind_mem he
    exact h ⟨x, hx, by rw [h1, hd]⟩

theorem valOf_look {l : List Ent} (ha : Apart l) : valOf l = look l [] := by
  by_cases hx : ∃ e ∈ l, e.dig = []
  · obtain ⟨e, he, h0⟩ := hx
    rw [valOf_some ha he h0, ← h0, look_some ha he]
  · have h1 : ∀ e ∈ l, e.dig ≠ [] := fun e he h0 => hx ⟨e, he, h0⟩
    rw [valOf_none h1, look_none h1]

theorem look_table (ps : List (List UInt8 × List UInt8)) (k : List UInt8) : look (table ps) (digits k) = value ps k := by
  by_cases h : value ps k = []
  · rw [h]
    refine look_none fun e he hd => ?_
    obtain ⟨k', rfl, hk⟩ := (table_mem ps e).1 he
    rw [digits_inj hd] at hk
    exact hk h
  · exact look_some (table_apart ps) (e := ⟨digits k, value ps k⟩) ((table_mem ps _).2 ⟨k, rfl, h⟩)

/-- The elements of a proof below a node, on the way of the digits k. -/
def elems : Nat → List Ent → List UInt8 → List (List UInt8)
  | 0, _, _ => []
  | f + 1, l, k =>
    match l with
    | [] => []
    | [_] => []
    | _ => if shared l = [] then (match k with
             | [] => []
             | c :: r => (if (Itm.enc (node f (behind [c] l))).length < 8 then [] else [Itm.enc (node f (behind [c] l))]) ++ elems f (behind [c] l) r)
           else if (shared l).isPrefixOf k then Itm.enc (node f (behind (shared l) l)) :: elems f (behind (shared l) l) (k.drop (shared l).length) else []

/-- The proof for digits. -/
def proofOf (f : Nat) (l : List Ent) (k : List UInt8) : List (List UInt8) := Itm.enc (node f l) :: elems f l k

/-- Entries whose values are not empty. -/
def Full (l : List Ent) : Prop := ∀ e ∈ l, e.val ≠ []

theorem Full.behind {l : List Ent} {s : List UInt8} (h : Full l) : Full (behind s l) := fun e he => by
  obtain ⟨x, hx, _, h2⟩ := behind_mem he
  rw [← h2]; exact h x hx

/-- Several entries that begin with nothing alike. -/
def Forks (l : List Ent) : Prop := ∃ a b r, l = a :: b :: r ∧ shared l = []

theorem forks_behind {l : List Ent} {a b : Ent} {r : List Ent} (hl : l = a :: b :: r) : Forks (behind (shared l) l) := by
  have hall : ∀ e ∈ l, shared l <+: e.dig := fun e he => shared_pre l e he
  have hb := behind_all hall
  refine ⟨⟨a.dig.drop (shared l).length, a.val⟩, ⟨b.dig.drop (shared l).length, b.val⟩, r.map fun e => ⟨e.dig.drop (shared l).length, e.val⟩, by rw [hb]; subst hl; rfl, ?_⟩
  have hne : behind (shared l) l ≠ [] := by rw [hb]; subst hl; simp
  have h1 : shared l ++ shared (behind (shared l) l) <+: shared l := by
    rw [shared_iff _ _ (by subst hl; simp)]
    intro e he
    have h2 : (⟨e.dig.drop (shared l).length, e.val⟩ : Ent) ∈ behind (shared l) l := by rw [hb]; exact List.mem_map.2 ⟨e, he, rfl⟩
    have h3 := shared_pre _ _ h2
    obtain ⟨t, ht⟩ := hall e he
    rw [← ht]
    refine (List.prefix_append_right_inj _).2 ?_
    have h4 : shared (behind (shared l) l) <+: e.dig.drop (shared l).length := h3
    rw [← ht, List.drop_left] at h4
    exact h4
  have := h1.length_le
  rw [List.length_append] at this
  exact List.eq_nil_of_length_eq_zero (by omega)

theorem node_fork (f : Nat) {l : List Ent} (h : Forks l) : node (f + 1) l = itL ((List.range 16).map (fun d => ref (node f (behind [UInt8.ofNat d] l))) ++ [itB (valOf l)]) := by
  obtain ⟨a, b, r, rfl, hs⟩ := h
  rw [node]
  unfold nodeOf
  rw [if_pos hs]

theorem node_ext (f : Nat) {l : List Ent} {a b : Ent} {r : List Ent} (hl : l = a :: b :: r) (hs : shared l ≠ []) : node (f + 1) l = itL [itB (path (shared l) false), ref (node f (behind (shared l) l))] := by
  subst hl
  rw [node]
  unfold nodeOf
  rw [if_neg hs]

theorem encB_pos (s : List UInt8) : 1 ≤ (Itm.encB s).length := by
  have := Itm.enc_ne (itB s)
  rw [enc_itB] at this
  cases h : Itm.encB s with
  | nil => exact absurd h this
  | cons => simp

theorem flatMap_pos (l : List Itm) : l.length ≤ (l.flatMap Itm.enc).length := by
  induction l with
  | nil => simp
  | cons x l ih =>
    have := Itm.enc_ne x
    have : 1 ≤ (Itm.enc x).length := by
      cases h : Itm.enc x with
      | nil => exact absurd h this
      | cons => simp
    simp only [List.length_cons, List.flatMap_cons, List.length_append]; omega

/-- A branch has more than eight bytes. -/
theorem fork_long (f : Nat) {l : List Ent} (h : Forks l) : ¬ (Itm.enc (node (f + 1) l)).length < 8 := by
  rw [node_fork f h, enc_itL]
  have h1 := Itm.headed_len 192 (((List.range 16).map (fun d => ref (node f (behind [UInt8.ofNat d] l))) ++ [itB (valOf l)]).flatMap Itm.enc)
  have h2 := flatMap_pos ((List.range 16).map (fun d => ref (node f (behind [UInt8.ofNat d] l))) ++ [itB (valOf l)])
  simp only [List.length_append, List.length_map, List.length_range, List.length_cons, List.length_nil] at h2
  omega

theorem isBranch_fork (f : Nat) {l : List Ent} (h : Forks l) : isBranch (node (f + 1) l) = true := by
  rw [node_fork f h]
  unfold isBranch itL
  simp

theorem kid_fork (f : Nat) {l : List Ent} (h : Forks l) (i : Nat) (hi : i < 16) : kid (node (f + 1) l) i = ref (node f (behind [UInt8.ofNat i] l)) := by
  rw [node_fork f h]
  unfold kid itL
  simp only [List.getD_eq_getElem?_getD]
  rw [List.getElem?_append_left (by simpa using hi)]
  simp [hi]

theorem kid_fork16 (f : Nat) {l : List Ent} (h : Forks l) : kid (node (f + 1) l) 16 = itB (valOf l) := by
  rw [node_fork f h]
  unfold kid itL
  simp only [List.getD_eq_getElem?_getD]
  rw [List.getElem?_append_right (by simp)]
  simp

theorem ref_short {t : Itm} (h : (Itm.enc t).length < 8) : ref t = t := by unfold ref; rw [if_pos h]
theorem ref_long {t : Itm} (h : ¬ (Itm.enc t).length < 8) : ref t = itB (sum (Itm.enc t)) := by unfold ref; rw [if_neg h]

theorem isSum_itB (s : List UInt8) (h : s.length = 8) : isSum (itB s) = true := by unfold isSum itB; simp [h]

theorem isEmpty_itB_nil : isEmpty (itB []) = true := rfl

theorem isSum_short {t : Itm} (h : (Itm.enc t).length < 8) : isSum t = false := by
  by_cases ht : t.list = true
  · unfold isSum; rw [ht]; rfl
  · have : t.list = false := by simpa using ht
    unfold isSum
    rw [this]
    have h8 : ¬ t.bytes.length = 8 := by
      intro h8
      rw [Itm.enc_eq, if_neg ht] at h
      unfold Itm.encB at h
      split at h
      · omega
      · have := Itm.headed_len 128 t.bytes; omega
    simp [h8]

theorem refers_ref (t : Itm) (k : List UInt8) (br : Bool) : refers (ref t) k br = if (Itm.enc t).length < 8 then goes t k br else some ⟨k, br, [], false, sum (Itm.enc t)⟩ := by
  by_cases h : (Itm.enc t).length < 8
  · rw [ref_short h, if_pos h]
    unfold refers refersOf
    rw [isSum_short h]; rfl
  · rw [ref_long h, if_neg h]
    unfold refers refersOf
    rw [isSum_itB _ (sum_len _)]; rfl

end Tr
end Go.Proofs.Ytbmohenjphmlgaa
