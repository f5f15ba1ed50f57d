/- A keeper's calls, as the statement Refused makes them. -/
import Derived.Test.YtbmohenjphmlgabGreatRef2
namespace Go.Proofs.YtbmohenjphmlgabGreat
open Go.RowKit
set_option maxRecDepth 100000

/-- A keeper with heads l and what is kept in M; all its blocks lie from base on. -/
structure KP (w : World) (base k0 k1 k2 k3 : Nat) (hv : Value) (M : Obj) (l : List (Int × ByteArray)) : Prop where
  kb : Kb w k0 k1 k2 k3 hv M
  own : HOwn w base hv l
  rises : Rises l
  few : l.length ≤ 8
  n01 : k0 ≠ k1
  n02 : k0 ≠ k2
  n03 : k0 ≠ k3
  n12 : k1 ≠ k2
  n13 : k1 ≠ k3
  n23 : k2 ≠ k3
  row : ∀ g, hv.ownBlock = some g → g ≠ k0 ∧ g ≠ k1 ∧ g ≠ k2 ∧ g ≠ k3
  low : base ≤ k0 ∧ base ≤ k1 ∧ base ≤ k2 ∧ base ≤ k3

theorem KP.later {w w' : World} {base k0 k1 k2 k3 : Nat} {hv : Value} {M : Obj} {l : List (Int × ByteArray)} (h : KP w base k0 k1 k2 k3 hv M l) (hb : Below w.heap.size w w') : KP w' base k0 k1 k2 k3 hv M l :=
  { h with kb := h.kb.later hb, own := hown_later h.own hb }

theorem KP.size {w : World} {base k0 k1 k2 k3 : Nat} {hv : Value} {M : Obj} {l : List (Int × ByteArray)} (h : KP w base k0 k1 k2 k3 hv M l) : base ≤ w.heap.size :=
  Nat.le_trans h.low.1 (Nat.le_of_lt (Array.getElem?_eq_some_iff.1 h.kb.outer).1)

theorem kp_open {w w' : World} (h : Kb w' (w.heap.size + 3) (w.heap.size + 2) (w.heap.size + 1) w.heap.size (.slice none 0 0) (.map #[] 0)) : KP w' w.heap.size (w.heap.size + 3) (w.heap.size + 2) (w.heap.size + 1) w.heap.size (.slice none 0 0) (.map #[] 0) [] :=
  { kb := h, own := hown_nil _ _, rises := List.Pairwise.nil, few := by simp, n01 := by omega, n02 := by omega, n03 := by omega, n12 := by omega, n13 := by omega, n23 := by omega, row := fun g hg => by simp [Value.ownBlock] at hg, low := by omega }

section
variable {w : World} {base k0 k1 k2 k3 : Nat} {hv : Value} {M : Obj} {l : List (Int × ByteArray)}

theorem trustO_height (h : KP w base k0 k1 k2 k3 hv M l) (x : Int) (r : ByteArray) (hx : x < 0 ∨ 1000000 < x) : Calls Tryz.prog 9 #[.pointer (some ⟨k0, 0, none⟩), .int .i64 x, .string r] w fun e w' => e = .returned (.int .i64 7) ∧ Below w.heap.size w w' := by
  refine (outer_trust (Q := fun n w' => n = 7 ∧ Below w.heap.size w w') h.kb.outer ((trust_height k1 x r w hx).mono ?_)).mono ?_
  · rintro e w' ⟨rfl, rfl⟩; exact ⟨7, rfl, rfl, Below.refl _ _⟩
  · rintro e w' ⟨n, rfl, rfl, hb⟩; exact ⟨rfl, hb⟩

theorem trustO_root (h : KP w base k0 k1 k2 k3 hv M l) (x : Int) (r : ByteArray) (h1 : 0 ≤ x) (h2 : x ≤ 1000000) (hr : ¬ r.size = 8) : Calls Tryz.prog 9 #[.pointer (some ⟨k0, 0, none⟩), .int .i64 x, .string r] w fun e w' => e = .returned (.int .i64 5) ∧ Below w.heap.size w w' := by
  refine (outer_trust (Q := fun n w' => n = 5 ∧ Below w.heap.size w w') h.kb.outer ((trust_root k1 x r w h1 h2 hr).mono ?_)).mono ?_
  · rintro e w' ⟨rfl, rfl⟩; exact ⟨5, rfl, rfl, Below.refl _ _⟩
  · rintro e w' ⟨n, rfl, rfl, hb⟩; exact ⟨rfl, hb⟩

theorem trustO_old (h : KP w base k0 k1 k2 k3 hv M l) (x : Int) (r r0 : ByteArray) (h1 : 0 ≤ x) (h2 : x ≤ 1000000) (hr : r.size = 8) (hx : (x, r0) ∈ l) : Calls Tryz.prog 9 #[.pointer (some ⟨k0, 0, none⟩), .int .i64 x, .string r] w fun e w' => e = .returned (.int .i64 (if r0 = r then 0 else 8)) ∧ Below w.heap.size w w' := by
  obtain ⟨a, cap, rfl⟩ := hown_shape h.own
  refine (outer_trust (Q := fun n w' => n = (if r0 = r then 0 else 8) ∧ Below w.heap.size w w') h.kb.outer ((trust_old k1 a cap l _ x r r0 w h1 h2 hr h.kb.inner (hown_rd h.own) h.few h.rises hx).mono ?_)).mono ?_
  · rintro e w' ⟨rfl, hb⟩; exact ⟨_, rfl, rfl, hb⟩
  · rintro e w' ⟨n, rfl, rfl, hb⟩; exact ⟨rfl, hb⟩

theorem rises_insert {x : Int} {r : ByteArray} {p : Nat} (hs : Rises l) (p1 : ∀ i, (h : i < l.length) → i < p → l[i].1 < x) (p2 : ∀ i, (h : i < l.length) → p ≤ i → x < l[i].1) : Rises (l.take p ++ (x, r) :: l.drop p) := by
  unfold Rises
  rw [List.pairwise_append]
  refine ⟨hs.sublist (List.take_sublist _ _), List.pairwise_cons.2 ⟨?_, hs.sublist (List.drop_sublist _ _)⟩, ?_⟩
  · intro b hb
    obtain ⟨j, hj, rfl⟩ := List.getElem_of_mem hb
    rw [List.length_drop] at hj
    rw [List.getElem_drop]
    exact p2 _ (by omega) (by omega)
  · intro a ha b hb
    obtain ⟨j, hj, rfl⟩ := List.getElem_of_mem ha
    rw [List.length_take] at hj
    rw [List.getElem_take]
    rcases List.mem_cons.1 hb with rfl | hb
    · exact p1 _ (by omega) (by omega)
    · obtain ⟨i, hi, rfl⟩ := List.getElem_of_mem hb
      rw [List.length_drop] at hi
      rw [List.getElem_drop]
      exact hs.at (by omega) (by omega)

/-- A keeper behind Trust at a height that was not taken. -/
theorem kp_new {w' : World} {x : Int} {r : ByteArray} (h : KP w base k0 k1 k2 k3 hv M l) (hl : l.length < 8) (hn : NewHead w k1 base hv (.pointer (some ⟨k2, 0, none⟩)) l x r w') : ∃ hv' p, p ≤ l.length ∧ (∀ i, (h : i < l.length) → i < p → l[i].1 < x) ∧ (∀ i, (h : i < l.length) → p ≤ i → x < l[i].1) ∧ KP w' base k0 k1 k2 k3 hv' M (l.take p ++ (x, r) :: l.drop p) ∧ Turns (fun k => k = k1 ∨ hv.ownBlock = some k) w w' := by
  obtain ⟨v', p, p0, p1, p2, hi, ho, hnw, hne, ht⟩ := hn
  have l0 := (Array.getElem?_eq_some_iff.1 h.kb.outer).1
  have l2 := (Array.getElem?_eq_some_iff.1 h.kb.store).1
  have l3 := (Array.getElem?_eq_some_iff.1 h.kb.map).1
  have nf : ∀ k, (k = k0 ∨ k = k2 ∨ k = k3) → ¬ (k = k1 ∨ hv.ownBlock = some k) := by
    rintro k (rfl | rfl | rfl) (e | e)
    · exact h.n01 e
    · exact (h.row _ e).1 rfl
    · exact h.n12 e.symm
    · exact (h.row _ e).2.2.1 rfl
    · exact h.n13 e.symm
    · exact (h.row _ e).2.2.2 rfl
  refine ⟨v', p, p0, p1, p2, ?_, ht⟩
  exact { h with
    kb := ⟨(ht.block _ l0 (nf _ (.inl rfl))).trans h.kb.outer, hi, (ht.block _ l2 (nf _ (.inr (.inl rfl)))).trans h.kb.store, (ht.block _ l3 (nf _ (.inr (.inr rfl)))).trans h.kb.map⟩
    own := ho
    rises := rises_insert h.rises p1 p2
    few := by simp only [List.length_append, List.length_take, List.length_cons, List.length_drop]; omega
    row := fun g hg => by
      rcases hnw with e | ⟨g', e, hge⟩
      · exact h.row g (e ▸ hg)
      · rw [hg] at e
        cases e
        exact ⟨by omega, fun e => hne (e ▸ hg), by omega, by omega⟩ }

theorem trustO_new (h : KP w base k0 k1 k2 k3 hv M l) (x : Int) (r : ByteArray) (h1 : 0 ≤ x) (h2 : x ≤ 1000000) (hr : r.size = 8) (hl : l.length < 8) (hx : ∀ q ∈ l, q.1 ≠ x) (hins : InsOk l x r) : Calls Tryz.prog 9 #[.pointer (some ⟨k0, 0, none⟩), .int .i64 x, .string r] w fun e w' => e = .returned (.int .i64 0) ∧ NewHead w k1 base hv (.pointer (some ⟨k2, 0, none⟩)) l x r w' := by
  obtain ⟨a, cap, rfl⟩ := hown_shape h.own
  refine (outer_trust (Q := fun n w' => n = 0 ∧ NewHead w k1 base (.slice a l.length cap) (.pointer (some ⟨k2, 0, none⟩)) l x r w') h.kb.outer ((trust_new k1 base a cap l _ x r w h1 h2 hr h.kb.inner h.own h.size (fun e => (h.row _ e).2.1 rfl) hl h.rises hx hins).mono ?_)).mono ?_
  · rintro e w' ⟨rfl, hb⟩; exact ⟨_, rfl, rfl, hb⟩
  · rintro e w' ⟨n, rfl, rfl, hb⟩; exact ⟨rfl, hb⟩

theorem offerO_none (h : KP w base k0 k1 k2 k3 hv M l) (x : Int) (key : ByteArray) (v : Value) (hx : ∀ q ∈ l, q.1 ≠ x) : Calls Tryz.prog 14 #[.pointer (some ⟨k0, 0, none⟩), .int .i64 x, .string key, v] w fun e w' => e = .returned (.int .i64 10) ∧ Below w.heap.size w w' := by
  obtain ⟨a, cap, rfl⟩ := hown_shape h.own
  refine (outer_offer (Q := fun n w' => n = 10 ∧ Below w.heap.size w w') h.kb.outer ((offer_none k1 a cap l _ v x key w h.kb.inner (hown_rd h.own) h.few h.rises hx).mono ?_)).mono ?_
  · rintro e w' ⟨rfl, hb⟩; exact ⟨_, rfl, rfl, hb⟩
  · rintro e w' ⟨n, rfl, rfl, hb⟩; exact ⟨rfl, hb⟩

theorem dropO_none (h : KP w base k0 k1 k2 k3 hv M l) (x : Int) (hx : ∀ q ∈ l, q.1 ≠ x) : Calls Tryz.prog 16 #[.pointer (some ⟨k0, 0, none⟩), .int .i64 x] w fun e w' => e = .returned (.int .i64 10) ∧ Below w.heap.size w w' := by
  obtain ⟨a, cap, rfl⟩ := hown_shape h.own
  refine (outer_drop (Q := fun n w' => n = 10 ∧ Below w.heap.size w w') h.kb.outer ((drop_none k1 a cap l _ x w h.kb.inner (hown_rd h.own) h.few h.rises hx).mono ?_)).mono ?_
  · rintro e w' ⟨rfl, hb⟩; exact ⟨_, rfl, rfl, hb⟩
  · rintro e w' ⟨n, rfl, rfl, hb⟩; exact ⟨rfl, hb⟩

theorem getO_none (h : KP w base k0 k1 k2 k3 hv M l) (x : Int) (key : ByteArray) (hx : ∀ q ∈ l, q.1 ≠ x) : Calls Tryz.prog 17 #[.pointer (some ⟨k0, 0, none⟩), .int .i64 x, .string key] w fun e w' => e = .returned (.tuple #[.string ⟨#[]⟩, .bool false, .int .i64 10]) ∧ Below w.heap.size w w' := by
  obtain ⟨a, cap, rfl⟩ := hown_shape h.own
  refine (outer_get (Q := fun s b n w' => s = ⟨#[]⟩ ∧ b = false ∧ n = 10 ∧ Below w.heap.size w w') h.kb.outer ((get_none k1 a cap l _ x key w h.kb.inner (hown_rd h.own) h.few h.rises hx).mono ?_)).mono ?_
  · rintro e w' ⟨rfl, hb⟩; exact ⟨_, _, _, rfl, rfl, rfl, rfl, hb⟩
  · rintro e w' ⟨s, b, n, rfl, rfl, rfl, rfl, hb⟩; exact ⟨rfl, hb⟩

theorem getO_key (h : KP w base k0 k1 k2 k3 hv M l) (x : Int) (key r0 : ByteArray) (hx : (x, r0) ∈ l) (hk : 6 < key.size) : Calls Tryz.prog 17 #[.pointer (some ⟨k0, 0, none⟩), .int .i64 x, .string key] w fun e w' => e = .returned (.tuple #[.string ⟨#[]⟩, .bool false, .int .i64 3]) ∧ Below w.heap.size w w' := by
  obtain ⟨a, cap, rfl⟩ := hown_shape h.own
  refine (outer_get (Q := fun s b n w' => (s = ⟨#[]⟩ ∧ b = false ∧ n = 3) ∧ Below w.heap.size w w') h.kb.outer (get_in (Q := fun s b n _ => s = ⟨#[]⟩ ∧ b = false ∧ n = 3) h.kb.inner (hown_rd h.own) h.few h.rises hx (fun W hW => (tell_key k2 r0 key W hk).mono ?_))).mono ?_
  · rintro e w' ⟨rfl, hb⟩; exact ⟨_, _, _, rfl, ⟨rfl, rfl, rfl⟩, hb⟩
  · rintro e w' ⟨s, b, n, rfl, ⟨rfl, rfl, rfl⟩, hb⟩; exact ⟨rfl, hb⟩

theorem getO_empty (h : KP w base k0 k1 k2 k3 hv (.map #[] 0) l) (x : Int) (key r0 : ByteArray) (hx : (x, r0) ∈ l) (hr : r0.size ≤ 1000) (hk : key.size ≤ 6) : Calls Tryz.prog 17 #[.pointer (some ⟨k0, 0, none⟩), .int .i64 x, .string key] w fun e w' => e = .returned (.tuple #[.string ⟨#[]⟩, .bool false, .int .i64 11]) ∧ Below w.heap.size w w' := by
  obtain ⟨a, cap, rfl⟩ := hown_shape h.own
  refine (outer_get (Q := fun s b n w' => (s = ⟨#[]⟩ ∧ b = false ∧ n = 11) ∧ Below w.heap.size w w') h.kb.outer (get_in (Q := fun s b n _ => s = ⟨#[]⟩ ∧ b = false ∧ n = 11) h.kb.inner (hown_rd h.own) h.few h.rises hx (fun W hW => (tell_empty k2 k3 r0 key W hk hr ((hW.block _ (Array.getElem?_eq_some_iff.1 h.kb.store).1).trans h.kb.store) ((hW.block _ (Array.getElem?_eq_some_iff.1 h.kb.map).1).trans h.kb.map)).mono ?_))).mono ?_
  · rintro e w' ⟨rfl, hb⟩; exact ⟨_, _, _, rfl, ⟨rfl, rfl, rfl⟩, hb⟩
  · rintro e w' ⟨s, b, n, rfl, ⟨rfl, rfl, rfl⟩, hb⟩; exact ⟨rfl, hb⟩

theorem offerO_key (h : KP w base k0 k1 k2 k3 hv M l) (x : Int) (key r0 : ByteArray) (v : Value) (hx : (x, r0) ∈ l) (hr : r0.size = 8) (hk : 6 < key.size) : Calls Tryz.prog 14 #[.pointer (some ⟨k0, 0, none⟩), .int .i64 x, .string key, v] w fun e w' => e = .returned (.int .i64 3) ∧ Turns (fun k => k = k2) w w' ∧ w'.heap[k2]? = w.heap[k2]? := by
  obtain ⟨a, cap, rfl⟩ := hown_shape h.own
  have l2 := (Array.getElem?_eq_some_iff.1 h.kb.store).1
  refine (outer_offer (Q := fun n w' => (n = 3 ∧ w'.heap[k2]? = w.heap[k2]?) ∧ Turns (fun k => k = k2) w w') h.kb.outer (offer_in (Q := fun n w' => n = 3 ∧ w'.heap[k2]? = w.heap[k2]?) h.kb.inner (hown_rd h.own) h.few h.rises hx h.n12 (fun b off e => ?_) (fun W hW => (add_fault (N := 3) (by decide) (check_fault (N := 3) (by decide) (proofFault_key r0 key v W hr hk))).mono ?_))).mono ?_
  · subst e
    intro e2
    rcases h.own.2 with ⟨hv, _⟩ | ⟨g, cap', cur, hv, _⟩
    · simp at hv
    · simp only [Value.slice.injEq, Option.some.injEq, Addr.mk.injEq] at hv
      exact (h.row g (by simp [Value.ownBlock, hv.1.1])).2.2.1 (by rw [← hv.1.1]; exact e2)
  · rintro e w' ⟨rfl, hb⟩
    exact ⟨_, rfl, ⟨rfl, (hb.block _ (Nat.lt_of_lt_of_le l2 hW.size)).trans (hW.block _ l2)⟩, Turns.of_below hb⟩
  · rintro e w' ⟨n, rfl, ⟨rfl, h2⟩, hb⟩; exact ⟨rfl, hb, h2⟩

end
end Go.Proofs.YtbmohenjphmlgabGreat
