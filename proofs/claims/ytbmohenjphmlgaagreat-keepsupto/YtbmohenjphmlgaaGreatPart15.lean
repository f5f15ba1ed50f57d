/- Part 15 of a proof: what the last text needs. -/
import Derived.Test.YtbmohenjphmlgaaGreatPart14
import Derived.Test.YtbmohenjphmlgaaGreatPart12
import Derived.Lib.Overlaps
import Derived.Lib.AppendZerosOnto
/- A keeper in memory, beside blocks that others write, and what its calls do to it (of the program). -/
namespace Go.Proofs.YtbmohenjphmlgaaGreat
open Go.RowKit
set_option maxRecDepth 100000

/-- A keeper: the heads l and the elements S; the blocks that its calls write are those of own. -/
structure GAt0 (out own : Nat → Prop) (w : World) (k0 k1 k2 k3 base : Nat) (a : Option Addr) (cap : Nat) (F : List UInt8 → Option Value) (l : List (Int × ByteArray)) (S : List (List UInt8)) : Prop where
  outer : w.heap[k0]? = some (.cells #[.pointer (some ⟨k1, 0, none⟩)] 71 (0, 0))
  inner : w.heap[k1]? = some (.cells #[.slice a l.length cap, .pointer (some ⟨k2, 0, none⟩)] 94 (0, 0))
  cell : w.heap[k2]? = some (.cells #[.map (some k3)] 148 (0, 0))
  heads : HOwn w base (.slice a l.length cap) l
  base : base ≤ w.heap.size
  store : StoreAt (fun k => own k ∨ out k) w k3 S F
  lt : ∀ k, out k → k < w.heap.size
  dis : ∀ k, out k → ¬ own k
  own : ∀ k, own k ↔ k = k0 ∨ k = k1 ∨ k = k2 ∨ (Value.slice a l.length cap).ownBlock = some k
  n01 : k0 ≠ k1
  n02 : k0 ≠ k2
  n12 : k1 ≠ k2
  far : ∀ g, (Value.slice a l.length cap).ownBlock = some g → g ≠ k0 ∧ g ≠ k1 ∧ g ≠ k2
  rises : Rises l
  few : l.length ≤ 8
  eight : ∀ q ∈ l, q.2.size = 8
  most : S.length ≤ 200

def GAt (out own : Nat → Prop) (w : World) (k0 : Nat) (l : List (Int × ByteArray)) (S : List (List UInt8)) : Prop := ∃ k1 k2 k3 base a cap F, GAt0 out own w k0 k1 k2 k3 base a cap F l S

theorem gat_lt {out own : Nat → Prop} {w : World} {k0 : Nat} {l : List (Int × ByteArray)} {S : List (List UInt8)} (h : GAt out own w k0 l S) : ∀ k, own k → k < w.heap.size := by
  obtain ⟨k1, k2, k3, base, a, cap, F, h⟩ := h
  intro k hk
  rcases (h.own k).1 hk with rfl | rfl | rfl | hg
  · exact (Array.getElem?_eq_some_iff.1 h.outer).1
  · exact (Array.getElem?_eq_some_iff.1 h.inner).1
  · exact (Array.getElem?_eq_some_iff.1 h.cell).1
  · exact (hown_lt h.heads k hg).2

theorem gat_later {out own : Nat → Prop} {w w' : World} {k0 : Nat} {l : List (Int × ByteArray)} {S : List (List UInt8)} (h : GAt out own w k0 l S) (hb : Below w.heap.size w w') : GAt out own w' k0 l S := by
  obtain ⟨k1, k2, k3, base, a, cap, F, h⟩ := h
  exact ⟨k1, k2, k3, base, a, cap, F, kept_block hb h.outer, kept_block hb h.inner, kept_block hb h.cell, hown_later h.heads hb, Nat.le_trans h.base hb.size, storeAt_later h.store hb, fun k hk => Nat.lt_of_lt_of_le (h.lt k hk) hb.size, h.dis, h.own, h.n01, h.n02, h.n12, h.far, h.rises, h.few, h.eight, h.most⟩

theorem gat_most {out own : Nat → Prop} {w : World} {k0 : Nat} {l : List (Int × ByteArray)} {S : List (List UInt8)} (h : GAt out own w k0 l S) : S.length ≤ 200 := by
  obtain ⟨k1, k2, k3, base, a, cap, F, h⟩ := h
  exact h.most

/-- Open makes a keeper that has nothing. -/
theorem gat_open (w : World) : Calls Tryz.prog 11 #[] w fun e w' => ∃ k0 own, e = .returned (.pointer (some ⟨k0, 0, none⟩)) ∧ GAt (fun k => k < w.heap.size) own w' k0 [] [] ∧ (∀ k, own k → w.heap.size ≤ k) ∧ Below w.heap.size w w' := by
  refine (open_any w).mono ?_
  rintro e w' ⟨rfl, H⟩
  obtain ⟨hk, hb⟩ := H.out
  refine ⟨w.heap.size + 3, fun k => k = w.heap.size + 3 ∨ k = w.heap.size + 2 ∨ k = w.heap.size + 1 ∨ (Value.slice none 0 0).ownBlock = some k, rfl, ⟨w.heap.size + 2, w.heap.size + 1, w.heap.size, w.heap.size, none, 0, fun _ => none, hk.outer, hk.inner, hk.store, hown_nil _ _, hb.size, ⟨⟨.map [], ⟨#[], 0, hk.map, ⟨by simp, MapKept.stamped_empty 0, by simp⟩, Nat.le_refl _, rfl⟩, rfl, fun s => ⟨rfl, fun v h => by cases h⟩⟩, fun h => ?_, Tr.lone_nil, (fun _ _ => rfl), (fun e he => by simp at he)⟩, fun k hk => Nat.lt_of_lt_of_le hk hb.size, fun k hk hk2 => ?_, fun k => Iff.rfl, by omega, by omega, by omega, (fun g hg => by cases hg), List.Pairwise.nil, by simp, (fun q hq => by simp at hq), by simp⟩, fun k hk' => ?_, hb⟩
  · rcases h with (h | h | h | h) | h
    · omega
    · omega
    · omega
    · cases h
    · exact Nat.lt_irrefl _ h
  · rcases hk2 with h | h | h | h
    · omega
    · omega
    · omega
    · cases h
  · rcases hk' with h | h | h | h
    · omega
    · omega
    · omega
    · cases h

/-- Trust of a root at a height that is not taken. -/
theorem gat_trust {out own : Nat → Prop} {w : World} {k0 : Nat} {l : List (Int × ByteArray)} {S : List (List UInt8)} (h : GAt out own w k0 l S) (x : Int) (r : ByteArray) (h1 : 0 ≤ x) (h2 : x ≤ 1000000) (h8 : r.size = 8) (hl : l.length < 8) (hx : ∀ q ∈ l, q.1 ≠ x) (hins : InsOk l x r) :
    Calls Tryz.prog 12 #[.pointer (some ⟨k0, 0, none⟩), .int .i64 x, .string r] w fun e w' => e = .returned (.int .i64 0) ∧ ∃ own' p, p ≤ l.length ∧ (∀ i, (h : i < l.length) → i < p → l[i].1 < x) ∧ (∀ i, (h : i < l.length) → p ≤ i → x < l[i].1) ∧ GAt out own' w' k0 (l.take p ++ (x, r) :: l.drop p) S ∧ (∀ k, own' k → own k ∨ w.heap.size ≤ k) ∧ Turns own w w' := by
  obtain ⟨k1, k2, k3, base, a, cap, F, h⟩ := h
  have hne : (Value.slice a l.length cap).ownBlock ≠ some k1 := fun e => (h.far k1 e).2.1 rfl
  refine (outer_trust h.outer (Q := fun n w' => n = 0 ∧ NewHead w k1 base (.slice a l.length cap) (.pointer (some ⟨k2, 0, none⟩)) l x r w') ((trust_new k1 base a cap l _ x r w h1 h2 h8 h.inner h.heads h.base hne hl h.rises hx hins).mono ?_)).mono ?_
  · rintro e w' ⟨rfl, q⟩
    exact ⟨0, rfl, rfl, q⟩
  · rintro e w' ⟨n, rfl, rfl, v', p, p1, p2, p3, g1, g2, g3, g4, g5⟩
    obtain ⟨a', cap', hv'⟩ := hown_shape g2
    have hnew : ∀ g, v'.ownBlock = some g → (Value.slice a l.length cap).ownBlock = some g ∨ w.heap.size ≤ g := by
      intro g hg
      rcases g3 with e | ⟨q, e, hq⟩
      · left; rw [← e]; exact hg
      · right; rw [e] at hg; cases hg; exact hq
    have hk0 := (Array.getElem?_eq_some_iff.1 h.outer).1
    have hk1 := (Array.getElem?_eq_some_iff.1 h.inner).1
    have hk2 := (Array.getElem?_eq_some_iff.1 h.cell).1
    have n0 : ∀ g, (Value.slice a l.length cap).ownBlock = some g → g ≠ k0 := fun g hg => (h.far g hg).1
    have hlen : (l.take p ++ (x, r) :: l.drop p).length = l.length + 1 := by simp; omega
    have hfar : ∀ g, v'.ownBlock = some g → g ≠ k0 ∧ g ≠ k1 ∧ g ≠ k2 := by
      intro g hg
      rcases hnew g hg with e | e
      · exact h.far g e
      · exact ⟨by omega, by omega, by omega⟩
    subst hv'
    have hst : StoreAt (fun k => (k = k0 ∨ k = k1 ∨ k = k2 ∨ (Value.slice a' (l.take p ++ (x, r) :: l.drop p).length cap').ownBlock = some k) ∨ out k) w' k3 S F := by
      have hs' := storeAt_turns h.store g5.size (fun k hk ho => g5.block k hk (fun hq => ho (.inl ((h.own k).2 (by
        rcases hq with rfl | hq
        · exact .inr (.inl rfl)
        · exact .inr (.inr (.inr hq)))))))
      obtain ⟨q1, q2, q3, q4, q5⟩ := hs'
      have hk3 := mapAt_lt h.store.1
      refine ⟨q1, fun hk => ?_, q3, q4, fun e he => ?_⟩
      · rcases hk with (hk | hk | hk | hk) | hk
        · exact h.store.2.1 (.inl ((h.own k3).2 (.inl hk)))
        · exact h.store.2.1 (.inl ((h.own k3).2 (.inr (.inl hk))))
        · exact h.store.2.1 (.inl ((h.own k3).2 (.inr (.inr (.inl hk)))))
        · rcases hnew k3 hk with e | e
          · exact h.store.2.1 (.inl ((h.own k3).2 (.inr (.inr (.inr e)))))
          · omega
        · exact h.store.2.1 (.inr hk)
      · obtain ⟨v0, t0, lo0, B0, m0, z1, z2, z3, z4, z5, z6⟩ := h.store.2.2.2.2 e he
        refine ⟨v0, t0, lo0, B0, m0, z1, z2, z3, Nat.le_trans z4 g5.size, fun k hk => ?_, rn_turn (Nat.le_refl _) (Nat.le_refl _) (fun k k1' k2' => g5.block k (by omega) (fun hq => ?_)) _ _ _ z6⟩
        · rcases hk with (hk | hk | hk | hk) | hk
          · exact z5 k (.inl ((h.own k).2 (.inl hk)))
          · exact z5 k (.inl ((h.own k).2 (.inr (.inl hk))))
          · exact z5 k (.inl ((h.own k).2 (.inr (.inr (.inl hk)))))
          · rcases hnew k hk with e | e
            · exact z5 k (.inl ((h.own k).2 (.inr (.inr (.inr e)))))
            · right; omega
          · exact z5 k (.inr hk)
        · have := z5 k (.inl ((h.own k).2 (by
            rcases hq with rfl | hq
            · exact .inr (.inl rfl)
            · exact .inr (.inr (.inr hq)))))
          omega
    refine ⟨rfl, _, p, p1, p2, p3, ⟨k1, k2, k3, base, a', cap', F, (g5.block _ hk0 (fun hq => ?_)).trans h.outer, g1, (g5.block _ hk2 (fun hq => ?_)).trans h.cell, g2, Nat.le_trans h.base g5.size, hst, fun k hk => Nat.lt_of_lt_of_le (h.lt k hk) g5.size, fun k hk hk2 => ?_, fun k => Iff.rfl, h.n01, h.n02, h.n12, hfar, ?_, by rw [hlen]; omega, ?_, h.most⟩, ?_, ?_⟩
    · rcases hq with hq | hq
      · exact h.n01 hq
      · exact (h.far _ hq).1 rfl
    · rcases hq with hq | hq
      · exact h.n12 hq.symm
      · exact (h.far _ hq).2.2 rfl
    · rcases hk2 with hk2 | hk2 | hk2 | hk2
      · exact h.dis k hk ((h.own k).2 (.inl hk2))
      · exact h.dis k hk ((h.own k).2 (.inr (.inl hk2)))
      · exact h.dis k hk ((h.own k).2 (.inr (.inr (.inl hk2))))
      · rcases hnew k hk2 with e | e
        · exact h.dis k hk ((h.own k).2 (.inr (.inr (.inr e))))
        · have := h.lt k hk; omega
    · unfold Rises
      have hr := h.rises
      rw [List.pairwise_append]
      refine ⟨List.Pairwise.sublist (List.take_sublist p l) hr, List.pairwise_cons.2 ⟨fun q hq => ?_, List.Pairwise.sublist (List.drop_sublist p l) hr⟩, fun q hq q' hq' => ?_⟩
      · obtain ⟨i, hi, rfl⟩ := List.getElem_of_mem hq
        rw [List.getElem_drop]
        exact p3 _ (by rw [List.length_drop] at hi; omega) (by omega)
      · obtain ⟨i, hi, rfl⟩ := List.getElem_of_mem hq
        have hi' : i < p ∧ i < l.length := by rw [List.length_take] at hi; omega
        have e1 : (l.take p)[i] = l[i]'hi'.2 := List.getElem_take
        rcases List.mem_cons.1 hq' with rfl | hq'
        · rw [e1]; exact p2 i hi'.2 hi'.1
        · obtain ⟨j, hj, rfl⟩ := List.getElem_of_mem hq'
          rw [e1, List.getElem_drop]
          exact h.rises.at (by omega) (by rw [List.length_drop] at hj; omega)
    · intro q hq
      rcases List.mem_append.1 hq with hq | hq
      · exact h.eight q (List.mem_of_mem_take hq)
      · rcases List.mem_cons.1 hq with rfl | hq
        · exact h8
        · exact h.eight q (List.mem_of_mem_drop hq)
    · intro k hk
      rcases hk with hk | hk | hk | hk
      · exact .inl ((h.own k).2 (.inl hk))
      · exact .inl ((h.own k).2 (.inr (.inl hk)))
      · exact .inl ((h.own k).2 (.inr (.inr (.inl hk))))
      · rcases hnew k hk with e | e
        · exact .inl ((h.own k).2 (.inr (.inr (.inr e))))
        · exact .inr e
    · exact g5.wider (fun k _ hk => (h.own k).2 (by
        rcases hk with rfl | hk
        · exact .inr (.inl rfl)
        · exact .inr (.inr (.inr hk))))

/-- Offer, at a height that is trusted. -/
theorem gat_offer {out own : Nat → Prop} {w : World} {k0 : Nat} {l : List (Int × ByteArray)} {S : List (List UInt8)} (h : GAt out own w k0 l S) {x : Int} {r : ByteArray} (hx : (x, r) ∈ l) (key : ByteArray) (a : Option Addr) (cap : Nat) (p : List ByteArray) (hr : SRd w.heap.size w a p) :
    Calls Tryz.prog 18 #[.pointer (some ⟨k0, 0, none⟩), .int .i64 x, .string key, .slice a p.length cap] w fun e w' => e = .returned (.int .i64 ((offerTo S r.data.toList key.data.toList (bl p)).1 : Nat)) ∧ GAt out own w' k0 l (offerTo S r.data.toList key.data.toList (bl p)).2 ∧ Turns own w w' := by
  obtain ⟨k1, k2, k3, base, ha, hcap, F, h⟩ := h
  have hlt := gat_lt ⟨k1, k2, k3, base, ha, hcap, F, h⟩
  refine (outer_offer h.outer (Q := fun n w' => (n = ((offerTo S r.data.toList key.data.toList (bl p)).1 : Nat) ∧ ∃ k3' F', w'.heap[k2]? = some (.cells #[.map (some k3')] 148 (0, 0)) ∧ StoreAt (fun k => own k ∨ out k) w' k3' (offerTo S r.data.toList key.data.toList (bl p)).2 F') ∧ Turns (fun k => k = k2) w w') ?_).mono ?_
  · refine offer_in h.inner (hown_rd h.heads) h.few h.rises hx h.n12 (fun b off e => ?_) (Q := fun n w' => n = ((offerTo S r.data.toList key.data.toList (bl p)).1 : Nat) ∧ ∃ k3' F', w'.heap[k2]? = some (.cells #[.map (some k3')] 148 (0, 0)) ∧ StoreAt (fun k => own k ∨ out k) w' k3' (offerTo S r.data.toList key.data.toList (bl p)).2 F') (fun W hb => ?_)
    · subst e; exact (h.far b rfl).2.2
    · refine (add_any k2 k3 S F r key a cap p W (Nat.le_trans h.most (by decide)) (kept_block hb h.cell) (storeAt_later h.store hb) (fun k hk => Nat.lt_of_lt_of_le (hk.elim (hlt k) (h.lt k)) hb.size) (.inl ((h.own k2).2 (.inr (.inr (.inl rfl))))) (srd_wider (hr.later hb) hb.size)).mono ?_
      rintro e w' ⟨k3', F', rfl, g1, g2, g3⟩
      exact ⟨_, rfl, ⟨rfl, k3', F', g1, g2⟩, g3⟩
  · rintro e w' ⟨n, rfl, ⟨rfl, k3', F', g1, g2⟩, g3⟩
    have hb : ∀ k, k < w.heap.size → k ≠ k2 → w'.heap[k]? = w.heap[k]? := fun k hk hne => g3.block k hk hne
    refine ⟨rfl, ⟨k1, k2, k3', base, ha, hcap, F', (hb _ (Array.getElem?_eq_some_iff.1 h.outer).1 h.n02).trans h.outer, (hb _ (Array.getElem?_eq_some_iff.1 h.inner).1 h.n12).trans h.inner, g1, hown_frame h.heads (fun g hg => hb g (hown_lt h.heads g hg).2 (h.far g hg).2.2), Nat.le_trans h.base g3.size, g2, fun k hk => Nat.lt_of_lt_of_le (h.lt k hk) g3.size, h.dis, h.own, h.n01, h.n02, h.n12, h.far, h.rises, h.few, h.eight, offerTo_most h.most _ _ _⟩, g3.wider (fun k _ hk => (h.own k).2 (.inr (.inr (.inl hk))))⟩

/-- Get, at a height that is trusted. -/
theorem gat_get {out own : Nat → Prop} {w : World} {k0 : Nat} {l : List (Int × ByteArray)} {S : List (List UInt8)} (h : GAt out own w k0 l S) {x : Int} {r : ByteArray} (hx : (x, r) ∈ l) (key : ByteArray) :
    Calls Tryz.prog 20 #[.pointer (some ⟨k0, 0, none⟩), .int .i64 x, .string key] w fun e w' => ∃ s b n, e = .returned (.tuple #[.string s, .bool b, .int .i64 n]) ∧ (∃ N : Nat, n = N ∧ Tr.tell S r.data.toList key.data.toList = (s.data.toList, b, N)) ∧ Below w.heap.size w w' := by
  obtain ⟨k1, k2, k3, base, ha, hcap, F, h⟩ := h
  refine (outer_get h.outer (Q := fun s b n w' => (∃ N : Nat, n = N ∧ Tr.tell S r.data.toList key.data.toList = (s.data.toList, b, N)) ∧ Below w.heap.size w w') ?_).mono ?_
  · exact get_in h.inner (hown_rd h.heads) h.few h.rises hx (Q := fun s b n w' => ∃ N : Nat, n = N ∧ Tr.tell S r.data.toList key.data.toList = (s.data.toList, b, N)) (fun W hb => tell_any k2 k3 S F r key W (h.eight _ hx) (kept_block hb h.cell) (storeAt_later h.store hb))
  · rintro e w' ⟨s, b, n, rfl, q1, q2⟩
    exact ⟨s, b, n, rfl, q1, q2⟩

/-- Get, at a height that is not. -/
theorem gat_lost {out own : Nat → Prop} {w : World} {k0 : Nat} {l : List (Int × ByteArray)} {S : List (List UInt8)} (h : GAt out own w k0 l S) {x : Int} (hx : ∀ q ∈ l, q.1 ≠ x) (key : ByteArray) :
    Calls Tryz.prog 20 #[.pointer (some ⟨k0, 0, none⟩), .int .i64 x, .string key] w fun e w' => e = .returned (.tuple #[.string ⟨#[]⟩, .bool false, .int .i64 10]) ∧ Below w.heap.size w w' := by
  obtain ⟨k1, k2, k3, base, ha, hcap, F, h⟩ := h
  refine (outer_get h.outer (Q := fun s b n w' => (s = ⟨#[]⟩ ∧ b = false ∧ n = 10) ∧ Below w.heap.size w w') ((get_none k1 ha hcap l _ x key w h.inner (hown_rd h.heads) h.few h.rises hx).mono ?_)).mono ?_
  · rintro e w' ⟨rfl, b⟩
    exact ⟨_, _, _, rfl, ⟨rfl, rfl, rfl⟩, b⟩
  · rintro e w' ⟨s, b, n, rfl, ⟨rfl, rfl, rfl⟩, q2⟩
    exact ⟨rfl, q2⟩

theorem gat_kept {out own : Nat → Prop} {w : World} {k0 : Nat} {l : List (Int × ByteArray)} {S : List (List UInt8)} (h : GAt out own w k0 l S) :
    Calls Tryz.prog 19 #[.pointer (some ⟨k0, 0, none⟩)] w fun e w' => e = .returned (.int .i64 S.length) ∧ w' = w := by
  obtain ⟨k1, k2, k3, base, ha, hcap, F, h⟩ := h
  exact kept_any k0 k1 k2 k3 S.length _ F w h.outer h.inner h.cell h.store.1

/-- What others do, in blocks of out: the keeper stays; what is new is not its own. -/
theorem gat_frame {out own : Nat → Prop} {w w' : World} {k0 : Nat} {l : List (Int × ByteArray)} {S : List (List UInt8)} (h : GAt out own w k0 l S) (ht : Turns out w w') : GAt (fun k => out k ∨ (w.heap.size ≤ k ∧ k < w'.heap.size)) own w' k0 l S := by
  have hlt := gat_lt h
  obtain ⟨k1, k2, k3, base, a, cap, F, h⟩ := h
  have hb : ∀ k, own k → w'.heap[k]? = w.heap[k]? := fun k hk => ht.block k (hlt k hk) (fun ho => h.dis k ho hk)
  obtain ⟨q1, q2, q3, q4, q5⟩ := h.store
  have hk3 := mapAt_lt q1
  refine ⟨k1, k2, k3, base, a, cap, F, (hb _ ((h.own _).2 (.inl rfl))).trans h.outer, (hb _ ((h.own _).2 (.inr (.inl rfl)))).trans h.inner, (hb _ ((h.own _).2 (.inr (.inr (.inl rfl))))).trans h.cell, hown_frame h.heads (fun g hg => hb g ((h.own _).2 (.inr (.inr (.inr hg))))), Nat.le_trans h.base ht.size, ⟨mapAt_frame q1 (ht.block k3 hk3 (fun ho => q2 (.inr ho))), fun ho => ?_, q3, q4, fun e he => ?_⟩, fun k hk => ?_, fun k hk hk2 => ?_, h.own, h.n01, h.n02, h.n12, h.far, h.rises, h.few, h.eight, h.most⟩
  · rcases ho with ho | ho | ho
    · exact q2 (.inl ho)
    · exact q2 (.inr ho)
    · omega
  · obtain ⟨v, t, lo, B, m, g1, g2, g3, g4, g5, g6⟩ := q5 e he
    refine ⟨v, t, lo, B, m, g1, g2, g3, Nat.le_trans g4 ht.size, fun k hk => ?_, rn_turn (Nat.le_refl _) (Nat.le_refl _) (fun k k1 k2 => ht.block k (by omega) (fun ho => by have := g5 k (.inr ho); omega)) _ _ _ g6⟩
    rcases hk with hk | hk | hk
    · exact g5 k (.inl hk)
    · exact g5 k (.inr hk)
    · right; omega
  · rcases hk with hk | hk
    · exact Nat.lt_of_lt_of_le (h.lt k hk) ht.size
    · exact hk.2
  · rcases hk with hk | hk
    · exact h.dis k hk hk2
    · have := hlt k hk2; omega

theorem gat_less {out out' own : Nat → Prop} {w : World} {k0 : Nat} {l : List (Int × ByteArray)} {S : List (List UInt8)} (h : GAt out own w k0 l S) (hs : ∀ k, out' k → out k) : GAt out' own w k0 l S := by
  obtain ⟨k1, k2, k3, base, a, cap, F, h⟩ := h
  obtain ⟨q1, q2, q3, q4, q5⟩ := h.store
  refine ⟨k1, k2, k3, base, a, cap, F, h.outer, h.inner, h.cell, h.heads, h.base, ⟨q1, fun ho => q2 (ho.imp_right (hs _)), q3, q4, fun e he => ?_⟩, fun k hk => h.lt k (hs k hk), fun k hk => h.dis k (hs k hk), h.own, h.n01, h.n02, h.n12, h.far, h.rises, h.few, h.eight, h.most⟩
  obtain ⟨v, t, lo, B, m, g1, g2, g3, g4, g5, g6⟩ := q5 e he
  exact ⟨v, t, lo, B, m, g1, g2, g3, g4, fun k hk => g5 k (hk.imp_right (hs _)), g6⟩

theorem gat_facts {out own : Nat → Prop} {w : World} {k0 : Nat} {l : List (Int × ByteArray)} {S : List (List UInt8)} (h : GAt out own w k0 l S) : Rises l ∧ l.length ≤ 8 ∧ (∀ q ∈ l, q.2.size = 8) ∧ Tr.Lone S ∧ (∀ k, out k → k < w.heap.size) ∧ (∀ k, out k → ¬ own k) ∧ (∀ e ∈ S, e.length ≤ 1000 ∧ ∃ t, Tr.reads e = some t) := by
  obtain ⟨k1, k2, k3, base, a, cap, F, h⟩ := h
  refine ⟨h.rises, h.few, h.eight, h.store.2.2.1, h.lt, h.dis, fun e he => ?_⟩
  obtain ⟨v, t, lo, B, m, g1, g2, g3, _⟩ := h.store.2.2.2.2 e he
  exact ⟨g3, t, g2⟩
end Go.Proofs.YtbmohenjphmlgaaGreat

/- A head is put behind all others (of the program). -/
namespace Go.Proofs.YtbmohenjphmlgaaGreat
open Go.RowKit
set_option maxRecDepth 100000

set_option maxHeartbeats 1600000 in
theorem insert_end (l : List (Int × ByteArray)) (x : Int) (r : ByteArray) (hl : l.length ≤ 1000) (hend : ∀ q ∈ l, q.1 < x) : InsOk l x r := by
  intro w base g p v ho hB hg hne hp h1 h2
  obtain rfl : p = l.length := by
    rcases Nat.lt_or_ge p l.length with h | h
    · have := h2 p h (Nat.le_refl _)
      have := hend _ (List.getElem_mem h)
      omega
    · omega
  obtain ⟨i0, hi, hz0, hz1, hz2⟩ := info_parts infoHead
  have HO := hid ho
  have HG := hid hg
  have HEQ : Hid (l.take l.length ++ (x, r) :: l.drop l.length = l ++ [(x, r)]) := by rw [Hid, List.take_length, List.drop_length]
  rw [HEQ.out]
  have HEND : Hid (∀ v' w', World.ownsRow w' base 99 2 v' (l.length + 1) (hcells l ++ [.int .i64 x, .string r]) → HOwn w' base v' (l ++ [(x, r)])) := fun v' w' h => by
    unfold HOwn
    rw [List.length_append, hcells_append]
    exact h
  rcases ho.2 with ⟨rfl, h0⟩ | ⟨g', cap, cur, rfl, hbg, hg', hn, hcm, hcs, htk⟩
  · obtain rfl : l = [] := List.eq_nil_of_length_eq_zero h0
    clear ho hg hne hp h1 h2 hend h0
    go_enter Tryz.func54, Tryz.ntmps54
    go_wp2_with (at_builtin; refine wpList_append_mine _ rfl (.tmp 23) (.tmp 24) 51 rfl base 99 i0 _ 2 24 Tryz.underlying51 hi hz0 hz1 hz2 rfl (by decide) (.slice none 0 0) 0 [] rfl HO.out ⟨g, 0, none⟩ 1 1 [.int .i64 x, .string r] rfl rfl (cells_row2 HG.out) (by simp [Value.oneCell']) (by decide) (by decide) hB ?_; intro v' w' ho' hg' hnw)
    go_ret
    exact ⟨v', rfl, HEND.out v' w' ho', hg', hnw⟩
  · have HLC := hid (hcells_len l)
    have i1 : (0 : Int) ≤ (l.length : Int) := by omega
    have i2 : (l.length : Int) ≤ (cap : Int) := by omega
    unfold HOwn at HO
    clear ho hg hne hp h1 h2 hend hg' hcs htk hcm HEQ
    generalize hcells l = hc at *
    generalize l.length = n at *
    go_enter Tryz.func54, Tryz.ntmps54
    go_wp2_with (at_builtin; refine wpList_append_mine _ rfl (.tmp 23) (.tmp 24) 51 rfl base 99 i0 _ 2 24 Tryz.underlying51 hi hz0 hz1 hz2 rfl (by decide) (.slice (some ⟨g', 0, none⟩) n cap) n hc rfl HO.out ⟨g, 0, none⟩ 1 1 [.int .i64 x, .string r] rfl rfl (cells_row2 HG.out) (by simp [Value.oneCell']) (by unfold maxLen; omega) (by omega) hB ?_; intro v' w' ho' hg' hnw)
    all_goals go_ret
    all_goals exact ⟨v', rfl, HEND.out v' w' ho', hg', hnw⟩
end Go.Proofs.YtbmohenjphmlgaaGreat

/- A head is put among others, where there is room (of the program). -/
namespace Go.Proofs.YtbmohenjphmlgaaGreat
open Go.RowKit
set_option maxRecDepth 100000

/-- Heads are copied. -/
theorem run_copy_heads (w : World) (ty : TypeId) (b o dLen dCap : Nat) (a : Addr) (sLen sCap : Nat) (cs : List Value) (hn : cs.length = Nat.min sLen dLen * 2)
    (hsrc : ∀ j v, cs[j]? = some v → w.cell? (a.add j) = some v) {cur : Array Value} (hg : w.heap[b]? = some (.cells cur 99 (0, 0))) (hc : o + cs.length ≤ cur.size) (h1 : ∀ v ∈ cs, v.oneCell' = true) :
    (Builtin.copy_ #[51, 51] ty #[.slice (some ⟨b, o, none⟩) dLen dCap, .slice (some a) sLen sCap]).run Tryz.prog w = .ok (goInt (Nat.min sLen dLen)) (w.setCells b o cs) := by
  have hl := run_loadCells_list (P := Tryz.prog) w a cs hsrc
  have hst := run_storeCells_cells (P := Tryz.prog) b o cs 0 w (fun j hj => by rw [cell_of_row _ _ _ _ _ _ hg, Array.getElem?_eq_getElem (by omega)]; rfl) (fun j hj => frozen_of_row _ _ _ _ _ hg) h1
  simp only [Nat.add_zero] at hst
  obtain ⟨i0, hi, hz0, hz1, hz2⟩ := info_parts infoHead
  simp [Builtin.copy_, run_underlying Tryz.underlying51, Builtin.lenOf, Builtin.firstCells, sizeOf, typeInfo, hi, hz1, ← hn, hl, hst]

theorem wp_copy_runH (w : World) {o : Oper} {a : Act} {K : Act → World → Prop} {Q : Exit → Act → World → Prop} (d s : Operand)
    (ho : o.op = .call { callee := .builtin .copy, args := #[d, s], argTypes := #[51, 51] }) (v u : Value) (hd : a.eval d = v) (hs : a.eval s = u) {v' : Value} {w' : World}
    (hr : (Builtin.copy_ #[51, 51] o.type #[v, u]).run Tryz.prog w = .ok v' w') (h : K (a.put o.dst v') w') : o.wp Tryz.prog a w K Q := by
  unfold Oper.wp execOp
  simp only [ho, resolve, invoke, builtin, Sem.run_bind, Sem.run_pure, Result.andThen_ok, List.map_toArray, List.map_cons, List.map_nil, hd, hs, hr]
  exact h

/-- What lies in the block when heads from p on were moved up by one and a head was put there. -/
theorem shift_block {w : World} {g cap : Nat} {cur : Array Value} {l : List (Int × ByteArray)} {p : Nat} {x : Int} {r : ByteArray} (h : w.heap[g]? = some (.cells cur 99 (0, 0))) (hp : p ≤ l.length) (hn : l.length + 1 ≤ cap) (hcs : cur.size = cap * 2) (ht : cur.toList.take (l.length * 2) = hcells l) :
    ∃ cur', ((w.setCells g ((p + 1) * 2) (hcells (l.drop p))).setCells g (p * 2) [.int .i64 x, .string r]).heap[g]? = some (.cells cur' 99 (0, 0)) ∧ cur'.size = cap * 2 ∧ cur'.toList.take ((l.length + 1) * 2) = hcells (l.take p ++ (x, r) :: l.drop p) := by
  have hl1 : (hcells (l.drop p)).length = (l.length - p) * 2 := by rw [hcells_len, List.length_drop]
  obtain ⟨c1, h1, e1⟩ := block_setCells g (hcells (l.drop p)) ((p + 1) * 2) w cur h (by omega)
  have hc0 : cur.toList.length = cap * 2 := by rw [Array.length_toList]; exact hcs
  have hc1l : c1.toList.length = cap * 2 := by
    rw [e1]
    simp only [List.length_append, List.length_take, List.length_drop, hc0]
    omega
  obtain ⟨c2, h2, e2⟩ := block_setCells g [.int .i64 x, .string r] (p * 2) _ c1 h1 (by rw [← Array.length_toList, hc1l]; simp only [List.length_cons, List.length_nil]; omega)
  refine ⟨c2, h2, ?_, ?_⟩
  · rw [← Array.length_toList, e2]
    simp only [List.length_append, List.length_take, List.length_drop, hc1l, List.length_cons, List.length_nil]
    omega
  · have e3 : cur.toList.take (p * 2) = hcells (l.take p) := by
      rw [← hcells_take, ← ht, List.take_take, Nat.min_eq_left (by omega)]
    have e4 : c1.toList.take (p * 2) = hcells (l.take p) := by
      rw [e1, List.append_assoc, List.take_append_of_le_length (by rw [List.length_take, hc0]; omega), List.take_take, Nat.min_eq_left (by omega), e3]
    have e5 : c1.toList.drop ((p + 1) * 2) = hcells (l.drop p) ++ cur.toList.drop ((p + 1) * 2 + (hcells (l.drop p)).length) := by
      rw [e1, List.append_assoc, List.drop_append_of_le_length (by rw [List.length_take, hc0]; omega), List.drop_of_length_le (by rw [List.length_take, hc0]; omega), List.nil_append]
    rw [e2, e4]
    have e6 : p * 2 + [Value.int .i64 x, Value.string r].length = (p + 1) * 2 := by simp only [List.length_cons, List.length_nil]; omega
    rw [e6, e5]
    have e7 : hcells (l.take p ++ (x, r) :: l.drop p) = hcells (l.take p) ++ [.int .i64 x, .string r] ++ hcells (l.drop p) := by
      rw [hcells_append]
      show hcells (l.take p) ++ (.int .i64 x :: .string r :: hcells (l.drop p)) = _
      simp
    rw [e7, ← List.append_assoc]
    have e8 : (l.length + 1) * 2 = (hcells (l.take p) ++ [Value.int .i64 x, Value.string r] ++ hcells (l.drop p)).length := by
      simp only [List.length_append, hcells_len, List.length_take, List.length_drop, List.length_cons, List.length_nil]
      omega
    rw [e8]
    exact List.take_left

theorem cells_from {w : World} {g p : Nat} {cur : Array Value} {l : List (Int × ByteArray)} (h : w.heap[g]? = some (.cells cur 99 (0, 0))) (ht : cur.toList.take (l.length * 2) = hcells l) : ∀ j u, (hcells (l.drop p))[j]? = some u → w.cell? ((⟨g, p * 2, none⟩ : Addr).add j) = some u := slice_cells h ht (fun _ => rfl)

set_option maxHeartbeats 6400000 in
theorem insert_room (base g g' cap p : Nat) (l : List (Int × ByteArray)) (x : Int) (r : ByteArray) (w : World) (ho : HOwn w base (.slice (some ⟨g', 0, none⟩) l.length cap) l) (hg : w.heap[g]? = some (.cells #[.int .i64 x, .string r] 99 (0, 0))) (hne : g' ≠ g) (hp : p < l.length) (hl : l.length ≤ 1000) (hroom : l.length + 1 ≤ cap) :
    Calls Tryz.prog 54 #[.slice (some ⟨g', 0, none⟩) l.length cap, .int .i64 p, .slice (some ⟨g, 0, none⟩) 1 1] w fun e w' => e = .returned (.slice (some ⟨g', 0, none⟩) (l.length + 1) cap) ∧ HOwn w' base (.slice (some ⟨g', 0, none⟩) (l.length + 1) cap) (l.take p ++ (x, r) :: l.drop p) ∧ Turns (fun k => k = g') w w' := by
  rcases ho.2 with ⟨hv, _⟩ | ⟨g2, cap2, cur, hv, hbg, hcg, hnc, hcm, hcs, htk⟩
  · cases hv
  simp only [Value.slice.injEq, Option.some.injEq, Addr.mk.injEq, and_true, true_and] at hv
  obtain ⟨rfl, rfl⟩ := hv
  obtain ⟨n, hn⟩ : ∃ n, n = l.length := ⟨_, rfl⟩
  have HSB := hid (shift_block (w := w.drew) (x := x) (r := r) hcg (Nat.le_of_lt hp) hroom hcs htk)
  have HLD : Hid ((hcells (l.drop p)).length = (n - p) * 2) := by rw [Hid, hcells_len, List.length_drop, hn]
  have hov : ∀ lb cb, (callFunc 94 #[.slice (some ⟨g, 0, none⟩) 1 1, .slice (some ⟨g', (p + 1) * 2, none⟩) lb cb]).run Tryz.prog w = .ok (.value (.bool false)) w := fun lb cb => by
    rw [run_callFunc_extern Tryz.func94 (by kernel_rfl) (by kernel_rfl) (by kernel_rfl) (e := Extern.SlicesOverlaps.overlaps #[51, 51] #[4]) (by kernel_rfl),
      Lib.run_overlaps_apart w 51 4 99 Tryz.underlying51 2 Tryz.sizeOf99 ⟨g, 0, none⟩ ⟨g', (p + 1) * 2, none⟩ 1 1 lb cb (fun e => hne e.symm) 99 99 2 cur.size (by simp [World.shape?, hg]) (by simp [World.shape?, hcg]) (by omega) (frozen_of_row _ _ _ _ _ hg) (frozen_of_row _ _ _ _ _ hg)]
    rfl
  have HC1 := hid (fun ty dc sc => run_copy_heads w.drew ty g' ((p + 1) * 2) (n + 1 - (p + 1)) dc ⟨g', p * 2, none⟩ (n + 1 - p) sc (hcells (l.drop p)) (by rw [HLD.out]; simp only [Nat.min_def]; split <;> omega) (cells_from hcg htk) hcg (by rw [HLD.out, hcs]; omega) (hcells_one _))
  obtain ⟨c1, hc1, hs1⟩ := block_setCells (e := 99) g' (hcells (l.drop p)) ((p + 1) * 2) w.drew cur hcg (by rw [HLD.out, hcs]; omega)
  have hc0 : cur.toList.length = cap * 2 := by rw [Array.length_toList]; exact hcs
  have hc1l : c1.size = cap * 2 := by
    rw [← Array.length_toList, hs1]
    simp only [List.length_append, List.length_take, List.length_drop, hc0, HLD.out]
    omega
  have HG1 : Hid ((w.drew.setCells g' ((p + 1) * 2) (hcells (l.drop p))).heap[g]? = some (.cells #[.int .i64 x, .string r] 99 (0, 0))) := ((setCells_turns g' w.drew _ _).block g (Array.getElem?_eq_some_iff.1 hg).1 (fun e => hne e.symm)).trans hg
  have HC2 := hid (fun ty dc => run_copy_heads (w.drew.setCells g' ((p + 1) * 2) (hcells (l.drop p))) ty g' (p * 2) (n + 1 - p) dc ⟨g, 0, none⟩ 1 1 [.int .i64 x, .string r] (by simp only [Nat.min_def]; split <;> (simp <;> omega)) (cells_row2 HG1.out) hc1 (by simp only [List.length_cons, List.length_nil]; omega) (by simp [Value.oneCell']))
  have HT : Hid (Turns (fun k => k = g') w ((w.drew.setCells g' ((p + 1) * 2) (hcells (l.drop p))).setCells g' (p * 2) [.int .i64 x, .string r])) := by
    have h0 : Turns (fun k => k = g') w w.drew := ⟨rfl, rfl, rfl, Nat.le_refl _, fun _ _ _ => rfl⟩
    exact (h0.trans (setCells_turns g' _ _ _)).trans (setCells_turns g' _ _ _)
  have HLE : Hid ((l.take p ++ (x, r) :: l.drop p).length = n + 1) := by rw [Hid, hn]; simp; omega
  have HBS := hid (And.intro hbg hcm)
  rw [← hn] at HSB hp hl hroom hnc ⊢
  clear ho hg hcg hcs htk hcm hbg hn hc1 hs1 hc0 hc1l HG1
  have j0 : ¬ (1 : Int) = 0 := by omega
  have j1 : (p : Int) ≤ (n : Int) := by omega
  have j2 : ¬ (p : Int) = (n : Int) := by omega
  have j3 : ¬ (cap : Int) < (n : Int) + 1 := by omega
  have j4 : (n : Int) + 1 ≤ (cap : Int) := by omega
  have j5 : (p : Int) + 1 ≤ (n : Int) + 1 := by omega
  have j6 : (0 : Int) ≤ (p : Int) := by omega
  have j7 : ¬ cap ≤ p + 1 := by omega
  have j8 : ¬ cap ≤ p := by omega
  have j9 : ¬ cap = p + 1 := by omega
  have j10 : ¬ cap = p := by omega
  have j11 : p ≤ n := by omega
  have j12 : p + 1 ≤ n + 1 := by omega
  have j13 : p ≤ n + 1 := by omega
  have hw1 : IntKind.i64.wrap ((p : Int) + 1) = (p : Int) + 1 := by rw [IntKind.wrap_i64]; omega
  have hw2 : ((p : Int) + 1).toNat = p + 1 := by omega
  have k1 : ¬ (n : Int) + 1 < (p : Int) := by omega
  have k2 : ¬ (n : Int) < (p : Int) := by omega
  have k3 : (0 : Int) ≤ (p : Int) + 1 := by omega
  generalize hHD : hcells (l.drop p) = HD at *
  go_enter Tryz.func54, Tryz.ntmps54
  go_wp2_with (simp only [hov])
  have hS : (fun _ : World => True) w.drew := trivial
  refine wp_region_held_drew (S := fun _ => True) (by kernel_rfl) hS (fun _ => ?_)
  refine wpAnyH_take (i := 0) (v := .slice (some ⟨g', 0, none⟩) (n + 1) cap) rfl (by kernel_rfl) (by kernel_rfl) (by kernel_rfl) (fun _ _ _ h => h) (Or.inl ⟨by kernel_rfl, ?_⟩) hS ?_
  · (intro w' hSw; go_simp)
  try simp only [Act.put]
  refine wpAnyH_take (i := 1) (v := .int .i64 p) rfl (by kernel_rfl) (by kernel_rfl) (by kernel_rfl) (fun _ _ _ h => h) (Or.inl ⟨by kernel_rfl, ?_⟩) hS ?_
  · (intro w' hSw; go_simp)
  try simp only [Act.put]
  refine wpAnyH_take (i := 2) (v := .int .i64 1) rfl (by kernel_rfl) (by kernel_rfl) (by kernel_rfl) (fun _ _ _ h => h) (Or.inl ⟨by kernel_rfl, ?_⟩) hS ?_
  · (intro w' hSw; go_simp)
  try simp only [Act.put]
  refine wpAnyH_take (i := 3) (v := .int .i64 ((p : Int) + 1)) rfl (by kernel_rfl) (by kernel_rfl) (by kernel_rfl) (fun _ _ _ h => h) (Or.inl ⟨by kernel_rfl, ?_⟩) hS ?_
  · (intro w' hSw; go_simp)
  try simp only [Act.put]
  refine wpAnyH_take (i := 4) (v := .slice (some ⟨g', (p + 1) * 2, none⟩) (n + 1 - (p + 1)) (cap - (p + 1))) rfl (by kernel_rfl) (by kernel_rfl) (by kernel_rfl) (fun _ _ _ h => h) (Or.inl ⟨by kernel_rfl, ?_⟩) hS ?_
  · (intro w' hSw; go_simp)
  try simp only [Act.put]
  refine wpAnyH_take (i := 5) (v := .slice (some ⟨g', 0, none⟩) (n + 1) cap) rfl (by kernel_rfl) (by kernel_rfl) (by kernel_rfl) (fun _ _ _ h => h) (Or.inl ⟨by kernel_rfl, ?_⟩) hS ?_
  · (intro w' hSw; go_simp)
  try simp only [Act.put]
  refine wpAnyH_take (i := 6) (v := .int .i64 p) rfl (by kernel_rfl) (by kernel_rfl) (by kernel_rfl) (fun _ _ _ h => h) (Or.inl ⟨by kernel_rfl, ?_⟩) hS ?_
  · (intro w' hSw; go_simp)
  try simp only [Act.put]
  refine wpAnyH_take (i := 7) (v := .slice (some ⟨g', p * 2, none⟩) (n + 1 - p) (cap - p)) rfl (by kernel_rfl) (by kernel_rfl) (by kernel_rfl) (fun _ _ _ h => h) (Or.inl ⟨by kernel_rfl, ?_⟩) hS ?_
  · (intro w' hSw; go_simp)
  try simp only [Act.put]
  refine wpAnyH_ready (rs := [8]) (by kernel_rfl) (by simp) ?_
  refine AllReadyH.cons rfl (fun K hK => ?_) AllReadyH.nil
  dsimp only [getElem?_def, Array.getElem?_toList, List.getElem_toArray, List.getElem_cons_succ, List.getElem_cons_zero]
  simp only [List.setIfInBounds_toArray, List.set_cons_succ, List.set_cons_zero]
  rw [if_pos (by simp [Region.wanted])]
  refine wp_copy_runH _ (.tmp 73) (.tmp 76) rfl (.slice (some ⟨g', (p + 1) * 2, none⟩) (n + 1 - (p + 1)) (cap - (p + 1))) (.slice (some ⟨g', p * 2, none⟩) (n + 1 - p) (cap - p)) ?_ ?_ (HC1.out _ _ _) ?_
  · rfl
  · rfl
  refine hK.out _ _ trivial (fun _ => ?_)
  clear hK K hS
  try simp only [Act.put]
  refine wpAnyH_done (by kernel_rfl) ?_ _
  generalize hW : w.drew.setCells g' ((p + 1) * 2) HD = W at *
  go_wp2_with fail
  rw [HC2.out]
  simp only [Result.andThen]
  rw [Oper.upon_value]
  go_wp2_with fail
  go_ret
  obtain ⟨cur', q1, q2, q3⟩ := HSB.out
  exact ⟨rfl, ⟨hcells_len _, .inr ⟨g', cap, cur', by rw [HLE.out], HBS.out.1, q1, by rw [HLE.out]; omega, HBS.out.2, q2, by rw [HLE.out]; exact q3⟩⟩, HT.out⟩
end Go.Proofs.YtbmohenjphmlgaaGreat
