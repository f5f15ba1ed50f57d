/- Part 24 of a proof: what the last text needs. -/
import Derived.Test.YtbmohenjphmlgaaGreatPart21
import Derived.Test.YtbmohenjphmlgaaGreatPart23
import Derived.ArgAppend
import Derived.Test.YtbmohenjphmlgaaGreatPart22
import Derived.Test.YtbmohenjphmlgaaGreatPart16
/- What a keeper has that was offered proofs of a table, and what it tells: no two elements have the same sum. -/
namespace Go.Proofs.YtbmohenjphmlgaaGreat
set_option maxRecDepth 100000

/-- Elements of which no two have the same sum. -/
def Apart2 (W : List ByteArray) : Prop := ∀ a ∈ W, ∀ b ∈ W, Tr.sum a.data.toList = Tr.sum b.data.toList → a = b

theorem bl_mem {l : List ByteArray} {s : List UInt8} : s ∈ bl l ↔ ∃ x ∈ l, x.data.toList = s := by
  unfold bl
  rw [List.mem_map]

theorem withB_mem {A : List ByteArray} {s x : ByteArray} : x ∈ withB A s ↔ x ∈ A ∨ x = s := by
  unfold withB
  split
  · rename_i h
    obtain ⟨y, hy, rfl⟩ := h
    constructor
    · exact fun h => .inl h
    · rintro (h | rfl)
      · exact h
      · exact hy
  · simp

theorem withs_mem (P : List ByteArray) : ∀ {A : List ByteArray} {x : ByteArray}, x ∈ P.foldl withB A ↔ x ∈ A ∨ x ∈ P := by
  induction P with
  | nil => intro A x; simp
  | cons s P ih =>
    intro A x
    rw [List.foldl_cons, ih, withB_mem, List.mem_cons]
    constructor
    · rintro ((h | h) | h)
      · exact .inl h
      · exact .inr (.inl h)
      · exact .inr (.inr h)
    · rintro (h | h | h)
      · exact .inl (.inl h)
      · exact .inl (.inr h)
      · exact .inr h

theorem allB_mem {l : List (ByteArray × ByteArray)} {keys : List ByteArray} {x : ByteArray} : x ∈ allB l keys ↔ ∃ k ∈ keys, x ∈ proofB l (shortB k 6) := by
  unfold allB
  have : ∀ (ks : List ByteArray) (A : List ByteArray), x ∈ ks.foldl (fun A k => (proofB l (shortB k 6)).foldl withB A) A ↔ x ∈ A ∨ ∃ k ∈ ks, x ∈ proofB l (shortB k 6) := by
    intro ks
    induction ks with
    | nil => intro A; simp
    | cons k ks ih =>
      intro A
      rw [List.foldl_cons, ih, withs_mem]
      constructor
      · rintro ((h | h) | ⟨k', hk', h⟩)
        · exact .inl h
        · exact .inr ⟨k, List.mem_cons_self .., h⟩
        · exact .inr ⟨k', List.mem_cons_of_mem _ hk', h⟩
      · rintro (h | ⟨k', hk', h⟩)
        · exact .inl (.inl h)
        · rcases List.mem_cons.1 hk' with rfl | hk'
          · exact .inl (.inr h)
          · exact .inr ⟨k', hk', h⟩
  have := this keys []
  simpa using this

theorem with_add {W A : List ByteArray} {s : ByteArray} (hW : Apart2 W) (hA : ∀ x ∈ A, x ∈ W) (hs : s ∈ W) : bl (withB A s) = Tr.add (bl A) s.data.toList := by
  unfold withB Tr.add
  by_cases h : ∃ x ∈ A, x = s
  · obtain ⟨x, hx, rfl⟩ := h
    rw [if_pos ⟨x, hx, rfl⟩]
    obtain ⟨e, he⟩ := Tr.find_mem (S := bl A) (bl_mem.2 ⟨x, hx, rfl⟩)
    rw [he]; rfl
  · rw [if_neg h]
    have : Tr.find (bl A) (Tr.sum s.data.toList) = none := by
      rw [Tr.find_none]
      intro e he hsum
      obtain ⟨x, hx, rfl⟩ := bl_mem.1 he
      exact h ⟨x, hx, hW x (hA x hx) s hs hsum⟩
    rw [this, if_neg (by decide), bl_append]
    rfl

theorem withs_add {W : List ByteArray} (hW : Apart2 W) : ∀ (P A : List ByteArray), (∀ x ∈ A, x ∈ W) → (∀ x ∈ P, x ∈ W) → bl (P.foldl withB A) = Tr.addAll (bl A) (bl P) := by
  intro P
  induction P with
  | nil => intro A _ _; rfl
  | cons s P ih =>
    intro A hA hP
    rw [List.foldl_cons, ih (withB A s) (fun x hx => ?_) (fun x hx => hP x (List.mem_cons_of_mem _ hx)), with_add hW hA (hP s (List.mem_cons_self ..))]
    · rfl
    · rcases withB_mem.1 hx with h | h
      · exact hA x h
      · rw [h]; exact hP s (List.mem_cons_self ..)

theorem lone_withs {W : List ByteArray} (hW : Apart2 W) (P A : List ByteArray) (hA : ∀ x ∈ A, x ∈ W) (hP : ∀ x ∈ P, x ∈ W) (hl : Tr.Lone (bl A)) : Tr.Lone (bl (P.foldl withB A)) := by
  rw [withs_add hW P A hA hP]
  exact Tr.addAll_lone _ hl

theorem allB_lone {l : List (ByteArray × ByteArray)} {W : List ByteArray} (hW : Apart2 W) : ∀ keys : List ByteArray, (∀ x ∈ allB l keys, x ∈ W) → Tr.Lone (bl (allB l keys)) := by
  intro keys h
  unfold allB
  have : ∀ (ks : List ByteArray) (A : List ByteArray), (∀ x ∈ A, x ∈ W) → Tr.Lone (bl A) → (∀ k ∈ ks, ∀ x ∈ proofB l (shortB k 6), x ∈ W) → Tr.Lone (bl (ks.foldl (fun A k => (proofB l (shortB k 6)).foldl withB A) A)) := by
    intro ks
    induction ks with
    | nil => intro A _ hl _; exact hl
    | cons k ks ih =>
      intro A hA hl hk
      rw [List.foldl_cons]
      refine ih _ (fun x hx => ?_) (lone_withs hW _ _ hA (hk k (List.mem_cons_self ..)) hl) (fun k' hk' => hk k' (List.mem_cons_of_mem _ hk'))
      rcases (withs_mem _).1 hx with h | h
      · exact hA x h
      · exact hk k (List.mem_cons_self ..) x h
  exact this keys [] (fun x hx => by simp at hx) List.Pairwise.nil (fun k hk x hx => h x (allB_mem.2 ⟨k, hk, hx⟩))

/-- What a proof of a table tells. -/
theorem table_loop {l : List (ByteArray × ByteArray)} (hf : Fine l) {key : ByteArray} : ∃ w', Tr.vloop 0 ⟨Tr.digits key.data.toList, false, [], false, (rootB l).data.toList⟩ (bl (proofB l key)) = some w' ∧ w'.need = [] ∧ w'.value = (valB l key).data.toList ∧ w'.found = !(valB l key).data.toList.isEmpty := by
  rw [proofB_bl, valB_value]
  obtain ⟨w, h1, h2, h3, h4⟩ := Tr.prove_loop (lists l) key.data.toList (fine_lists hf).1 (fine_lists hf).2
  exact ⟨w, h1, h2, h3, h4⟩

theorem rootB_ne (l : List (ByteArray × ByteArray)) : (rootB l).data.toList ≠ [] := by
  intro h
  have := rootB_size l
  rw [← ba_len, h] at this
  simp at this

/-- What was proved is told. -/
theorem tell_proved {l : List (ByteArray × ByteArray)} (hf : Fine l) {key : ByteArray} (hk : key.size ≤ 6) {S : List (List UInt8)} (hS : ∀ s ∈ bl (proofB l key), Tr.find S (Tr.sum s) = some s) : Tr.tell S (rootB l).data.toList key.data.toList = ((valB l key).data.toList, !(valB l key).data.toList.isEmpty, 0) := by
  obtain ⟨w', h1, h2, h3, h4⟩ := table_loop hf (key := key)
  unfold Tr.tell
  rw [if_neg (by rw [ba_len]; omega), Tr.tellR_found (by rw [bl_len]; exact Nat.le_trans (proofB_len hf key) (by decide)) h1 (rootB_ne l) h2 hS]
  show (w'.value, w'.found, 0) = _
  rw [h3, h4]

/-- What was not, is told as it is, or it is not known. -/
theorem tell_other {l : List (ByteArray × ByteArray)} (hf : Fine l) {key : ByteArray} (hk : key.size ≤ 6) {S : List (List UInt8)} (hS : ∀ s ∈ bl (proofB l key), ∀ e ∈ S, Tr.sum e = Tr.sum s → e = s) : Tr.tell S (rootB l).data.toList key.data.toList = ((valB l key).data.toList, !(valB l key).data.toList.isEmpty, 0) ∨ Tr.tell S (rootB l).data.toList key.data.toList = ([], false, 11) := by
  obtain ⟨w', h1, h2, h3, h4⟩ := table_loop hf (key := key)
  unfold Tr.tell
  rw [if_neg (by rw [ba_len]; omega)]
  rcases Tr.tellR_loop h1 (rootB_ne l) h2 hS with h | h
  · right; rw [h]; rfl
  · left
    rw [h]
    show (w'.value, w'.found, 0) = _
    rw [h3, h4]

/-- A proof of a table is taken in. -/
theorem offer_proved {l : List (ByteArray × ByteArray)} (hf : Fine l) {key : ByteArray} (hk : key.size ≤ 6) {S : List (List UInt8)} (hS : S.length ≤ 186) : offerTo S (rootB l).data.toList key.data.toList (bl (proofB l key)) = (0, Tr.addAll S (bl (proofB l key))) := by
  have hv : Tr.verify (rootB l).data.toList key.data.toList (bl (proofB l key)) = ((valB l key).data.toList, !(valB l key).data.toList.isEmpty, 0) := by
    rw [proofB_bl, valB_value]
    exact Tr.verify_prove (lists l) key.data.toList (fine_lists hf).1 (fine_lists hf).2 (by rw [ba_len]; exact hk)
  unfold offerTo
  rw [hv, if_neg (by simp), if_neg]
  have h1 := Tr.addAll_len (bl (proofB l key)) S
  rw [bl_len] at h1
  have := proofB_len hf key
  omega

/-- What a keeper has that was offered the proofs for the first keys. -/
theorem shared_next {l : List (ByteArray × ByteArray)} {keys W : List ByteArray} (hW : Apart2 W) (hall : ∀ x ∈ allB l keys, x ∈ W) {m : Nat} (hm : m < keys.length) : Tr.addAll (bl (allB l (keys.take m))) (bl (proofB l (shortB keys[m] 6))) = bl (allB l (keys.take (m + 1))) := by
  rw [List.take_succ_eq_append_getElem hm, allB_snoc, withs_add hW]
  · intro x hx
    obtain ⟨k, hk, hp⟩ := allB_mem.1 hx
    exact hall x (allB_mem.2 ⟨k, List.mem_of_mem_take hk, hp⟩)
  · intro x hx
    exact hall x (allB_mem.2 ⟨keys[m], List.getElem_mem hm, hx⟩)

theorem shared_found {l : List (ByteArray × ByteArray)} {keys W : List ByteArray} (hW : Apart2 W) (hall : ∀ x ∈ allB l keys, x ∈ W) {k : ByteArray} (hk : k ∈ keys) : ∀ s ∈ bl (proofB l (shortB k 6)), Tr.find (bl (allB l keys)) (Tr.sum s) = some s := by
  intro s hs
  obtain ⟨x, hx, rfl⟩ := bl_mem.1 hs
  exact (allB_lone hW keys hall).find (bl_mem.2 ⟨x, allB_mem.2 ⟨k, hk, hx⟩, rfl⟩)

theorem shared_apart {l : List (ByteArray × ByteArray)} {keys W : List ByteArray} (hW : Apart2 W) (hall : ∀ x ∈ allB l keys, x ∈ W) {key : ByteArray} (hk : ∀ x ∈ proofB l key, x ∈ W) : ∀ s ∈ bl (proofB l key), ∀ e ∈ bl (allB l keys), Tr.sum e = Tr.sum s → e = s := by
  intro s hs e he h
  obtain ⟨x, hx, rfl⟩ := bl_mem.1 hs
  obtain ⟨y, hy, rfl⟩ := bl_mem.1 he
  rw [hW y (hall y hy) x (hk x hx) h]
end Go.Proofs.YtbmohenjphmlgaaGreat

/- The walks of slices.Delete at heads, and of roots (of the program). -/
namespace Go.Proofs.YtbmohenjphmlgaaGreat
open Go.RowKit
set_option maxRecDepth 100000

theorem set_take_drop {α : Type} (l : List α) (o : Nat) (v : α) (h : o < l.length) (n : Nat) : (l.set o v).take (o + 1) = l.take o ++ [v] ∧ (l.set o v).drop (o + 1 + n) = l.drop (o + 1 + n) := by
  constructor
  · rw [List.take_succ_eq_append_getElem (by rw [List.length_set]; exact h), List.take_set_of_le (Nat.le_refl _), List.getElem_set_self]
  · rw [List.drop_set, if_pos (by omega)]

/-- What lies in a block behind some stores. -/
theorem block_setCells {e : TypeId} (g : Nat) : ∀ (xs : List Value) (o : Nat) (w : World) (cur : Array Value), w.heap[g]? = some (.cells cur e (0, 0)) → o + xs.length ≤ cur.size → ∃ cur', (w.setCells g o xs).heap[g]? = some (.cells cur' e (0, 0)) ∧ cur'.toList = cur.toList.take o ++ xs ++ cur.toList.drop (o + xs.length) := by
  intro xs
  induction xs with
  | nil => intro o w cur h _; exact ⟨cur, h, by simp⟩
  | cons v r ih =>
    intro o w cur h hl
    rw [List.length_cons] at hl
    have h1 := heap_setCell_same w g o cur e v h
    obtain ⟨cur', h2, h3⟩ := ih (o + 1) _ _ h1 (by rw [Array.size_setIfInBounds]; omega)
    refine ⟨cur', h2, ?_⟩
    rw [h3, Array.toList_setIfInBounds]
    obtain ⟨e1, e2⟩ := set_take_drop cur.toList o v (by rw [Array.length_toList]; omega) r.length
    rw [e1, e2, List.length_cons]
    simp only [List.append_assoc, List.cons_append, List.nil_append]
    rw [show o + (r.length + 1) = o + 1 + r.length by omega]

theorem setCells_turns (g : Nat) (w : World) (o : Nat) (xs : List Value) : Turns (fun k => k = g) w (w.setCells g o xs) := by
  induction xs generalizing o w with
  | nil => exact Turns.refl _ _
  | cons v r ih =>
    have h1 : Turns (fun k => k = g) w (w.setCell ⟨g, o, none⟩ v) := ⟨rfl, rfl, rfl, by simp [World.setCell], fun k _ hk => Below.heap_setCell _ _ _ _ hk⟩
    exact h1.trans (ih (w.setCell ⟨g, o, none⟩ v) (o + 1))

theorem hcells_drop (l : List (Int × ByteArray)) (p : Nat) : (hcells l).drop (p * 2) = hcells (l.drop p) := by
  have e : hcells l = hcells (l.take p) ++ hcells (l.drop p) := by rw [← hcells_append, List.take_append_drop]
  by_cases hp : p ≤ l.length
  · rw [e, List.drop_append_of_le_length (by rw [hcells_len, List.length_take]; omega), List.drop_of_length_le (by rw [hcells_len, List.length_take]; omega)]
    rfl
  · rw [List.drop_of_length_le (by rw [hcells_len]; omega), List.drop_of_length_le (by omega)]; rfl

theorem hcells_take (l : List (Int × ByteArray)) (p : Nat) : (hcells l).take (p * 2) = hcells (l.take p) := by
  have e : hcells l = hcells (l.take p) ++ hcells (l.drop p) := by rw [← hcells_append, List.take_append_drop]
  by_cases hp : p ≤ l.length
  · rw [e, List.take_append_of_le_length (by rw [hcells_len, List.length_take]; omega), List.take_of_length_le (by rw [hcells_len, List.length_take]; omega)]
  · rw [List.take_of_length_le (by rw [hcells_len]; omega), List.take_of_length_le (by omega)]

/-- The heads behind one that is deleted are moved down by one. -/
theorem cut_block {w : World} {g cap : Nat} {cur : Array Value} {l : List (Int × ByteArray)} {p : Nat} (h : w.heap[g]? = some (.cells cur 99 (0, 0))) (hp : p < l.length) (hn : l.length ≤ cap) (hcs : cur.size = cap * 2) (ht : cur.toList.take (l.length * 2) = hcells l) (z0 z1 : Value) :
    ∃ cur', ((w.setCells g (p * 2) (hcells (l.drop (p + 1)))).setCells g ((l.length - 1) * 2) [z0, z1]).heap[g]? = some (.cells cur' 99 (0, 0)) ∧ cur'.size = cap * 2 ∧ cur'.toList.take ((l.length - 1) * 2) = hcells (l.eraseIdx p) := by
  have hl1 : (hcells (l.drop (p + 1))).length = (l.length - (p + 1)) * 2 := by rw [hcells_len, List.length_drop]
  have hpl : p * 2 + (hcells (l.drop (p + 1))).length = (l.length - 1) * 2 := by rw [hl1]; omega
  obtain ⟨c1, h1, e1⟩ := block_setCells g (hcells (l.drop (p + 1))) (p * 2) w cur h (by omega)
  have hs1 : c1.size = cap * 2 := by
    rw [← Array.length_toList, e1]
    simp only [List.length_append, List.length_take, List.length_drop, Array.length_toList]
    omega
  have hc1l : c1.toList.length = cap * 2 := by rw [Array.length_toList]; exact hs1
  obtain ⟨c2, h2, e2⟩ := block_setCells g [z0, z1] ((l.length - 1) * 2) _ c1 h1 (by simp only [List.length_cons, List.length_nil]; omega)
  refine ⟨c2, h2, ?_, ?_⟩
  · rw [← Array.length_toList, e2]
    simp only [List.length_append, List.length_take, List.length_drop, Array.length_toList, List.length_cons, List.length_nil]
    omega
  · rw [e2, List.append_assoc, List.take_append_of_le_length (by rw [List.length_take, hc1l]; omega), List.take_take, Nat.min_self, e1]
    rw [← hpl, List.take_append_of_le_length (by simp only [List.length_append, List.length_take, Array.length_toList]; omega), List.take_of_length_le (by simp only [List.length_append, List.length_take, Array.length_toList]; omega)]
    have e3 : cur.toList.take (p * 2) = hcells (l.take p) := by
      rw [← hcells_take, ← ht, List.take_take, Nat.min_eq_left (by omega)]
    rw [e3, ← hcells_append, List.eraseIdx_eq_take_drop_succ]

/-- At a step of a region that draws: what stands behind a head is moved onto it. -/
theorem wp_cut_heads {o : Oper} {act : Act} {K : Act → World → Prop} {Q' : Exit → Act → World → Prop} (s x : Operand)
    (hop : o.op = .call { callee := .builtin .append, args := #[s, x], argTypes := #[51, 51] }) {w : World} {g cap p m c : Nat} {ad : Addr} {news : List Value}
    (hs : act.eval s = .slice (some ⟨g, 0, none⟩) p cap) (hx : act.eval x = .slice (some ad) m c) (hl : news.length = m * 2) (hnews : ∀ j u, news[j]? = some u → w.cell? (ad.add j) = some u) (h1 : ∀ u ∈ news, u.oneCell' = true) (hroom : p + m ≤ cap) {cur : Array Value} (hg : w.heap[g]? = some (.cells cur 99 (0, 0))) (hcs : cur.size = cap * 2)
    (h : K (act.put o.dst (.slice (some ⟨g, 0, none⟩) (p + m) cap)) (w.setCells g (p * 2) news)) : Oper.wp Tryz.prog o act w K Q' := by
  obtain ⟨i0, hi, hz0, hz1, hz2⟩ := info_parts infoHead
  have hr := run_append_room_cells (P := Tryz.prog) w 51 o.type 99 i0 Tryz.underlying51 hi g 0 p cap ad m c news (by rw [hz1]; exact hl) hnews h1 hroom
    (fun j hj => by rw [cell_of_row _ _ _ _ _ _ hg, hz1, Array.getElem?_eq_getElem (by omega)]; rfl) (fun j hj => frozen_of_row _ _ _ _ _ hg)
  rw [hz1, Nat.zero_add] at hr
  unfold Oper.wp execOp
  simp only [hop, resolve, invoke, builtin, Sem.run_bind, Sem.run_pure, Result.andThen_ok, List.map_toArray, List.map_cons, List.map_nil, hs, hx, hr]
  exact h

/-- One head is cleared. -/
theorem clear_head {w : World} {g o c : Nat} {cur : Array Value} (hg : w.heap[g]? = some (.cells cur 99 (0, 0))) (hl : o + 2 ≤ cur.size) (ty : TypeId) :
    (Builtin.clear_ #[51] ty #[.slice (some ⟨g, o, none⟩) 1 c]).run Tryz.prog w = .ok (.tuple #[]) (w.setCells g o [.int .i64 0, .string ⟨#[]⟩]) := by
  have hst := run_storeCells_cells (P := Tryz.prog) g o [.int .i64 0, .string ⟨#[]⟩] 0 w
    (fun j hj => by
      have : j < 2 := hj
      rw [cell_of_row _ _ _ _ _ _ hg, Array.getElem?_eq_getElem (by omega)]; rfl) (fun j hj => frozen_of_row _ _ _ _ _ hg) (by simp [Value.oneCell'])
  simp only [Nat.add_zero] at hst
  have hz : (Builtin.zeroCells (Value.agg #[.int .i64 0, .string ⟨#[]⟩]).cells 1).toList = [.int .i64 0, .string ⟨#[]⟩] := by kernel_rfl
  simp [Builtin.clear_, run_underlying Tryz.underlying51, hz, hst]

theorem slice_cells {w : World} {g p : Nat} {cur : Array Value} {l : List (Int × ByteArray)} (h : w.heap[g]? = some (.cells cur 99 (0, 0))) (ht : cur.toList.take (l.length * 2) = hcells l) {ad : Addr} (had : p < l.length → ad = ⟨g, p * 2, none⟩) : ∀ j u, (hcells (l.drop p))[j]? = some u → w.cell? (ad.add j) = some u := by
  intro j u hu
  have hj : j < (hcells (l.drop p)).length := (List.getElem?_eq_some_iff.1 hu).1
  rw [hcells_len, List.length_drop] at hj
  rw [had (by omega)]
  have hadd : (⟨g, p * 2, none⟩ : Addr).add j = ⟨g, p * 2 + j, none⟩ := by unfold Addr.add; split <;> simp_all
  rw [hadd, cell_of_row _ _ _ _ _ _ h]
  rw [← hcells_drop, List.getElem?_drop, ← ht, List.getElem?_take_of_lt (by omega)] at hu
  rw [← hu, Array.getElem?_toList]

set_option maxHeartbeats 3200000 in
theorem deleteHead_any (base g cap p : Nat) (l : List (Int × ByteArray)) (w : World) (ho : HOwn w base (.slice (some ⟨g, 0, none⟩) l.length cap) l) (hp : p < l.length) (hl8 : l.length ≤ 1000) :
    Calls Tryz.prog 60 #[.slice (some ⟨g, 0, none⟩) l.length cap, .int .i64 p, .int .i64 (p + 1 : Nat)] w fun e w' => e = .returned (.slice (some ⟨g, 0, none⟩) (l.length - 1) cap) ∧ HOwn w' base (.slice (some ⟨g, 0, none⟩) (l.length - 1) cap) (l.eraseIdx p) ∧ Turns (fun k => k = g) w w' := by
  rcases ho.2 with ⟨hv, _⟩ | ⟨g', cap', cur, hv, hbg, hg, hnc, hcm, hcs, htk⟩
  · cases hv
  simp only [Value.slice.injEq, Option.some.injEq, Addr.mk.injEq, and_true, true_and] at hv
  obtain ⟨rfl, rfl⟩ := hv
  obtain ⟨n, hn⟩ : ∃ n, n = l.length := ⟨_, rfl⟩
  have HCB := hid (cut_block (w := w.drew) (p := p) hg hp hnc hcs htk (.int .i64 0) (.string ⟨#[]⟩))
  have HNW := hid (fun (ad : Addr) (had : p + 1 < l.length → ad = ⟨g, (p + 1) * 2, none⟩) => slice_cells (w := w.drew) (p := p + 1) hg htk had)
  have HLE : Hid ((hcells (l.drop (p + 1))).length = (n - (p + 1)) * 2) := by rw [Hid, hcells_len, List.length_drop, hn]
  have HON := hid (hcells_one (l.drop (p + 1)))
  have HG : Hid (w.drew.heap[g]? = some (.cells cur 99 (0, 0))) := hg
  have HCS := hid hcs
  have HER : Hid ((l.eraseIdx p).length = n - 1) := by rw [Hid, List.length_eraseIdx, if_pos hp, hn]
  have HBS := hid (And.intro hbg hcm)
  rw [← hn] at HCB HNW hp hnc hl8 ⊢
  clear ho hg hcs htk hcm hbg hn
  have j1 : (p : Int) ≤ (n : Int) := by omega
  have j2 : (p : Int) + 1 ≤ (n : Int) := by omega
  have j3 : (n : Int) ≤ (cap : Int) := by omega
  have j4 : ¬ (p : Int) = (p : Int) + 1 := by omega
  have j5 : (0 : Int) ≤ (p : Int) := by omega
  have HRM : Hid (p + (n - (p + 1)) ≤ cap) := by rw [Hid]; omega
  have HN1 : Hid (p + (n - (p + 1)) = n - 1) := by rw [Hid]; omega
  obtain ⟨ad, haq, had⟩ : ∃ ad : Addr, (if cap = p + 1 then some (⟨g, 0, none⟩ : Addr) else some ⟨g, (p + 1) * 2, none⟩) = some ad ∧ (p + 1 < n → ad = ⟨g, (p + 1) * 2, none⟩) := by
    by_cases hc : cap = p + 1
    · exact ⟨_, if_pos hc, fun h => by omega⟩
    · exact ⟨_, if_neg hc, fun _ => rfl⟩
  have HAQ := hid haq
  have HAD := hid had
  clear haq had
  go_enter Tryz.func60, Tryz.ntmps60
  go_wp2_with fail
  have hS : (fun _ : World => True) w.drew := trivial
  refine wp_region_held_drew (S := fun _ => True) (by kernel_rfl) hS (fun _ => ?_)
  refine wpAnyH_take (i := 0) (v := .slice (some ⟨g, 0, none⟩) n cap) rfl (by kernel_rfl) (by kernel_rfl) (by kernel_rfl) (fun _ _ _ h => h) (Or.inl ⟨by kernel_rfl, ?_⟩) hS ?_
  · (intro w' hSw; go_simp)
  try simp only [Act.put]
  refine wpAnyH_take (i := 1) (v := .int .i64 p) rfl (by kernel_rfl) (by kernel_rfl) (by kernel_rfl) (fun _ _ _ h => h) (Or.inl ⟨by kernel_rfl, ?_⟩) hS ?_
  · (intro w' hSw; go_simp)
  try simp only [Act.put]
  refine wpAnyH_take (i := 2) (v := .slice (some ⟨g, 0, none⟩) p cap) rfl (by kernel_rfl) (by kernel_rfl) (by kernel_rfl) (fun _ _ _ h => h) (Or.inl ⟨by kernel_rfl, ?_⟩) hS ?_
  · (intro w' hSw; have q1 : ¬ cap < p := by omega
     go_simp)
  try simp only [Act.put]
  refine wpAnyH_take (i := 3) (v := .slice (some ⟨g, 0, none⟩) n cap) rfl (by kernel_rfl) (by kernel_rfl) (by kernel_rfl) (fun _ _ _ h => h) (Or.inl ⟨by kernel_rfl, ?_⟩) hS ?_
  · (intro w' hSw; go_simp)
  try simp only [Act.put]
  refine wpAnyH_take (i := 4) (v := .int .i64 (p + 1 : Nat)) rfl (by kernel_rfl) (by kernel_rfl) (by kernel_rfl) (fun _ _ _ h => h) (Or.inl ⟨by kernel_rfl, ?_⟩) hS ?_
  · (intro w' hSw; go_simp)
  try simp only [Act.put]
  refine wpAnyH_take (i := 5) (v := .slice (some ad) (n - (p + 1)) (cap - (p + 1))) rfl (by kernel_rfl) (by kernel_rfl) (by kernel_rfl) (fun _ _ _ h => h) (Or.inl ⟨by kernel_rfl, ?_⟩) hS ?_
  · (intro w' hSw; have q1 : (0 : Int) ≤ (p : Int) + 1 := by omega
     have q2 : p + 1 ≤ n := by omega
     have q3 := HAQ.out
     go_simp)
  try simp only [Act.put]
  refine wpAnyH_ready (rs := [6]) (by kernel_rfl) (by simp) ?_
  refine AllReadyH.cons rfl (fun K hK => ?_) AllReadyH.nil
  dsimp only [getElem?_def, Array.getElem?_toList, List.getElem_toArray, List.getElem_cons_succ, List.getElem_cons_zero]
  simp only [List.setIfInBounds_toArray, List.set_cons_succ, List.set_cons_zero]
  rw [if_pos (by simp [Region.wanted])]
  refine wp_cut_heads (.tmp 22) (.tmp 25) rfl (g := g) (cap := cap) (p := p) (m := n - (p + 1)) (c := cap - (p + 1)) (ad := ad) ?_ ?_ HLE.out (HNW.out ad HAD.out) HON.out HRM.out HG.out HCS.out ?_
  · rfl
  · rfl
  refine hK.out _ _ trivial (fun _ => ?_)
  clear hK K
  try simp only [Act.put]
  rw [HN1.out]
  refine wpAnyH_take (i := 7) (v := .slice (some ⟨g, 0, none⟩) (n - 1) cap) rfl (by kernel_rfl) (by kernel_rfl) (by kernel_rfl) (fun _ _ _ h => h) (Or.inl ⟨by kernel_rfl, ?_⟩) trivial ?_
  · (intro w' hSw; go_simp)
  try simp only [Act.put]
  refine wpAnyH_done (by kernel_rfl) ?_ _
  obtain ⟨c1, hc1, hs1⟩ := block_setCells (e := 99) g (hcells (l.drop (p + 1))) (p * 2) w.drew cur HG.out (by rw [HLE.out, HCS.out]; omega)
  have hs1z : c1.size = cap * 2 := by
    rw [← Array.length_toList, hs1]
    simp only [List.length_append, List.length_take, List.length_drop, Array.length_toList, HLE.out, HCS.out]
    omega
  have hcl := fun ty c => clear_head (o := (n - 1) * 2) (c := c) hc1 (by omega) ty
  have HT : Hid (Turns (fun k => k = g) w ((w.drew.setCells g (p * 2) (hcells (l.drop (p + 1)))).setCells g ((n - 1) * 2) [.int .i64 0, .string ⟨#[]⟩])) := by
    have h0 : Turns (fun k => k = g) w w.drew := ⟨rfl, rfl, rfl, Nat.le_refl _, fun _ _ _ => rfl⟩
    exact (h0.trans (setCells_turns g _ _ _)).trans (setCells_turns g _ _ _)
  generalize hW : w.drew.setCells g (p * 2) (hcells (l.drop (p + 1))) = W at *
  clear hs1 hs1z hW HNW HLE HON
  have k1 : ((n - 1 : Nat) : Int) ≤ (n : Int) := by omega
  have k2 : (0 : Int) ≤ ((n - 1 : Nat) : Int) := by omega
  have k3 : n - (n - 1) = 1 := by omega
  have k4 : ¬ cap ≤ n - 1 := by omega
  have k5 : n - 1 ≤ n := by omega
  have k6 : ¬ cap = n - 1 := by omega
  go_wp2_with fail
  go_ret
  obtain ⟨cur', g1, g2, g3⟩ := HCB.out
  refine ⟨rfl, ⟨hcells_len _, .inr ⟨g, cap, cur', by rw [HER.out], HBS.out.1, g1, by rw [HER.out]; omega, HBS.out.2, g2, by rw [HER.out]; exact g3⟩⟩, HT.out⟩

/-- The roots of heads. -/
def rootsB (l : List (Int × ByteArray)) : List ByteArray := l.map (·.2)

set_option maxHeartbeats 1600000 in
theorem roots_any (k1 : Nat) (a : Option Addr) (cap : Nat) (l : List (Int × ByteArray)) (y : Value) (w : World) (hk : w.heap[k1]? = some (.cells #[.slice a l.length cap, y] 94 (0, 0))) (hr : HRd w.heap.size w a l) (hl : l.length ≤ 1000) :
    Calls Tryz.prog 62 #[.pointer (some ⟨k1, 0, none⟩)] w fun e w' => ∃ v, e = .returned v ∧ TOwn w' w.heap.size v (rootsB l) ∧ Below w.heap.size w w' := by
  have HR := hid hr
  have c0 := cell_of_row _ _ 0 _ _ _ hk
  clear hr hk
  go_enter Tryz.func62, Tryz.ntmps62
  go_wp2_with fail
  go_loopw [3, 11] (fun v i wr => ∃ k : Nat, i = .int .i64 k ∧ k ≤ l.length ∧ Hid (TOwn wr w.heap.size v (rootsB (l.take k)) ∧ Below w.heap.size w wr)) (fun _ i _ => l.length - (intOf i).toNat)
  case atStart => exact ⟨0, rfl, Nat.zero_le _, town_nil _ _, Below.refl _ _⟩
  case round =>
    obtain ⟨k, rfl, hk, HH⟩ := hrel
    obtain ⟨av, cv, rfl, _⟩ := town_shape HH.out.1
    by_cases hlt : k < l.length
    · obtain ⟨b, off, rfl, hb, e0, e1⟩ := HR.out k hlt
      have f0 := (HH.out.2.cell (p := ⟨b, off + k * 2, none⟩) hb).trans e0
      have f1 := (HH.out.2.cell (p := ⟨b, off + k * 2 + 1, none⟩) hb).trans e1
      have i1 : (0 : Int) ≤ (k : Int) := by omega
      have i2 : (k : Int) < (l.length : Int) := by omega
      have HTK : Hid (rootsB (l.take (k + 1)) = rootsB (l.take k) ++ [l[k].2]) := by rw [Hid, List.take_succ_eq_append_getElem hlt]; unfold rootsB; rw [List.map_append]; rfl
      have HLT : Hid ((rootsB (l.take k)).length ≤ 1000000) := by rw [Hid]; unfold rootsB; rw [List.length_map, List.length_take]; omega
      clear e0 e1
      generalize l[k].2 = rk at *
      generalize l[k].1 = hk' at *
      generalize rootsB (l.take k) = rl at *
      have HA : Hid (Below wr.heap.size wr (wr.alloc (.cells #[.int .i64 hk', .string rk] 99))) := (Below.refl _ _).alloc (Nat.le_refl _) _
      go_wp2_with (at_builtin; refine wpList_push_text rfl (.tmp 15) (.tmp 18) rfl rk (wr.heap.size + 1) (alloc_size _ _) rfl rfl HH.out.1 HA.out HH.out.2 (Nat.le_refl _) HLT.out ?_; intro v' w' ho' hb'; have HO' := hid ho'; have HB' := hid hb'; clear ho' hb')
      exact ⟨⟨k + 1, by go_num, by omega, by rw [HTK.out]; exact HO'.out, HB'.out⟩, by simp [intOf]; omega⟩
    · obtain rfl : k = l.length := by omega
      have i2 : ¬ (l.length : Int) < (l.length : Int) := by omega
      rw [List.take_length] at HH
      rw [List.take_length]
      clear hlt
      go_wp2_with fail
      go_ret
      exact ⟨_, rfl, HH.out.1, HH.out.2⟩
end Go.Proofs.YtbmohenjphmlgaaGreat

/- The walks of Root, Prove, Verify, Offer that are refused (of the program). -/
namespace Go.Proofs.YtbmohenjphmlgaaGreat
open Go.RowKit
set_option maxRecDepth 100000

theorem readAll_nil (a : Option Addr) (cap : Nat) (w : World) : Calls Tryz.prog 124 #[.slice a 0 cap] w fun e w' => e = .returned (.tuple #[.slice none 0 0, .bool true]) ∧ w' = w := by
  go_enter Tryz.func124, Tryz.ntmps124
  go_wp2_with fail
  go_loopw [4, 11] (fun u v wr => u = .slice none 0 0 ∧ v = .int .i64 0 ∧ wr = w) (fun _ _ _ => 0)
  case atStart => exact ⟨rfl, rfl, rfl⟩
  case round =>
    obtain ⟨rfl, rfl, rfl⟩ := hrel
    go_wp2_with fail
    go_ret2
    exact ⟨rfl, rfl⟩

/-- The finder of check where nothing is left. -/
theorem check1_nil (kb : Nat) (r : ByteArray) (y : Value) (w : World) (hb : w.heap[kb]? = some (.cells #[.slice none 0 0] 155 (0, 0))) :
    Calls Tryz.prog 125 #[.agg #[.string r, y], .pointer (some ⟨kb, 0, none⟩)] w fun e w' => e = .returned (.tuple #[.nilIface, .bool false]) ∧ Below w.heap.size w w' := by
  have hlt := (Array.getElem?_eq_some_iff.1 hb).1
  have c0 : (w.alloc (.cells #[.string r, y] 139)).cell? ⟨kb, 0, none⟩ = some (.slice none 0 0) := (World.cell?_of_block (w := w) (Below.heap_alloc _ _ _ hlt)).trans (cell_of_row _ _ 0 _ _ _ hb)
  have HB : Hid (Below w.heap.size w (w.alloc (.cells #[.string r, y] 139))) := (Below.refl _ _).alloc (Nat.le_refl _) _
  clear hb
  go_enter Tryz.func125, Tryz.ntmps125
  go_wp2_with fail
  generalize hW : w.alloc (.cells #[.string r, y] 139) = W at *
  go_quiet (fail)
  go_wp2_with fail
  go_ret2
  exact ⟨rfl, belowN HB.out⟩

set_option maxHeartbeats 1600000 in
/-- A proof of nothing. -/
theorem check_nil {root key : ByteArray} {a : Option Addr} {cap : Nat} {w : World} (h1 : root.size = 8) (h2 : key.size ≤ 6) :
    Calls Tryz.prog 98 #[.string root, .string key, .slice a 0 cap] w fun e w' => e = .returned (.tuple #[.slice none 0 0, .string ⟨#[]⟩, .int .i64 6]) ∧ Below w.heap.size w w' := by
  have HP : Hid (Calls Tryz.prog 123 #[.string root, .string key, .slice a 0 cap] w fun e w' => e = .returned (.int .i64 0) ∧ w' = w) := by
    have := proofFault_any root key a cap [] w (srd_nil _ _ _)
    rw [pfault_ok h1 (by omega) (by simp) (by simp)] at this
    exact this
  have HRA := hid (fun w => readAll_nil a cap w)
  have HD := hid (fun w => digitsOf_any key w (by omega))
  have HW := hid (fun d W hf => walk_none 125 #[.pointer (some ⟨w.heap.size, 0, none⟩)] root d W (enters_of Tryz.func125 (by kernel_rfl) rfl) hf)
  go_enter Tryz.func98, Tryz.ntmps98
  go_wp2_with fail
  refine HP.out.mono ?_
  rintro e w1 ⟨rfl, hw⟩
  obtain rfl := hw.symm
  go_wp2_with fail
  refine (HRA.out _).mono ?_
  rintro e w1 ⟨rfl, hw⟩
  obtain rfl := hw.symm
  go_wp2_with fail
  refine (HD.out _).mono ?_
  rintro e w2 ⟨rfl, b2⟩
  have HA : Hid (Below w.heap.size w (w.alloc (.cells #[.slice none 0 0] 155))) := (Below.refl _ _).alloc (Nat.le_refl _) _
  have HB2 : Hid (Below w.heap.size w w2) := HA.out.trans (b2.mono HA.out.size)
  have HX2 : Hid (w2.heap[w.heap.size]? = some (.cells #[.slice none 0 0] 155 (0, 0))) := (b2.block _ (by rw [alloc_size]; omega)).trans (heap_alloc_new w _)
  have HF : Hid (∀ W, Below w2.heap.size w2 W → Calls Tryz.prog 125 (#[.agg #[.string root, .nilIface]] ++ #[.pointer (some ⟨w.heap.size, 0, none⟩)]) W fun e w' => e = .returned (.tuple #[.nilIface, .bool false]) ∧ Below W.heap.size W w') := fun W hb => check1_nil _ _ _ _ ((hb.block _ (Array.getElem?_eq_some_iff.1 HX2.out).1).trans HX2.out)
  clear b2 HP HRA
  go_wp2_with fail
  refine (HW.out _ _ HF.out).mono ?_
  rintro e w3 ⟨rfl, b3⟩
  have HB3 : Hid (Below w.heap.size w w3) := HB2.out.trans (b3.mono HB2.out.size)
  clear b3
  go_wp2_with fail
  refine bodyPost_ret (v := .tuple #[.slice none 0 0, .string ⟨#[]⟩, .int .i64 6]) (by simp [results, Tryz.results98, go_sem]) rfl ?_
  exact ⟨rfl, HB3.out⟩

theorem turns_cell {own : Nat → Prop} {w w' : World} {b off : Nat} (h : Turns own w w') (hb : b < w.heap.size) (ho : ¬ own b) : w'.cell? ⟨b, off, none⟩ = w.cell? ⟨b, off, none⟩ := World.cell?_of_block (w := w) (h.block b hb ho)

/-- Add of what check refuses. -/
theorem add_fault {k2 : Nat} {root key : ByteArray} {v : Value} {w : World} {N : Nat} (hN : N ≠ 0) (h : Calls Tryz.prog 98 #[.string root, .string key, v] w fun e w' => e = .returned (.tuple #[.slice none 0 0, .string ⟨#[]⟩, .int .i64 N]) ∧ Below w.heap.size w w') :
    Calls Tryz.prog 57 #[.pointer (some ⟨k2, 0, none⟩), .string root, .string key, v] w fun e w' => e = .returned (.int .i64 N) ∧ Below w.heap.size w w' := by
  have H := hid h
  have hN' : ¬ (N : Int) = 0 := by omega
  clear h hN
  go_enter Tryz.func57, Tryz.ntmps57
  go_wp2_with fail
  refine H.out.mono ?_
  rintro e w1 ⟨rfl, b1⟩
  have HB := hid b1
  clear b1
  go_wp2_with fail
  go_ret
  exact ⟨rfl, HB.out⟩

/-- Offer at a height that is trusted hands on to the store. -/
theorem offer_in {k1 k2 : Nat} {a : Option Addr} {cap : Nat} {l : List (Int × ByteArray)} {x : Int} {key r0 : ByteArray} {v : Value} {w : World} {Q : Int → World → Prop}
    (hk : w.heap[k1]? = some (.cells #[.slice a l.length cap, .pointer (some ⟨k2, 0, none⟩)] 94 (0, 0))) (hr : HRd w.heap.size w a l) (hl : l.length ≤ 8) (hs : Rises l) (hx : (x, r0) ∈ l) (hne : k1 ≠ k2) (hnb : ∀ b off, a = some ⟨b, off, none⟩ → b ≠ k2)
    (h : ∀ W, Below w.heap.size w W → Calls Tryz.prog 57 #[.pointer (some ⟨k2, 0, none⟩), .string r0, .string key, v] W fun e w' => ∃ n, e = .returned (.int .i64 n) ∧ Q n w' ∧ Turns (fun k => k = k2) W w') :
    Calls Tryz.prog 32 #[.pointer (some ⟨k1, 0, none⟩), .int .i64 x, .string key, v] w fun e w' => ∃ n, e = .returned (.int .i64 n) ∧ Q n w' ∧ Turns (fun k => k = k2) w w' := by
  have HP := hid (place_any k1 a cap l _ x w hk hr (by omega) hs)
  have HRD := hid hr
  have HS := hid hs
  have HX := hid hx
  have HK := hid hk
  have HT := hid h
  clear hk hr hs hx h
  go_enter Tryz.func32, Tryz.ntmps32
  go_wp2_with fail
  refine HP.out.mono ?_
  rintro e w2 ⟨⟨p, rfl, p1, p2, p3⟩, b2⟩
  obtain ⟨hp, hp1, hp2⟩ := found_at HS.out HX.out p2 p3
  rw [decide_eq_true (⟨hp, hp1⟩ : ∃ h : p < l.length, l[p].1 = x)]
  obtain ⟨b, off, rfl, hb, e0, e1⟩ := HRD.out p hp
  have hnb' := hnb b off rfl
  rw [hp2] at e1
  have f1 := (b2.cell (p := ⟨b, off + p * 2 + 1, none⟩) hb).trans e1
  have c0 := (b2.cell (p := ⟨k1, 0, none⟩) (Array.getElem?_eq_some_iff.1 HK.out).1).trans (cell_of_row _ _ 0 _ _ _ HK.out)
  have c1 := (b2.cell (p := ⟨k1, 1, none⟩) (Array.getElem?_eq_some_iff.1 HK.out).1).trans (cell_of_row _ _ 1 _ _ _ HK.out)
  have i1 : (0 : Int) ≤ (p : Int) := by omega
  have i2 : (p : Int) < (l.length : Int) := by omega
  have HB := hid b2
  have hk1 : k1 < w2.heap.size := Nat.lt_of_lt_of_le (Array.getElem?_eq_some_iff.1 HK.out).1 b2.size
  have hb1 : b < w2.heap.size := Nat.lt_of_lt_of_le hb b2.size
  clear e0 e1 p1 p2 p3 b2 hp1 hp2 hnb
  go_wp2_with fail
  go_region_held3 (fun w' => w'.cell? ⟨k1, 0, none⟩ = some (.slice (some ⟨b, off, none⟩) l.length cap) ∧ w'.cell? ⟨k1, 1, none⟩ = some (.pointer (some ⟨k2, 0, none⟩)) ∧ w'.cell? ⟨b, off + p * 2 + 1, none⟩ = some (.string r0)) (go_keep) ((go_at_call 57; refine (HT.out _ HB.out.drew).mono ?_; rintro e w3 ⟨n, rfl, q, b3⟩; have HQ := hid q; have HB3 : Hid (Turns (fun k => k = k2) w w3) := (Turns.of_below HB.out.drew).trans b3; have z0 := (turns_cell (off := 0) b3 hk1 hne).trans c0; have z1 := (turns_cell (off := 1) b3 hk1 hne).trans c1; have z2 := (turns_cell (off := off + p * 2 + 1) b3 hb1 hnb').trans f1; clear q b3))
  all_goals go_wp2_with fail
  all_goals go_ret
  all_goals exact ⟨n, rfl, HQ.out, HB3.out⟩

end Go.Proofs.YtbmohenjphmlgaaGreat
