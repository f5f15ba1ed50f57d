/- Part 8 of a proof: what the last text needs. -/
import Derived.Test.YtbmohenjphmlgaaGreatPart7
/- Nodes as they are read (of the program); the walk of readReference. -/
namespace Go.Proofs.YtbmohenjphmlgaaGreat
open Go.RowKit
set_option maxRecDepth 100000

theorem repW_frame {lo B : Nat} {w w' : World} (hb : Below B w w') : ∀ (n : Nat) (v : Value) (t : Itm), RepW lo B w n v t → RepW lo B w' n v t := repW_turn (Nat.le_refl _) (Nat.le_refl _) (fun k _ hk => hb.block k hk)

theorem repW_shape {lo B : Nat} {w : World} {n : Nat} {c0 c1 c2 : Value} {t : Itm} (h : RepW lo B w n (.agg #[c0, c1, c2]) t) : ∃ a cap, c0 = .bool t.list ∧ c1 = .string ⟨t.bytes.toArray⟩ ∧ c2 = .slice a t.items.length cap := rep_shape (repW_rep _ _ _ h)

/-- A reference as it is read: by a sum, or a short node itself. -/
def RefN (p : Value → Itm → Prop) (s : ByteArray) (v : Value) (t : Itm) : Prop :=
  (Tr.isSum t = true ∧ s.data.toList = t.bytes ∧ v = .nilIface) ∨ (Tr.isSum t = false ∧ s = ⟨#[]⟩ ∧ p v t ∧ (Itm.enc t).length < 8)

/-- v is the node that was read of a sound item; its items lie in blocks from lo on, below B. -/
def RN (lo B : Nat) (w : World) : Nat → Value → Itm → Prop
  | 0 => fun _ _ => False
  | m + 1 => fun v t =>
    (Tr.isEmpty t = true ∧ v = emptyV) ∨
    (∃ a cap d x, t.list = true ∧ t.items.length = 2 ∧ RepW lo B w (m + 1) (.agg #[.bool true, .string ⟨#[]⟩, .slice a 2 cap]) t ∧ Tr.unpath (Tr.kid t 0) = some (d.data.toList, true) ∧ Tr.isValue (Tr.kid t 1) = true ∧ x.data.toList = (Tr.kid t 1).bytes ∧ v = leafV a cap d x) ∨
    (∃ a cap d s, t.list = true ∧ t.items.length = 2 ∧ RepW lo B w (m + 1) (.agg #[.bool true, .string ⟨#[]⟩, .slice a 2 cap]) t ∧ Tr.unpath (Tr.kid t 0) = some (d.data.toList, false) ∧ 0 < d.size ∧ Tr.isSum (Tr.kid t 1) = true ∧ s.data.toList = (Tr.kid t 1).bytes ∧ v = extV a cap d s .nilIface) ∨
    (∃ a cap cs x, Tr.isBranch t = true ∧ RepW lo B w (m + 1) (.agg #[.bool true, .string ⟨#[]⟩, .slice a 17 cap]) t ∧ cs.size = 32 ∧ x.data.toList = (Tr.kid t 16).bytes ∧ v = branchV a cap cs x ∧
      ∀ d, d < 16 → ∃ s vd, cs[2 * d]? = some (.string s) ∧ cs[2 * d + 1]? = some vd ∧ RefN (RN lo B w m) s vd (Tr.kid t d))

theorem refN_mono {p q : Value → Itm → Prop} {s : ByteArray} {v : Value} {t : Itm} (h : RefN p s v t) (hpq : p v t → q v t) : RefN q s v t := by
  rcases h with h | ⟨h1, h2, h3, h4⟩
  · exact .inl h
  · exact .inr ⟨h1, h2, hpq h3, h4⟩

theorem rn_later {lo B : Nat} {w w' : World} (hb : Below B w w') : ∀ (m : Nat) (v : Value) (t : Itm), RN lo B w m v t → RN lo B w' m v t := by
  intro m
  induction m with
  | zero => intro v t h; exact h
  | succ m ih =>
    intro v t h
    rcases h with h | ⟨a, cap, d, x, h0, h1, h2, h3⟩ | ⟨a, cap, d, x, h0, h1, h2, h3⟩ | ⟨a, cap, cs, x, h1, h2, h3, h4, h5, h6⟩
    · exact .inl h
    · exact .inr (.inl ⟨a, cap, d, x, h0, h1, repW_frame hb _ _ _ h2, h3⟩)
    · exact .inr (.inr (.inl ⟨a, cap, d, x, h0, h1, repW_frame hb _ _ _ h2, h3⟩))
    · refine .inr (.inr (.inr ⟨a, cap, cs, x, h1, repW_frame hb _ _ _ h2, h3, h4, h5, fun d hd => ?_⟩))
      obtain ⟨s, vd, g1, g2, g3⟩ := h6 d hd
      exact ⟨s, vd, g1, g2, refN_mono g3 (ih _ _)⟩

theorem rn_turn {lo lo' B B' : Nat} {w w' : World} (hlo : lo' ≤ lo) (hB : B ≤ B') (hb : ∀ k, lo ≤ k → k < B → w'.heap[k]? = w.heap[k]?) : ∀ (m : Nat) (v : Value) (t : Itm), RN lo B w m v t → RN lo' B' w' m v t := by
  intro m
  induction m with
  | zero => intro v t h; exact h
  | succ m ih =>
    intro v t h
    rcases h with h | ⟨a, cap, d, x, h0, h1, h2, h3⟩ | ⟨a, cap, d, x, h0, h1, h2, h3⟩ | ⟨a, cap, cs, x, h1, h2, h3, h4, h5, h6⟩
    · exact .inl h
    · exact .inr (.inl ⟨a, cap, d, x, h0, h1, repW_turn hlo hB hb _ _ _ h2, h3⟩)
    · exact .inr (.inr (.inl ⟨a, cap, d, x, h0, h1, repW_turn hlo hB hb _ _ _ h2, h3⟩))
    · refine .inr (.inr (.inr ⟨a, cap, cs, x, h1, repW_turn hlo hB hb _ _ _ h2, h3, h4, h5, fun d hd => ?_⟩))
      obtain ⟨s, vd, g1, g2, g3⟩ := h6 d hd
      exact ⟨s, vd, g1, g2, refN_mono g3 (ih _ _)⟩

theorem empty_item {t : Itm} (hp : Itm.pure t = true) (he : Tr.isEmpty t = true) : t = Tr.itB [] := by
  unfold Tr.isEmpty at he
  simp only [Bool.and_eq_true, Bool.not_eq_true', List.isEmpty_iff] at he
  rw [Itm.pure_eq] at hp
  obtain ⟨l, b, i⟩ := t
  simp only at he hp
  obtain ⟨rfl, rfl⟩ := he
  simp at hp
  obtain ⟨rfl, _⟩ := hp
  rfl

theorem rn_nd {lo B : Nat} {w : World} {m : Nat} {v : Value} {t : Itm} (hp : Itm.pure t = true) (h : RN lo B w m v t) : ∃ (k : Nat) (l0 : Bool) (s : ByteArray) (a : Option Addr) (n cap : Nat), Nd v k l0 s a n cap ∧ Rep B w m (.agg #[.bool l0, .string s, .slice a n cap]) t ∧ (k = 0 ↔ Tr.isEmpty t = true) ∧ (k = 3 ↔ Tr.isBranch t = true) := by
  cases m with
  | zero => exact h.elim
  | succ m =>
    have ne : t.list = true → Tr.isEmpty t = false := fun h => by unfold Tr.isEmpty; rw [h]; rfl
    rcases h with ⟨he, rfl⟩ | ⟨a, cap, d, x, h0, h1, h2, _, _, _, rfl⟩ | ⟨a, cap, d, x, h0, h1, h2, _, _, _, _, rfl⟩ | ⟨a, cap, cs, x, h1, h2, h3, h4, rfl, h6⟩
    · have := empty_item hp he
      subst this
      exact ⟨0, _, _, _, _, _, nd_empty, rep_bytes _ _ _ _, by simp [he], by simp [Tr.isBranch, Tr.itB]⟩
    · exact ⟨1, _, _, _, _, _, nd_leaf _ _ _ _, repW_rep _ _ _ h2, by simp [ne h0], by simp [Tr.isBranch, h1]⟩
    · exact ⟨2, _, _, _, _, _, nd_ext _ _ _ _ _, repW_rep _ _ _ h2, by simp [ne h0], by simp [Tr.isBranch, h1]⟩
    · exact ⟨3, _, _, _, _, _, nd_branch _ _ _ _, repW_rep _ _ _ h2, by simp [Tr.branch_full h1], by simp [h1]⟩

/-- readNode reads what is sound, to m levels. -/
def ReadOk (m : Nat) : Prop := ∀ (lo B : Nat) (w : World) (l : Bool) (s : ByteArray) (a : Option Addr) (n cap : Nat) (t : Itm), B ≤ w.heap.size → Small t → RepW lo B w m (.agg #[.bool l, .string s, .slice a n cap]) t →
  Calls Tryz.prog 143 #[.agg #[.bool l, .string s, .slice a n cap]] w fun e w' => ∃ v', e = .returned (.tuple #[v', .bool (Tr.sound t)]) ∧ IsNode v' ∧ (Tr.sound t = true → RN lo B w' m v' t) ∧ Below w.heap.size w w'

theorem rn_node {lo B : Nat} {w : World} {m : Nat} {v : Value} {t : Itm} (hp : Itm.pure t = true) (h : RN lo B w m v t) : IsNode v := by
  obtain ⟨_, _, _, _, _, _, h, _⟩ := rn_nd hp h
  obtain ⟨T, A, _, rfl, _⟩ := h
  exact .inr ⟨_, _, rfl⟩

set_option maxHeartbeats 3200000 in
theorem readReference_any {m : Nat} (hm : ReadOk m) (lo B : Nat) (w : World) (l : Bool) (s : ByteArray) (a : Option Addr) (n cap : Nat) (t : Itm) (hB : B ≤ w.heap.size) (hs : Small t) (hr : RepW lo B w m (.agg #[.bool l, .string s, .slice a n cap]) t) :
    Calls Tryz.prog 160 #[.agg #[.bool l, .string s, .slice a n cap]] w fun e w' => ∃ s' n', e = .returned (.tuple #[.agg #[.string s', n'], .bool (Tr.isSum t || (Tr.sound t && decide ((Itm.enc t).length < 8)))]) ∧ IsNode n' ∧ ((Tr.isSum t || (Tr.sound t && decide ((Itm.enc t).length < 8))) = true → RefN (RN lo B w' m) s' n' t) ∧ Below w.heap.size w w' := by
  obtain ⟨_, _, e0, e1, e2⟩ := repW_shape hr
  have hlist : l = t.list := by injection e0
  have hby : s = ⟨t.bytes.toArray⟩ := by injection e1
  have hsum : (!l && decide (s.size = 8)) = Tr.isSum t := by
    unfold Tr.isSum
    rw [hlist, hby]
    show (!t.list && decide (t.bytes.toArray.size = 8)) = _
    rw [List.size_toArray]
  have HS := hid (fun w => isSumP_any l s a n cap w)
  rw [hsum] at HS
  have HM := hid (fun w' (hb : Below w.heap.size w w') => hm lo B w' l s a n cap t (Nat.le_trans hB hb.size) hs (repW_frame (hb.mono hB) _ _ _ hr))
  have HSH := hid (fun (w' : World) (v' : Value) (h : RN lo B w' m v' t) (hB' : B ≤ w'.heap.size) => (rn_nd hs.pure h))
  cases hsm : Tr.isSum t with
  | true =>
    rw [hsm] at HS
    have HBY : Hid (s.data.toList = t.bytes) := by rw [Hid, hby]
    have HSM := hid hsm
    clear e0 e1 e2 hlist hby hsum hr hsm
    go_enter Tryz.func160, Tryz.ntmps160
    go_wp2_with fail
    have HB0 := hid (belowAA w (.cells #[.bool l, .string s, .slice a n cap] 119) (.cells #[.string ⟨#[]⟩, .nilIface] 139))
    refine (HS.out _).mono ?_
    rintro e w1 ⟨rfl, b1⟩
    have HB1 : Hid (Below w.heap.size w w1) := HB0.out.trans (b1.mono HB0.out.size)
    have hb0 : w1.heap[w.heap.size]? = some (.cells #[.bool l, .string s, .slice a n cap] 119 (0, 0)) := kept_block b1 (block_alloc (heap_alloc_new w _))
    have hb2 := old_block2 b1
    have z1 := cell_of_row _ _ 1 _ _ _ hb0
    have q0 := cell_of_row _ _ 0 _ _ _ hb2
    have q1 := cell_of_row _ _ 1 _ _ _ hb2
    have hf0 := frozen_of_row _ _ 0 _ _ hb2
    have hf1 := frozen_of_row _ _ 1 _ _ hb2
    clear b1 hb0
    go_wp2_with fail
    obtain ⟨y0, y1⟩ := set2 hb2 (.string s) .nilIface
    exact bodyPost_ret (v := .tuple #[.agg #[.string s, .nilIface], .bool true]) (by simp [results, Tryz.results160, go_sem, y0, y1]) rfl ⟨s, .nilIface, by rfl, .inl rfl, fun _ => .inl ⟨HSM.out, HBY.out, rfl⟩, (HB1.out.setCell (p := ⟨w.heap.size + 1, 0, none⟩) (Nat.le_succ _) _).setCell (p := ⟨w.heap.size + 1, 1, none⟩) (Nat.le_succ _) _⟩
  | false =>
    rw [hsm] at HS
    have HSM := hid hsm
    have HPU := hid hs
    have hBB := hB
    clear e0 e1 e2 hlist hby hsum hr hsm HSH
    go_enter Tryz.func160, Tryz.ntmps160
    go_wp2_with fail
    have HB0 := hid (belowAA w (.cells #[.bool l, .string s, .slice a n cap] 119) (.cells #[.string ⟨#[]⟩, .nilIface] 139))
    refine (HS.out _).mono ?_
    rintro e w1 ⟨rfl, b1⟩
    have HB1 : Hid (Below w.heap.size w w1) := HB0.out.trans (b1.mono HB0.out.size)
    have hb0 : w1.heap[w.heap.size]? = some (.cells #[.bool l, .string s, .slice a n cap] 119 (0, 0)) := kept_block b1 (block_alloc (heap_alloc_new w _))
    have hb2 := old_block2 b1
    have z0 := cell_of_row _ _ 0 _ _ _ hb0
    have z1 := cell_of_row _ _ 1 _ _ _ hb0
    have z2 := cell_of_row _ _ 2 _ _ _ hb0
    clear b1 hb0
    go_wp2_with fail
    refine (HM.out _ HB1.out).mono ?_
    rintro e w2 ⟨v2, rfl, n2, r2, b2⟩
    have HB2 : Hid (Below w.heap.size w w2) := HB1.out.trans (b2.mono HB1.out.size)
    have hb3 := kept_block b2 hb2
    have q0 := cell_of_row _ _ 0 _ _ _ hb3
    have q1 := cell_of_row _ _ 1 _ _ _ hb3
    have hf0 := frozen_of_row _ _ 0 _ _ hb3
    have hf1 := frozen_of_row _ _ 1 _ _ hb3
    clear b2 hb2 z0 z1 z2
    cases hsd : Tr.sound t with
    | false =>
      have HSD := hid hsd
      clear r2
      rcases n2 with rfl | ⟨T, y, rfl⟩
      · go_wp2_with fail
        obtain ⟨y0, y1⟩ := set2 hb3 (.string ⟨#[]⟩) .nilIface
        exact bodyPost_ret (v := .tuple #[.agg #[.string ⟨#[]⟩, .nilIface], .bool false]) (by simp [results, Tryz.results160, go_sem, y0, y1]) rfl ⟨⟨#[]⟩, .nilIface, by rw [HSD.out]; rfl, .inl rfl, (fun h => by rw [HSD.out] at h; cases h), (HB2.out.setCell (p := ⟨w.heap.size + 1, 0, none⟩) (Nat.le_succ _) _).setCell (p := ⟨w.heap.size + 1, 1, none⟩) (Nat.le_succ _) _⟩
      · go_wp2_with fail
        obtain ⟨y0, y1⟩ := set2 hb3 (.string ⟨#[]⟩) (.iface T y)
        exact bodyPost_ret (v := .tuple #[.agg #[.string ⟨#[]⟩, .iface T y], .bool false]) (by simp [results, Tryz.results160, go_sem, y0, y1]) rfl ⟨⟨#[]⟩, .iface T y, by rw [HSD.out]; rfl, .inr ⟨_, _, rfl⟩, (fun h => by rw [HSD.out] at h; cases h), (HB2.out.setCell (p := ⟨w.heap.size + 1, 0, none⟩) (Nat.le_succ _) _).setCell (p := ⟨w.heap.size + 1, 1, none⟩) (Nat.le_succ _) _⟩
    | true =>
      have HSD := hid hsd
      have hrn := r2 hsd
      obtain ⟨k2, l2, s2, a2, nn2, cap2, hnd, hrep, _⟩ := rn_nd HPU.out.pure hrn
      have HRN := hid hrn
      have HIS : Hid (Calls Tryz.prog 134 #[v2] w2 fun e w' => e = .returned (.bool (decide ((Itm.enc t).length < 8))) ∧ Below w2.heap.size w2 w') := by
        cases m with
        | zero => exact hrep.elim
        | succ m => exact isShort_any w2 hnd HPU.out (rep_wider (Nat.le_trans hBB HB2.out.size) _ _ _ hrep)
      obtain ⟨T, y, _, rfl, _⟩ := hnd
      obtain ⟨sh, hsh⟩ : ∃ sh, sh = decide ((Itm.enc t).length < 8) := ⟨_, rfl⟩
      have HSHT := hid hsh
      rw [← hsh] at HIS
      clear hsh r2 hrn hrep hsd n2 q0 q1 hf0 hf1
      go_wp2_with fail
      refine HIS.out.mono ?_
      rintro e w3 ⟨rfl, b3⟩
      have HB3 : Hid (Below w.heap.size w w3) := HB2.out.trans (b3.mono HB2.out.size)
      have HRN3 := hid (rn_later (b3.mono (Nat.le_trans hBB HB2.out.size)) _ _ _ HRN.out)
      have hb4 := kept_block b3 hb3
      have q0 := cell_of_row _ _ 0 _ _ _ hb4
      have q1 := cell_of_row _ _ 1 _ _ _ hb4
      have hf0 := frozen_of_row _ _ 0 _ _ hb4
      have hf1 := frozen_of_row _ _ 1 _ _ hb4
      clear b3 hb3
      go_wp2_with fail
      obtain ⟨y0, y1⟩ := set2 hb4 (.string ⟨#[]⟩) (.iface T (.agg y))
      have hbl : ∀ u v : Value, Below w.heap.size w3 ((w3.setCell ⟨w.heap.size + 1, 0, none⟩ u).setCell ⟨w.heap.size + 1, 1, none⟩ v) := fun u v => ((Below.refl _ _).setCell (p := ⟨w.heap.size + 1, 0, none⟩) (Nat.le_succ _) _).setCell (p := ⟨w.heap.size + 1, 1, none⟩) (Nat.le_succ _) _
      exact bodyPost_ret (v := .tuple #[.agg #[.string ⟨#[]⟩, .iface T (.agg y)], .bool sh]) (by simp [results, Tryz.results160, go_sem, y0, y1]) rfl ⟨⟨#[]⟩, .iface T (.agg y), by rw [HSD.out, ← HSHT.out]; rfl, .inr ⟨_, _, rfl⟩, (fun h => .inr ⟨HSM.out, rfl, rn_later ((hbl _ _).mono hBB) _ _ _ HRN3.out, by rw [HSD.out, Bool.false_or, Bool.true_and, decide_eq_true_eq] at h; exact h⟩), HB3.out.trans (hbl _ _)⟩
end Go.Proofs.YtbmohenjphmlgaaGreat

/- The walk of readBranch (of the program). -/
namespace Go.Proofs.YtbmohenjphmlgaaGreat
open Go.RowKit
set_option maxRecDepth 100000

theorem branchCells_set (a : Option Addr) (cap : Nat) (cs : Array Value) (x : ByteArray) (i : Nat) (v : Value) (hi : i < cs.size) : (branchCells a cap cs x).setIfInBounds (4 + i) v = branchCells a cap (cs.setIfInBounds i v) x := by
  unfold branchCells
  rw [Array.setIfInBounds_append_left (by simp; omega), Array.setIfInBounds_append_right (by simp)]
  simp

theorem branchCells_setLast (a : Option Addr) (cap : Nat) (cs : Array Value) (x y : ByteArray) (h : cs.size = 32) : (branchCells a cap cs x).setIfInBounds 36 (.string y) = branchCells a cap cs y := by
  unfold branchCells
  rw [Array.setIfInBounds_append_right (by simp [h])]
  simp [h]

theorem wpList_build1 {P : Program} {ops : Array Oper} {rest : List Oper} {o : Oper} {a : Act} {w : World} {Q : Exit → Act → World → Prop} (hg : o.guard = none) (t : TypeId) (x0 : Operand) (ho : o.op = .build t #[(0, x0)]) (v0 : Value) (h0 : a.eval x0 = v0) (cs : Array Value)
    (hb : P.built t [(0, v0)] = some cs) (h : wpList P ops Q rest (a.put o.dst (.agg cs)) w) : wpList P ops Q (o :: rest) a w := by
  have e : P.built t ((#[(0, x0)] : Array (Nat × Operand)).map fun (i, x) => (i, a.eval x)).toList = some cs := by simpa [h0] using hb
  exact wpList_build hg t _ ho (by rw [e]; rfl) (by rw [e]; exact h)

theorem kid_is {t : Itm} {i : Nat} (h : i < t.items.length) : Tr.kid t i = t.items[i] := by
  unfold Tr.kid
  rw [List.getD_eq_getElem?_getD, List.getElem?_eq_getElem h]; rfl

/-- The cells of an item within an item. -/
theorem kid_rep {lo B : Nat} {w : World} {m n cap : Nat} {l : Bool} {s : ByteArray} {a : Option Addr} {t : Itm} (h : RepW lo B w (m + 1) (.agg #[.bool l, .string s, .slice a n cap]) t) (i : Nat) (hi : i < t.items.length) :
    ∃ b off l1 s1 x1 n1 c1, a = some ⟨b, off, none⟩ ∧ b < B ∧ w.cell? ⟨b, off + i * 3, none⟩ = some (.bool l1) ∧ w.cell? ⟨b, off + i * 3 + 1, none⟩ = some (.string s1) ∧ w.cell? ⟨b, off + i * 3 + 2, none⟩ = some (.slice x1 n1 c1) ∧ l1 = (Tr.kid t i).list ∧ s1 = ⟨(Tr.kid t i).bytes.toArray⟩ ∧ RepW lo B w m (.agg #[.bool l1, .string s1, .slice x1 n1 c1]) (Tr.kid t i) := by
  obtain ⟨a', cap', hv, _, hh⟩ := h
  simp only [Value.agg.injEq, Array.mk.injEq, List.cons.injEq, Value.slice.injEq, and_true] at hv
  obtain ⟨_, _, rfl, _, _⟩ := hv
  obtain ⟨b, off, c0, c1, c2, ha, _, hlt, e0, e1, e2, hr⟩ := hh i hi
  rw [← kid_is hi] at hr
  obtain ⟨x1, k1, rfl, rfl, rfl⟩ := repW_shape hr
  exact ⟨b, off, _, _, _, _, _, ha, hlt, e0, e1, e2, rfl, rfl, hr⟩

theorem kid_mem {t : Itm} {i : Nat} (h : i < t.items.length) : Tr.kid t i ∈ t.items := by rw [kid_is h]; exact List.getElem_mem h

theorem kid_small {t : Itm} (h : Small t) {i : Nat} (hi : i < t.items.length) : Small (Tr.kid t i) := by
  have hm := kid_mem hi
  have hp := h.pure
  rw [Itm.pure_eq, Bool.and_eq_true, List.all_eq_true] at hp
  have hl : t.list = true := by
    cases hl : t.list with
    | true => rfl
    | false =>
      have h1 := hp.1
      rw [hl] at h1
      simp only [Bool.false_eq_true, if_false, List.isEmpty_iff] at h1
      rw [h1] at hi
      simp at hi
  refine ⟨hp.2 _ hm, ?_, ?_⟩
  · have hd := h.deep
    rw [Itm.deep_eq, if_pos hl] at hd
    have := Itm.le_top (List.mem_map_of_mem (f := Itm.deep) hm)
    omega
  · have hd := h.len
    rw [Itm.enc_eq, if_pos hl] at hd
    have h1 := Itm.headed_len 192 (t.items.flatMap Itm.enc)
    have h2 := Itm.mem_enc_len hm
    omega

theorem sound_bytes {y : Itm} (hp : Itm.pure y = true) (hl : y.list = false) (he : Tr.isEmpty y = false) : Tr.sound y = false := by
  rw [Itm.pure_eq, hl] at hp
  simp only [Bool.false_eq_true, if_false, Bool.and_eq_true, List.isEmpty_iff] at hp
  rw [Tr.sound_eq]
  unfold Tr.soundOf
  rw [he, hp.1]
  simp [Tr.isBranch, hl]

theorem soundP_empty {y : Itm} (he : Tr.isEmpty y = true) : Tr.sound y = true := by
  rw [Tr.sound_eq]
  unfold Tr.soundOf
  rw [he]; rfl

theorem slot_ref {k : Nat} (hk : k < 16) {y : Itm} (hp : Itm.pure y = true) : Tr.slotOk k y (Tr.sound y) = (Tr.isSum y || (Tr.sound y && decide ((Itm.enc y).length < 8))) := by
  rw [Tr.slotOk_eq, if_neg (by omega)]
  cases he : Tr.isEmpty y with
  | true =>
    have h1 : (Itm.enc (Tr.itB [])).length = 1 := by rw [Tr.enc_itB]; rfl
    rw [soundP_empty he, empty_item hp he, h1]
    rfl
  | false =>
    cases hl : y.list with
    | false => rw [sound_bytes hp hl he]; simp
    | true => simp [Tr.isSum, hl]

theorem refN_leads {lo B : Nat} {w : World} {m : Nat} {s : ByteArray} {v : Value} {y : Itm} (hp : Itm.pure y = true) (h : RefN (RN lo B w m) s v y) (w' : World) : Calls Tryz.prog 161 #[.agg #[.string s, v]] w' fun e w2 => e = .returned (.bool (Tr.isEmpty y)) ∧ Below w'.heap.size w' w2 := by
  rcases h with ⟨h1, h2, rfl⟩ | ⟨h1, rfl, h3, h4⟩
  · have h8 : y.list = false ∧ y.bytes.length = 8 := by
      unfold Tr.isSum at h1
      simp only [Bool.and_eq_true, Bool.not_eq_true', decide_eq_true_eq] at h1
      exact h1
    have he : Tr.isEmpty y = false := by
      unfold Tr.isEmpty
      rw [h8.1]
      cases hb : y.bytes with
      | nil => rw [hb] at h8; simp at h8
      | cons c r => rfl
    rw [he]
    exact leads_sum s _ (.inl rfl) w' (by rw [← ba_len, h2, h8.2]; omega)
  · obtain ⟨k, _, _, _, _, _, hnd, _, hk, _⟩ := rn_nd hp h3
    have e : decide (k = 0) = Tr.isEmpty y := by
      rw [Bool.eq_iff_iff, decide_eq_true_eq]; exact hk
    rw [← e]
    exact leads_node w' hnd

/-- What holds behind one more reference. -/
theorem rb_step {lo B m k cap : Nat} {w wr w2 : World} {a : Option Addr} {cs : Array Value} {t : Itm} {s' : ByteArray} {v : Value} (hB : B ≤ w.heap.size) (hcs : cs.size = 32) (hk : k < 16) (hw : w.heap.size ≤ wr.heap.size)
    (hK : w2.heap[w.heap.size + 1]? = some (.cells (branchCells a cap cs ⟨#[]⟩) 142 (0, 0))) (hX : w2.heap[w.heap.size]? = some (.cells #[.bool true, .string ⟨#[]⟩, .slice a 17 cap] 119 (0, 0))) (hb : Below w.heap.size w w2) (hb2 : Below wr.heap.size wr w2)
    (hold : ∀ d, d < k → Tr.slotOk d (Tr.kid t d) (Tr.sound (Tr.kid t d)) = true ∧ ∃ s vd, cs[2 * d]? = some (.string s) ∧ cs[2 * d + 1]? = some vd ∧ RefN (RN lo B wr m) s vd (Tr.kid t d))
    (hok : Tr.slotOk k (Tr.kid t k) (Tr.sound (Tr.kid t k)) = true) (hnew : RefN (RN lo B w2 m) s' v (Tr.kid t k)) :
    ((cs.setIfInBounds (2 * k) (.string s')).setIfInBounds (2 * k + 1) v).size = 32 ∧
    ((w2.setCell ⟨w.heap.size + 1, 4 + k * 2, none⟩ (.string s')).setCell ⟨w.heap.size + 1, 4 + k * 2 + 1, none⟩ v).heap[w.heap.size + 1]? = some (.cells (branchCells a cap ((cs.setIfInBounds (2 * k) (.string s')).setIfInBounds (2 * k + 1) v) ⟨#[]⟩) 142 (0, 0)) ∧
    ((w2.setCell ⟨w.heap.size + 1, 4 + k * 2, none⟩ (.string s')).setCell ⟨w.heap.size + 1, 4 + k * 2 + 1, none⟩ v).heap[w.heap.size]? = some (.cells #[.bool true, .string ⟨#[]⟩, .slice a 17 cap] 119 (0, 0)) ∧
    Below w.heap.size w ((w2.setCell ⟨w.heap.size + 1, 4 + k * 2, none⟩ (.string s')).setCell ⟨w.heap.size + 1, 4 + k * 2 + 1, none⟩ v) ∧
    ∀ d, d < k + 1 → Tr.slotOk d (Tr.kid t d) (Tr.sound (Tr.kid t d)) = true ∧ ∃ s vd, ((cs.setIfInBounds (2 * k) (.string s')).setIfInBounds (2 * k + 1) v)[2 * d]? = some (.string s) ∧ ((cs.setIfInBounds (2 * k) (.string s')).setIfInBounds (2 * k + 1) v)[2 * d + 1]? = some vd ∧ RefN (RN lo B ((w2.setCell ⟨w.heap.size + 1, 4 + k * 2, none⟩ (.string s')).setCell ⟨w.heap.size + 1, 4 + k * 2 + 1, none⟩ v) m) s vd (Tr.kid t d) := by
  have hbl : Below w.heap.size w2 ((w2.setCell ⟨w.heap.size + 1, 4 + k * 2, none⟩ (.string s')).setCell ⟨w.heap.size + 1, 4 + k * 2 + 1, none⟩ v) := ((Below.refl _ _).setCell (p := ⟨w.heap.size + 1, 4 + k * 2, none⟩) (Nat.le_succ _) _).setCell (p := ⟨w.heap.size + 1, 4 + k * 2 + 1, none⟩) (Nat.le_succ _) _
  refine ⟨by simp [hcs], ?_, ?_, hb.trans hbl, fun d hd => ?_⟩
  · have h1 := heap_setCell_same w2 (w.heap.size + 1) (4 + k * 2) _ 142 (.string s') hK
    have h2 := heap_setCell_same _ (w.heap.size + 1) (4 + k * 2 + 1) _ 142 v h1
    rw [h2, show 4 + k * 2 + 1 = 4 + (2 * k + 1) by omega, show 4 + k * 2 = 4 + 2 * k by omega, branchCells_set _ _ _ _ _ _ (by omega), branchCells_set _ _ _ _ _ _ (by simp; omega)]
  · rw [Below.heap_setCell _ _ _ _ (by simp), Below.heap_setCell _ _ _ _ (by simp)]; exact hX
  · by_cases hdk : d = k
    · subst hdk
      refine ⟨hok, s', v, ?_, ?_, refN_mono hnew (rn_later (hbl.mono hB) _ _ _)⟩
      · rw [Array.getElem?_setIfInBounds_ne (by omega), Array.getElem?_setIfInBounds_self_of_lt (by omega)]
      · rw [Array.getElem?_setIfInBounds_self_of_lt (by simp; omega)]
    · obtain ⟨h1, s, vd, g1, g2, g3⟩ := hold d (by omega)
      refine ⟨h1, s, vd, ?_, ?_, refN_mono g3 (fun h => rn_later (hbl.mono hB) _ _ _ (rn_later (hb2.mono (Nat.le_trans hB hw)) _ _ _ h))⟩
      · rw [Array.getElem?_setIfInBounds_ne (by omega), Array.getElem?_setIfInBounds_ne (by omega)]; exact g1
      · rw [Array.getElem?_setIfInBounds_ne (by omega), Array.getElem?_setIfInBounds_ne (by omega)]; exact g2

theorem slot_val (y : Itm) (b : Bool) : Tr.slotOk 16 y b = (!y.list && decide (y.bytes.length ≤ 40)) := by
  rw [Tr.slotOk_eq, if_pos rfl]
  unfold Tr.isEmpty Tr.isValue
  cases y.list with
  | true => rfl
  | false =>
    cases hb : y.bytes with
    | nil => rfl
    | cons c r => simp

def zeroRefs : Array Value := #[.string ⟨#[]⟩, .nilIface, .string ⟨#[]⟩, .nilIface, .string ⟨#[]⟩, .nilIface, .string ⟨#[]⟩, .nilIface, .string ⟨#[]⟩, .nilIface, .string ⟨#[]⟩, .nilIface, .string ⟨#[]⟩, .nilIface, .string ⟨#[]⟩, .nilIface, .string ⟨#[]⟩, .nilIface, .string ⟨#[]⟩, .nilIface, .string ⟨#[]⟩, .nilIface, .string ⟨#[]⟩, .nilIface, .string ⟨#[]⟩, .nilIface, .string ⟨#[]⟩, .nilIface, .string ⟨#[]⟩, .nilIface, .string ⟨#[]⟩, .nilIface]

set_option maxHeartbeats 3200000 in
theorem readBranch_any {m : Nat} (hm : ReadOk m) (lo B : Nat) (w : World) (a : Option Addr) (cap : Nat) (t : Itm) (hB : B ≤ w.heap.size) (hs : Small t) (hbr : Tr.isBranch t = true) (hr : RepW lo B w (m + 1) (.agg #[.bool true, .string ⟨#[]⟩, .slice a 17 cap]) t) :
    Calls Tryz.prog 149 #[.agg #[.bool true, .string ⟨#[]⟩, .slice a 17 cap]] w fun e w' => ∃ v', e = .returned (.tuple #[v', .bool (Tr.sound t)]) ∧ IsNode v' ∧ (Tr.sound t = true → RN lo B w' (m + 1) v' t) ∧ Below w.heap.size w w' := by
  have HR := hid hr
  have HS := hid hs
  have HLEN := hid (Tr.branch_len hbr)
  have HBR := hid hbr
  clear hr hs hbr
  go_enter Tryz.func149, Tryz.ntmps149
  go_upto_region 1 with fail
  refine wp_region_list ?_
  refine wpList_load_row rfl 119 (.tmp 1) rfl w.heap.size rfl 119 #[.bool true, .string ⟨#[]⟩, .slice a 17 cap] (0, 0) _ (heap_alloc_new w _) Tryz.underlying119 rfl (by kernel_rfl) ?_
  refine wpList_build2 rfl 137 _ _ rfl (.int .i64 3) (.agg #[.bool true, .string ⟨#[]⟩, .slice a 17 cap]) rfl rfl #[.int .i64 3, .bool true, .string ⟨#[]⟩, .slice a 17 cap] (by kernel_rfl) ?_
  refine wpList_build1 rfl 142 _ rfl (.agg #[.int .i64 3, .bool true, .string ⟨#[]⟩, .slice a 17 cap]) rfl (branchCells a cap zeroRefs ⟨#[]⟩) (by kernel_rfl) ?_
  have HSZ := hid (branchCells_size a cap zeroRefs ⟨#[]⟩ rfl)
  have HALL : Hid ((branchCells a cap zeroRefs ⟨#[]⟩).all (·.oneCell') = true) := by
    rw [Hid]; kernel_rfl
  generalize hBB : branchCells a cap zeroRefs ⟨#[]⟩ = BB at *
  have HBB := hid hBB
  clear hBB
  refine wpList_plain rfl fun K hK => ?_
  go_simp
  refine hK _ _ ?_
  clear hK K
  refine wpList_store_row rfl 142 (.tmp 4) (.tmp 13) rfl (w.heap.size + 1) BB rfl rfl 142 branchZero (block_alloc2 w _ _) (by rw [HSZ.out]; kernel_rfl) (by rw [HSZ.out]; rfl) HALL.out ?_
  have HG : Hid ((((w.alloc (.cells #[.bool true, .string ⟨#[]⟩, .slice a 17 cap] 119)).alloc (.cells branchZero 142)).setRow (w.heap.size + 1) BB).heap[w.heap.size + 1]? = some (.cells BB 142 (0, 0))) := setRow_heap _ _ _ _ _ _ (block_alloc2 w _ _)
  have HX : Hid ((((w.alloc (.cells #[.bool true, .string ⟨#[]⟩, .slice a 17 cap] 119)).alloc (.cells branchZero 142)).setRow (w.heap.size + 1) BB).heap[w.heap.size]? = some (.cells #[.bool true, .string ⟨#[]⟩, .slice a 17 cap] 119 (0, 0))) := (setRow_other _ _ _ _ (by omega)).trans (block_alloc (heap_alloc_new w _))
  have HW : Hid (Below w.heap.size w (((w.alloc (.cells #[.bool true, .string ⟨#[]⟩, .slice a 17 cap] 119)).alloc (.cells branchZero 142)).setRow (w.heap.size + 1) BB)) := setRow_below (belowAA w _ _) (Nat.le_succ _)
  change wpList _ _ _ _ _ (((w.alloc (.cells #[.bool true, .string ⟨#[]⟩, .slice a 17 cap] 119)).alloc (.cells branchZero 142)).setRow (w.heap.size + 1) BB)
  generalize hWW : ((w.alloc (.cells #[.bool true, .string ⟨#[]⟩, .slice a 17 cap] 119)).alloc (.cells branchZero 142)).setRow (w.heap.size + 1) BB = W at *
  clear hWW
  rw [← HBB.out] at HG
  clear HALL HSZ
  try simp only [Act.put]
  go_wp2_with fail
  go_loopw [5, 14] (fun u i wr => ∃ (k : Nat) (cs : Array Value), i = .int .i64 k ∧ u = .int .i64 (Tr.full t k : Nat) ∧ k ≤ 16 ∧ Hid (cs.size = 32 ∧ wr.heap[w.heap.size + 1]? = some (.cells (branchCells a cap cs ⟨#[]⟩) 142 (0, 0)) ∧ wr.heap[w.heap.size]? = some (.cells #[.bool true, .string ⟨#[]⟩, .slice a 17 cap] 119 (0, 0)) ∧ Below w.heap.size w wr ∧
    ∀ d, d < k → Tr.slotOk d (Tr.kid t d) (Tr.sound (Tr.kid t d)) = true ∧ ∃ s vd, cs[2 * d]? = some (.string s) ∧ cs[2 * d + 1]? = some vd ∧ RefN (RN lo B wr m) s vd (Tr.kid t d))) (fun _ i _ => 16 - (intOf i).toNat)
  case atStart => exact ⟨0, zeroRefs, rfl, by rw [Tr.full_zero]; rfl, Nat.zero_le _, rfl, HG.out, HX.out, HW.out, fun d hd => absurd hd (Nat.not_lt_zero _)⟩
  case round =>
    obtain ⟨k, cs, rfl, rfl, hk, HH⟩ := hrel
    have q2 := (cell_of_row _ _ 2 _ _ _ HH.out.2.2.1).trans rfl
    by_cases hlt : k < 16
    · obtain ⟨b, off, l1, s1, x1, n1, c1, rfl, hb, e0, e1, e2, hl1, hs1, hrk⟩ := kid_rep HR.out k (by rw [HLEN.out]; omega)
      have hbB : b < w.heap.size := Nat.lt_of_lt_of_le hb hB
      have f0 := (HH.out.2.2.2.1.cell (p := ⟨b, off + k * 3, none⟩) hbB).trans e0
      have f1 := (HH.out.2.2.2.1.cell (p := ⟨b, off + k * 3 + 1, none⟩) hbB).trans e1
      have f2 := (HH.out.2.2.2.1.cell (p := ⟨b, off + k * 3 + 2, none⟩) hbB).trans e2
      have i1 : (0 : Int) ≤ (k : Int) := by omega
      have i2 : (k : Int) < 16 := by omega
      have i3 : (k : Int) < 17 := by omega
      have HRR := hid (readReference_any hm lo B wr l1 s1 x1 n1 c1 (Tr.kid t k) (Nat.le_trans hB HH.out.2.2.2.1.size) (kid_small HS.out (by rw [HLEN.out]; omega)) (repW_frame (HH.out.2.2.2.1.mono hB) _ _ _ hrk))
      rw [← slot_ref hlt (kid_small HS.out (by rw [HLEN.out]; omega)).pure] at HRR
      clear e0 e1 e2 hrk hl1 hs1
      go_wp2_with fail
      refine HRR.out.mono ?_
      rintro e w1 ⟨s', n', rfl, hn', hrf, b1⟩
      have HRF := hid hrf
      have HB1 : Hid (Below w.heap.size w w1) := HH.out.2.2.2.1.trans (b1.mono HH.out.2.2.2.1.size)
      have HK1 : Hid (w1.heap[w.heap.size + 1]? = some (.cells (branchCells (some ⟨b, off, none⟩) cap cs ⟨#[]⟩) 142 (0, 0))) := kept_block b1 HH.out.2.1
      have HX1 : Hid (w1.heap[w.heap.size]? = some (.cells #[.bool true, .string ⟨#[]⟩, .slice (some ⟨b, off, none⟩) 17 cap] 119 (0, 0))) := kept_block b1 HH.out.2.2.1
      have HBB1 := hid b1
      clear hrf b1 f0 f1 f2 q2 HRR
      obtain ⟨ok, hok⟩ : ∃ ok, ok = Tr.slotOk k (Tr.kid t k) (Tr.sound (Tr.kid t k)) := ⟨_, rfl⟩
      have HOK := hid hok
      rw [← hok] at HRF ⊢
      clear hok
      cases ok with
      | false =>
        rcases hn' with rfl | ⟨T, y, rfl⟩
        all_goals
          go_wp2_with fail
          refine bodyPost_ret (v := .tuple #[.nilIface, .bool false]) (by simp [results, Tryz.results149, go_sem]) rfl ⟨.nilIface, ?_, .inl rfl, ?_, ?_⟩
          · rw [Tr.sound_bad (Tr.branch_full HBR.out) HBR.out k (by omega) HOK.out.symm]
          · intro h; rw [Tr.sound_bad (Tr.branch_full HBR.out) HBR.out k (by omega) HOK.out.symm] at h; cases h
          · exact HB1.out.alloc HB1.out.size _
      | true =>
        have HLD := hid (refN_leads (kid_small HS.out (by rw [HLEN.out]; omega)).pure (HRF.out rfl))
        have HFU := hid (Tr.full_succ t k)
        have hcs := HH.out.1
        obtain ⟨o0, ho0⟩ : ∃ o, cs[2 * k]? = some o := ⟨cs[2 * k]'(by omega), Array.getElem?_eq_getElem (by omega)⟩
        obtain ⟨o1, ho1⟩ : ∃ o, cs[2 * k + 1]? = some o := ⟨cs[2 * k + 1]'(by omega), Array.getElem?_eq_getElem (by omega)⟩
        have HO0 : Hid ((branchCells (some ⟨b, off, none⟩) cap cs ⟨#[]⟩)[4 + k * 2]? = some o0) := by rw [Hid, Nat.mul_comm]; exact (branchCells_to _ _ _ _ _ (by omega)).trans ho0
        have HO1 : Hid ((branchCells (some ⟨b, off, none⟩) cap cs ⟨#[]⟩)[4 + k * 2 + 1]? = some o1) := by rw [Hid, Nat.mul_comm, Nat.add_assoc]; exact (branchCells_to _ _ _ _ _ (by omega)).trans ho1
        clear hcs ho0 ho1
        rcases hn' with rfl | ⟨T, y, rfl⟩
        all_goals
          go_wp2_with fail
          refine (HLD.out _).mono ?_
          rintro e w2 ⟨rfl, b2⟩
          have HB2 : Hid (Below w.heap.size w w2) := (HB1.out.alloc HB1.out.size _).trans (b2.mono (by rw [alloc_size]; exact Nat.le_succ_of_le HB1.out.size))
          have HK2 : Hid (w2.heap[w.heap.size + 1]? = some (.cells (branchCells (some ⟨b, off, none⟩) cap cs ⟨#[]⟩) 142 (0, 0))) := kept_block b2 (block_alloc HK1.out)
          have HX2 : Hid (w2.heap[w.heap.size]? = some (.cells #[.bool true, .string ⟨#[]⟩, .slice (some ⟨b, off, none⟩) 17 cap] 119 (0, 0))) := kept_block b2 (block_alloc HX1.out)
          have hr2 := old_block b2
          have y0 := (cell_of_row _ _ 0 _ _ _ hr2).trans rfl
          have y1 := (cell_of_row _ _ 1 _ _ _ hr2).trans rfl
          have z0 := (cell_of_row _ _ (4 + k * 2) _ _ _ HK2.out).trans HO0.out
          have z1 := (cell_of_row _ _ (4 + k * 2 + 1) _ _ _ HK2.out).trans HO1.out
          have v0 := frozen_of_row _ _ (4 + k * 2) _ _ HK2.out
          have v1 := frozen_of_row _ _ (4 + k * 2 + 1) _ _ HK2.out
          have HBB2 := hid b2
          clear hr2 b2
          cases hie : Tr.isEmpty (Tr.kid t k) with
          | true =>
            rw [hie] at HFU
            go_wp2_with fail
            exact ⟨⟨k + 1, _, by go_num, by rw [HFU.out]; rfl, by omega, rb_step hB HH.out.1 hlt HH.out.2.2.2.1.size HK2.out HX2.out HB2.out (HBB1.out.trans (((Below.refl _ _).alloc (Nat.le_refl _) _).mono HBB1.out.size |>.trans (HBB2.out.mono (by rw [alloc_size]; exact Nat.le_succ_of_le HBB1.out.size)))) HH.out.2.2.2.2 HOK.out.symm (refN_mono (HRF.out (by trivial)) (rn_later (((Below.refl _ _).alloc (Nat.le_trans hB HB1.out.size) _).trans (HBB2.out.mono (by rw [alloc_size]; have := HB1.out.size; omega))) _ _ _))⟩, by simp [intOf]; omega⟩
          | false =>
            rw [hie] at HFU
            have j1 : (0 : Int) ≤ ((Tr.full t k : Nat) : Int) := Int.natCast_nonneg _
            have j2 : ((Tr.full t k : Nat) : Int) ≤ 16 := by have := Tr.full_le t k; omega
            go_wp2_with fail
            exact ⟨⟨k + 1, _, by go_num, by rw [HFU.out]; rfl, by omega, rb_step hB HH.out.1 hlt HH.out.2.2.2.1.size HK2.out HX2.out HB2.out (HBB1.out.trans (((Below.refl _ _).alloc (Nat.le_refl _) _).mono HBB1.out.size |>.trans (HBB2.out.mono (by rw [alloc_size]; exact Nat.le_succ_of_le HBB1.out.size)))) HH.out.2.2.2.2 HOK.out.symm (refN_mono (HRF.out (by trivial)) (rn_later (((Below.refl _ _).alloc (Nat.le_trans hB HB1.out.size) _).trans (HBB2.out.mono (by rw [alloc_size]; have := HB1.out.size; omega))) _ _ _))⟩, by simp [intOf]; omega⟩
    · obtain rfl : k = 16 := by omega
      obtain ⟨b, off, l1, s1, x1, n1, c1, rfl, hb, e0, e1, e2, hl1, hs1, _⟩ := kid_rep HR.out 16 (by rw [HLEN.out]; omega)
      have hbB : b < w.heap.size := Nat.lt_of_lt_of_le hb hB
      have f0 := (HH.out.2.2.2.1.cell (p := ⟨b, off + 48, none⟩) hbB).trans e0
      have f1 := (HH.out.2.2.2.1.cell (p := ⟨b, off + 49, none⟩) hbB).trans e1
      have f2 := (HH.out.2.2.2.1.cell (p := ⟨b, off + 50, none⟩) hbB).trans e2
      have HRV := hid (fun w => readValue_any l1 s1 x1 n1 c1 w)
      have HSV : Hid ((!l1 && decide (s1.size ≤ 40)) = Tr.slotOk 16 (Tr.kid t 16) (Tr.sound (Tr.kid t 16))) := by
        rw [Hid, slot_val, hl1, hs1]
        show (!(Tr.kid t 16).list && decide ((Tr.kid t 16).bytes.toArray.size ≤ 40)) = _
        rw [List.size_toArray]
      have HEV : Hid (l1 = false → Tr.isEmpty (Tr.kid t 16) = s1.toList.isEmpty) := by
        intro h
        unfold Tr.isEmpty
        rw [← hl1, h, hs1, ByteArray.toList_eq]
        rfl
      have HBY : Hid (s1.data.toList = (Tr.kid t 16).bytes) := by rw [Hid, hs1]
      have HF17 := hid (Tr.full_succ t 16)
      have j1 : (0 : Int) ≤ ((Tr.full t 16 : Nat) : Int) := Int.natCast_nonneg _
      have j2 : ((Tr.full t 16 : Nat) : Int) ≤ 16 := by have := Tr.full_le t 16; omega
      clear e0 e1 e2 hl1 hs1
      go_wp2_with fail
      refine (HRV.out _).mono ?_
      rintro e w1 ⟨rfl, b1⟩
      have HB1 : Hid (Below w.heap.size w w1) := HH.out.2.2.2.1.trans (b1.mono HH.out.2.2.2.1.size)
      have HK1 : Hid (w1.heap[w.heap.size + 1]? = some (.cells (branchCells (some ⟨b, off, none⟩) cap cs ⟨#[]⟩) 142 (0, 0))) := kept_block b1 HH.out.2.1
      have HBB1 := hid b1
      have z0 := (cell_of_row _ _ 36 _ _ _ HK1.out).trans (branchCells_last _ _ _ _ HH.out.1)
      have v0 := frozen_of_row _ _ 36 _ _ HK1.out
      clear b1 f0 f1 f2 q2 HRV
      have HK3 : Hid ((w1.setCell ⟨w.heap.size + 1, 36, none⟩ (.string s1)).heap[w.heap.size + 1]? = some (.cells (branchCells (some ⟨b, off, none⟩) cap cs s1) 142 (0, 0))) := by
        rw [Hid, heap_setCell_same w1 _ 36 _ 142 (.string s1) HK1.out, branchCells_setLast _ _ _ _ _ HH.out.1]
      have HB3 : Hid (Below w.heap.size w (w1.setCell ⟨w.heap.size + 1, 36, none⟩ (.string s1))) := HB1.out.setCell (p := ⟨w.heap.size + 1, 36, none⟩) (Nat.le_succ _) _
      have HBw3 : Hid (Below w.heap.size wr (w1.setCell ⟨w.heap.size + 1, 36, none⟩ (.string s1))) := (HBB1.out.mono HH.out.2.2.2.1.size).setCell (p := ⟨w.heap.size + 1, 36, none⟩) (Nat.le_succ _) _
      have HSZ := hid (branchCells_size (some ⟨b, off, none⟩) cap cs s1 HH.out.1)
      obtain ⟨ok, hok⟩ : ∃ ok, ok = (!l1 && decide (s1.size ≤ 40)) := ⟨_, rfl⟩
      have HOK := hid hok
      rw [← hok] at HSV ⊢
      clear hok
      obtain ⟨em, hem⟩ : ∃ em, s1.toList.isEmpty = em := ⟨_, rfl⟩
      have HEM := hid hem
      cases ok with
      | false =>
        have HSB : Hid (Tr.sound t = false) := Tr.sound_bad (Tr.branch_full HBR.out) HBR.out 16 (by omega) HSV.out.symm
        cases em
        all_goals
          go_upto_region 17 with fail
          refine wp_region_list ?_
          refine wpList_load_row rfl 142 (.tmp 4) rfl (w.heap.size + 1) rfl 142 (branchCells (some ⟨b, off, none⟩) cap cs s1) (0, 0) _ HK3.out Tryz.underlying142 rfl (by rw [HSZ.out]; kernel_rfl) ?_
          obtain ⟨BB, hBB⟩ : ∃ BB, BB = branchCells (some ⟨b, off, none⟩) cap cs s1 := ⟨_, rfl⟩
          have HBB := hid hBB
          rw [← hBB]
          clear hBB HK3 HK1 HSZ z0 v0
          try simp only [Act.put]
          go_wp2_with fail
          exact bodyPost_ret (v := .tuple #[.iface 142 (.agg BB), .bool false]) (by simp [results, Tryz.results149, go_sem]) rfl ⟨_, by rw [HSB.out], .inr ⟨_, _, rfl⟩, (fun h => by rw [HSB.out] at h; cases h), HB3.out⟩
      | true =>
        have HL1 : Hid (l1 = false) := by
          have h := HOK.out
          cases l1 with
          | false => rfl
          | true => cases h
        have HSG : Hid (Tr.sound t = decide (2 ≤ Tr.full t 17)) := Tr.sound_good (Tr.branch_full HBR.out) HBR.out (fun i hi => by
          by_cases h16 : i = 16
          · subst h16; exact HSV.out.symm
          · exact (HH.out.2.2.2.2 i (by omega)).1)
        have HRN : Hid (RN lo B (w1.setCell ⟨w.heap.size + 1, 36, none⟩ (.string s1)) (m + 1) (branchV (some ⟨b, off, none⟩) cap cs s1) t) := .inr (.inr (.inr ⟨_, cap, cs, s1, HBR.out, repW_frame (HB3.out.mono hB) _ _ _ HR.out, HH.out.1, HBY.out, rfl, fun d hd => by
          obtain ⟨_, s, vd, g1, g2, g3⟩ := HH.out.2.2.2.2 d hd
          exact ⟨s, vd, g1, g2, refN_mono g3 (rn_later (HBw3.out.mono hB) _ _ _)⟩⟩))
        have HD1 : Hid (em = false → Tr.sound t = decide ((2 : Int) ≤ ((Tr.full t 16 : Nat) : Int) + 1)) := by
          intro h
          rw [HSG.out, HF17.out, HEV.out HL1.out, hem, h, Bool.eq_iff_iff, decide_eq_true_eq, decide_eq_true_eq]
          simp only [Bool.false_eq_true, if_false]
          omega
        have HD2 : Hid (em = true → Tr.sound t = decide ((2 : Int) ≤ ((Tr.full t 16 : Nat) : Int))) := by
          intro h
          rw [HSG.out, HF17.out, HEV.out HL1.out, hem, h, Bool.eq_iff_iff, decide_eq_true_eq, decide_eq_true_eq]
          simp only [if_true]
          omega
        cases em
        all_goals
          go_upto_region 17 with fail
          refine wp_region_list ?_
          refine wpList_load_row rfl 142 (.tmp 4) rfl (w.heap.size + 1) rfl 142 (branchCells (some ⟨b, off, none⟩) cap cs s1) (0, 0) _ HK3.out Tryz.underlying142 rfl (by rw [HSZ.out]; kernel_rfl) ?_
          obtain ⟨BB, hBB⟩ : ∃ BB, BB = branchCells (some ⟨b, off, none⟩) cap cs s1 := ⟨_, rfl⟩
          have HBB := hid hBB
          rw [← hBB]
          clear hBB HK3 HK1 HSZ z0 v0
          try simp only [Act.put]
          go_wp2_with fail
        · exact bodyPost_ret (v := .tuple #[.iface 142 (.agg BB), .bool (decide ((2 : Int) ≤ ((Tr.full t 16 : Nat) : Int) + 1))]) (by simp [results, Tryz.results149, go_sem]) rfl ⟨_, by rw [HD1.out (by trivial)], .inr ⟨_, _, rfl⟩, (fun _ => by rw [HBB.out]; exact HRN.out), HB3.out⟩
        · exact bodyPost_ret (v := .tuple #[.iface 142 (.agg BB), .bool (decide ((2 : Int) ≤ ((Tr.full t 16 : Nat) : Int)))]) (by simp [results, Tryz.results149, go_sem]) rfl ⟨_, by rw [HD2.out (by trivial)], .inr ⟨_, _, rfl⟩, (fun _ => by rw [HBB.out]; exact HRN.out), HB3.out⟩
end Go.Proofs.YtbmohenjphmlgaaGreat
