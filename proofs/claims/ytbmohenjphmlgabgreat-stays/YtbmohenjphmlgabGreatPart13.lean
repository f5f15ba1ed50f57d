/- Part 13 of a proof: what the last text needs. -/
import Derived.Test.YtbmohenjphmlgabGreatPart12
import Derived.Test.YtbmohenjphmlgabGreatPart9
/- The walk of readNode (of the program). -/
namespace Go.Proofs.YtbmohenjphmlgabGreat
open Go.RowKit
set_option maxRecDepth 100000

set_option maxHeartbeats 3200000 in
theorem readNode_bytes (lo B : Nat) (w : World) (m : Nat) (s : ByteArray) (a : Option Addr) (n cap : Nat) (t : Itm) (hs : Small t) (hl : t.list = false) (hb : s = ⟨t.bytes.toArray⟩) :
    Calls Tryz.prog 114 #[.agg #[.bool false, .string s, .slice a n cap]] w fun e w' => ∃ v', e = .returned (.tuple #[v', .bool (Tr.sound t)]) ∧ IsNode v' ∧ (Tr.sound t = true → RN lo B w' (m + 1) v' t) ∧ Below w.heap.size w w' := by
  have HN := hid (fun w => newEmpty_any w)
  have HSE : Hid (s.toList.isEmpty = Tr.sound t ∧ (Tr.sound t = true → Tr.isEmpty t = true)) := by
    have e : s.toList.isEmpty = Tr.isEmpty t := by
      unfold Tr.isEmpty
      rw [hl, hb, ByteArray.toList_eq]
      rfl
    rw [Hid, e]
    cases he : Tr.isEmpty t with
    | true => exact ⟨(soundP_empty he).symm, fun _ => rfl⟩
    | false =>
      have := sound_bytes hs.pure hl he
      rw [this]
      exact ⟨rfl, fun h => by cases h⟩
  obtain ⟨em, hem⟩ : ∃ em, s.toList.isEmpty = em := ⟨_, rfl⟩
  rw [hem] at HSE
  clear hb
  go_enter Tryz.func114, Tryz.ntmps114
  go_wp2_with fail
  have HWB : Hid (Below w.heap.size w (w.alloc (.cells #[.bool false, .string s, .slice a n cap] 50)).drew) := ((Below.refl _ _).alloc (Nat.le_refl _) _).drew
  have hS : (fun w' : World => w'.heap[w.heap.size]? = some (.cells #[.bool false, .string s, .slice a n cap] 50 (0, 0))) (w.alloc (.cells #[.bool false, .string s, .slice a n cap] 50)).drew := heap_alloc_new w _
  refine wp_region_L (fun w' => w'.heap[w.heap.size]? = some (.cells #[.bool false, .string s, .slice a n cap] 50 (0, 0))) 5 (by kernel_rfl) ?_
  refine wpAnyL_take (i := 1) (v := .pointer (some ⟨w.heap.size, 1, none⟩)) rfl (by kernel_rfl) (by kernel_rfl) (by kernel_rfl) (by kernel_rfl) (by kernel_rfl) (fun _ _ _ h => h) hS (Or.inl ⟨by kernel_rfl, ?_⟩) ?_
  · (intro w' hSw; go_simp)
  try simp only [Act.put]
  refine wpAnyL_take (i := 2) (v := .string s) rfl (by kernel_rfl) (by kernel_rfl) (by kernel_rfl) (by kernel_rfl) (by kernel_rfl) (fun _ _ _ h => h) hS (Or.inl ⟨by kernel_rfl, ?_⟩) ?_
  · intro w' hSw
    have z0 := (cell_of_row w' _ 1 _ _ _ hSw).trans rfl
    go_simp
  try simp only [Act.put]
  refine wpAnyL_take (i := 3) (v := .bool em) rfl (by kernel_rfl) (by kernel_rfl) (by kernel_rfl) (by kernel_rfl) (by kernel_rfl) (fun _ _ _ h => h) hS (Or.inl ⟨by kernel_rfl, ?_⟩) ?_
  · (intro w' hSw; go_simp)
  try simp only [Act.put]
  refine wpAnyL_ready (rs := [0]) (by kernel_rfl) (by simp) ?_
  refine AllReadyL.cons rfl (fun K hK => ?_) AllReadyL.nil
  go_simp
  refine (HN.out _).mono ?_
  rintro e w1 ⟨rfl, b1⟩
  have HB1 : Hid (Below w.heap.size w w1) := HWB.out.trans (b1.mono HWB.out.size)
  have hS1 : (fun w' : World => w'.heap[w.heap.size]? = some (.cells #[.bool false, .string s, .slice a n cap] 50 (0, 0))) w1 := kept_block b1 hS
  clear b1
  refine hK.out _ _ hS1 ?_
  clear hK K
  try simp only [Act.put]
  refine wpAnyL_ready (rs := [4]) (by kernel_rfl) (by simp) ?_
  refine AllReadyL.cons rfl (fun K hK => ?_) AllReadyL.nil
  go_simp
  refine hK.out _ _ hS1 ?_
  clear hK K
  try simp only [Act.put]
  refine wpAnyL_ready (rs := [5]) (by kernel_rfl) (by simp) ?_
  refine AllReadyL.last rfl (fun K hK => ?_)
  go_simp
  refine hK.out _ _ ?_
  clear hK K
  try simp only [Act.put]
  refine wpAny_done (by kernel_rfl) ?_ _
  go_wp2_with fail
  exact bodyPost_ret (v := .tuple #[emptyV, .bool em]) (by simp [results, Tryz.results114, go_sem, emptyV]) rfl ⟨emptyV, by rw [HSE.out.1], .inr ⟨_, _, rfl⟩, fun h => .inl ⟨HSE.out.2 h, rfl⟩, HB1.out⟩

set_option maxHeartbeats 3200000 in
theorem readNode_branch {m : Nat} (hm : ReadOk m) (lo B : Nat) (w : World) (a : Option Addr) (cap : Nat) (t : Itm) (hB : B ≤ w.heap.size) (hs : Small t) (hbr : Tr.isBranch t = true) (hr : RepW lo B w (m + 1) (.agg #[.bool true, .string ⟨#[]⟩, .slice a 17 cap]) t) :
    Calls Tryz.prog 114 #[.agg #[.bool true, .string ⟨#[]⟩, .slice a 17 cap]] w fun e w' => ∃ v', e = .returned (.tuple #[v', .bool (Tr.sound t)]) ∧ IsNode v' ∧ (Tr.sound t = true → RN lo B w' (m + 1) v' t) ∧ Below w.heap.size w w' := by
  have HRB := hid (fun w' (b : Below w.heap.size w w') => readBranch_any hm lo B w' a cap t (Nat.le_trans hB b.size) hs hbr (repW_frame (b.mono hB) _ _ _ hr))
  clear hr hbr hs
  go_enter Tryz.func114, Tryz.ntmps114
  go_wp2_with fail
  have HB0 : Hid (Below w.heap.size w (w.alloc (.cells #[.bool true, .string ⟨#[]⟩, .slice a 17 cap] 50))) := (Below.refl _ _).alloc (Nat.le_refl _) _
  refine (HRB.out _ HB0.out).mono ?_
  rintro e w1 ⟨v1, rfl, n1, r1, b1⟩
  have HN1 := hid n1
  have HR1 := hid r1
  have HB1 : Hid (Below w.heap.size w w1) := HB0.out.trans (b1.mono HB0.out.size)
  clear n1 r1 b1
  go_wp2_with fail
  exact bodyPost_ret (v := .tuple #[v1, .bool (Tr.sound t)]) (by simp [results, Tryz.results114, go_sem]) rfl ⟨v1, rfl, HN1.out, HR1.out, HB1.out⟩

theorem readNode_none {m : Nat} (lo B : Nat) (w : World) (a : Option Addr) (n cap : Nat) (t : Itm) (hn : n = t.items.length) (h2 : n ≠ 2) (h17 : n ≠ 17) (hl : t.list = true) :
    Calls Tryz.prog 114 #[.agg #[.bool true, .string ⟨#[]⟩, .slice a n cap]] w fun e w' => ∃ v', e = .returned (.tuple #[v', .bool (Tr.sound t)]) ∧ IsNode v' ∧ (Tr.sound t = true → RN lo B w' (m + 1) v' t) ∧ Below w.heap.size w w' := by
  have HSD : Hid (Tr.sound t = false) := by
    rw [Hid, Tr.sound_eq]
    unfold Tr.soundOf
    rw [if_neg (by omega)]
    unfold Tr.isEmpty Tr.isBranch
    rw [hl, decide_eq_false (by omega)]
    rfl
  have i2 : ¬ (n : Int) = 2 := by omega
  have i17 : ¬ (n : Int) = 17 := by omega
  clear hn h2 h17 hl
  go_enter Tryz.func114, Tryz.ntmps114
  go_wp2_with fail
  exact bodyPost_ret (v := .tuple #[.nilIface, .bool false]) (by simp [results, Tryz.results114, go_sem]) rfl ⟨_, by rw [HSD.out], .inl rfl, (fun h => by rw [HSD.out] at h; cases h), (Below.refl _ _).alloc (Nat.le_refl _) _⟩
end Go.Proofs.YtbmohenjphmlgabGreat

/- The walk of readNode (of the program) at lists of two; readNode reads what is sound. -/
namespace Go.Proofs.YtbmohenjphmlgabGreat
open Go.RowKit
set_option maxRecDepth 100000

theorem soundP_pair {t : Itm} (hl : t.list = true) (h2 : t.items.length = 2) : Tr.sound t = Tr.pairOk (Tr.unpath (Tr.kid t 0)) (Tr.kid t 1) := by
  rw [Tr.sound_eq]
  unfold Tr.soundOf
  rw [if_pos h2]
  unfold Tr.isEmpty
  rw [hl]
  rfl

theorem unpathP_list {y : Itm} (h : y.list = true) : Tr.unpath y = none := by unfold Tr.unpath; rw [h]; rfl

theorem unpath_bytes {y : Itm} (h : y.list = false) : Tr.unpath y = Tr.unpath (Tr.itB y.bytes) := by unfold Tr.unpath Tr.itB; rw [h]

theorem bytes_le {y : Itm} (h : y.list = false) : y.bytes.length ≤ (Itm.enc y).length := by
  rw [Itm.enc_eq, if_neg (by rw [h]; decide)]
  unfold Itm.encB
  split
  · exact Nat.le_refl _
  · exact Nat.le_of_lt (Itm.headed_len _ _)

set_option maxHeartbeats 3200000 in
theorem readNode_pair {m : Nat} (lo B : Nat) (w : World) (a : Option Addr) (cap : Nat) (t : Itm) (hB : B ≤ w.heap.size) (hs : Small t) (hl : t.list = true) (h2 : t.items.length = 2) (hr : RepW lo B w (m + 1) (.agg #[.bool true, .string ⟨#[]⟩, .slice a 2 cap]) t) :
    Calls Tryz.prog 114 #[.agg #[.bool true, .string ⟨#[]⟩, .slice a 2 cap]] w fun e w' => ∃ v', e = .returned (.tuple #[v', .bool (Tr.sound t)]) ∧ IsNode v' ∧ (Tr.sound t = true → RN lo B w' (m + 1) v' t) ∧ Below w.heap.size w w' := by
  obtain ⟨b, off, l0, s0, x0, n0, c0, rfl, hb, e0, e1, e2, hl0, hs0, hr0⟩ := kid_rep hr 0 (by omega)
  obtain ⟨b', off', l1, s1, x1, n1, c1, hab, _, g0, g1, g2, hl1, hs1, hr1⟩ := kid_rep hr 1 (by omega)
  simp only [Option.some.injEq, Addr.mk.injEq, and_true] at hab
  obtain ⟨rfl, rfl⟩ := hab
  have hbw : b < w.heap.size := Nat.lt_of_lt_of_le hb hB
  have HB0 : Hid (Below w.heap.size w (w.alloc (.cells #[.bool true, .string ⟨#[]⟩, .slice (some ⟨b, off, none⟩) 2 cap] 50))) := (Below.refl _ _).alloc (Nat.le_refl _) _
  have f0 := (HB0.out.cell (p := ⟨b, off, none⟩) hbw).trans e0
  have f1 := (HB0.out.cell (p := ⟨b, off + 1, none⟩) hbw).trans e1
  have HSP := hid (soundP_pair hl h2)
  have HR := hid hr
  cases l0 with
  | true =>
    have HSF : Hid (Tr.sound t = false) := by rw [Hid, HSP.out, unpathP_list hl0.symm]; rfl
    clear e0 e1 e2 g0 g1 g2 hl0 hs0 hl1 hs1 hr0 hr1 hr
    go_enter Tryz.func114, Tryz.ntmps114
    go_wp2_with fail
    exact bodyPost_ret (v := .tuple #[.nilIface, .bool false]) (by simp [results, Tryz.results114, go_sem]) rfl ⟨_, by rw [HSF.out], .inl rfl, (fun h => by rw [HSF.out] at h; cases h), (Below.refl _ _).alloc (Nat.le_refl _) _⟩
  | false =>
    have hk0 := kid_small hs (i := 0) (by omega)
    have hby := bytes_le hl0.symm
    have HPA := hid (fun w => readPath_any s0 (by have := hk0.len; rw [hs0]; show (Tr.kid t 0).bytes.toArray.size ≤ _; rw [List.size_toArray]; omega) w)
    have HUN : Hid (Tr.unpath (Tr.kid t 0) = Tr.unpath (Tr.itB s0.data.toList)) := by rw [Hid, unpath_bytes hl0.symm, hs0]
    have HLF := hid (fun (d : ByteArray) (w' : World) (bb : Below w.heap.size w w') => readLeaf_any b off cap l1 s1 x1 n1 c1 d w' (Nat.lt_of_lt_of_le hbw bb.size) ((bb.cell (p := ⟨b, off + 3, none⟩) hbw).trans g0) ((bb.cell (p := ⟨b, off + 4, none⟩) hbw).trans g1) ((bb.cell (p := ⟨b, off + 5, none⟩) hbw).trans g2))
    have HEX := hid (fun (d : ByteArray) (w' : World) (bb : Below w.heap.size w w') => readExtension_any b off cap l1 s1 x1 n1 c1 d w' (Nat.lt_of_lt_of_le hbw bb.size) ((bb.cell (p := ⟨b, off + 3, none⟩) hbw).trans g0) ((bb.cell (p := ⟨b, off + 4, none⟩) hbw).trans g1) ((bb.cell (p := ⟨b, off + 5, none⟩) hbw).trans g2))
    have HV1 : Hid (((!l1 && decide (s1.size ≤ 40)) && decide (0 < s1.size)) = Tr.isValue (Tr.kid t 1)) := by
      rw [Hid, hl1, hs1]
      unfold Tr.isValue
      show ((!(Tr.kid t 1).list && decide ((Tr.kid t 1).bytes.toArray.size ≤ 40)) && decide (0 < (Tr.kid t 1).bytes.toArray.size)) = _
      rw [List.size_toArray, Bool.and_assoc, Bool.and_assoc, Bool.and_comm (decide (1 ≤ _))]
      rfl
    have HS1 : Hid ((!l1 && decide (s1.size = 8)) = Tr.isSum (Tr.kid t 1)) := by
      rw [Hid, hl1, hs1]
      unfold Tr.isSum
      show (!(Tr.kid t 1).list && decide ((Tr.kid t 1).bytes.toArray.size = 8)) = _
      rw [List.size_toArray]
    have HBY : Hid (s1.data.toList = (Tr.kid t 1).bytes) := by rw [Hid, hs1]
    have HL2 := hid (And.intro hl h2)
    clear e0 e1 e2 g0 g1 g2 hl0 hs0 hl1 hs1 hr0 hr1 hr hk0 hby hl h2
    go_enter Tryz.func114, Tryz.ntmps114
    go_wp2_with fail
    refine (HPA.out _).mono ?_
    rintro e w1 ⟨hp, b1⟩
    have HB1 : Hid (Below w.heap.size w w1) := HB0.out.trans (b1.mono HB0.out.size)
    have hb0 := old_block b1
    have q0 := (cell_of_row _ _ 0 _ _ _ hb0).trans rfl
    have q1 := (cell_of_row _ _ 1 _ _ _ hb0).trans rfl
    have q2 := (cell_of_row _ _ 2 _ _ _ hb0).trans rfl
    clear b1 hb0 f0 f1
    rcases hp with ⟨hu, d, mk, rfl⟩ | ⟨p, leaf, hu, rfl⟩
    · have HSF : Hid (Tr.sound t = false) := by rw [Hid, HSP.out, HUN.out, hu]; rfl
      clear hu
      go_wp2_with fail
      exact bodyPost_ret (v := .tuple #[.nilIface, .bool false]) (by simp [results, Tryz.results114, go_sem]) rfl ⟨_, by rw [HSF.out], .inl rfl, (fun h => by rw [HSF.out] at h; cases h), HB1.out⟩
    · have HU : Hid (Tr.unpath (Tr.kid t 0) = some (p, leaf)) := HUN.out.trans hu
      clear hu
      cases leaf with
      | true =>
        have HSD : Hid (Tr.sound t = Tr.isValue (Tr.kid t 1)) := by rw [Hid, HSP.out, HU.out]; rfl
        go_wp2_with fail
        refine (HLF.out _ _ HB1.out).mono ?_
        rintro e w2 ⟨rfl, b2⟩
        rw [HV1.out, ← HSD.out]
        have HB2 : Hid (Below w.heap.size w w2) := HB1.out.trans (b2.mono HB1.out.size)
        clear b2
        go_wp2_with fail
        exact bodyPost_ret (v := .tuple #[leafV (some ⟨b, off, none⟩) cap ⟨p.toArray⟩ s1, .bool (Tr.sound t)]) (by simp [results, Tryz.results114, go_sem]) rfl ⟨_, rfl, .inr ⟨_, _, rfl⟩, fun h => .inr (.inl ⟨_, _, _, _, HL2.out.1, HL2.out.2, repW_frame (HB2.out.mono hB) _ _ _ HR.out, HU.out, by rw [← HSD.out]; exact h, HBY.out, rfl⟩), HB2.out⟩
      | false =>
        have HSD : Hid (Tr.sound t = (decide (0 < p.length) && Tr.isSum (Tr.kid t 1))) := by rw [Hid, HSP.out, HU.out]; rfl
        go_wp2_with fail
        refine (HEX.out _ _ HB1.out).mono ?_
        rintro e w2 ⟨rfl, b2⟩
        rw [HS1.out, show (⟨p.toArray⟩ : ByteArray).size = p.length from List.size_toArray .., ← HSD.out]
        have HB2 : Hid (Below w.heap.size w w2) := HB1.out.trans (b2.mono HB1.out.size)
        clear b2
        go_wp2_with fail
        exact bodyPost_ret (v := .tuple #[extV (some ⟨b, off, none⟩) cap ⟨p.toArray⟩ s1 .nilIface, .bool (Tr.sound t)]) (by simp [results, Tryz.results114, go_sem]) rfl ⟨_, rfl, .inr ⟨_, _, rfl⟩, fun h => by
          rw [HSD.out, Bool.and_eq_true, decide_eq_true_eq] at h
          exact .inr (.inr (.inl ⟨_, _, _, _, HL2.out.1, HL2.out.2, repW_frame (HB2.out.mono hB) _ _ _ HR.out, HU.out, by show 0 < p.toArray.size; rw [List.size_toArray]; exact h.1, h.2, HBY.out, rfl⟩)), HB2.out⟩

theorem readOk_all : ∀ m, ReadOk m := by
  intro m
  induction m with
  | zero => intro lo B w l s a n cap t _ _ hr; exact hr.elim
  | succ m ih =>
    intro lo B w l s a n cap t hB hs hr
    obtain ⟨a', cap', e0, e1, e2⟩ := repW_shape hr
    simp only [Value.bool.injEq, Value.string.injEq, Value.slice.injEq] at e0 e1 e2
    obtain ⟨rfl, rfl, rfl⟩ := e2
    cases hl : t.list with
    | false =>
      rw [hl] at e0
      subst e0
      exact readNode_bytes lo B w m s a t.items.length cap t hs hl e1
    | true =>
      rw [hl] at e0
      subst e0
      have hb : t.bytes = [] := by
        have := hs.pure
        rw [Itm.pure_eq, hl] at this
        simp only [if_true, Bool.and_eq_true, List.isEmpty_iff] at this
        exact this.1
      rw [hb] at e1
      have : s = ⟨#[]⟩ := e1
      subst this
      by_cases h17 : t.items.length = 17
      · rw [h17] at hr ⊢
        exact readNode_branch ih lo B w a cap t hB hs (by unfold Tr.isBranch; rw [hl, h17]; rfl) hr
      · by_cases h2 : t.items.length = 2
        · rw [h2] at hr ⊢
          exact readNode_pair lo B w a cap t hB hs hl h2 hr
        · exact readNode_none lo B w a _ cap t rfl h2 h17 hl
end Go.Proofs.YtbmohenjphmlgabGreat

/- Plain mathematics of trees: a table's nodes are sound, and its proofs are. Nothing of the program is in here. -/
namespace Go.Proofs.YtbmohenjphmlgabGreat
set_option maxRecDepth 100000

namespace Tr

theorem ofNat_toNat (c : UInt8) : UInt8.ofNat c.toNat = c := Itm.ofNat_toNat' c _ rfl

theorem list_cases (l : List Ent) : l = [] ∨ (∃ e, l = [e]) ∨ ∃ a b r, l = a :: b :: r := by
  match l with
  | [] => exact .inl rfl
  | [e] => exact .inr (.inl ⟨e, rfl⟩)
  | a :: b :: r => exact .inr (.inr ⟨a, b, r, rfl⟩)

/-- Where a way through a node of a table goes. -/
def GoesOn (f : Nat) (l : List Ent) (k : List UInt8) (br : Bool) : Prop :=
  (elems f l k = [] ∧ ∃ w, goes (node f l) k br = some w ∧ w.need = [] ∧ w.value = look l k ∧ w.found = !(look l k).isEmpty)
  ∨ ∃ f' l' k' br', f' < f ∧ elems f l k = Itm.enc (node f' l') :: elems f' l' k' ∧ goes (node f l) k br = some ⟨k', br', [], false, sum (Itm.enc (node f' l'))⟩ ∧ ¬ (Itm.enc (node f' l')).length < 8 ∧ (br' = true → Forks l') ∧ Fits f' l' ∧ Apart l' ∧ Full l' ∧ (∀ c ∈ k', c.toNat < 16) ∧ look l' k' = look l k

theorem elems_fork (f : Nat) {l : List Ent} (h : Forks l) (c : UInt8) (r : List UInt8) : elems (f + 1) l (c :: r) = (if (Itm.enc (node f (behind [c] l))).length < 8 then [] else [Itm.enc (node f (behind [c] l))]) ++ elems f (behind [c] l) r := by
  obtain ⟨a, b, s, rfl, hs⟩ := h
  rw [elems.eq_def]
  simp only [hs, if_true]

theorem elems_end (f : Nat) {l : List Ent} (h : Forks l) : elems (f + 1) l [] = [] := by
  obtain ⟨a, b, s, rfl, hs⟩ := h
  rw [elems.eq_def]
  simp only [hs, if_true]

theorem elems_ext (f : Nat) {l : List Ent} {a b : Ent} {r : List Ent} (hl : l = a :: b :: r) (hs : shared l ≠ []) (k : List UInt8) : elems (f + 1) l k = if (shared l).isPrefixOf k then Itm.enc (node f (behind (shared l) l)) :: elems f (behind (shared l) l) (k.drop (shared l).length) else [] := by
  subst hl
  rw [elems.eq_def]
  simp only [hs, if_false]

theorem fits_pos {f : Nat} {l : List Ent} (h : Fits f l) (hl : l ≠ []) : 0 < f := by
  match l, hl with
  | e :: _, _ => have := (h e (by simp)).1; omega

theorem kid_two0 (x y : Itm) : kid (itL [x, y]) 0 = x := rfl
theorem kid_two1 (x y : Itm) : kid (itL [x, y]) 1 = y := rfl

theorem goes_node : ∀ (f : Nat) (l : List Ent) (k : List UInt8) (br : Bool), Fits f l → Apart l → Full l → (∀ c ∈ k, c.toNat < 16) → (br = true → Forks l) → GoesOn f l k br := by
  intro f
  induction f with
  | zero =>
    intro l k br hf ha hu hk hbr
    have hl : l = [] := Classical.byContradiction fun h => absurd (fits_pos hf h) (by omega)
    subst hl
    have hb : br = false := by
      cases br with
      | false => rfl
      | true => obtain ⟨_, _, _, h, _⟩ := hbr rfl; cases h
    subst hb
    exact .inl ⟨rfl, .none, goes_empty k rfl, rfl, rfl, rfl⟩
  | succ f ih =>
    intro l k br hf ha hu hk hbr
    rcases list_cases l with hl | ⟨e, hl⟩ | ⟨a, b, r, hl⟩
    · subst hl
      have hb : br = false := by
        cases br with
        | false => rfl
        | true => obtain ⟨_, _, _, h, _⟩ := hbr rfl; cases h
      subst hb
      exact .inl ⟨rfl, .none, goes_empty k rfl, rfl, rfl, rfl⟩
    · subst hl
      have hb : br = false := by
        cases br with
        | false => rfl
        | true => obtain ⟨_, _, _, h, _⟩ := hbr rfl; cases h
      subst hb
      obtain ⟨_, h2, h3⟩ := hf e (by simp)
      have hg := goes_leaf (t := node (f + 1) [e]) k e.dig rfl rfl (by show unpath (kid (itL [itB (path e.dig true), itB e.val]) 0) = _; rw [kid_two0]; exact unpath_path e.dig true h2)
      have hlook := look_some ha (e := e) (by simp)
      by_cases hd : e.dig = k
      · rw [if_pos hd] at hg
        rw [hd] at hlook
        refine .inl ⟨rfl, _, hg, rfl, ?_, ?_⟩
        · rw [hlook]; rfl
        · rw [hlook]
          have := hu e (by simp)
          show true = !e.val.isEmpty
          cases hv : e.val with
          | nil => exact absurd hv this
          | cons => rfl
      · rw [if_neg hd] at hg
        have hn : look [e] k = [] := look_none fun x hx => by
          rcases List.mem_cons.1 hx with rfl | hx
          · exact hd
          · simp at hx
        exact .inl ⟨rfl, _, hg, rfl, by rw [hn]; rfl, by rw [hn]; rfl⟩
    · by_cases hs : shared l = []
      · have hfk : Forks l := ⟨a, b, r, hl, hs⟩
        have hbb := isBranch_fork f hfk
        match k, hk with
        | [], _ =>
          have hg := goes_end br hbb
          rw [kid_fork16 f hfk, valOf_look ha] at hg
          exact .inl ⟨elems_end f hfk, _, hg, rfl, rfl, rfl⟩
        | c :: s, hk =>
          have hc := hk c (by simp)
          have hks : ∀ x ∈ s, x.toNat < 16 := fun x hx => hk x (by simp [hx])
          have hg := goes_down c s br hbb (by omega)
          rw [kid_fork f hfk _ hc, ofNat_toNat, refers_ref] at hg
          have hfit : Fits f (behind [c] l) := hf.behind (by simp)
          have hlk : look (behind [c] l) s = look l (c :: s) := look_behind ha [c] s
          have he := elems_fork f hfk c s
          by_cases hsh : (Itm.enc (node f (behind [c] l))).length < 8
          · rw [if_pos hsh] at hg he
            rw [List.nil_append] at he
            rcases ih (behind [c] l) s false hfit ha.behind hu.behind hks (fun h => by cases h) with ⟨h1, w, h2, h3, h4, h5⟩ | ⟨f', l', k', br', h1, h2, h3, h4, h5, h6, h7, h8, h9, h10⟩
            · exact .inl ⟨he.trans h1, w, hg.trans h2, h3, by rw [← hlk]; exact h4, by rw [← hlk]; exact h5⟩
            · exact .inr ⟨f', l', k', br', by omega, he.trans h2, hg.trans h3, h4, h5, h6, h7, h8, h9, h10.trans hlk⟩
          · rw [if_neg hsh] at hg he
            exact .inr ⟨f, behind [c] l, s, false, by omega, he, hg, hsh, (fun h => by cases h), hfit, ha.behind, hu.behind, hks, hlk⟩
      · have hb : br = false := by
          cases br with
          | false => rfl
          | true => obtain ⟨_, _, _, _, h⟩ := hbr rfl; exact absurd h hs
        subst hb
        have hn := node_ext f hl hs
        have hdig : ∀ c ∈ shared l, c.toNat < 16 := by
          intro c hc
          have hpre := shared_pre l a (by rw [hl]; simp)
          exact (hf a (by rw [hl]; simp)).2.1 c (hpre.subset hc)
        have hu' : unpath (kid (node (f + 1) l) 0) = some (shared l, false) := by rw [hn, kid_two0]; exact unpath_path _ _ hdig
        have hb0 : isBranch (node (f + 1) l) = false := by rw [hn]; rfl
        have he0 : isEmpty (node (f + 1) l) = false := by rw [hn]; rfl
        have he := elems_ext f hl hs k
        by_cases hp : shared l <+: k
        · rw [if_pos (List.isPrefixOf_iff_prefix.2 hp)] at he
          obtain ⟨s, hks⟩ := hp
          have hdrop : k.drop (shared l).length = s := by rw [← hks, List.drop_left]
          have hg := goes_hit k (shared l) hb0 he0 (by rw [hn]; rfl) hu' (by rw [← hks, List.length_append]; omega) (by rw [← hks, List.take_left])
          have hfit : Fits f (behind (shared l) l) := hf.behind hs
          have hfk := forks_behind hl
          have hf0 : 0 < f := fits_pos hfit (by obtain ⟨_, _, _, h, _⟩ := hfk; rw [h]; simp)
          obtain ⟨f0, rfl⟩ : ∃ f0, f = f0 + 1 := ⟨f - 1, by omega⟩
          have hlong := fork_long f0 hfk
          rw [show kid (node (f0 + 1 + 1) l) 1 = ref (node (f0 + 1) (behind (shared l) l)) from by rw [hn, kid_two1], refers_ref, if_neg hlong, hdrop] at hg
          rw [hdrop] at he
          exact .inr ⟨f0 + 1, _, s, true, by omega, he, hg, hlong, fun _ => hfk, hfit, ha.behind, hu.behind, fun c hc => hk c (by rw [← hks]; simp [hc]), by rw [look_behind ha, hks]⟩
        · rw [if_neg (fun h => hp (List.isPrefixOf_iff_prefix.1 h))] at he
          have hm : k.length < (shared l).length ∨ k.take (shared l).length ≠ shared l := by
            by_cases h : k.length < (shared l).length
            · exact .inl h
            · exact .inr fun ht => hp (ht ▸ List.take_prefix _ _)
          have hg := goes_miss k (shared l) hb0 he0 hu' hm
          have hn : look l k = [] := look_none fun e he hd => hp (hd ▸ shared_pre l e he)
          exact .inl ⟨he, _, hg, rfl, by rw [hn]; rfl, by rw [hn]; rfl⟩

theorem node_list {f : Nat} {l : List Ent} (hf : Fits f l) (hl : l ≠ []) : (node f l).list = true := by
  obtain ⟨f0, rfl⟩ : ∃ f0, f = f0 + 1 := ⟨f - 1, by have := fits_pos hf hl; omega⟩
  rw [node]
  unfold nodeOf
  match l, hl with
  | [e], _ => rfl
  | a :: b :: r, _ =>
    dsimp only
    split <;> rfl

theorem node_nil (f : Nat) : isEmpty (node f []) = true := by cases f <;> rfl

theorem isEmpty_list {t : Itm} (h : t.list = true) : isEmpty t = false := by unfold isEmpty; rw [h]; rfl

theorem ref_full {f : Nat} {l : List Ent} (hf : Fits f l) (hl : l ≠ []) : isEmpty (ref (node f l)) = false := by
  unfold ref
  split
  · exact isEmpty_list (node_list hf hl)
  · have := sum_len (Itm.enc (node f l))
    unfold isEmpty itB
    cases h : sum (Itm.enc (node f l)) with
    | nil => rw [h] at this; simp at this
    | cons => simp

theorem full_mono (t : Itm) {n m : Nat} (h : n ≤ m) : full t n ≤ full t m := by
  induction m with
  | zero => rw [Nat.le_zero.1 h]; exact Nat.le_refl _
  | succ m ih =>
    by_cases hn : n ≤ m
    · rw [full_succ]; have := ih hn; omega
    · rw [show n = m + 1 by omega]; exact Nat.le_refl _

theorem full_two (t : Itm) {i j n : Nat} (hij : i < j) (hj : j < n) (hi : isEmpty (kid t i) = false) (hj' : isEmpty (kid t j) = false) : 2 ≤ full t n := by
  have h1 : full t (i + 1) = full t i + 1 := by rw [full_succ, hi]; rfl
  have h2 : full t (j + 1) = full t j + 1 := by rw [full_succ, hj']; rfl
  have h3 := full_mono t (show i + 1 ≤ j by omega)
  have h4 := full_mono t (show j + 1 ≤ n by omega)
  omega

/-- Where in a branch an entry stands. -/
def slot (e : Ent) : Nat := match e.dig with | [] => 16 | c :: _ => c.toNat

theorem fork_two {l : List Ent} (h : Forks l) (ha : Apart l) (hf : ∀ e ∈ l, ∀ c ∈ e.dig, c.toNat < 16) : ∃ x ∈ l, ∃ y ∈ l, slot x ≠ slot y := by
  obtain ⟨a, b, r, hl, hs⟩ := h
  refine Classical.byContradiction fun hno => ?_
  have hall : ∀ x ∈ l, slot x = slot a := fun x hx => Classical.byContradiction fun hne => hno ⟨x, hx, a, by rw [hl]; simp, hne⟩
  have hne : a.dig ≠ b.dig := by rw [hl] at ha; exact (List.pairwise_cons.1 ha).1 b (by simp)
  have hma : a ∈ l := by rw [hl]; simp
  have hmb : b ∈ l := by rw [hl]; simp
  cases hd : a.dig with
  | nil =>
    have hb := hall b hmb
    have h16 : slot a = 16 := by unfold slot; rw [hd]
    cases hdb : b.dig with
    | nil => exact hne (by rw [hd, hdb])
    | cons c s =>
      have : slot b = c.toNat := by unfold slot; rw [hdb]
      have := hf b hmb c (by rw [hdb]; simp)
      omega
  | cons c s =>
    have hc : slot a = c.toNat := by unfold slot; rw [hd]
    have hc16 := hf a hma c (by rw [hd]; simp)
    have hp : [c] <+: shared l := by
      rw [shared_iff _ _ (by rw [hl]; simp)]
      intro e he
      have h1 := hall e he
      cases hde : e.dig with
      | nil =>
        have : slot e = 16 := by unfold slot; rw [hde]
        omega
      | cons d t =>
        have : slot e = d.toNat := by unfold slot; rw [hde]
        have : d = c := UInt8.toNat_inj.1 (by omega)
        rw [this]
        exact ⟨t, rfl⟩
    rw [hs] at hp
    have := hp.length_le
    simp at this

theorem kid_slot (f : Nat) {l : List Ent} (h : Forks l) (ha : Apart l) (hf : Fits (f + 1) l) (hu : Full l) {x : Ent} (hx : x ∈ l) : slot x < 17 ∧ isEmpty (kid (node (f + 1) l) (slot x)) = false := by
  cases hd : x.dig with
  | nil =>
    have h16 : slot x = 16 := by unfold slot; rw [hd]
    rw [h16, kid_fork16 f h, valOf_some ha hx hd]
    refine ⟨by omega, ?_⟩
    unfold isEmpty itB
    have := hu x hx
    cases hv : x.val with
    | nil => exact absurd hv this
    | cons => rfl
  | cons c s =>
    have hc : slot x = c.toNat := by unfold slot; rw [hd]
    have hc16 := (hf x hx).2.1 c (by rw [hd]; simp)
    rw [hc, kid_fork f h _ hc16, ofNat_toNat]
    refine ⟨by omega, ref_full (hf.behind (by simp)) ?_⟩
    have hm : (⟨s, x.val⟩ : Ent) ∈ behind [c] l := by
      unfold behind
      rw [List.mem_filterMap]
      refine ⟨x, hx, ?_⟩
      rw [hd, if_pos (by simp)]
      rfl
    intro h0
    rw [h0] at hm
    simp at hm

theorem isValue_itB {s : List UInt8} (h1 : s ≠ []) (h2 : s.length ≤ 40) : isValue (itB s) = true := by
  unfold isValue itB
  have : 1 ≤ s.length := by
    cases s with
    | nil => exact absurd rfl h1
    | cons => simp
  simp [this, h2]

/-- Every node of a table is sound. -/
theorem sound_node : ∀ (f : Nat) (l : List Ent), Fits f l → Apart l → Full l → sound (node f l) = true := by
  intro f
  induction f with
  | zero => intro l _ _ _; rw [sound_eq]; rfl
  | succ f ih =>
    intro l hf ha hu
    rcases list_cases l with hl | ⟨e, hl⟩ | ⟨a, b, r, hl⟩
    · subst hl; rw [sound_eq]; rfl
    · subst hl
      obtain ⟨_, h2, h3⟩ := hf e (by simp)
      rw [sound_eq]
      show (false || (if (2 : Nat) = 2 then pairOk (unpath (kid (itL [itB (path e.dig true), itB e.val]) 0)) (kid (itL [itB (path e.dig true), itB e.val]) 1) else _)) = true
      rw [kid_two0, kid_two1, unpath_path e.dig true h2, if_pos rfl]
      exact isValue_itB (hu e (by simp)) h3
    · by_cases hs : shared l = []
      · have hfk : Forks l := ⟨a, b, r, hl, hs⟩
        have hbb := isBranch_fork f hfk
        rw [sound_good (branch_full hbb) hbb]
        · obtain ⟨x, hx, y, hy, hne⟩ := fork_two hfk ha (fun e he => (hf e he).2.1)
          obtain ⟨x1, x2⟩ := kid_slot f hfk ha hf hu hx
          obtain ⟨y1, y2⟩ := kid_slot f hfk ha hf hu hy
          refine decide_eq_true ?_
          rcases Nat.lt_or_gt_of_ne hne with h | h
          · exact full_two _ h y1 x2 y2
          · exact full_two _ h x1 y2 x2
        · intro i hi
          rw [slotOk_eq]
          by_cases h16 : i = 16
          · rw [if_pos h16, h16, kid_fork16 f hfk]
            by_cases hv : valOf l = []
            · rw [hv]; rfl
            · rw [isValue_itB hv (valOf_le l 40 fun e he => (hf e he).2.2)]; simp
          · have hi16 : i < 16 := by omega
            rw [if_neg h16, kid_fork f hfk i hi16]
            have hfit : Fits f (behind [UInt8.ofNat i] l) := hf.behind (by simp)
            by_cases hsh : (Itm.enc (node f (behind [UInt8.ofNat i] l))).length < 8
            · rw [ref_short hsh]
              by_cases hnil : behind [UInt8.ofNat i] l = []
              · rw [hnil, node_nil]; rfl
              · rw [node_list hfit hnil, ih _ hfit ha.behind hu.behind, decide_eq_true hsh]; simp
            · rw [ref_long hsh, isSum_itB _ (sum_len _)]; simp
      · have hn := node_ext f hl hs
        have hdig : ∀ c ∈ shared l, c.toNat < 16 := by
          intro c hc
          have hpre := shared_pre l a (by rw [hl]; simp)
          exact (hf a (by rw [hl]; simp)).2.1 c (hpre.subset hc)
        have hfit : Fits f (behind (shared l) l) := hf.behind hs
        have hfk := forks_behind hl
        have hf0 : 0 < f := fits_pos hfit (by obtain ⟨_, _, _, h, _⟩ := hfk; rw [h]; simp)
        obtain ⟨f0, rfl⟩ : ∃ f0, f = f0 + 1 := ⟨f - 1, by omega⟩
        have hlong := fork_long f0 hfk
        rw [sound_eq, hn]
        show (false || (if (2 : Nat) = 2 then pairOk (unpath (kid (itL [itB (path (shared l) false), ref (node (f0 + 1) (behind (shared l) l))]) 0)) (kid (itL [itB (path (shared l) false), ref (node (f0 + 1) (behind (shared l) l))]) 1) else _)) = true
        rw [kid_two0, kid_two1, unpath_path _ false hdig, if_pos rfl, ref_long hlong]
        show (decide (0 < (shared l).length) && isSum (itB (sum (Itm.enc (node (f0 + 1) (behind (shared l) l)))))) = true
        rw [isSum_itB _ (sum_len _), Bool.and_true]
        refine decide_eq_true ?_
        cases h : shared l with
        | nil => exact absurd h hs
        | cons => simp

theorem whole_enc {t : Itm} (h1 : Itm.pure t = true) (h2 : (Itm.enc t).length ≤ 1000) : whole (Itm.enc t) = some t := by
  unfold whole
  have := Itm.parse_complete (Itm.enc t).length t [] h1 (Nat.le_refl _) (Nat.lt_of_le_of_lt h2 (by decide))
  rw [List.append_nil] at this
  rw [this]

/-- A proof of a table's is one, and tells what the table has. -/
theorem vloop_node : ∀ (f : Nat) (l : List Ent) (k : List UInt8) (br : Bool) (v0 : List UInt8) (b0 : Bool) (i : Nat), f ≤ 100 → Fits f l → Apart l → Full l → (∀ c ∈ k, c.toNat < 16) → (br = true → Forks l) → (0 < i → ¬ (Itm.enc (node f l)).length < 8) →
    ∃ w, vloop i ⟨k, br, v0, b0, sum (Itm.enc (node f l))⟩ (proofOf f l k) = some w ∧ w.need = [] ∧ w.value = look l k ∧ w.found = !(look l k).isEmpty := by
  intro f
  induction f using Nat.strongRecOn with
  | ind f ih =>
    intro l k br v0 b0 i hle hf ha hu hk hbr hi
    have hneed : (⟨k, br, v0, b0, sum (Itm.enc (node f l))⟩ : Way).need ≠ [] := by
      intro h
      have := sum_len (Itm.enc (node f l))
      have h' : sum (Itm.enc (node f l)) = [] := h
      rw [h'] at this
      simp at this
    have hst := vstep_goes (i := i) hneed rfl (fun h => hi h.1 h.2) (whole_enc (node_pure f l) (Nat.le_trans (node_len f l hle hf) (by decide))) (sound_node f l hf ha hu)
    rcases goes_node f l k br hf ha hu hk hbr with ⟨h1, w, h2, h3, h4, h5⟩ | ⟨f', l', k', br', h1, h2, h3, h4, h5, h6, h7, h8, h9, h10⟩
    · refine ⟨w, ?_, h3, h4, h5⟩
      unfold proofOf
      rw [vloop_go (hst.trans h2), h1]
      rfl
    · obtain ⟨w, g1, g2, g3, g4⟩ := ih f' h1 l' k' br' [] false (i + 1) (by omega) h6 h7 h8 h9 h5 (fun _ => h4)
      refine ⟨w, ?_, g2, by rw [← h10]; exact g3, by rw [← h10]; exact g4⟩
      unfold proofOf
      rw [vloop_go (hst.trans h3), h2]
      exact g1

theorem elems_len : ∀ (f : Nat) (l : List Ent) (k : List UInt8), Fits f l → Apart l → Full l → (∀ c ∈ k, c.toNat < 16) → ∀ br, (br = true → Forks l) → (elems f l k).length ≤ f := by
  intro f
  induction f using Nat.strongRecOn with
  | ind f ih =>
    intro l k hf ha hu hk br hbr
    rcases goes_node f l k br hf ha hu hk hbr with ⟨h1, _⟩ | ⟨f', l', k', br', h1, h2, h3, h4, h5, h6, h7, h8, h9, h10⟩
    · rw [h1]; simp
    · rw [h2]
      have := ih f' h1 l' k' h6 h7 h8 h9 br' h5
      simp only [List.length_cons]; omega

theorem elems_small : ∀ (f : Nat) (l : List Ent) (k : List UInt8), f ≤ 100 → Fits f l → Apart l → Full l → (∀ c ∈ k, c.toNat < 16) → ∀ br, (br = true → Forks l) → ∀ s ∈ elems f l k, s.length ≤ 300 := by
  intro f
  induction f using Nat.strongRecOn with
  | ind f ih =>
    intro l k hle hf ha hu hk br hbr s hs
    rcases goes_node f l k br hf ha hu hk hbr with ⟨h1, _⟩ | ⟨f', l', k', br', h1, h2, h3, h4, h5, h6, h7, h8, h9, h10⟩
    · rw [h1] at hs; simp at hs
    · rw [h2] at hs
      rcases List.mem_cons.1 hs with rfl | hs
      · exact node_len f' l' (by omega) h6
      · exact ih f' h1 l' k' (by omega) h6 h7 h8 h9 br' h5 s hs

theorem table_full (ps : List (List UInt8 × List UInt8)) : Full (table ps) := fun e he => by
  obtain ⟨k, rfl, hk⟩ := (table_mem ps e).1 he
  exact hk

/-- The proof for a key in a table. -/
def prove (ps : List (List UInt8 × List UInt8)) (key : List UInt8) : List (List UInt8) := proofOf 13 (table ps) (digits key)

theorem prove_len (ps : List (List UInt8 × List UInt8)) (key : List UInt8) (hk : ∀ p ∈ ps, p.1.length ≤ 6) (hv : ∀ p ∈ ps, p.2.length ≤ 40) : (prove ps key).length ≤ 14 := by
  have := elems_len 13 (table ps) (digits key) (table_fits ps hk hv) (table_apart ps) (table_full ps) (digits_lt key) false (fun h => by cases h)
  unfold prove proofOf
  simp only [List.length_cons]; omega

theorem prove_small (ps : List (List UInt8 × List UInt8)) (key : List UInt8) (hk : ∀ p ∈ ps, p.1.length ≤ 6) (hv : ∀ p ∈ ps, p.2.length ≤ 40) : ∀ s ∈ prove ps key, s.length ≤ 300 := by
  intro s hs
  rcases List.mem_cons.1 hs with rfl | hs
  · exact node_len 13 _ (by decide) (table_fits ps hk hv)
  · exact elems_small 13 (table ps) (digits key) (by decide) (table_fits ps hk hv) (table_apart ps) (table_full ps) (digits_lt key) false (fun h => by cases h) s hs

/-- What is proved is what the table has. -/
theorem prove_loop (ps : List (List UInt8 × List UInt8)) (key : List UInt8) (hk : ∀ p ∈ ps, p.1.length ≤ 6) (hv : ∀ p ∈ ps, p.2.length ≤ 40) :
    ∃ w, vloop 0 ⟨digits key, false, [], false, sum (Itm.enc (node 13 (table ps)))⟩ (prove ps key) = some w ∧ w.need = [] ∧ w.value = value ps key ∧ w.found = !(value ps key).isEmpty := by
  obtain ⟨w, h1, h2, h3, h4⟩ := vloop_node 13 (table ps) (digits key) false [] false 0 (by decide) (table_fits ps hk hv) (table_apart ps) (table_full ps) (digits_lt key) (fun h => by cases h) (fun h => by omega)
  rw [look_table] at h3 h4
  exact ⟨w, h1, h2, h3, h4⟩

theorem verify_ok {root key : List UInt8} {proof : List (List UInt8)} (h1 : root.length = 8) (h2 : key.length ≤ 6) (h3 : proof.length ≤ 20) (h4 : ∀ s ∈ proof, s.length ≤ 1000) : verify root key proof = verEnd (vloop 0 ⟨digits key, false, [], false, root⟩ proof) := by
  unfold verify
  rw [if_neg (by omega), if_neg (by omega), if_neg]
  rintro (h | ⟨s, hs, h⟩)
  · omega
  · have := h4 s hs; omega

theorem verify_prove (ps : List (List UInt8 × List UInt8)) (key : List UInt8) (hk : ∀ p ∈ ps, p.1.length ≤ 6) (hv : ∀ p ∈ ps, p.2.length ≤ 40) (h6 : key.length ≤ 6) : verify (sum (Itm.enc (node 13 (table ps)))) key (prove ps key) = (value ps key, !(value ps key).isEmpty, 0) := by
  rw [verify_ok (sum_len _) h6 (Nat.le_trans (prove_len ps key hk hv) (by decide)) (fun s hs => Nat.le_trans (prove_small ps key hk hv s hs) (by decide))]
  obtain ⟨w, h1, h2, h3, h4⟩ := prove_loop ps key hk hv
  rw [h1]
  unfold verEnd
  dsimp only
  rw [if_pos h2, h3, h4]

end Tr
end Go.Proofs.YtbmohenjphmlgabGreat

/- Plain mathematics of trees: a proof in which a byte is turned is none, and the like. Nothing of the program is in here. -/
namespace Go.Proofs.YtbmohenjphmlgabGreat
set_option maxRecDepth 100000

namespace Tr

theorem times_inj {a b : Nat} (ha : a < 18446744073709551616) (hb : b < 18446744073709551616) (h : a * 1099511628211 % 18446744073709551616 = b * 1099511628211 % 18446744073709551616) : a = b := by
  have key : ∀ n : Nat, n * 1099511628211 % 18446744073709551616 * 14886173955864302971 % 18446744073709551616 = n % 18446744073709551616 := by
    intro n
    rw [Nat.mod_mul_mod, Nat.mul_assoc, Nat.mul_mod]
    rw [show 1099511628211 * 14886173955864302971 % 18446744073709551616 = 1 by decide, Nat.mul_one, Nat.mod_mod]
  have := congrArg (fun n => n * 14886173955864302971 % 18446744073709551616) h
  simp only [key] at this
  rwa [Nat.mod_eq_of_lt ha, Nat.mod_eq_of_lt hb] at this

theorem xor_inj {a x y : Nat} (h : a ^^^ x = a ^^^ y) : x = y := by
  have := congrArg (fun n => a ^^^ n) h
  simpa [← Nat.xor_assoc] using this

theorem xor_lt (h : Nat) (b : UInt8) (hh : h < 18446744073709551616) : h ^^^ b.toNat < 18446744073709551616 := by
  have := Nat.xor_lt_two_pow (n := 64) hh (Nat.lt_of_lt_of_le b.toNat_lt (by decide))
  exact this

theorem step_inj_left {h h' : Nat} (b : UInt8) (hh : h < 18446744073709551616) (hh' : h' < 18446744073709551616) (e : step h b = step h' b) : h = h' := by
  have := times_inj (xor_lt h b hh) (xor_lt h' b hh') e
  exact xor_inj (a := b.toNat) (by rw [Nat.xor_comm, this, Nat.xor_comm])

theorem step_inj_right {h : Nat} {b c : UInt8} (hh : h < 18446744073709551616) (e : step h b = step h c) : b = c := by
  have := times_inj (xor_lt h b hh) (xor_lt h c hh) e
  exact UInt8.toNat_inj.1 (xor_inj this)

theorem foldl_inj : ∀ (l : List UInt8) {h h' : Nat}, h < 18446744073709551616 → h' < 18446744073709551616 → l.foldl step h = l.foldl step h' → h = h'
  | [], _, _, _, _, e => e
  | b :: l, h, h', hh, hh', e => by
    rw [List.foldl_cons, List.foldl_cons] at e
    exact step_inj_left b hh hh' (foldl_inj l (step_lt _ _) (step_lt _ _) e)

theorem fnv_turn (a : List UInt8) (x y : UInt8) (b : List UInt8) (h : fnv (a ++ x :: b) = fnv (a ++ y :: b)) : x = y := by
  unfold fnv at h
  rw [List.foldl_append, List.foldl_append, List.foldl_cons, List.foldl_cons] at h
  exact step_inj_right (foldl_lt a _ (by decide)) (foldl_inj b (step_lt _ _) (step_lt _ _) h)

theorem sum_fnv {l l' : List UInt8} (h : sum l = sum l') : fnv l = fnv l' := by
  have hl := fnv_lt l
  have hl' := fnv_lt l'
  have key : ∀ i, i < 8 → fnv l / 256 ^ (7 - i) % 256 = fnv l' / 256 ^ (7 - i) % 256 := by
    intro i hi
    have e := congrArg (fun s => s[i]?) h
    unfold sum at e
    simp only [List.getElem?_map, List.getElem?_range hi, Option.map_some, Option.some.injEq] at e
    have := congrArg UInt8.toNat e
    rw [UInt8.toNat_ofNat', UInt8.toNat_ofNat'] at this
    simpa using this
  have k0 := key 0 (by decide)
  have k1 := key 1 (by decide)
  have k2 := key 2 (by decide)
  have k3 := key 3 (by decide)
  have k4 := key 4 (by decide)
  have k5 := key 5 (by decide)
  have k6 := key 6 (by decide)
  have k7 := key 7 (by decide)
  simp only [Nat.sub_zero, Nat.reduceSub, Nat.reducePow, Nat.div_one] at k0 k1 k2 k3 k4 k5 k6 k7
  omega

/-- One byte turned turns the sum. -/
theorem sum_set (l : List UInt8) (j : Nat) (hj : j < l.length) (y : UInt8) (hy : y ≠ l[j]) : sum (l.set j y) ≠ sum l := by
  intro h
  have h' := sum_fnv h
  rw [List.set_eq_take_append_cons_drop, if_pos hj] at h'
  have e : l = l.take j ++ l[j] :: l.drop (j + 1) := by
    rw [List.getElem_cons_drop, List.take_append_drop]
  rw [show fnv l = fnv (l.take j ++ l[j] :: l.drop (j + 1)) from congrArg fnv e] at h'
  exact hy (fnv_turn _ _ _ _ h')

theorem vloop_append (a b : List (List UInt8)) : ∀ (i : Nat) (w : Way), vloop i w (a ++ b) = match vloop i w a with | none => none | some w' => vloop (i + a.length) w' b := by
  induction a with
  | nil => intro i w; rfl
  | cons s a ih =>
    intro i w
    rw [List.cons_append, vloop_cons, vloop_cons]
    cases vstep i w s with
    | none => rfl
    | some w' =>
      dsimp only
      rw [ih, List.length_cons, show i + (a.length + 1) = i + 1 + a.length by omega]

theorem vstep_need {i : Nat} {w w' : Way} {s : List UInt8} (h : vstep i w s = some w') : w.need ≠ [] ∧ sum s = w.need := by
  refine ⟨fun h0 => ?_, Classical.byContradiction fun h0 => ?_⟩
  · rw [vstep_a h0] at h; cases h
  · rw [vstep_b h0] at h; cases h

/-- An element of another sum. -/
theorem vloop_bent {w w' : Way} {p : List (List UInt8)} (h : vloop 0 w p = some w') (i : Nat) (hi : i < p.length) (s : List UInt8) (hs : sum s ≠ sum p[i]) : vloop 0 w (p.set i s) = none := by
  have e : p = p.take i ++ p[i] :: p.drop (i + 1) := by rw [List.getElem_cons_drop, List.take_append_drop]
  rw [e, vloop_append] at h
  rw [List.set_eq_take_append_cons_drop, if_pos hi, vloop_append]
  cases h1 : vloop 0 w (p.take i) with
  | none => rfl
  | some w1 =>
    rw [h1] at h
    dsimp only at h ⊢
    rw [vloop_cons] at h
    cases h2 : vstep (0 + (p.take i).length) w1 p[i] with
    | none => rw [h2] at h; cases h
    | some w2 =>
      have := (vstep_need h2).2
      exact vloop_stop (vstep_b (by rw [← this]; exact hs))

/-- The last element gone. -/
theorem vloop_less {w w' : Way} {p : List (List UInt8)} (h : vloop 0 w p = some w') (hp : 0 < p.length) : verEnd (vloop 0 w (p.take (p.length - 1))) = ([], false, 6) := by
  have e : p = p.take (p.length - 1) ++ [p[p.length - 1]] := by
    have := List.take_append_drop (p.length - 1) p
    rw [List.drop_eq_getElem_cons (by omega), show p.length - 1 + 1 = p.length by omega, List.drop_length] at this
    exact this.symm
  rw [e, vloop_append] at h
  cases h1 : vloop 0 w (p.take (p.length - 1)) with
  | none => rfl
  | some w1 =>
    rw [h1] at h
    dsimp only at h
    rw [vloop_cons] at h
    cases h2 : vstep (0 + (p.take (p.length - 1)).length) w1 p[p.length - 1] with
    | none => rw [h2] at h; cases h
    | some w2 =>
      have := (vstep_need h2).1
      unfold verEnd
      dsimp only
      rw [if_neg this]

/-- One element more. -/
theorem vloop_more {w w' : Way} {p : List (List UInt8)} (h : vloop 0 w p = some w') (h0 : w'.need = []) (s : List UInt8) : vloop 0 w (p ++ [s]) = none := by
  rw [vloop_append, h]
  exact vloop_stop (vstep_a h0)

/-- Another root. -/
theorem vloop_root {k : List UInt8} {br : Bool} {v : List UInt8} {b : Bool} {n m : List UInt8} {p : List (List UInt8)} {w' : Way} (h : vloop 0 ⟨k, br, v, b, n⟩ p = some w') (hp : 0 < p.length) (hm : m ≠ n) : vloop 0 ⟨k, br, v, b, m⟩ p = none := by
  match p, hp with
  | s :: p, _ =>
    rw [vloop_cons] at h
    cases h2 : vstep 0 ⟨k, br, v, b, n⟩ s with
    | none => rw [h2] at h; cases h
    | some w2 =>
      have := (vstep_need h2).2
      exact vloop_stop (vstep_b (by rw [this]; exact Ne.symm hm))

end Tr
end Go.Proofs.YtbmohenjphmlgabGreat
