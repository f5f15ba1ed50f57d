/- Part 9 of a proof: what the last text needs. -/
import Derived.Test.YtbmohenjphmlgaaGreatPart8
import Derived.Test.YtbmohenjphmlgaaGreatPart6
import Derived.Test.YtbmohenjphmlgaaGreatPart2
import Derived.Test.YtbmohenjphmlgaaGreatPart4
/- The walk of readNode (of the program). -/
namespace Go.Proofs.YtbmohenjphmlgaaGreat
open Go.RowKit
set_option maxRecDepth 100000

set_option maxHeartbeats 3200000 in
theorem readNode_bytes (lo B : Nat) (w : World) (m : Nat) (s : ByteArray) (a : Option Addr) (n cap : Nat) (t : Itm) (hs : Small t) (hl : t.list = false) (hb : s = ⟨t.bytes.toArray⟩) :
    Calls Tryz.prog 143 #[.agg #[.bool false, .string s, .slice a n cap]] w fun e w' => ∃ v', e = .returned (.tuple #[v', .bool (Tr.sound t)]) ∧ IsNode v' ∧ (Tr.sound t = true → RN lo B w' (m + 1) v' t) ∧ Below w.heap.size w w' := by
  have HN := hid (fun w => newEmpty_any w)
  have HSE : Hid (s.toList.isEmpty = Tr.sound t ∧ (Tr.sound t = true → Tr.isEmpty t = true)) := by
    have e : s.toList.isEmpty = Tr.isEmpty t := by
      unfold Tr.isEmpty
      rw [hl, hb, ByteArray.toList_eq]
      rfl
    rw [Hid, e]
    cases he : Tr.isEmpty t with
    | true => exact ⟨(soundP_empty he).symm, fun _ => rfl⟩
    | false =>
      have := sound_bytes hs.pure hl he
      rw [this]
      exact ⟨rfl, fun h => by cases h⟩
  obtain ⟨em, hem⟩ : ∃ em, s.toList.isEmpty = em := ⟨_, rfl⟩
  rw [hem] at HSE
  clear hb
  go_enter Tryz.func143, Tryz.ntmps143
  go_wp2_with fail
  have HWB : Hid (Below w.heap.size w (w.alloc (.cells #[.bool false, .string s, .slice a n cap] 119)).drew) := ((Below.refl _ _).alloc (Nat.le_refl _) _).drew
  have hS : (fun w' : World => w'.heap[w.heap.size]? = some (.cells #[.bool false, .string s, .slice a n cap] 119 (0, 0))) (w.alloc (.cells #[.bool false, .string s, .slice a n cap] 119)).drew := heap_alloc_new w _
  refine wp_region_L (fun w' => w'.heap[w.heap.size]? = some (.cells #[.bool false, .string s, .slice a n cap] 119 (0, 0))) 5 (by kernel_rfl) ?_
  refine wpAnyL_take (i := 1) (v := .pointer (some ⟨w.heap.size, 1, none⟩)) rfl (by kernel_rfl) (by kernel_rfl) (by kernel_rfl) (by kernel_rfl) (by kernel_rfl) (fun _ _ _ h => h) hS (Or.inl ⟨by kernel_rfl, ?_⟩) ?_
  · (intro w' hSw; go_simp)
  try simp only [Act.put]
  refine wpAnyL_take (i := 2) (v := .string s) rfl (by kernel_rfl) (by kernel_rfl) (by kernel_rfl) (by kernel_rfl) (by kernel_rfl) (fun _ _ _ h => h) hS (Or.inl ⟨by kernel_rfl, ?_⟩) ?_
  · intro w' hSw
    have z0 := (cell_of_row w' _ 1 _ _ _ hSw).trans rfl
    go_simp
  try simp only [Act.put]
  refine wpAnyL_take (i := 3) (v := .bool em) rfl (by kernel_rfl) (by kernel_rfl) (by kernel_rfl) (by kernel_rfl) (by kernel_rfl) (fun _ _ _ h => h) hS (Or.inl ⟨by kernel_rfl, ?_⟩) ?_
  · (intro w' hSw; go_simp)
  try simp only [Act.put]
  refine wpAnyL_ready (rs := [0]) (by kernel_rfl) (by simp) ?_
  refine AllReadyL.cons rfl (fun K hK => ?_) AllReadyL.nil
  go_simp
  refine (HN.out _).mono ?_
  rintro e w1 ⟨rfl, b1⟩
  have HB1 : Hid (Below w.heap.size w w1) := HWB.out.trans (b1.mono HWB.out.size)
  have hS1 : (fun w' : World => w'.heap[w.heap.size]? = some (.cells #[.bool false, .string s, .slice a n cap] 119 (0, 0))) w1 := kept_block b1 hS
  clear b1
  refine hK.out _ _ hS1 ?_
  clear hK K
  try simp only [Act.put]
  refine wpAnyL_ready (rs := [4]) (by kernel_rfl) (by simp) ?_
  refine AllReadyL.cons rfl (fun K hK => ?_) AllReadyL.nil
  go_simp
  refine hK.out _ _ hS1 ?_
  clear hK K
  try simp only [Act.put]
  refine wpAnyL_ready (rs := [5]) (by kernel_rfl) (by simp) ?_
  refine AllReadyL.last rfl (fun K hK => ?_)
  go_simp
  refine hK.out _ _ ?_
  clear hK K
  try simp only [Act.put]
  refine wpAny_done (by kernel_rfl) ?_ _
  go_wp2_with fail
  exact bodyPost_ret (v := .tuple #[emptyV, .bool em]) (by simp [results, Tryz.results143, go_sem, emptyV]) rfl ⟨emptyV, by rw [HSE.out.1], .inr ⟨_, _, rfl⟩, fun h => .inl ⟨HSE.out.2 h, rfl⟩, HB1.out⟩

set_option maxHeartbeats 3200000 in
theorem readNode_branch {m : Nat} (hm : ReadOk m) (lo B : Nat) (w : World) (a : Option Addr) (cap : Nat) (t : Itm) (hB : B ≤ w.heap.size) (hs : Small t) (hbr : Tr.isBranch t = true) (hr : RepW lo B w (m + 1) (.agg #[.bool true, .string ⟨#[]⟩, .slice a 17 cap]) t) :
    Calls Tryz.prog 143 #[.agg #[.bool true, .string ⟨#[]⟩, .slice a 17 cap]] w fun e w' => ∃ v', e = .returned (.tuple #[v', .bool (Tr.sound t)]) ∧ IsNode v' ∧ (Tr.sound t = true → RN lo B w' (m + 1) v' t) ∧ Below w.heap.size w w' := by
  have HRB := hid (fun w' (b : Below w.heap.size w w') => readBranch_any hm lo B w' a cap t (Nat.le_trans hB b.size) hs hbr (repW_frame (b.mono hB) _ _ _ hr))
  clear hr hbr hs
  go_enter Tryz.func143, Tryz.ntmps143
  go_wp2_with fail
  have HB0 : Hid (Below w.heap.size w (w.alloc (.cells #[.bool true, .string ⟨#[]⟩, .slice a 17 cap] 119))) := (Below.refl _ _).alloc (Nat.le_refl _) _
  refine (HRB.out _ HB0.out).mono ?_
  rintro e w1 ⟨v1, rfl, n1, r1, b1⟩
  have HN1 := hid n1
  have HR1 := hid r1
  have HB1 : Hid (Below w.heap.size w w1) := HB0.out.trans (b1.mono HB0.out.size)
  clear n1 r1 b1
  go_wp2_with fail
  exact bodyPost_ret (v := .tuple #[v1, .bool (Tr.sound t)]) (by simp [results, Tryz.results143, go_sem]) rfl ⟨v1, rfl, HN1.out, HR1.out, HB1.out⟩

theorem readNode_none {m : Nat} (lo B : Nat) (w : World) (a : Option Addr) (n cap : Nat) (t : Itm) (hn : n = t.items.length) (h2 : n ≠ 2) (h17 : n ≠ 17) (hl : t.list = true) :
    Calls Tryz.prog 143 #[.agg #[.bool true, .string ⟨#[]⟩, .slice a n cap]] w fun e w' => ∃ v', e = .returned (.tuple #[v', .bool (Tr.sound t)]) ∧ IsNode v' ∧ (Tr.sound t = true → RN lo B w' (m + 1) v' t) ∧ Below w.heap.size w w' := by
  have HSD : Hid (Tr.sound t = false) := by
    rw [Hid, Tr.sound_eq]
    unfold Tr.soundOf
    rw [if_neg (by omega)]
    unfold Tr.isEmpty Tr.isBranch
    rw [hl, decide_eq_false (by omega)]
    rfl
  have i2 : ¬ (n : Int) = 2 := by omega
  have i17 : ¬ (n : Int) = 17 := by omega
  clear hn h2 h17 hl
  go_enter Tryz.func143, Tryz.ntmps143
  go_wp2_with fail
  exact bodyPost_ret (v := .tuple #[.nilIface, .bool false]) (by simp [results, Tryz.results143, go_sem]) rfl ⟨_, by rw [HSD.out], .inl rfl, (fun h => by rw [HSD.out] at h; cases h), (Below.refl _ _).alloc (Nat.le_refl _) _⟩
end Go.Proofs.YtbmohenjphmlgaaGreat

/- The walk of readNode (of the program) at lists of two; readNode reads what is sound. -/
namespace Go.Proofs.YtbmohenjphmlgaaGreat
open Go.RowKit
set_option maxRecDepth 100000

theorem soundP_pair {t : Itm} (hl : t.list = true) (h2 : t.items.length = 2) : Tr.sound t = Tr.pairOk (Tr.unpath (Tr.kid t 0)) (Tr.kid t 1) := by
  rw [Tr.sound_eq]
  unfold Tr.soundOf
  rw [if_pos h2]
  unfold Tr.isEmpty
  rw [hl]
  rfl

theorem unpathP_list {y : Itm} (h : y.list = true) : Tr.unpath y = none := by unfold Tr.unpath; rw [h]; rfl

theorem unpath_bytes {y : Itm} (h : y.list = false) : Tr.unpath y = Tr.unpath (Tr.itB y.bytes) := by unfold Tr.unpath Tr.itB; rw [h]

theorem bytes_le {y : Itm} (h : y.list = false) : y.bytes.length ≤ (Itm.enc y).length := by
  rw [Itm.enc_eq, if_neg (by rw [h]; decide)]
  unfold Itm.encB
  split
  · exact Nat.le_refl _
  · exact Nat.le_of_lt (Itm.headed_len _ _)

set_option maxHeartbeats 3200000 in
theorem readNode_pair {m : Nat} (lo B : Nat) (w : World) (a : Option Addr) (cap : Nat) (t : Itm) (hB : B ≤ w.heap.size) (hs : Small t) (hl : t.list = true) (h2 : t.items.length = 2) (hr : RepW lo B w (m + 1) (.agg #[.bool true, .string ⟨#[]⟩, .slice a 2 cap]) t) :
    Calls Tryz.prog 143 #[.agg #[.bool true, .string ⟨#[]⟩, .slice a 2 cap]] w fun e w' => ∃ v', e = .returned (.tuple #[v', .bool (Tr.sound t)]) ∧ IsNode v' ∧ (Tr.sound t = true → RN lo B w' (m + 1) v' t) ∧ Below w.heap.size w w' := by
  obtain ⟨b, off, l0, s0, x0, n0, c0, rfl, hb, e0, e1, e2, hl0, hs0, hr0⟩ := kid_rep hr 0 (by omega)
  obtain ⟨b', off', l1, s1, x1, n1, c1, hab, _, g0, g1, g2, hl1, hs1, hr1⟩ := kid_rep hr 1 (by omega)
  simp only [Option.some.injEq, Addr.mk.injEq, and_true] at hab
  obtain ⟨rfl, rfl⟩ := hab
  have hbw : b < w.heap.size := Nat.lt_of_lt_of_le hb hB
  have HB0 : Hid (Below w.heap.size w (w.alloc (.cells #[.bool true, .string ⟨#[]⟩, .slice (some ⟨b, off, none⟩) 2 cap] 119))) := (Below.refl _ _).alloc (Nat.le_refl _) _
  have f0 := (HB0.out.cell (p := ⟨b, off, none⟩) hbw).trans e0
  have f1 := (HB0.out.cell (p := ⟨b, off + 1, none⟩) hbw).trans e1
  have HSP := hid (soundP_pair hl h2)
  have HR := hid hr
  cases l0 with
  | true =>
    have HSF : Hid (Tr.sound t = false) := by rw [Hid, HSP.out, unpathP_list hl0.symm]; rfl
    clear e0 e1 e2 g0 g1 g2 hl0 hs0 hl1 hs1 hr0 hr1 hr
    go_enter Tryz.func143, Tryz.ntmps143
    go_wp2_with fail
    exact bodyPost_ret (v := .tuple #[.nilIface, .bool false]) (by simp [results, Tryz.results143, go_sem]) rfl ⟨_, by rw [HSF.out], .inl rfl, (fun h => by rw [HSF.out] at h; cases h), (Below.refl _ _).alloc (Nat.le_refl _) _⟩
  | false =>
    have hk0 := kid_small hs (i := 0) (by omega)
    have hby := bytes_le hl0.symm
    have HPA := hid (fun w => readPath_any s0 (by have := hk0.len; rw [hs0]; show (Tr.kid t 0).bytes.toArray.size ≤ _; rw [List.size_toArray]; omega) w)
    have HUN : Hid (Tr.unpath (Tr.kid t 0) = Tr.unpath (Tr.itB s0.data.toList)) := by rw [Hid, unpath_bytes hl0.symm, hs0]
    have HLF := hid (fun (d : ByteArray) (w' : World) (bb : Below w.heap.size w w') => readLeaf_any b off cap l1 s1 x1 n1 c1 d w' (Nat.lt_of_lt_of_le hbw bb.size) ((bb.cell (p := ⟨b, off + 3, none⟩) hbw).trans g0) ((bb.cell (p := ⟨b, off + 4, none⟩) hbw).trans g1) ((bb.cell (p := ⟨b, off + 5, none⟩) hbw).trans g2))
    have HEX := hid (fun (d : ByteArray) (w' : World) (bb : Below w.heap.size w w') => readExtension_any b off cap l1 s1 x1 n1 c1 d w' (Nat.lt_of_lt_of_le hbw bb.size) ((bb.cell (p := ⟨b, off + 3, none⟩) hbw).trans g0) ((bb.cell (p := ⟨b, off + 4, none⟩) hbw).trans g1) ((bb.cell (p := ⟨b, off + 5, none⟩) hbw).trans g2))
    have HV1 : Hid (((!l1 && decide (s1.size ≤ 40)) && decide (0 < s1.size)) = Tr.isValue (Tr.kid t 1)) := by
      rw [Hid, hl1, hs1]
      unfold Tr.isValue
      show ((!(Tr.kid t 1).list && decide ((Tr.kid t 1).bytes.toArray.size ≤ 40)) && decide (0 < (Tr.kid t 1).bytes.toArray.size)) = _
      rw [List.size_toArray, Bool.and_assoc, Bool.and_assoc, Bool.and_comm (decide (1 ≤ _))]
      rfl
    have HS1 : Hid ((!l1 && decide (s1.size = 8)) = Tr.isSum (Tr.kid t 1)) := by
      rw [Hid, hl1, hs1]
      unfold Tr.isSum
      show (!(Tr.kid t 1).list && decide ((Tr.kid t 1).bytes.toArray.size = 8)) = _
      rw [List.size_toArray]
    have HBY : Hid (s1.data.toList = (Tr.kid t 1).bytes) := by rw [Hid, hs1]
    have HL2 := hid (And.intro hl h2)
    clear e0 e1 e2 g0 g1 g2 hl0 hs0 hl1 hs1 hr0 hr1 hr hk0 hby hl h2
    go_enter Tryz.func143, Tryz.ntmps143
    go_wp2_with fail
    refine (HPA.out _).mono ?_
    rintro e w1 ⟨hp, b1⟩
    have HB1 : Hid (Below w.heap.size w w1) := HB0.out.trans (b1.mono HB0.out.size)
    have hb0 := old_block b1
    have q0 := (cell_of_row _ _ 0 _ _ _ hb0).trans rfl
    have q1 := (cell_of_row _ _ 1 _ _ _ hb0).trans rfl
    have q2 := (cell_of_row _ _ 2 _ _ _ hb0).trans rfl
    clear b1 hb0 f0 f1
    rcases hp with ⟨hu, d, mk, rfl⟩ | ⟨p, leaf, hu, rfl⟩
    · have HSF : Hid (Tr.sound t = false) := by rw [Hid, HSP.out, HUN.out, hu]; rfl
      clear hu
      go_wp2_with fail
      exact bodyPost_ret (v := .tuple #[.nilIface, .bool false]) (by simp [results, Tryz.results143, go_sem]) rfl ⟨_, by rw [HSF.out], .inl rfl, (fun h => by rw [HSF.out] at h; cases h), HB1.out⟩
    · have HU : Hid (Tr.unpath (Tr.kid t 0) = some (p, leaf)) := HUN.out.trans hu
      clear hu
      cases leaf with
      | true =>
        have HSD : Hid (Tr.sound t = Tr.isValue (Tr.kid t 1)) := by rw [Hid, HSP.out, HU.out]; rfl
        go_wp2_with fail
        refine (HLF.out _ _ HB1.out).mono ?_
        rintro e w2 ⟨rfl, b2⟩
        rw [HV1.out, ← HSD.out]
        have HB2 : Hid (Below w.heap.size w w2) := HB1.out.trans (b2.mono HB1.out.size)
        clear b2
        go_wp2_with fail
        exact bodyPost_ret (v := .tuple #[leafV (some ⟨b, off, none⟩) cap ⟨p.toArray⟩ s1, .bool (Tr.sound t)]) (by simp [results, Tryz.results143, go_sem]) rfl ⟨_, rfl, .inr ⟨_, _, rfl⟩, fun h => .inr (.inl ⟨_, _, _, _, HL2.out.1, HL2.out.2, repW_frame (HB2.out.mono hB) _ _ _ HR.out, HU.out, by rw [← HSD.out]; exact h, HBY.out, rfl⟩), HB2.out⟩
      | false =>
        have HSD : Hid (Tr.sound t = (decide (0 < p.length) && Tr.isSum (Tr.kid t 1))) := by rw [Hid, HSP.out, HU.out]; rfl
        go_wp2_with fail
        refine (HEX.out _ _ HB1.out).mono ?_
        rintro e w2 ⟨rfl, b2⟩
        rw [HS1.out, show (⟨p.toArray⟩ : ByteArray).size = p.length from List.size_toArray .., ← HSD.out]
        have HB2 : Hid (Below w.heap.size w w2) := HB1.out.trans (b2.mono HB1.out.size)
        clear b2
        go_wp2_with fail
        exact bodyPost_ret (v := .tuple #[extV (some ⟨b, off, none⟩) cap ⟨p.toArray⟩ s1 .nilIface, .bool (Tr.sound t)]) (by simp [results, Tryz.results143, go_sem]) rfl ⟨_, rfl, .inr ⟨_, _, rfl⟩, fun h => by
          rw [HSD.out, Bool.and_eq_true, decide_eq_true_eq] at h
          exact .inr (.inr (.inl ⟨_, _, _, _, HL2.out.1, HL2.out.2, repW_frame (HB2.out.mono hB) _ _ _ HR.out, HU.out, by show 0 < p.toArray.size; rw [List.size_toArray]; exact h.1, h.2, HBY.out, rfl⟩)), HB2.out⟩

theorem readOk_all : ∀ m, ReadOk m := by
  intro m
  induction m with
  | zero => intro lo B w l s a n cap t _ _ hr; exact hr.elim
  | succ m ih =>
    intro lo B w l s a n cap t hB hs hr
    obtain ⟨a', cap', e0, e1, e2⟩ := repW_shape hr
    simp only [Value.bool.injEq, Value.string.injEq, Value.slice.injEq] at e0 e1 e2
    obtain ⟨rfl, rfl, rfl⟩ := e2
    cases hl : t.list with
    | false =>
      rw [hl] at e0
      subst e0
      exact readNode_bytes lo B w m s a t.items.length cap t hs hl e1
    | true =>
      rw [hl] at e0
      subst e0
      have hb : t.bytes = [] := by
        have := hs.pure
        rw [Itm.pure_eq, hl] at this
        simp only [if_true, Bool.and_eq_true, List.isEmpty_iff] at this
        exact this.1
      rw [hb] at e1
      have : s = ⟨#[]⟩ := e1
      subst this
      by_cases h17 : t.items.length = 17
      · rw [h17] at hr ⊢
        exact readNode_branch ih lo B w a cap t hB hs (by unfold Tr.isBranch; rw [hl, h17]; rfl) hr
      · by_cases h2 : t.items.length = 2
        · rw [h2] at hr ⊢
          exact readNode_pair lo B w a cap t hB hs hl h2 hr
        · exact readNode_none lo B w a _ cap t rfl h2 h17 hl
end Go.Proofs.YtbmohenjphmlgaaGreat

/- Plain mathematics of trees: a table's nodes are sound, and its proofs are. Nothing of the program is in here. -/
namespace Go.Proofs.YtbmohenjphmlgaaGreat
set_option maxRecDepth 100000

namespace Tr

/-- Where a way through a node of a table goes. -/
def GoesOn (f : Nat) (l : List Ent) (k : List UInt8) (br : Bool) : Prop :=
  (elems f l k = [] ∧ ∃ w, goes (node f l) k br = some w ∧ w.need = [] ∧ w.value = look l k ∧ w.found = !(look l k).isEmpty)
  ∨ ∃ f' l' k' br', f' < f ∧ elems f l k = Itm.enc (node f' l') :: elems f' l' k' ∧ goes (node f l) k br = some ⟨k', br', [], false, sum (Itm.enc (node f' l'))⟩ ∧ ¬ (Itm.enc (node f' l')).length < 8 ∧ (br' = true → Forks l') ∧ Fits f' l' ∧ Apart l' ∧ Full l' ∧ (∀ c ∈ k', c.toNat < 16) ∧ look l' k' = look l k

/-- Where in a branch an entry stands. -/
def slot (e : Ent) : Nat := match e.dig with | [] => 16 | c :: _ => c.toNat

/-- The proof for a key in a table. -/
def prove (ps : List (List UInt8 × List UInt8)) (key : List UInt8) : List (List UInt8) := proofOf 13 (table ps) (digits key)

theorem verify_ok {root key : List UInt8} {proof : List (List UInt8)} (h1 : root.length = 8) (h2 : key.length ≤ 6) (h3 : proof.length ≤ 20) (h4 : ∀ s ∈ proof, s.length ≤ 1000) : verify root key proof = verEnd (vloop 0 ⟨digits key, false, [], false, root⟩ proof) := by
  unfold verify
  rw [if_neg (by omega), if_neg (by omega), if_neg]
  rintro (h | ⟨s, hs, h⟩)
  · omega
  · have := h4 s hs; omega

end Tr
end Go.Proofs.YtbmohenjphmlgaaGreat

/- Plain mathematics of trees: a proof in which a byte is turned is none, and the like. Nothing of the program is in here. -/
namespace Go.Proofs.YtbmohenjphmlgaaGreat
set_option maxRecDepth 100000

namespace Tr

end Tr
end Go.Proofs.YtbmohenjphmlgaaGreat

/- Plain mathematics of proofs that are read at once: a sound item is not deep; the way of a proof that was read. Nothing of the program is in here. -/
namespace Go.Proofs.YtbmohenjphmlgaaGreat
set_option maxRecDepth 100000

namespace Tr

theorem flat_deep {t : Itm} (h : t.list = false) : Itm.deep t = 0 := by rw [Itm.deep_eq, if_neg (by rw [h]; decide)]

theorem empty_flat {t : Itm} (h : isEmpty t = true) : t.list = false := by unfold isEmpty at h; simp at h; exact h.1
theorem value_flat {t : Itm} (h : isValue t = true) : t.list = false := by unfold isValue at h; simp at h; exact h.1.1
theorem sum_flat {t : Itm} (h : isSum t = true) : t.list = false := by unfold isSum at h; simp at h; exact h.1
theorem unpath_flat {t : Itm} {u : List UInt8 × Bool} (h : unpath t = some u) : t.list = false := by
  cases hl : t.list with
  | false => rfl
  | true => unfold unpath at h; rw [hl] at h; simp at h

theorem kid_mem {t x : Itm} (h : x ∈ t.items) : ∃ i, i < t.items.length ∧ x = kid t i := by
  obtain ⟨i, hi, rfl⟩ := List.getElem_of_mem h
  exact ⟨i, hi, by unfold kid; rw [List.getD_eq_getElem?_getD, List.getElem?_eq_getElem hi]; rfl⟩

/-- A sound item is not deep. -/
theorem sound_deep {t : Itm} (hs : sound t = true) : Itm.deep t ≤ 8 := by
  cases hl : t.list with
  | false => rw [flat_deep hl]; omega
  | true =>
    have he : isEmpty t = false := by unfold isEmpty; rw [hl]; rfl
    rw [Itm.deep_eq, if_pos hl]
    have : Itm.top (t.items.map Itm.deep) ≤ 7 := by
      refine Itm.top_le fun x hx => ?_
      simp only [List.mem_map] at hx
      obtain ⟨y, hy, rfl⟩ := hx
      obtain ⟨i, hi, rfl⟩ := kid_mem hy
      cases hb : isBranch t with
      | true =>
        rw [sound_branch he hb] at hs
        simp only [Bool.and_eq_true, List.all_eq_true] at hs
        have hsl := hs.1 i (List.mem_range.2 (by have := branch_len hb; omega))
        rw [slotOk_eq] at hsl
        simp only [Bool.or_eq_true] at hsl
        rcases hsl with h | h
        · rw [flat_deep (empty_flat h)]; omega
        · split at h
          · rw [flat_deep (value_flat h)]; omega
          · simp only [Bool.or_eq_true, Bool.and_eq_true, decide_eq_true_eq] at h
            rcases h with h | h
            · rw [flat_deep (sum_flat h)]; omega
            · have := deep_le (kid t i)
              omega
      | false =>
        obtain ⟨h2, hp⟩ := sound_two hs he hb
        unfold pairOk at hp
        split at hp
        · cases hp
        · rename_i p leaf hu
          have hi2 : i = 0 ∨ i = 1 := by omega
          rcases hi2 with rfl | rfl
          · rw [flat_deep (unpath_flat hu)]; omega
          · split at hp
            · rw [flat_deep (value_flat hp)]; omega
            · simp only [Bool.and_eq_true] at hp
              rw [flat_deep (sum_flat hp.2)]; omega
    omega

/-- What is read of a text: the sound item whose bytes they are. -/
def reads (l : List UInt8) : Option Itm := match whole l with | some t => if sound t then some t else none | none => none

theorem reads_some {l : List UInt8} {t : Itm} (h : reads l = some t) : whole l = some t ∧ sound t = true := by
  unfold reads at h
  split at h
  · rename_i u hu
    split at h
    · rename_i hs
      cases h
      exact ⟨hu, hs⟩
    · cases h
  · cases h

theorem whole_enc_eq {l : List UInt8} {t : Itm} (h : whole l = some t) : l = Itm.enc t ∧ Itm.pure t = true := by
  unfold whole at h
  split at h
  · rename_i u hu
    cases h
    have := Itm.parse_sound _ _ _ _ hu
    rw [List.append_nil] at this
    exact this
  · cases h

theorem vstep_reads {i : Nat} {w : Way} {s : List UInt8} : vstep i w s = if w.need = [] || sum s != w.need || (decide (0 < i) && decide (s.length < 8)) then none else match reads s with | none => none | some t => goes t w.digits w.branch := by
  unfold vstep reads
  split
  · rfl
  · cases whole s with
    | none => rfl
    | some t =>
      show (if sound t = true then _ else none) = match (if sound t = true then some t else none) with | none => none | some t => goes t w.digits w.branch
      split <;> rfl

theorem vloop_unread : ∀ (p : List (List UInt8)) (i : Nat) (w : Way), (∃ s ∈ p, reads s = none) → vloop i w p = none := by
  intro p
  induction p with
  | nil => intro i w ⟨s, h, _⟩; cases h
  | cons s p ih =>
    intro i w ⟨x, hx, hr⟩
    rw [vloop_cons]
    cases hv : vstep i w s with
    | none => rfl
    | some w' =>
      rcases List.mem_cons.1 hx with rfl | hm
      · rw [vstep_reads, hr] at hv
        split at hv <;> cases hv
      · exact ih _ _ ⟨x, hm, hr⟩

/-- The rest of a proof, behind its first j elements, on a way that may have ended. -/
def fin (p : List (List UInt8)) (j : Nat) (o : Option Way) : Option Way := match o with | none => none | some w => vloop j w (p.drop j)

theorem fin_some (p : List (List UInt8)) (j : Nat) (w : Way) : fin p j (some w) = vloop j w (p.drop j) := rfl
theorem fin_zero (p : List (List UInt8)) (w : Way) : fin p 0 (some w) = vloop 0 w p := rfl

/-- The next element of the proof. -/
theorem fin_next {p : List (List UInt8)} {j : Nat} (w : Way) (hj : j < p.length) : fin p j (some w) = fin p (j + 1) (vstep j w p[j]) := by
  rw [fin_some, List.drop_eq_getElem_cons hj, vloop_cons]
  cases vstep j w p[j] <;> rfl

/-- There is no next element. -/
theorem fin_out {p : List (List UInt8)} {j : Nat} {w : Way} (hj : p.length ≤ j) : fin p j (some w) = some w := by
  rw [fin_some, List.drop_eq_nil_of_le hj]; rfl

/-- A way that has ended: the proof is at its end, or is refused. -/
theorem fin_end {p : List (List UInt8)} {j : Nat} {w : Way} (hw : w.need = []) : verEnd (fin p j (some w)) = if p.length ≤ j then (w.value, w.found, 0) else ([], false, 6) := by
  split
  · rename_i h
    rw [fin_out h]
    exact if_pos hw
  · rename_i h
    rw [fin_next w (by omega), vstep_a hw]
    rfl

theorem verEnd_need {w : Way} (h : w.need ≠ []) : verEnd (some w) = ([], false, 6) := if_neg h

theorem goes_true {t : Itm} (k : List UInt8) (h : isBranch t = true) : goes t k true = goes t k false := by
  rw [goes_eq, goes_eq]; unfold goesOf; rw [h]; rfl

end Tr
end Go.Proofs.YtbmohenjphmlgaaGreat

/- The walks of IsRoot and isLongKey (of the program). -/
namespace Go.Proofs.YtbmohenjphmlgaaGreat
open Go.RowKit
set_option maxRecDepth 100000

theorem isRoot_any (s : ByteArray) (w : World) : Calls Tryz.prog 51 #[.string s] w fun e w' => e = .returned (.bool (decide ((s.size : Int) = 8))) ∧ w' = w := by
  go_enter Tryz.func51, Tryz.ntmps51
  go_wp2_with fail
  go_ret
  exact ⟨rfl, rfl⟩

theorem isLongKey_any (s : ByteArray) (w : World) : Calls Tryz.prog 83 #[.string s] w fun e w' => e = .returned (.bool (decide ((6 : Int) < s.size))) ∧ w' = w := by
  go_enter Tryz.func83, Tryz.ntmps83
  go_wp2_with fail
  go_ret
  exact ⟨by simp, rfl⟩

end Go.Proofs.YtbmohenjphmlgaaGreat

/- The walks of proofFault and tableFault (of the program). -/
namespace Go.Proofs.YtbmohenjphmlgaaGreat
open Go.RowKit
set_option maxRecDepth 100000

/-- Texts in a row, in blocks below B. -/
def SRd (B : Nat) (w : World) (a : Option Addr) (l : List ByteArray) : Prop :=
  ∀ i, (h : i < l.length) → ∃ b off, a = some ⟨b, off, none⟩ ∧ b < B ∧ w.cell? ⟨b, off + i, none⟩ = some (.string l[i])

theorem SRd.later {B : Nat} {w w' : World} {a : Option Addr} {l : List ByteArray} (h : SRd B w a l) (hb : Below B w w') : SRd B w' a l := by
  intro i hi
  obtain ⟨b, off, rfl, hlt, c0⟩ := h i hi
  exact ⟨b, off, rfl, hlt, (hb.cell (p := ⟨b, off + i, none⟩) hlt).trans c0⟩

theorem SRd.wider {B B' : Nat} {w : World} {a : Option Addr} {l : List ByteArray} (h : SRd B w a l) (hB : B ≤ B') : SRd B' w a l := by
  intro i hi
  obtain ⟨b, off, e, hlt, c0⟩ := h i hi
  exact ⟨b, off, e, Nat.lt_of_lt_of_le hlt hB, c0⟩

/-- What is wrong with a proof before it is looked into. -/
def pfault (root key : ByteArray) (l : List ByteArray) : Nat :=
  if root.size ≠ 8 then 5 else if 6 < key.size then 3 else if 20 < l.length then 2 else if ∃ s ∈ l, 1000 < s.size then 2 else 0

theorem pfault_root {root key : ByteArray} {l : List ByteArray} (h : root.size ≠ 8) : pfault root key l = 5 := by unfold pfault; rw [if_pos h]
theorem pfault_key {root key : ByteArray} {l : List ByteArray} (h : root.size = 8) (h2 : 6 < key.size) : pfault root key l = 3 := by unfold pfault; rw [if_neg (by omega), if_pos h2]
theorem pfault_many {root key : ByteArray} {l : List ByteArray} (h : root.size = 8) (h2 : ¬ 6 < key.size) (h3 : 20 < l.length) : pfault root key l = 2 := by unfold pfault; rw [if_neg (by omega), if_neg h2, if_pos h3]
theorem pfault_big {root key : ByteArray} {l : List ByteArray} (h : root.size = 8) (h2 : ¬ 6 < key.size) (h3 : ¬ 20 < l.length) (h4 : ∃ s ∈ l, 1000 < s.size) : pfault root key l = 2 := by unfold pfault; rw [if_neg (by omega), if_neg h2, if_neg h3, if_pos h4]
theorem pfault_ok {root key : ByteArray} {l : List ByteArray} (h : root.size = 8) (h2 : ¬ 6 < key.size) (h3 : ¬ 20 < l.length) (h4 : ∀ s ∈ l, ¬ 1000 < s.size) : pfault root key l = 0 := by unfold pfault; rw [if_neg (by omega), if_neg h2, if_neg h3, if_neg (fun ⟨s, hs, h⟩ => h4 s hs h)]

set_option maxHeartbeats 1600000 in
theorem proofFault_any (root key : ByteArray) (a : Option Addr) (cap : Nat) (l : List ByteArray) (w : World) (hr : SRd w.heap.size w a l) : Calls Tryz.prog 123 #[.string root, .string key, .slice a l.length cap] w fun e w' => e = .returned (.int .i64 (pfault root key l)) ∧ w' = w := by
  have HI := hid (fun s w => isRoot_any s w)
  have HK := hid (fun s w => isLongKey_any s w)
  have HR := hid hr
  clear hr
  by_cases h1 : root.size = 8
  · have D1 : Hid (decide ((root.size : Int) = 8) = true) := decide_eq_true (by omega)
    by_cases h2 : 6 < key.size
    · have D2 : Hid (decide ((6 : Int) < key.size) = true) := decide_eq_true (by omega)
      rw [pfault_key h1 h2]
      clear h1 h2
      go_enter Tryz.func123, Tryz.ntmps123
      go_wp2_with fail
      refine (HI.out _ _).mono ?_
      rintro e w1 ⟨rfl, hw⟩
      obtain rfl := hw.symm
      rw [D1.out]
      go_wp2_with fail
      refine (HK.out _ _).mono ?_
      rintro e w1 ⟨rfl, hw⟩
      obtain rfl := hw.symm
      rw [D2.out]
      go_wp2_with fail
      go_ret
      exact ⟨rfl, rfl⟩
    · have D2 : Hid (decide ((6 : Int) < key.size) = false) := decide_eq_false (by omega)
      by_cases h3 : 20 < l.length
      · rw [pfault_many h1 h2 h3]
        have h3' : (20 : Int) < (l.length : Int) := by omega
        clear h1 h2 h3
        go_enter Tryz.func123, Tryz.ntmps123
        go_wp2_with fail
        refine (HI.out _ _).mono ?_
        rintro e w1 ⟨rfl, hw⟩
        obtain rfl := hw.symm
        rw [D1.out]
        go_wp2_with fail
        refine (HK.out _ _).mono ?_
        rintro e w1 ⟨rfl, hw⟩
        obtain rfl := hw.symm
        rw [D2.out]
        go_wp2_with fail
        go_ret
        exact ⟨rfl, rfl⟩
      · have h3' : ¬ (20 : Int) < (l.length : Int) := by omega
        have HF : Hid (∀ n, (∃ s ∈ l, 1000 < s.size) → n = 2 → n = pfault root key l) := fun n h hn => by rw [hn, pfault_big h1 h2 h3 h]
        have HG : Hid (∀ n, (∀ s ∈ l, ¬ 1000 < s.size) → n = 0 → n = pfault root key l) := fun n h hn => by rw [hn, pfault_ok h1 h2 h3 h]
        generalize pfault root key l = N at *
        clear h1 h2
        go_enter Tryz.func123, Tryz.ntmps123
        go_wp2_with fail
        refine (HI.out _ _).mono ?_
        rintro e w1 ⟨rfl, hw⟩
        obtain rfl := hw.symm
        rw [D1.out]
        go_wp2_with fail
        refine (HK.out _ _).mono ?_
        rintro e w1 ⟨rfl, hw⟩
        obtain rfl := hw.symm
        rw [D2.out]
        go_wp2_with fail
        go_loopw [8, 22] (fun _ i wr => ∃ k : Nat, i = .int .i64 k ∧ k ≤ l.length ∧ Hid (∀ j, (h : j < l.length) → j < k → ¬ 1000 < l[j].size) ∧ wr = w) (fun _ i _ => l.length - (intOf i).toNat)
        case atStart => exact ⟨0, rfl, Nat.zero_le _, fun j _ h => by omega, rfl⟩
        case round =>
          obtain ⟨k, rfl, hk, HH, rfl⟩ := hrel
          by_cases hlt : k < l.length
          · obtain ⟨b, off, rfl, hb, e0⟩ := HR.out k hlt
            have i1 : (0 : Int) ≤ (k : Int) := by omega
            have i2 : (k : Int) < (l.length : Int) := by omega
            by_cases hz : 1000 < l[k].size
            · have HE : Hid (∃ s ∈ l, 1000 < s.size) := ⟨_, List.getElem_mem hlt, hz⟩
              have hz' : (1000 : Int) < (l[k].size : Int) := by omega
              go_wp2_with fail
              go_ret
              exact ⟨by rw [← HF.out 2 HE.out rfl]; rfl, rfl⟩
            · have hz' : ¬ (1000 : Int) < (l[k].size : Int) := by omega
              have HE : Hid (∀ j, (h : j < l.length) → j < k + 1 → ¬ 1000 < l[j].size) := fun j hj hjk => by
                by_cases e : j = k
                · subst e; exact hz
                · exact HH.out j hj (by omega)
              clear hz
              go_wp2_with fail
              exact ⟨⟨k + 1, by go_num, by omega, HE.out, trivial⟩, by simp [intOf]; omega⟩
          · have i2 : ¬ (k : Int) < (l.length : Int) := by omega
            have HE : Hid (∀ s ∈ l, ¬ 1000 < s.size) := fun s hs => by
              obtain ⟨j, hj, rfl⟩ := List.getElem_of_mem hs
              exact HH.out j hj (by omega)
            go_wp2_with fail
            go_ret
            exact ⟨by rw [← HG.out 0 HE.out rfl]; rfl, rfl⟩
  · have D1 : Hid (decide ((root.size : Int) = 8) = false) := decide_eq_false (by omega)
    rw [pfault_root h1]
    clear h1
    go_enter Tryz.func123, Tryz.ntmps123
    go_wp2_with fail
    refine (HI.out _ _).mono ?_
    rintro e w1 ⟨rfl, hw⟩
    obtain rfl := hw.symm
    rw [D1.out]
    go_wp2_with fail
    go_ret
    exact ⟨rfl, rfl⟩

/-- What is wrong with pairs. -/
def tfault (l : List (ByteArray × ByteArray)) (key : ByteArray) : Nat :=
  if 60 < l.length then 2 else if (∃ p ∈ l, 6 < p.1.size) ∨ 6 < key.size then 3 else if ∃ p ∈ l, 40 < p.2.size then 4 else 0

end Go.Proofs.YtbmohenjphmlgaaGreat

/- Rows of texts of a call's own. -/
namespace Go.Proofs.YtbmohenjphmlgaaGreat
open Go.RowKit
set_option maxRecDepth 100000

theorem infoText : (Tryz.prog.info? 9).map (fun i => (i.zero, i.size, i.bytes)) = some (some (.string ⟨#[]⟩), 1, 16) := by kernel_rfl

def tcells (l : List ByteArray) : List Value := l.map .string
theorem tcells_len (l : List ByteArray) : (tcells l).length = l.length := by simp [tcells]
theorem tcells_at (l : List ByteArray) (i : Nat) (hi : i < l.length) : (tcells l)[i]? = some (.string l[i]) := by simp [tcells, hi]
theorem tcells_one (l : List ByteArray) : ∀ u ∈ tcells l, u.oneCell' = true := by
  intro u hu
  obtain ⟨s, _, rfl⟩ := List.mem_map.1 hu
  rfl

def TOwn (w : World) (base : Nat) (v : Value) (l : List ByteArray) : Prop := w.ownsRow base 9 1 v l.length (tcells l)

theorem town_nil (w : World) (base : Nat) : TOwn w base (.slice none 0 0) [] := World.ownsRow_nil _ _ _ _
theorem town_shape {w : World} {base : Nat} {v : Value} {l : List ByteArray} (h : TOwn w base v l) : ∃ a cap, v = .slice a l.length cap ∧ l.length ≤ cap := by
  rcases h.2 with ⟨rfl, h0⟩ | ⟨g, cap, cur, rfl, _, _, hn, _⟩
  · exact ⟨none, 0, by rw [h0], by omega⟩
  · exact ⟨_, cap, rfl, hn⟩
theorem town_frame {w w' : World} {b : Nat} {v : Value} {l : List ByteArray} (h : TOwn w b v l) (hg : ∀ g, v.ownBlock = some g → w'.heap[g]? = w.heap[g]?) : TOwn w' b v l := owns_frame h hg
theorem town_lt {w : World} {b : Nat} {v : Value} {l : List ByteArray} (h : TOwn w b v l) : ∀ g, v.ownBlock = some g → b ≤ g ∧ g < w.heap.size := World.ownsRow.lt h
theorem town_later {w w' : World} {b : Nat} {v : Value} {l : List ByteArray} (h : TOwn w b v l) (hb : Below w.heap.size w w') : TOwn w' b v l := town_frame h fun g hg => hb.block g (town_lt h g hg).2

theorem town_rd {w : World} {base : Nat} {a : Option Addr} {n cap : Nat} {l : List ByteArray} (h : TOwn w base (.slice a n cap) l) : SRd w.heap.size w a l := by
  intro i hi
  rcases h.2 with ⟨_, h0⟩ | ⟨g, cap', cur, hv, hbg, hg, _⟩
  · omega
  · have hlt := (Array.getElem?_eq_some_iff.1 hg).1
    simp only [Value.slice.injEq] at hv
    obtain ⟨rfl, _, _⟩ := hv
    have hc := World.ownsRow.cells (g := g) h rfl
    have a0 : ((⟨g, 0, none⟩ : Addr).add i) = ⟨g, 0 + i, none⟩ := by unfold Addr.add; split <;> simp_all
    exact ⟨g, 0, rfl, hlt, a0 ▸ hc _ _ (tcells_at l i hi)⟩

theorem tcells_snoc (l : List ByteArray) (p : ByteArray) : tcells (l ++ [p]) = tcells l ++ [.string p] := by simp [tcells]

theorem cells_lone (w : World) (a : Value) (e : TypeId) : ∀ j u, [a][j]? = some u → (w.alloc (.cells #[a] e)).cell? ((⟨w.heap.size, 0, none⟩ : Addr).add j) = some u := by
  intro j u hu
  match j with
  | 0 =>
    have e0 : u = a := by simpa using hu.symm
    subst e0
    have hh : (w.alloc (.cells #[u] e)).heap[w.heap.size]? = some (.cells #[u] e (0, 0)) := heap_alloc_new w _
    exact (cell_of_row _ _ 0 _ _ _ hh).trans rfl
  | j + 1 => simp at hu

/-- A text that was just laid is appended to a row of the call's own: for a walk. -/
theorem wpList_push_text {ops : Array Oper} {rest : List Oper} {o : Oper} {act : Act} {Q' : Exit → Act → World → Prop} (hgd : o.guard = none) (s x : Operand)
    (hop : o.op = .call { callee := .builtin .append, args := #[s, x], argTypes := #[28, 28] }) {W w0 wr : World} {B : Nat} {v1 : Value} {l1 : List ByteArray} (p : ByteArray) (L : Nat) (hL : wr.heap.size = L)
    (hs : act.eval s = v1) (hx : act.eval x = .slice (some ⟨L, 0, none⟩) 1 1) (ho : TOwn w0 B v1 l1) (hw : Below w0.heap.size w0 wr) (hb : Below B W w0) (hB : B ≤ W.heap.size) (hlen : l1.length ≤ 1000000)
    (h : ∀ v' w', TOwn w' B v' (l1 ++ [p]) → Below B W w' → wpList Tryz.prog ops Q' rest (act.put o.dst v') w') : wpList Tryz.prog ops Q' (o :: rest) act (wr.alloc (.cells #[.string p] 9)) := by
  subst hL
  obtain ⟨i0, hi, hz0, hz1, hz2⟩ := info_parts infoText
  have hb1 : Below B W wr := hb.trans (hw.mono (Nat.le_trans hB hb.size))
  have hb2 : Below B W (wr.alloc (.cells #[.string p] 9)) := hb1.alloc (Nat.le_trans hB hb1.size) _
  have hBw : B ≤ (wr.alloc (.cells #[.string p] 9)).heap.size := Nat.le_trans hB hb2.size
  have ho2 : TOwn (wr.alloc (.cells #[.string p] 9)) B v1 l1 := town_frame ho (fun g hg => by
    rw [Below.heap_alloc _ _ _ (Nat.lt_of_lt_of_le (town_lt ho g hg).2 hw.size)]
    exact hw.block g (town_lt ho g hg).2)
  refine wpList_append_mine _ hgd s x 28 hop B 9 i0 _ 1 16 Tryz.underlying28 hi hz0 hz1 hz2 rfl (by decide) v1 l1.length (tcells l1) hs ho2 ⟨wr.heap.size, 0, none⟩ 1 1 [.string p] hx rfl (cells_lone _ _ _) (by simp [Value.oneCell']) (by unfold maxLen; omega) (by omega) hBw ?_
  intro v' w' ho' hg _
  refine h v' w' ?_ (hb2.grown hg hBw (fun g hgg => (town_lt ho g hgg).1))
  unfold TOwn
  rw [List.length_append, tcells_snoc]
  exact ho'

end Go.Proofs.YtbmohenjphmlgaaGreat

/- Rows of nodes (of the program). -/
namespace Go.Proofs.YtbmohenjphmlgaaGreat
open Go.RowKit
set_option maxRecDepth 100000

theorem infoNode : (Tryz.prog.info? 86).map (fun i => (i.zero, i.size, i.bytes)) = some (some .nilIface, 1, 16) := by kernel_rfl

theorem node_one {v : Value} (h : IsNode v) : v.oneCell' = true := by
  rcases h with rfl | ⟨T, x, rfl⟩ <;> rfl

/-- A row of nodes of a call's own. -/
def NOwn (w : World) (base : Nat) (v : Value) (l : List Value) : Prop := w.ownsRow base 86 1 v l.length l

theorem nown_nil (w : World) (base : Nat) : NOwn w base (.slice none 0 0) [] := World.ownsRow_nil _ _ _ _
theorem nown_shape {w : World} {base : Nat} {v : Value} {l : List Value} (h : NOwn w base v l) : ∃ a cap, v = .slice a l.length cap ∧ l.length ≤ cap := by
  rcases h.2 with ⟨rfl, h0⟩ | ⟨g, cap, cur, rfl, _, _, hn, _⟩
  · exact ⟨none, 0, by rw [h0], by omega⟩
  · exact ⟨_, cap, rfl, hn⟩
theorem nown_frame {w w' : World} {b : Nat} {v : Value} {l : List Value} (h : NOwn w b v l) (hg : ∀ g, v.ownBlock = some g → w'.heap[g]? = w.heap[g]?) : NOwn w' b v l := owns_frame h hg
theorem nown_lt {w : World} {b : Nat} {v : Value} {l : List Value} (h : NOwn w b v l) : ∀ g, v.ownBlock = some g → b ≤ g ∧ g < w.heap.size := World.ownsRow.lt h
theorem nown_later {w w' : World} {b : Nat} {v : Value} {l : List Value} (h : NOwn w b v l) (hb : Below w.heap.size w w') : NOwn w' b v l := nown_frame h fun g hg => hb.block g (nown_lt h g hg).2

/-- A row of nodes that can be read. -/
def NRd (B : Nat) (w : World) (a : Option Addr) (l : List Value) : Prop :=
  ∀ i, (h : i < l.length) → ∃ b off, a = some ⟨b, off, none⟩ ∧ b < B ∧ w.cell? ⟨b, off + i, none⟩ = some l[i]

theorem nown_rd {w : World} {base : Nat} {a : Option Addr} {n cap : Nat} {l : List Value} (h : NOwn w base (.slice a n cap) l) : NRd w.heap.size w a l := by
  intro i hi
  rcases h.2 with ⟨_, h0⟩ | ⟨g, cap', cur, hv, hbg, hg, _⟩
  · omega
  · have hlt := (Array.getElem?_eq_some_iff.1 hg).1
    simp only [Value.slice.injEq] at hv
    obtain ⟨rfl, _, _⟩ := hv
    have hc := World.ownsRow.cells (g := g) h rfl
    have a0 : ((⟨g, 0, none⟩ : Addr).add i) = ⟨g, 0 + i, none⟩ := by unfold Addr.add; split <;> simp_all
    exact ⟨g, 0, rfl, hlt, a0 ▸ hc _ _ (List.getElem?_eq_getElem hi)⟩

/-- A node that was just laid is appended to a row of the call's own: for a walk. -/
theorem wpList_push_node {ops : Array Oper} {rest : List Oper} {o : Oper} {act : Act} {Q' : Exit → Act → World → Prop} (hgd : o.guard = none) (s x : Operand)
    (hop : o.op = .call { callee := .builtin .append, args := #[s, x], argTypes := #[155, 155] }) {W w0 wr : World} {B : Nat} {v1 : Value} {l1 : List Value} (p : Value) (hp : IsNode p) (L : Nat) (hL : wr.heap.size = L)
    (hs : act.eval s = v1) (hx : act.eval x = .slice (some ⟨L, 0, none⟩) 1 1) (ho : NOwn w0 B v1 l1) (hw : Below w0.heap.size w0 wr) (hb : Below B W w0) (hB : B ≤ W.heap.size) (hlen : l1.length ≤ 1000000)
    (h : ∀ v' w', NOwn w' B v' (l1 ++ [p]) → Below B W w' → (∀ k, k < wr.heap.size → v1.ownBlock ≠ some k → w'.heap[k]? = wr.heap[k]?) → (∀ b, v'.ownBlock = some b → v1.ownBlock = some b ∨ wr.heap.size ≤ b) → wr.heap.size ≤ w'.heap.size → wpList Tryz.prog ops Q' rest (act.put o.dst v') w') : wpList Tryz.prog ops Q' (o :: rest) act (wr.alloc (.cells #[p] 86)) := by
  subst hL
  obtain ⟨i0, hi, hz0, hz1, hz2⟩ := info_parts infoNode
  have hb1 : Below B W wr := hb.trans (hw.mono (Nat.le_trans hB hb.size))
  have hb2 : Below B W (wr.alloc (.cells #[p] 86)) := hb1.alloc (Nat.le_trans hB hb1.size) _
  have hBw : B ≤ (wr.alloc (.cells #[p] 86)).heap.size := Nat.le_trans hB hb2.size
  have ho2 : NOwn (wr.alloc (.cells #[p] 86)) B v1 l1 := nown_frame ho (fun g hg => by
    rw [Below.heap_alloc _ _ _ (Nat.lt_of_lt_of_le (nown_lt ho g hg).2 hw.size)]
    exact hw.block g (nown_lt ho g hg).2)
  refine wpList_append_mine _ hgd s x 155 hop B 86 i0 _ 1 16 Tryz.underlying155 hi hz0 hz1 hz2 rfl (by decide) v1 l1.length l1 hs ho2 ⟨wr.heap.size, 0, none⟩ 1 1 [p] hx rfl (cells_lone _ _ _) (by intro u hu; rw [List.mem_singleton.1 hu]; exact node_one hp) (by unfold maxLen; omega) (by omega) hBw ?_
  intro v' w' ho' hg hn
  refine h v' w' ?_ (hb2.grown hg hBw (fun g hgg => (nown_lt ho g hgg).1)) (fun k hk hne => (hg.block k (by rw [alloc_size]; omega) (fun e => hne e.symm)).trans (Below.heap_alloc _ _ _ hk)) ?_ (by have := hg.size; rw [alloc_size] at this; omega)
  rotate_left
  · intro b hb'
    rcases hn with e | ⟨g, e, hle⟩
    · left; rw [← e]; exact hb'
    · right; rw [e] at hb'; cases hb'; rw [alloc_size] at hle; omega
  unfold NOwn
  rw [List.length_append]
  exact ho'

/-- Items in lists of a call's own can be read, in their blocks. -/
theorem repW_of_own {E : TypeId} {w : World} {lo0 B : Nat} : ∀ (n lo hi : Nat) (v : Value) (t : Itm), lo0 ≤ lo → hi ≤ B → Own E w n lo hi v t → RepW lo0 B w n v t := by
  intro n
  induction n with
  | zero => intro lo hi v t _ _ h; exact h
  | succ n ih =>
    intro lo hi v t hlo hB h
    obtain ⟨sl, hv, xs, ho, hg, L, H, hL, _⟩ := h
    rcases ho.2 with ⟨rfl, h0⟩ | ⟨g, cap, cur, rfl, _, _, hnc, hcm, _⟩
    · refine ⟨none, 0, by rw [hv, h0], by rw [h0]; exact Nat.zero_le _, fun i hi => ?_⟩
      omega
    · refine ⟨some ⟨g, 0, none⟩, cap, hv, Nat.le_trans hnc hcm, fun i hi => ?_⟩
      obtain ⟨q1, q2, q3, q4⟩ := hL i hi
      obtain ⟨e0, e1, e2⟩ := tri_cells ho i hi
      have hgl := hg g rfl
      exact ⟨g, 0, _, _, _, rfl, by omega, by omega, e0, e1, e2, ih (L i) (H i) _ _ (by omega) (by omega) q4⟩

/-- What stands in a row is what was read of texts; nothing of it lies in block g. -/
def NodesOf (L : Nat) (g : Option Nat) (C : Nat) (w : World) (vs : List Value) (p : List ByteArray) : Prop :=
  vs.length = p.length ∧ ∀ i (h : i < p.length), ∃ v t lo B m, vs[i]? = some v ∧ Tr.reads p[i].data.toList = some t ∧ B ≤ C ∧ ((∀ b, g = some b → b < lo ∨ B ≤ b) ∧ L ≤ lo) ∧ RN lo B w m v t

theorem nodes_nil (L : Nat) (g : Option Nat) (C : Nat) (w : World) : NodesOf L g C w [] [] := ⟨rfl, fun i h => by simp at h⟩

theorem nodes_turn {L : Nat} {g g' : Option Nat} {C C' : Nat} {w w' : World} {vs : List Value} {p : List ByteArray} (h : NodesOf L g C w vs p) (hc : C ≤ C') (hg : ∀ b, g' = some b → g = some b ∨ C ≤ b) (hb : ∀ k, k < C → g ≠ some k → w'.heap[k]? = w.heap[k]?) : NodesOf L g' C' w' vs p := by
  refine ⟨h.1, fun i hi => ?_⟩
  obtain ⟨v, t, lo, B, m, h1, h2, h3, ⟨h4, hL⟩, h5⟩ := h.2 i hi
  refine ⟨v, t, lo, B, m, h1, h2, Nat.le_trans h3 hc, ⟨fun b hb' => ?_, hL⟩, rn_turn (Nat.le_refl _) (Nat.le_refl _) (fun k k1 k2 => hb k (by omega) (fun e => ?_)) _ _ _ h5⟩
  · rcases hg b hb' with e | e
    · exact h4 b e
    · right; omega
  · have := h4 k e; omega

theorem nodes_later {L : Nat} {g : Option Nat} {C : Nat} {w w' : World} {vs : List Value} {p : List ByteArray} (h : NodesOf L g C w vs p) (hb : Below C w w') : NodesOf L g C w' vs p := nodes_turn h (Nat.le_refl _) (fun _ h => .inl h) (fun k hk _ => hb.block k hk)

theorem nodes_wider {L : Nat} {g : Option Nat} {C C' : Nat} {w : World} {vs : List Value} {p : List ByteArray} (h : NodesOf L g C w vs p) (hc : C ≤ C') : NodesOf L g C' w vs p := nodes_turn h hc (fun _ h => .inl h) (fun _ _ _ => rfl)

theorem nodes_snoc {L : Nat} {g : Option Nat} {C : Nat} {w : World} {vs : List Value} {p : List ByteArray} {v : Value} {s : ByteArray} {t : Itm} {lo B m : Nat} (h : NodesOf L g C w vs p) (hL : L ≤ lo) (ht : Tr.reads s.data.toList = some t) (hB : B ≤ C) (hg : ∀ b, g = some b → b < lo ∨ B ≤ b) (hr : RN lo B w m v t) : NodesOf L g C w (vs ++ [v]) (p ++ [s]) := by
  refine ⟨by simp [h.1], fun i hi => ?_⟩
  rw [List.length_append, List.length_singleton] at hi
  by_cases h2 : i < p.length
  · obtain ⟨v', t', lo', B', m', h1, h3, h4⟩ := h.2 i h2
    refine ⟨v', t', lo', B', m', ?_, ?_, h4⟩
    · rw [List.getElem?_append_left (by rw [h.1]; exact h2)]; exact h1
    · rw [List.getElem_append_left h2]; exact h3
  · obtain rfl : i = p.length := by omega
    refine ⟨v, t, lo, B, m, ?_, ?_, hB, ⟨hg, hL⟩, hr⟩
    · rw [← h.1]; simp
    · simp; exact ht
end Go.Proofs.YtbmohenjphmlgaaGreat
