/- Part 13 of a proof: what the last text needs. -/
import Derived.Test.YtbmohenjphmlgaaGreatPart12
/- The walk of readBranch (of the program). -/
namespace Go.Proofs.YtbmohenjphmlgaaGreat
open Go.RowKit
set_option maxRecDepth 100000

theorem branchCells_set (a : Option Addr) (cap : Nat) (cs : Array Value) (x : ByteArray) (i : Nat) (v : Value) (hi : i < cs.size) : (branchCells a cap cs x).setIfInBounds (4 + i) v = branchCells a cap (cs.setIfInBounds i v) x := by
  unfold branchCells
  rw [Array.setIfInBounds_append_left (by simp; omega), Array.setIfInBounds_append_right (by simp)]
  simp

theorem branchCells_setLast (a : Option Addr) (cap : Nat) (cs : Array Value) (x y : ByteArray) (h : cs.size = 32) : (branchCells a cap cs x).setIfInBounds 36 (.string y) = branchCells a cap cs y := by
  unfold branchCells
  rw [Array.setIfInBounds_append_right (by simp [h])]
  simp [h]

theorem wpList_build1 {P : Program} {ops : Array Oper} {rest : List Oper} {o : Oper} {a : Act} {w : World} {Q : Exit → Act → World → Prop} (hg : o.guard = none) (t : TypeId) (x0 : Operand) (ho : o.op = .build t #[(0, x0)]) (v0 : Value) (h0 : a.eval x0 = v0) (cs : Array Value)
    (hb : P.built t [(0, v0)] = some cs) (h : wpList P ops Q rest (a.put o.dst (.agg cs)) w) : wpList P ops Q (o :: rest) a w := by
  have e : P.built t ((#[(0, x0)] : Array (Nat × Operand)).map fun (i, x) => (i, a.eval x)).toList = some cs := by simpa [h0] using hb
  exact wpList_build hg t _ ho (by rw [e]; rfl) (by rw [e]; exact h)

theorem kid_is {t : Itm} {i : Nat} (h : i < t.items.length) : Tr.kid t i = t.items[i] := by
  unfold Tr.kid
  rw [List.getD_eq_getElem?_getD, List.getElem?_eq_getElem h]; rfl

/-- The cells of an item within an item. -/
theorem kid_rep {lo B : Nat} {w : World} {m n cap : Nat} {l : Bool} {s : ByteArray} {a : Option Addr} {t : Itm} (h : RepW lo B w (m + 1) (.agg #[.bool l, .string s, .slice a n cap]) t) (i : Nat) (hi : i < t.items.length) :
    ∃ b off l1 s1 x1 n1 c1, a = some ⟨b, off, none⟩ ∧ b < B ∧ w.cell? ⟨b, off + i * 3, none⟩ = some (.bool l1) ∧ w.cell? ⟨b, off + i * 3 + 1, none⟩ = some (.string s1) ∧ w.cell? ⟨b, off + i * 3 + 2, none⟩ = some (.slice x1 n1 c1) ∧ l1 = (Tr.kid t i).list ∧ s1 = ⟨(Tr.kid t i).bytes.toArray⟩ ∧ RepW lo B w m (.agg #[.bool l1, .string s1, .slice x1 n1 c1]) (Tr.kid t i) := by
  obtain ⟨a', cap', hv, _, hh⟩ := h
  simp only [Value.agg.injEq, Array.mk.injEq, List.cons.injEq, Value.slice.injEq, and_true] at hv
  obtain ⟨_, _, rfl, _, _⟩ := hv
  obtain ⟨b, off, c0, c1, c2, ha, _, hlt, e0, e1, e2, hr⟩ := hh i hi
  rw [← kid_is hi] at hr
  obtain ⟨x1, k1, rfl, rfl, rfl⟩ := repW_shape hr
  exact ⟨b, off, _, _, _, _, _, ha, hlt, e0, e1, e2, rfl, rfl, hr⟩

theorem kid_mem {t : Itm} {i : Nat} (h : i < t.items.length) : Tr.kid t i ∈ t.items := by rw [kid_is h]; exact List.getElem_mem h

theorem kid_small {t : Itm} (h : Small t) {i : Nat} (hi : i < t.items.length) : Small (Tr.kid t i) := by
  have hm := kid_mem hi
  have hp := h.pure
  rw [Itm.pure_eq, Bool.and_eq_true, List.all_eq_true] at hp
  have hl : t.list = true := by
    cases hl : t.list with
    | true => rfl
    | false =>
      have h1 := hp.1
      rw [hl] at h1
      simp only [Bool.false_eq_true, if_false, List.isEmpty_iff] at h1
      rw [h1] at hi
      simp at hi
  refine ⟨hp.2 _ hm, ?_, ?_⟩
  · have hd := h.deep
    rw [Itm.deep_eq, if_pos hl] at hd
    have := Itm.le_top (List.mem_map_of_mem (f := Itm.deep) hm)
    omega
  · have hd := h.len
    rw [Itm.enc_eq, if_pos hl] at hd
    have h1 := Itm.headed_len 192 (t.items.flatMap Itm.enc)
    have h2 := Itm.mem_enc_len hm
    omega

theorem sound_bytes {y : Itm} (hp : Itm.pure y = true) (hl : y.list = false) (he : Tr.isEmpty y = false) : Tr.sound y = false := by
  rw [Itm.pure_eq, hl] at hp
  simp only [Bool.false_eq_true, if_false, Bool.and_eq_true, List.isEmpty_iff] at hp
  rw [Tr.sound_eq]
  unfold Tr.soundOf
  rw [he, hp.1]
  simp [Tr.isBranch, hl]

theorem soundP_empty {y : Itm} (he : Tr.isEmpty y = true) : Tr.sound y = true := by
  rw [Tr.sound_eq]
  unfold Tr.soundOf
  rw [he]; rfl

theorem slot_ref {k : Nat} (hk : k < 16) {y : Itm} (hp : Itm.pure y = true) : Tr.slotOk k y (Tr.sound y) = (Tr.isSum y || (Tr.sound y && decide ((Itm.enc y).length < 8))) := by
  rw [Tr.slotOk_eq, if_neg (by omega)]
  cases he : Tr.isEmpty y with
  | true =>
    have h1 : (Itm.enc (Tr.itB [])).length = 1 := by rw [Tr.enc_itB]; rfl
    rw [soundP_empty he, empty_item hp he, h1]
    rfl
  | false =>
    cases hl : y.list with
    | false => rw [sound_bytes hp hl he]; simp
    | true => simp [Tr.isSum, hl]

theorem refN_leads {lo B : Nat} {w : World} {m : Nat} {s : ByteArray} {v : Value} {y : Itm} (hp : Itm.pure y = true) (h : RefN (RN lo B w m) s v y) (w' : World) : Calls Tryz.prog 161 #[.agg #[.string s, v]] w' fun e w2 => e = .returned (.bool (Tr.isEmpty y)) ∧ Below w'.heap.size w' w2 := by
  rcases h with ⟨h1, h2, rfl⟩ | ⟨h1, rfl, h3, h4⟩
  · have h8 : y.list = false ∧ y.bytes.length = 8 := by
      unfold Tr.isSum at h1
      simp only [Bool.and_eq_true, Bool.not_eq_true', decide_eq_true_eq] at h1
      exact h1
    have he : Tr.isEmpty y = false := by
      unfold Tr.isEmpty
      rw [h8.1]
      cases hb : y.bytes with
      | nil => rw [hb] at h8; simp at h8
      | cons c r => rfl
    rw [he]
    exact leads_sum s _ (.inl rfl) w' (by rw [← ba_len, h2, h8.2]; omega)
  · obtain ⟨k, _, _, _, _, _, hnd, _, hk, _⟩ := rn_nd hp h3
    have e : decide (k = 0) = Tr.isEmpty y := by
      rw [Bool.eq_iff_iff, decide_eq_true_eq]; exact hk
    rw [← e]
    exact leads_node w' hnd

/-- What holds behind one more reference. -/
theorem rb_step {lo B m k cap : Nat} {w wr w2 : World} {a : Option Addr} {cs : Array Value} {t : Itm} {s' : ByteArray} {v : Value} (hB : B ≤ w.heap.size) (hcs : cs.size = 32) (hk : k < 16) (hw : w.heap.size ≤ wr.heap.size)
    (hK : w2.heap[w.heap.size + 1]? = some (.cells (branchCells a cap cs ⟨#[]⟩) 142 (0, 0))) (hX : w2.heap[w.heap.size]? = some (.cells #[.bool true, .string ⟨#[]⟩, .slice a 17 cap] 119 (0, 0))) (hb : Below w.heap.size w w2) (hb2 : Below wr.heap.size wr w2)
    (hold : ∀ d, d < k → Tr.slotOk d (Tr.kid t d) (Tr.sound (Tr.kid t d)) = true ∧ ∃ s vd, cs[2 * d]? = some (.string s) ∧ cs[2 * d + 1]? = some vd ∧ RefN (RN lo B wr m) s vd (Tr.kid t d))
    (hok : Tr.slotOk k (Tr.kid t k) (Tr.sound (Tr.kid t k)) = true) (hnew : RefN (RN lo B w2 m) s' v (Tr.kid t k)) :
    ((cs.setIfInBounds (2 * k) (.string s')).setIfInBounds (2 * k + 1) v).size = 32 ∧
    ((w2.setCell ⟨w.heap.size + 1, 4 + k * 2, none⟩ (.string s')).setCell ⟨w.heap.size + 1, 4 + k * 2 + 1, none⟩ v).heap[w.heap.size + 1]? = some (.cells (branchCells a cap ((cs.setIfInBounds (2 * k) (.string s')).setIfInBounds (2 * k + 1) v) ⟨#[]⟩) 142 (0, 0)) ∧
    ((w2.setCell ⟨w.heap.size + 1, 4 + k * 2, none⟩ (.string s')).setCell ⟨w.heap.size + 1, 4 + k * 2 + 1, none⟩ v).heap[w.heap.size]? = some (.cells #[.bool true, .string ⟨#[]⟩, .slice a 17 cap] 119 (0, 0)) ∧
    Below w.heap.size w ((w2.setCell ⟨w.heap.size + 1, 4 + k * 2, none⟩ (.string s')).setCell ⟨w.heap.size + 1, 4 + k * 2 + 1, none⟩ v) ∧
    ∀ d, d < k + 1 → Tr.slotOk d (Tr.kid t d) (Tr.sound (Tr.kid t d)) = true ∧ ∃ s vd, ((cs.setIfInBounds (2 * k) (.string s')).setIfInBounds (2 * k + 1) v)[2 * d]? = some (.string s) ∧ ((cs.setIfInBounds (2 * k) (.string s')).setIfInBounds (2 * k + 1) v)[2 * d + 1]? = some vd ∧ RefN (RN lo B ((w2.setCell ⟨w.heap.size + 1, 4 + k * 2, none⟩ (.string s')).setCell ⟨w.heap.size + 1, 4 + k * 2 + 1, none⟩ v) m) s vd (Tr.kid t d) := by
  have hbl : Below w.heap.size w2 ((w2.setCell ⟨w.heap.size + 1, 4 + k * 2, none⟩ (.string s')).setCell ⟨w.heap.size + 1, 4 + k * 2 + 1, none⟩ v) := ((Below.refl _ _).setCell (p := ⟨w.heap.size + 1, 4 + k * 2, none⟩) (Nat.le_succ _) _).setCell (p := ⟨w.heap.size + 1, 4 + k * 2 + 1, none⟩) (Nat.le_succ _) _
  refine ⟨by simp [hcs], ?_, ?_, hb.trans hbl, fun d hd => ?_⟩
  · have h1 := heap_setCell_same w2 (w.heap.size + 1) (4 + k * 2) _ 142 (.string s') hK
    have h2 := heap_setCell_same _ (w.heap.size + 1) (4 + k * 2 + 1) _ 142 v h1
    rw [h2, show 4 + k * 2 + 1 = 4 + (2 * k + 1) by omega, show 4 + k * 2 = 4 + 2 * k by omega, branchCells_set _ _ _ _ _ _ (by omega), branchCells_set _ _ _ _ _ _ (by simp; omega)]
  · rw [Below.heap_setCell _ _ _ _ (by simp), Below.heap_setCell _ _ _ _ (by simp)]; exact hX
  · by_cases hdk : d = k
    · subst hdk
      refine ⟨hok, s', v, ?_, ?_, refN_mono hnew (rn_later (hbl.mono hB) _ _ _)⟩
      · rw [Array.getElem?_setIfInBounds_ne (by omega), Array.getElem?_setIfInBounds_self_of_lt (by omega)]
      · rw [Array.getElem?_setIfInBounds_self_of_lt (by simp; omega)]
    · obtain ⟨h1, s, vd, g1, g2, g3⟩ := hold d (by omega)
      refine ⟨h1, s, vd, ?_, ?_, refN_mono g3 (fun h => rn_later (hbl.mono hB) _ _ _ (rn_later (hb2.mono (Nat.le_trans hB hw)) _ _ _ h))⟩
      · rw [Array.getElem?_setIfInBounds_ne (by omega), Array.getElem?_setIfInBounds_ne (by omega)]; exact g1
      · rw [Array.getElem?_setIfInBounds_ne (by omega), Array.getElem?_setIfInBounds_ne (by omega)]; exact g2

theorem slot_val (y : Itm) (b : Bool) : Tr.slotOk 16 y b = (!y.list && decide (y.bytes.length ≤ 40)) := by
  rw [Tr.slotOk_eq, if_pos rfl]
  unfold Tr.isEmpty Tr.isValue
  cases y.list with
  | true => rfl
  | false =>
    cases hb : y.bytes with
    | nil => rfl
    | cons c r => simp

def zeroRefs : Array Value := #[.string ⟨#[]⟩, .nilIface, .string ⟨#[]⟩, .nilIface, .string ⟨#[]⟩, .nilIface, .string ⟨#[]⟩, .nilIface, .string ⟨#[]⟩, .nilIface, .string ⟨#[]⟩, .nilIface, .string ⟨#[]⟩, .nilIface, .string ⟨#[]⟩, .nilIface, .string ⟨#[]⟩, .nilIface, .string ⟨#[]⟩, .nilIface, .string ⟨#[]⟩, .nilIface, .string ⟨#[]⟩, .nilIface, .string ⟨#[]⟩, .nilIface, .string ⟨#[]⟩, .nilIface, .string ⟨#[]⟩, .nilIface, .string ⟨#[]⟩, .nilIface]

set_option maxHeartbeats 3200000 in
theorem readBranch_any {m : Nat} (hm : ReadOk m) (lo B : Nat) (w : World) (a : Option Addr) (cap : Nat) (t : Itm) (hB : B ≤ w.heap.size) (hs : Small t) (hbr : Tr.isBranch t = true) (hr : RepW lo B w (m + 1) (.agg #[.bool true, .string ⟨#[]⟩, .slice a 17 cap]) t) :
    Calls Tryz.prog 149 #[.agg #[.bool true, .string ⟨#[]⟩, .slice a 17 cap]] w fun e w' => ∃ v', e = .returned (.tuple #[v', .bool (Tr.sound t)]) ∧ IsNode v' ∧ (Tr.sound t = true → RN lo B w' (m + 1) v' t) ∧ Below w.heap.size w w' := by
  have HR := hid hr
  have HS := hid hs
  have HLEN := hid (Tr.branch_len hbr)
  have HBR := hid hbr
  clear hr hs hbr
  go_enter Tryz.func149, Tryz.ntmps149
  go_upto_region 1 with fail
  refine wp_region_list ?_
  refine wpList_load_row rfl 119 (.tmp 1) rfl w.heap.size rfl 119 #[.bool true, .string ⟨#[]⟩, .slice a 17 cap] (0, 0) _ (heap_alloc_new w _) Tryz.underlying119 rfl (by kernel_rfl) ?_
  refine wpList_build2 rfl 137 _ _ rfl (.int .i64 3) (.agg #[.bool true, .string ⟨#[]⟩, .slice a 17 cap]) rfl rfl #[.int .i64 3, .bool true, .string ⟨#[]⟩, .slice a 17 cap] (by kernel_rfl) ?_
  refine wpList_build1 rfl 142 _ rfl (.agg #[.int .i64 3, .bool true, .string ⟨#[]⟩, .slice a 17 cap]) rfl (branchCells a cap zeroRefs ⟨#[]⟩) (by kernel_rfl) ?_
  have HSZ := hid (branchCells_size a cap zeroRefs ⟨#[]⟩ rfl)
  have HALL : Hid ((branchCells a cap zeroRefs ⟨#[]⟩).all (·.oneCell') = true) := by
    rw [Hid]; kernel_rfl
  generalize hBB : branchCells a cap zeroRefs ⟨#[]⟩ = BB at *
  have HBB := hid hBB
  clear hBB
  refine wpList_plain rfl fun K hK => ?_
  go_simp
  refine hK _ _ ?_
  clear hK K
  refine wpList_store_row rfl 142 (.tmp 4) (.tmp 13) rfl (w.heap.size + 1) BB rfl rfl 142 branchZero (block_alloc2 w _ _) (by rw [HSZ.out]; kernel_rfl) (by rw [HSZ.out]; rfl) HALL.out ?_
  have HG : Hid ((((w.alloc (.cells #[.bool true, .string ⟨#[]⟩, .slice a 17 cap] 119)).alloc (.cells branchZero 142)).setRow (w.heap.size + 1) BB).heap[w.heap.size + 1]? = some (.cells BB 142 (0, 0))) := setRow_heap _ _ _ _ _ _ (block_alloc2 w _ _)
  have HX : Hid ((((w.alloc (.cells #[.bool true, .string ⟨#[]⟩, .slice a 17 cap] 119)).alloc (.cells branchZero 142)).setRow (w.heap.size + 1) BB).heap[w.heap.size]? = some (.cells #[.bool true, .string ⟨#[]⟩, .slice a 17 cap] 119 (0, 0))) := (setRow_other _ _ _ _ (by omega)).trans (block_alloc (heap_alloc_new w _))
  have HW : Hid (Below w.heap.size w (((w.alloc (.cells #[.bool true, .string ⟨#[]⟩, .slice a 17 cap] 119)).alloc (.cells branchZero 142)).setRow (w.heap.size + 1) BB)) := setRow_below (belowAA w _ _) (Nat.le_succ _)
  change wpList _ _ _ _ _ (((w.alloc (.cells #[.bool true, .string ⟨#[]⟩, .slice a 17 cap] 119)).alloc (.cells branchZero 142)).setRow (w.heap.size + 1) BB)
  generalize hWW : ((w.alloc (.cells #[.bool true, .string ⟨#[]⟩, .slice a 17 cap] 119)).alloc (.cells branchZero 142)).setRow (w.heap.size + 1) BB = W at *
  clear hWW
  rw [← HBB.out] at HG
  clear HALL HSZ
  try simp only [Act.put]
  go_wp2_with fail
  go_loopw [5, 14] (fun u i wr => ∃ (k : Nat) (cs : Array Value), i = .int .i64 k ∧ u = .int .i64 (Tr.full t k : Nat) ∧ k ≤ 16 ∧ Hid (cs.size = 32 ∧ wr.heap[w.heap.size + 1]? = some (.cells (branchCells a cap cs ⟨#[]⟩) 142 (0, 0)) ∧ wr.heap[w.heap.size]? = some (.cells #[.bool true, .string ⟨#[]⟩, .slice a 17 cap] 119 (0, 0)) ∧ Below w.heap.size w wr ∧
    ∀ d, d < k → Tr.slotOk d (Tr.kid t d) (Tr.sound (Tr.kid t d)) = true ∧ ∃ s vd, cs[2 * d]? = some (.string s) ∧ cs[2 * d + 1]? = some vd ∧ RefN (RN lo B wr m) s vd (Tr.kid t d))) (fun _ i _ => 16 - (intOf i).toNat)
  case atStart => exact ⟨0, zeroRefs, rfl, by rw [Tr.full_zero]; rfl, Nat.zero_le _, rfl, HG.out, HX.out, HW.out, fun d hd => absurd hd (Nat.not_lt_zero _)⟩
  case round =>
    obtain ⟨k, cs, rfl, rfl, hk, HH⟩ := hrel
    have q2 := (cell_of_row _ _ 2 _ _ _ HH.out.2.2.1).trans rfl
    by_cases hlt : k < 16
    · obtain ⟨b, off, l1, s1, x1, n1, c1, rfl, hb, e0, e1, e2, hl1, hs1, hrk⟩ := kid_rep HR.out k (by rw [HLEN.out]; omega)
      have hbB : b < w.heap.size := Nat.lt_of_lt_of_le hb hB
      have f0 := (HH.out.2.2.2.1.cell (p := ⟨b, off + k * 3, none⟩) hbB).trans e0
      have f1 := (HH.out.2.2.2.1.cell (p := ⟨b, off + k * 3 + 1, none⟩) hbB).trans e1
      have f2 := (HH.out.2.2.2.1.cell (p := ⟨b, off + k * 3 + 2, none⟩) hbB).trans e2
      have i1 : (0 : Int) ≤ (k : Int) := by omega
      have i2 : (k : Int) < 16 := by omega
      have i3 : (k : Int) < 17 := by omega
      have HRR := hid (readReference_any hm lo B wr l1 s1 x1 n1 c1 (Tr.kid t k) (Nat.le_trans hB HH.out.2.2.2.1.size) (kid_small HS.out (by rw [HLEN.out]; omega)) (repW_frame (HH.out.2.2.2.1.mono hB) _ _ _ hrk))
      rw [← slot_ref hlt (kid_small HS.out (by rw [HLEN.out]; omega)).pure] at HRR
      clear e0 e1 e2 hrk hl1 hs1
      go_wp2_with fail
      refine HRR.out.mono ?_
      rintro e w1 ⟨s', n', rfl, hn', hrf, b1⟩
      have HRF := hid hrf
      have HB1 : Hid (Below w.heap.size w w1) := HH.out.2.2.2.1.trans (b1.mono HH.out.2.2.2.1.size)
      have HK1 : Hid (w1.heap[w.heap.size + 1]? = some (.cells (branchCells (some ⟨b, off, none⟩) cap cs ⟨#[]⟩) 142 (0, 0))) := kept_block b1 HH.out.2.1
      have HX1 : Hid (w1.heap[w.heap.size]? = some (.cells #[.bool true, .string ⟨#[]⟩, .slice (some ⟨b, off, none⟩) 17 cap] 119 (0, 0))) := kept_block b1 HH.out.2.2.1
      have HBB1 := hid b1
      clear hrf b1 f0 f1 f2 q2 HRR
      obtain ⟨ok, hok⟩ : ∃ ok, ok = Tr.slotOk k (Tr.kid t k) (Tr.sound (Tr.kid t k)) := ⟨_, rfl⟩
      have HOK := hid hok
      rw [← hok] at HRF ⊢
      clear hok
      cases ok with
      | false =>
        rcases hn' with rfl | ⟨T, y, rfl⟩
        all_goals
          go_wp2_with fail
          refine bodyPost_ret (v := .tuple #[.nilIface, .bool false]) (by simp [results, Tryz.results149, go_sem]) rfl ⟨.nilIface, ?_, .inl rfl, ?_, ?_⟩
          · rw [Tr.sound_bad (Tr.branch_full HBR.out) HBR.out k (by omega) HOK.out.symm]
          · intro h; rw [Tr.sound_bad (Tr.branch_full HBR.out) HBR.out k (by omega) HOK.out.symm] at h; cases h
          · exact HB1.out.alloc HB1.out.size _
      | true =>
        have HLD := hid (refN_leads (kid_small HS.out (by rw [HLEN.out]; omega)).pure (HRF.out rfl))
        have HFU := hid (Tr.full_succ t k)
        have hcs := HH.out.1
        obtain ⟨o0, ho0⟩ : ∃ o, cs[2 * k]? = some o := ⟨cs[2 * k]'(by omega), Array.getElem?_eq_getElem (by omega)⟩
        obtain ⟨o1, ho1⟩ : ∃ o, cs[2 * k + 1]? = some o := ⟨cs[2 * k + 1]'(by omega), Array.getElem?_eq_getElem (by omega)⟩
        have HO0 : Hid ((branchCells (some ⟨b, off, none⟩) cap cs ⟨#[]⟩)[4 + k * 2]? = some o0) := by rw [Hid, Nat.mul_comm]; exact (branchCells_to _ _ _ _ _ (by omega)).trans ho0
        have HO1 : Hid ((branchCells (some ⟨b, off, none⟩) cap cs ⟨#[]⟩)[4 + k * 2 + 1]? = some o1) := by rw [Hid, Nat.mul_comm, Nat.add_assoc]; exact (branchCells_to _ _ _ _ _ (by omega)).trans ho1
        clear hcs ho0 ho1
        rcases hn' with rfl | ⟨T, y, rfl⟩
        all_goals
          go_wp2_with fail
          refine (HLD.out _).mono ?_
          rintro e w2 ⟨rfl, b2⟩
          have HB2 : Hid (Below w.heap.size w w2) := (HB1.out.alloc HB1.out.size _).trans (b2.mono (by rw [alloc_size]; exact Nat.le_succ_of_le HB1.out.size))
          have HK2 : Hid (w2.heap[w.heap.size + 1]? = some (.cells (branchCells (some ⟨b, off, none⟩) cap cs ⟨#[]⟩) 142 (0, 0))) := kept_block b2 (block_alloc HK1.out)
          have HX2 : Hid (w2.heap[w.heap.size]? = some (.cells #[.bool true, .string ⟨#[]⟩, .slice (some ⟨b, off, none⟩) 17 cap] 119 (0, 0))) := kept_block b2 (block_alloc HX1.out)
          have hr2 := old_block b2
          have y0 := (cell_of_row _ _ 0 _ _ _ hr2).trans rfl
          have y1 := (cell_of_row _ _ 1 _ _ _ hr2).trans rfl
          have z0 := (cell_of_row _ _ (4 + k * 2) _ _ _ HK2.out).trans HO0.out
          have z1 := (cell_of_row _ _ (4 + k * 2 + 1) _ _ _ HK2.out).trans HO1.out
          have v0 := frozen_of_row _ _ (4 + k * 2) _ _ HK2.out
          have v1 := frozen_of_row _ _ (4 + k * 2 + 1) _ _ HK2.out
          have HBB2 := hid b2
          clear hr2 b2
          cases hie : Tr.isEmpty (Tr.kid t k) with
          | true =>
            rw [hie] at HFU
            go_wp2_with fail
            exact ⟨⟨k + 1, _, by go_num, by rw [HFU.out]; rfl, by omega, rb_step hB HH.out.1 hlt HH.out.2.2.2.1.size HK2.out HX2.out HB2.out (HBB1.out.trans (((Below.refl _ _).alloc (Nat.le_refl _) _).mono HBB1.out.size |>.trans (HBB2.out.mono (by rw [alloc_size]; exact Nat.le_succ_of_le HBB1.out.size)))) HH.out.2.2.2.2 HOK.out.symm (refN_mono (HRF.out (by trivial)) (rn_later (((Below.refl _ _).alloc (Nat.le_trans hB HB1.out.size) _).trans (HBB2.out.mono (by rw [alloc_size]; have := HB1.out.size; omega))) _ _ _))⟩, by simp [intOf]; omega⟩
          | false =>
            rw [hie] at HFU
            have j1 : (0 : Int) ≤ ((Tr.full t k : Nat) : Int) := Int.natCast_nonneg _
            have j2 : ((Tr.full t k : Nat) : Int) ≤ 16 := by have := Tr.full_le t k; omega
            go_wp2_with fail
            exact ⟨⟨k + 1, _, by go_num, by rw [HFU.out]; rfl, by omega, rb_step hB HH.out.1 hlt HH.out.2.2.2.1.size HK2.out HX2.out HB2.out (HBB1.out.trans (((Below.refl _ _).alloc (Nat.le_refl _) _).mono HBB1.out.size |>.trans (HBB2.out.mono (by rw [alloc_size]; exact Nat.le_succ_of_le HBB1.out.size)))) HH.out.2.2.2.2 HOK.out.symm (refN_mono (HRF.out (by trivial)) (rn_later (((Below.refl _ _).alloc (Nat.le_trans hB HB1.out.size) _).trans (HBB2.out.mono (by rw [alloc_size]; have := HB1.out.size; omega))) _ _ _))⟩, by simp [intOf]; omega⟩
    · obtain rfl : k = 16 := by omega
      obtain ⟨b, off, l1, s1, x1, n1, c1, rfl, hb, e0, e1, e2, hl1, hs1, _⟩ := kid_rep HR.out 16 (by rw [HLEN.out]; omega)
      have hbB : b < w.heap.size := Nat.lt_of_lt_of_le hb hB
      have f0 := (HH.out.2.2.2.1.cell (p := ⟨b, off + 48, none⟩) hbB).trans e0
      have f1 := (HH.out.2.2.2.1.cell (p := ⟨b, off + 49, none⟩) hbB).trans e1
      have f2 := (HH.out.2.2.2.1.cell (p := ⟨b, off + 50, none⟩) hbB).trans e2
      have HRV := hid (fun w => readValue_any l1 s1 x1 n1 c1 w)
      have HSV : Hid ((!l1 && decide (s1.size ≤ 40)) = Tr.slotOk 16 (Tr.kid t 16) (Tr.sound (Tr.kid t 16))) := by
        rw [Hid, slot_val, hl1, hs1]
        show (!(Tr.kid t 16).list && decide ((Tr.kid t 16).bytes.toArray.size ≤ 40)) = _
        rw [List.size_toArray]
      have HEV : Hid (l1 = false → Tr.isEmpty (Tr.kid t 16) = s1.toList.isEmpty) := by
        intro h
        unfold Tr.isEmpty
        rw [← hl1, h, hs1, ByteArray.toList_eq]
        rfl
      have HBY : Hid (s1.data.toList = (Tr.kid t 16).bytes) := by rw [Hid, hs1]
      have HF17 := hid (Tr.full_succ t 16)
      have j1 : (0 : Int) ≤ ((Tr.full t 16 : Nat) : Int) := Int.natCast_nonneg _
      have j2 : ((Tr.full t 16 : Nat) : Int) ≤ 16 := by have := Tr.full_le t 16; omega
      clear e0 e1 e2 hl1 hs1
      go_wp2_with fail
      refine (HRV.out _).mono ?_
      rintro e w1 ⟨rfl, b1⟩
      have HB1 : Hid (Below w.heap.size w w1) := HH.out.2.2.2.1.trans (b1.mono HH.out.2.2.2.1.size)
      have HK1 : Hid (w1.heap[w.heap.size + 1]? = some (.cells (branchCells (some ⟨b, off, none⟩) cap cs ⟨#[]⟩) 142 (0, 0))) := kept_block b1 HH.out.2.1
      have HBB1 := hid b1
      have z0 := (cell_of_row _ _ 36 _ _ _ HK1.out).trans (branchCells_last _ _ _ _ HH.out.1)
      have v0 := frozen_of_row _ _ 36 _ _ HK1.out
      clear b1 f0 f1 f2 q2 HRV
      have HK3 : Hid ((w1.setCell ⟨w.heap.size + 1, 36, none⟩ (.string s1)).heap[w.heap.size + 1]? = some (.cells (branchCells (some ⟨b, off, none⟩) cap cs s1) 142 (0, 0))) := by
        rw [Hid, heap_setCell_same w1 _ 36 _ 142 (.string s1) HK1.out, branchCells_setLast _ _ _ _ _ HH.out.1]
      have HB3 : Hid (Below w.heap.size w (w1.setCell ⟨w.heap.size + 1, 36, none⟩ (.string s1))) := HB1.out.setCell (p := ⟨w.heap.size + 1, 36, none⟩) (Nat.le_succ _) _
      have HBw3 : Hid (Below w.heap.size wr (w1.setCell ⟨w.heap.size + 1, 36, none⟩ (.string s1))) := (HBB1.out.mono HH.out.2.2.2.1.size).setCell (p := ⟨w.heap.size + 1, 36, none⟩) (Nat.le_succ _) _
      have HSZ := hid (branchCells_size (some ⟨b, off, none⟩) cap cs s1 HH.out.1)
      obtain ⟨ok, hok⟩ : ∃ ok, ok = (!l1 && decide (s1.size ≤ 40)) := ⟨_, rfl⟩
      have HOK := hid hok
      rw [← hok] at HSV ⊢
      clear hok
      obtain ⟨em, hem⟩ : ∃ em, s1.toList.isEmpty = em := ⟨_, rfl⟩
      have HEM := hid hem
      cases ok with
      | false =>
        have HSB : Hid (Tr.sound t = false) := Tr.sound_bad (Tr.branch_full HBR.out) HBR.out 16 (by omega) HSV.out.symm
        cases em
        all_goals
          go_upto_region 17 with fail
          refine wp_region_list ?_
          refine wpList_load_row rfl 142 (.tmp 4) rfl (w.heap.size + 1) rfl 142 (branchCells (some ⟨b, off, none⟩) cap cs s1) (0, 0) _ HK3.out Tryz.underlying142 rfl (by rw [HSZ.out]; kernel_rfl) ?_
          obtain ⟨BB, hBB⟩ : ∃ BB, BB = branchCells (some ⟨b, off, none⟩) cap cs s1 := ⟨_, rfl⟩
          have HBB := hid hBB
          rw [← hBB]
          clear hBB HK3 HK1 HSZ z0 v0
          try simp only [Act.put]
          go_wp2_with fail
          exact bodyPost_ret (v := .tuple #[.iface 142 (.agg BB), .bool false]) (by simp [results, Tryz.results149, go_sem]) rfl ⟨_, by rw [HSB.out], .inr ⟨_, _, rfl⟩, (fun h => by rw [HSB.out] at h; cases h), HB3.out⟩
      | true =>
        have HL1 : Hid (l1 = false) := by
          have h := HOK.out
          cases l1 with
          | false => rfl
          | true => cases h
        have HSG : Hid (Tr.sound t = decide (2 ≤ Tr.full t 17)) := Tr.sound_good (Tr.branch_full HBR.out) HBR.out (fun i hi => by
          by_cases h16 : i = 16
          · subst h16; exact HSV.out.symm
          · exact (HH.out.2.2.2.2 i (by omega)).1)
        have HRN : Hid (RN lo B (w1.setCell ⟨w.heap.size + 1, 36, none⟩ (.string s1)) (m + 1) (branchV (some ⟨b, off, none⟩) cap cs s1) t) := .inr (.inr (.inr ⟨_, cap, cs, s1, HBR.out, repW_frame (HB3.out.mono hB) _ _ _ HR.out, HH.out.1, HBY.out, rfl, fun d hd => by
          obtain ⟨_, s, vd, g1, g2, g3⟩ := HH.out.2.2.2.2 d hd
          exact ⟨s, vd, g1, g2, refN_mono g3 (rn_later (HBw3.out.mono hB) _ _ _)⟩⟩))
        have HD1 : Hid (em = false → Tr.sound t = decide ((2 : Int) ≤ ((Tr.full t 16 : Nat) : Int) + 1)) := by
          intro h
          rw [HSG.out, HF17.out, HEV.out HL1.out, hem, h, Bool.eq_iff_iff, decide_eq_true_eq, decide_eq_true_eq]
          simp only [Bool.false_eq_true, if_false]
          omega
        have HD2 : Hid (em = true → Tr.sound t = decide ((2 : Int) ≤ ((Tr.full t 16 : Nat) : Int))) := by
          intro h
          rw [HSG.out, HF17.out, HEV.out HL1.out, hem, h, Bool.eq_iff_iff, decide_eq_true_eq, decide_eq_true_eq]
          simp only [if_true]
          omega
        cases em
        all_goals
          go_upto_region 17 with fail
          refine wp_region_list ?_
          refine wpList_load_row rfl 142 (.tmp 4) rfl (w.heap.size + 1) rfl 142 (branchCells (some ⟨b, off, none⟩) cap cs s1) (0, 0) _ HK3.out Tryz.underlying142 rfl (by rw [HSZ.out]; kernel_rfl) ?_
          obtain ⟨BB, hBB⟩ : ∃ BB, BB = branchCells (some ⟨b, off, none⟩) cap cs s1 := ⟨_, rfl⟩
          have HBB := hid hBB
          rw [← hBB]
          clear hBB HK3 HK1 HSZ z0 v0
          try simp only [Act.put]
          go_wp2_with fail
        · exact bodyPost_ret (v := .tuple #[.iface 142 (.agg BB), .bool (decide ((2 : Int) ≤ ((Tr.full t 16 : Nat) : Int) + 1))]) (by simp [results, Tryz.results149, go_sem]) rfl ⟨_, by rw [HD1.out (by trivial)], .inr ⟨_, _, rfl⟩, (fun _ => by rw [HBB.out]; exact HRN.out), HB3.out⟩
        · exact bodyPost_ret (v := .tuple #[.iface 142 (.agg BB), .bool (decide ((2 : Int) ≤ ((Tr.full t 16 : Nat) : Int)))]) (by simp [results, Tryz.results149, go_sem]) rfl ⟨_, by rw [HD2.out (by trivial)], .inr ⟨_, _, rfl⟩, (fun _ => by rw [HBB.out]; exact HRN.out), HB3.out⟩
end Go.Proofs.YtbmohenjphmlgaaGreat

/- The walk of readNode (of the program). -/
namespace Go.Proofs.YtbmohenjphmlgaaGreat
open Go.RowKit
set_option maxRecDepth 100000

set_option maxHeartbeats 3200000 in
theorem readNode_bytes (lo B : Nat) (w : World) (m : Nat) (s : ByteArray) (a : Option Addr) (n cap : Nat) (t : Itm) (hs : Small t) (hl : t.list = false) (hb : s = ⟨t.bytes.toArray⟩) :
    Calls Tryz.prog 143 #[.agg #[.bool false, .string s, .slice a n cap]] w fun e w' => ∃ v', e = .returned (.tuple #[v', .bool (Tr.sound t)]) ∧ IsNode v' ∧ (Tr.sound t = true → RN lo B w' (m + 1) v' t) ∧ Below w.heap.size w w' := by
  have HN := hid (fun w => newEmpty_any w)
  have HSE : Hid (s.toList.isEmpty = Tr.sound t ∧ (Tr.sound t = true → Tr.isEmpty t = true)) := by
    have e : s.toList.isEmpty = Tr.isEmpty t := by
      unfold Tr.isEmpty
      rw [hl, hb, ByteArray.toList_eq]
      rfl
    rw [Hid, e]
    cases he : Tr.isEmpty t with
    | true => exact ⟨(soundP_empty he).symm, fun _ => rfl⟩
    | false =>
      have := sound_bytes hs.pure hl he
      rw [this]
      exact ⟨rfl, fun h => by cases h⟩
  obtain ⟨em, hem⟩ : ∃ em, s.toList.isEmpty = em := ⟨_, rfl⟩
  rw [hem] at HSE
  clear hb
  go_enter Tryz.func143, Tryz.ntmps143
  go_wp2_with fail
  have HWB : Hid (Below w.heap.size w (w.alloc (.cells #[.bool false, .string s, .slice a n cap] 119)).drew) := ((Below.refl _ _).alloc (Nat.le_refl _) _).drew
  have hS : (fun w' : World => w'.heap[w.heap.size]? = some (.cells #[.bool false, .string s, .slice a n cap] 119 (0, 0))) (w.alloc (.cells #[.bool false, .string s, .slice a n cap] 119)).drew := heap_alloc_new w _
  refine wp_region_L (fun w' => w'.heap[w.heap.size]? = some (.cells #[.bool false, .string s, .slice a n cap] 119 (0, 0))) 5 (by kernel_rfl) ?_
  refine wpAnyL_take (i := 1) (v := .pointer (some ⟨w.heap.size, 1, none⟩)) rfl (by kernel_rfl) (by kernel_rfl) (by kernel_rfl) (by kernel_rfl) (by kernel_rfl) (fun _ _ _ h => h) hS (Or.inl ⟨by kernel_rfl, ?_⟩) ?_
  · (intro w' hSw; go_simp)
  try simp only [Act.put]
  refine wpAnyL_take (i := 2) (v := .string s) rfl (by kernel_rfl) (by kernel_rfl) (by kernel_rfl) (by kernel_rfl) (by kernel_rfl) (fun _ _ _ h => h) hS (Or.inl ⟨by kernel_rfl, ?_⟩) ?_
  · intro w' hSw
    have z0 := (cell_of_row w' _ 1 _ _ _ hSw).trans rfl
    go_simp
  try simp only [Act.put]
  refine wpAnyL_take (i := 3) (v := .bool em) rfl (by kernel_rfl) (by kernel_rfl) (by kernel_rfl) (by kernel_rfl) (by kernel_rfl) (fun _ _ _ h => h) hS (Or.inl ⟨by kernel_rfl, ?_⟩) ?_
  · (intro w' hSw; go_simp)
  try simp only [Act.put]
  refine wpAnyL_ready (rs := [0]) (by kernel_rfl) (by simp) ?_
  refine AllReadyL.cons rfl (fun K hK => ?_) AllReadyL.nil
  go_simp
  refine (HN.out _).mono ?_
  rintro e w1 ⟨rfl, b1⟩
  have HB1 : Hid (Below w.heap.size w w1) := HWB.out.trans (b1.mono HWB.out.size)
  have hS1 : (fun w' : World => w'.heap[w.heap.size]? = some (.cells #[.bool false, .string s, .slice a n cap] 119 (0, 0))) w1 := kept_block b1 hS
  clear b1
  refine hK.out _ _ hS1 ?_
  clear hK K
  try simp only [Act.put]
  refine wpAnyL_ready (rs := [4]) (by kernel_rfl) (by simp) ?_
  refine AllReadyL.cons rfl (fun K hK => ?_) AllReadyL.nil
  go_simp
  refine hK.out _ _ hS1 ?_
  clear hK K
  try simp only [Act.put]
  refine wpAnyL_ready (rs := [5]) (by kernel_rfl) (by simp) ?_
  refine AllReadyL.last rfl (fun K hK => ?_)
  go_simp
  refine hK.out _ _ ?_
  clear hK K
  try simp only [Act.put]
  refine wpAny_done (by kernel_rfl) ?_ _
  go_wp2_with fail
  exact bodyPost_ret (v := .tuple #[emptyV, .bool em]) (by simp [results, Tryz.results143, go_sem, emptyV]) rfl ⟨emptyV, by rw [HSE.out.1], .inr ⟨_, _, rfl⟩, fun h => .inl ⟨HSE.out.2 h, rfl⟩, HB1.out⟩

set_option maxHeartbeats 3200000 in
theorem readNode_branch {m : Nat} (hm : ReadOk m) (lo B : Nat) (w : World) (a : Option Addr) (cap : Nat) (t : Itm) (hB : B ≤ w.heap.size) (hs : Small t) (hbr : Tr.isBranch t = true) (hr : RepW lo B w (m + 1) (.agg #[.bool true, .string ⟨#[]⟩, .slice a 17 cap]) t) :
    Calls Tryz.prog 143 #[.agg #[.bool true, .string ⟨#[]⟩, .slice a 17 cap]] w fun e w' => ∃ v', e = .returned (.tuple #[v', .bool (Tr.sound t)]) ∧ IsNode v' ∧ (Tr.sound t = true → RN lo B w' (m + 1) v' t) ∧ Below w.heap.size w w' := by
  have HRB := hid (fun w' (b : Below w.heap.size w w') => readBranch_any hm lo B w' a cap t (Nat.le_trans hB b.size) hs hbr (repW_frame (b.mono hB) _ _ _ hr))
  clear hr hbr hs
  go_enter Tryz.func143, Tryz.ntmps143
  go_wp2_with fail
  have HB0 : Hid (Below w.heap.size w (w.alloc (.cells #[.bool true, .string ⟨#[]⟩, .slice a 17 cap] 119))) := (Below.refl _ _).alloc (Nat.le_refl _) _
  refine (HRB.out _ HB0.out).mono ?_
  rintro e w1 ⟨v1, rfl, n1, r1, b1⟩
  have HN1 := hid n1
  have HR1 := hid r1
  have HB1 : Hid (Below w.heap.size w w1) := HB0.out.trans (b1.mono HB0.out.size)
  clear n1 r1 b1
  go_wp2_with fail
  exact bodyPost_ret (v := .tuple #[v1, .bool (Tr.sound t)]) (by simp [results, Tryz.results143, go_sem]) rfl ⟨v1, rfl, HN1.out, HR1.out, HB1.out⟩

theorem readNode_none {m : Nat} (lo B : Nat) (w : World) (a : Option Addr) (n cap : Nat) (t : Itm) (hn : n = t.items.length) (h2 : n ≠ 2) (h17 : n ≠ 17) (hl : t.list = true) :
    Calls Tryz.prog 143 #[.agg #[.bool true, .string ⟨#[]⟩, .slice a n cap]] w fun e w' => ∃ v', e = .returned (.tuple #[v', .bool (Tr.sound t)]) ∧ IsNode v' ∧ (Tr.sound t = true → RN lo B w' (m + 1) v' t) ∧ Below w.heap.size w w' := by
  have HSD : Hid (Tr.sound t = false) := by
    rw [Hid, Tr.sound_eq]
    unfold Tr.soundOf
    rw [if_neg (by omega)]
    unfold Tr.isEmpty Tr.isBranch
    rw [hl, decide_eq_false (by omega)]
    rfl
  have i2 : ¬ (n : Int) = 2 := by omega
  have i17 : ¬ (n : Int) = 17 := by omega
  clear hn h2 h17 hl
  go_enter Tryz.func143, Tryz.ntmps143
  go_wp2_with fail
  exact bodyPost_ret (v := .tuple #[.nilIface, .bool false]) (by simp [results, Tryz.results143, go_sem]) rfl ⟨_, by rw [HSD.out], .inl rfl, (fun h => by rw [HSD.out] at h; cases h), (Below.refl _ _).alloc (Nat.le_refl _) _⟩
end Go.Proofs.YtbmohenjphmlgaaGreat

/- The walk of readNode (of the program) at lists of two; readNode reads what is sound. -/
namespace Go.Proofs.YtbmohenjphmlgaaGreat
open Go.RowKit
set_option maxRecDepth 100000

theorem soundP_pair {t : Itm} (hl : t.list = true) (h2 : t.items.length = 2) : Tr.sound t = Tr.pairOk (Tr.unpath (Tr.kid t 0)) (Tr.kid t 1) := by
  rw [Tr.sound_eq]
  unfold Tr.soundOf
  rw [if_pos h2]
  unfold Tr.isEmpty
  rw [hl]
  rfl

theorem unpathP_list {y : Itm} (h : y.list = true) : Tr.unpath y = none := by unfold Tr.unpath; rw [h]; rfl

theorem unpath_bytes {y : Itm} (h : y.list = false) : Tr.unpath y = Tr.unpath (Tr.itB y.bytes) := by unfold Tr.unpath Tr.itB; rw [h]

theorem bytes_le {y : Itm} (h : y.list = false) : y.bytes.length ≤ (Itm.enc y).length := by
  rw [Itm.enc_eq, if_neg (by rw [h]; decide)]
  unfold Itm.encB
  split
  · exact Nat.le_refl _
  · exact Nat.le_of_lt (Itm.headed_len _ _)

set_option maxHeartbeats 3200000 in
theorem readNode_pair {m : Nat} (lo B : Nat) (w : World) (a : Option Addr) (cap : Nat) (t : Itm) (hB : B ≤ w.heap.size) (hs : Small t) (hl : t.list = true) (h2 : t.items.length = 2) (hr : RepW lo B w (m + 1) (.agg #[.bool true, .string ⟨#[]⟩, .slice a 2 cap]) t) :
    Calls Tryz.prog 143 #[.agg #[.bool true, .string ⟨#[]⟩, .slice a 2 cap]] w fun e w' => ∃ v', e = .returned (.tuple #[v', .bool (Tr.sound t)]) ∧ IsNode v' ∧ (Tr.sound t = true → RN lo B w' (m + 1) v' t) ∧ Below w.heap.size w w' := by
  obtain ⟨b, off, l0, s0, x0, n0, c0, rfl, hb, e0, e1, e2, hl0, hs0, hr0⟩ := kid_rep hr 0 (by omega)
  obtain ⟨b', off', l1, s1, x1, n1, c1, hab, _, g0, g1, g2, hl1, hs1, hr1⟩ := kid_rep hr 1 (by omega)
  simp only [Option.some.injEq, Addr.mk.injEq, and_true] at hab
  obtain ⟨rfl, rfl⟩ := hab
  have hbw : b < w.heap.size := Nat.lt_of_lt_of_le hb hB
  have HB0 : Hid (Below w.heap.size w (w.alloc (.cells #[.bool true, .string ⟨#[]⟩, .slice (some ⟨b, off, none⟩) 2 cap] 119))) := (Below.refl _ _).alloc (Nat.le_refl _) _
  have f0 := (HB0.out.cell (p := ⟨b, off, none⟩) hbw).trans e0
  have f1 := (HB0.out.cell (p := ⟨b, off + 1, none⟩) hbw).trans e1
  have HSP := hid (soundP_pair hl h2)
  have HR := hid hr
  cases l0 with
  | true =>
    have HSF : Hid (Tr.sound t = false) := by rw [Hid, HSP.out, unpathP_list hl0.symm]; rfl
    clear e0 e1 e2 g0 g1 g2 hl0 hs0 hl1 hs1 hr0 hr1 hr
    go_enter Tryz.func143, Tryz.ntmps143
    go_wp2_with fail
    exact bodyPost_ret (v := .tuple #[.nilIface, .bool false]) (by simp [results, Tryz.results143, go_sem]) rfl ⟨_, by rw [HSF.out], .inl rfl, (fun h => by rw [HSF.out] at h; cases h), (Below.refl _ _).alloc (Nat.le_refl _) _⟩
  | false =>
    have hk0 := kid_small hs (i := 0) (by omega)
    have hby := bytes_le hl0.symm
    have HPA := hid (fun w => readPath_any s0 (by have := hk0.len; rw [hs0]; show (Tr.kid t 0).bytes.toArray.size ≤ _; rw [List.size_toArray]; omega) w)
    have HUN : Hid (Tr.unpath (Tr.kid t 0) = Tr.unpath (Tr.itB s0.data.toList)) := by rw [Hid, unpath_bytes hl0.symm, hs0]
    have HLF := hid (fun (d : ByteArray) (w' : World) (bb : Below w.heap.size w w') => readLeaf_any b off cap l1 s1 x1 n1 c1 d w' (Nat.lt_of_lt_of_le hbw bb.size) ((bb.cell (p := ⟨b, off + 3, none⟩) hbw).trans g0) ((bb.cell (p := ⟨b, off + 4, none⟩) hbw).trans g1) ((bb.cell (p := ⟨b, off + 5, none⟩) hbw).trans g2))
    have HEX := hid (fun (d : ByteArray) (w' : World) (bb : Below w.heap.size w w') => readExtension_any b off cap l1 s1 x1 n1 c1 d w' (Nat.lt_of_lt_of_le hbw bb.size) ((bb.cell (p := ⟨b, off + 3, none⟩) hbw).trans g0) ((bb.cell (p := ⟨b, off + 4, none⟩) hbw).trans g1) ((bb.cell (p := ⟨b, off + 5, none⟩) hbw).trans g2))
    have HV1 : Hid (((!l1 && decide (s1.size ≤ 40)) && decide (0 < s1.size)) = Tr.isValue (Tr.kid t 1)) := by
      rw [Hid, hl1, hs1]
      unfold Tr.isValue
      show ((!(Tr.kid t 1).list && decide ((Tr.kid t 1).bytes.toArray.size ≤ 40)) && decide (0 < (Tr.kid t 1).bytes.toArray.size)) = _
      rw [List.size_toArray, Bool.and_assoc, Bool.and_assoc, Bool.and_comm (decide (1 ≤ _))]
      rfl
    have HS1 : Hid ((!l1 && decide (s1.size = 8)) = Tr.isSum (Tr.kid t 1)) := by
      rw [Hid, hl1, hs1]
      unfold Tr.isSum
      show (!(Tr.kid t 1).list && decide ((Tr.kid t 1).bytes.toArray.size = 8)) = _
      rw [List.size_toArray]
    have HBY : Hid (s1.data.toList = (Tr.kid t 1).bytes) := by rw [Hid, hs1]
    have HL2 := hid (And.intro hl h2)
    clear e0 e1 e2 g0 g1 g2 hl0 hs0 hl1 hs1 hr0 hr1 hr hk0 hby hl h2
    go_enter Tryz.func143, Tryz.ntmps143
    go_wp2_with fail
    refine (HPA.out _).mono ?_
    rintro e w1 ⟨hp, b1⟩
    have HB1 : Hid (Below w.heap.size w w1) := HB0.out.trans (b1.mono HB0.out.size)
    have hb0 := old_block b1
    have q0 := (cell_of_row _ _ 0 _ _ _ hb0).trans rfl
    have q1 := (cell_of_row _ _ 1 _ _ _ hb0).trans rfl
    have q2 := (cell_of_row _ _ 2 _ _ _ hb0).trans rfl
    clear b1 hb0 f0 f1
    rcases hp with ⟨hu, d, mk, rfl⟩ | ⟨p, leaf, hu, rfl⟩
    · have HSF : Hid (Tr.sound t = false) := by rw [Hid, HSP.out, HUN.out, hu]; rfl
      clear hu
      go_wp2_with fail
      exact bodyPost_ret (v := .tuple #[.nilIface, .bool false]) (by simp [results, Tryz.results143, go_sem]) rfl ⟨_, by rw [HSF.out], .inl rfl, (fun h => by rw [HSF.out] at h; cases h), HB1.out⟩
    · have HU : Hid (Tr.unpath (Tr.kid t 0) = some (p, leaf)) := HUN.out.trans hu
      clear hu
      cases leaf with
      | true =>
        have HSD : Hid (Tr.sound t = Tr.isValue (Tr.kid t 1)) := by rw [Hid, HSP.out, HU.out]; rfl
        go_wp2_with fail
        refine (HLF.out _ _ HB1.out).mono ?_
        rintro e w2 ⟨rfl, b2⟩
        rw [HV1.out, ← HSD.out]
        have HB2 : Hid (Below w.heap.size w w2) := HB1.out.trans (b2.mono HB1.out.size)
        clear b2
        go_wp2_with fail
        exact bodyPost_ret (v := .tuple #[leafV (some ⟨b, off, none⟩) cap ⟨p.toArray⟩ s1, .bool (Tr.sound t)]) (by simp [results, Tryz.results143, go_sem]) rfl ⟨_, rfl, .inr ⟨_, _, rfl⟩, fun h => .inr (.inl ⟨_, _, _, _, HL2.out.1, HL2.out.2, repW_frame (HB2.out.mono hB) _ _ _ HR.out, HU.out, by rw [← HSD.out]; exact h, HBY.out, rfl⟩), HB2.out⟩
      | false =>
        have HSD : Hid (Tr.sound t = (decide (0 < p.length) && Tr.isSum (Tr.kid t 1))) := by rw [Hid, HSP.out, HU.out]; rfl
        go_wp2_with fail
        refine (HEX.out _ _ HB1.out).mono ?_
        rintro e w2 ⟨rfl, b2⟩
        rw [HS1.out, show (⟨p.toArray⟩ : ByteArray).size = p.length from List.size_toArray .., ← HSD.out]
        have HB2 : Hid (Below w.heap.size w w2) := HB1.out.trans (b2.mono HB1.out.size)
        clear b2
        go_wp2_with fail
        exact bodyPost_ret (v := .tuple #[extV (some ⟨b, off, none⟩) cap ⟨p.toArray⟩ s1 .nilIface, .bool (Tr.sound t)]) (by simp [results, Tryz.results143, go_sem]) rfl ⟨_, rfl, .inr ⟨_, _, rfl⟩, fun h => by
          rw [HSD.out, Bool.and_eq_true, decide_eq_true_eq] at h
          exact .inr (.inr (.inl ⟨_, _, _, _, HL2.out.1, HL2.out.2, repW_frame (HB2.out.mono hB) _ _ _ HR.out, HU.out, by show 0 < p.toArray.size; rw [List.size_toArray]; exact h.1, h.2, HBY.out, rfl⟩)), HB2.out⟩

theorem readOk_all : ∀ m, ReadOk m := by
  intro m
  induction m with
  | zero => intro lo B w l s a n cap t _ _ hr; exact hr.elim
  | succ m ih =>
    intro lo B w l s a n cap t hB hs hr
    obtain ⟨a', cap', e0, e1, e2⟩ := repW_shape hr
    simp only [Value.bool.injEq, Value.string.injEq, Value.slice.injEq] at e0 e1 e2
    obtain ⟨rfl, rfl, rfl⟩ := e2
    cases hl : t.list with
    | false =>
      rw [hl] at e0
      subst e0
      exact readNode_bytes lo B w m s a t.items.length cap t hs hl e1
    | true =>
      rw [hl] at e0
      subst e0
      have hb : t.bytes = [] := by
        have := hs.pure
        rw [Itm.pure_eq, hl] at this
        simp only [if_true, Bool.and_eq_true, List.isEmpty_iff] at this
        exact this.1
      rw [hb] at e1
      have : s = ⟨#[]⟩ := e1
      subst this
      by_cases h17 : t.items.length = 17
      · rw [h17] at hr ⊢
        exact readNode_branch ih lo B w a cap t hB hs (by unfold Tr.isBranch; rw [hl, h17]; rfl) hr
      · by_cases h2 : t.items.length = 2
        · rw [h2] at hr ⊢
          exact readNode_pair lo B w a cap t hB hs hl h2 hr
        · exact readNode_none lo B w a _ cap t rfl h2 h17 hl
end Go.Proofs.YtbmohenjphmlgaaGreat
