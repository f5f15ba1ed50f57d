/- Part 33 of a proof: what the last text needs. -/
import Derived.Test.YtbmohenjphmlgaaPart15
import Derived.Test.YtbmohenjphmlgaaPart32
import Derived.Laws.CopyOwn
import Derived.Test.YtbmohenjphmlgaaPart2
import Derived.Test.YtbmohenjphmlgaaPart27
import Derived.Test.YtbmohenjphmlgaaPart29
/- The walks of handedTexts and untouchedTexts (of the statements' own): texts in a row with eight marked places behind it. -/
namespace Go.Proofs.Ytbmohenjphmlgaa
open Go.RowKit
set_option maxRecDepth 100000

def bangB : ByteArray := ⟨#[33]⟩

/-- Texts with eight marks behind them. -/
def handT (l : List ByteArray) : List Value := tcells (l ++ List.replicate 8 bangB)

theorem handT_len (l : List ByteArray) : (handT l).length = l.length + 8 := by simp [handT, tcells_len]

theorem handT_text (l : List ByteArray) (i : Nat) (h : i < l.length) : (handT l)[i]? = some (.string l[i]) := by
  unfold handT
  rw [tcells_at _ i (by simp; omega), List.getElem_append_left h]

theorem handT_bang (l : List ByteArray) (i : Nat) (h : l.length ≤ i) (h2 : i < l.length + 8) : (handT l)[i]? = some (.string ⟨#[33]⟩) := by
  unfold handT
  rw [tcells_at _ i (by simp; omega), List.getElem_append_right h, List.getElem_replicate]
  rfl

theorem list_getD_cell {w : World} {g : Nat} {xs : List Value} {E : TypeId} (h : w.heap[g]? = some (.cells xs.toArray E (0, 0))) (j : Nat) : w.cell? ⟨g, j, none⟩ = xs[j]? := by
  rw [cell_of_row _ _ j _ _ _ h]
  simp

theorem row_set1 {w : World} {g k : Nat} {xs : List Value} {E : TypeId} (h : w.heap[g]? = some (.cells xs.toArray E (0, 0))) (a : Value) : (w.setCell ⟨g, k, none⟩ a).heap[g]? = some (.cells (xs.set k a).toArray E (0, 0)) := by
  rw [heap_setCell_same w g k xs.toArray E a h]
  simp

theorem take_set_succ {xs : List Value} {i : Nat} (h : i < xs.length) (v : Value) : (xs.set i v).take (i + 1) = xs.take i ++ [v] := by
  rw [List.take_succ_eq_append_getElem (by simpa using h), List.take_set_of_le (Nat.le_refl _)]
  simp

theorem handT_take (l : List ByteArray) (i : Nat) (h : l.length ≤ i) (h2 : i < l.length + 8) : (handT l).take (i + 1) = (handT l).take i ++ [.string ⟨#[33]⟩] := by
  have hlt : i < (handT l).length := by rw [handT_len]; exact h2
  rw [List.take_succ_eq_append_getElem hlt]
  have := handT_bang l i h h2
  rw [List.getElem?_eq_getElem hlt] at this
  rw [Option.some.inj this]

theorem handT_first (l : List ByteArray) : (handT l).take l.length = tcells l := by
  unfold handT tcells
  rw [List.map_append, List.take_left' (by simp)]

theorem srd_src {w : World} {l : List ByteArray} {B : Nat} {p : Addr} (h : SRd B w (some p) l) : ∀ j u, (tcells l)[j]? = some u → w.cell? (p.add j) = some u := by
  intro j u hu
  have hj : j < l.length := by rw [← tcells_len]; exact (List.getElem?_eq_some_iff.1 hu).1
  obtain ⟨b, off, e, _, c0⟩ := h j hj
  cases e
  have hadd : (⟨b, off, none⟩ : Addr).add j = ⟨b, off + j, none⟩ := by unfold Addr.add; split <;> simp_all
  rw [tcells_at l j hj] at hu
  cases hu
  rw [hadd]; exact c0

theorem made_row {w : World} {base g n : Nat} {E : TypeId} {k : Nat} {xs : List Value} (h : w.ownsRow base E k (.slice (some ⟨g, 0, none⟩) n n) n xs) : ∃ cur : List Value, w.heap[g]? = some (.cells cur.toArray E (0, 0)) ∧ cur.length = n * k := by
  rcases h.2 with ⟨h', _⟩ | ⟨g', cap', cur, h', _, hg, _, _, hcs, _⟩
  · simp at h'
  · simp only [Value.slice.injEq, Option.some.injEq, Addr.mk.injEq, and_true, true_and] at h'
    obtain ⟨rfl, rfl⟩ := h'
    exact ⟨cur.toList, by simpa using hg, by simpa using hcs⟩

set_option maxHeartbeats 3200000 in
theorem handedTexts_any (a : Option Addr) (cap : Nat) (l : List ByteArray) (w : World) (hr : SRd w.heap.size w a l) (hn : a = none → l.length = 0) (hl : l.length ≤ 8796093022208) :
    Calls Try.prog 31 #[.slice a l.length cap] w fun e w' => e = .returned (.slice (some ⟨w.heap.size, 0, none⟩) l.length (l.length + 8)) ∧ w'.heap[w.heap.size]? = some (.cells (handT l).toArray 9 (0, 0)) ∧ Below w.heap.size w w' := by
  obtain ⟨i0, hi, hz0, hz1, hz2⟩ := info_parts infoText
  have HR := hid hr
  have HNN := hid hn
  have hby : i0.bytes * (l.length + 8) ≤ 281474976710656 := by rw [hz2]; omega
  have hml : l.length + 8 ≤ maxLen := by unfold maxLen; omega
  have HN : Hid ((l.length : Int) + 8 = ((l.length + 8 : Nat) : Int)) := by show _ = _; omega
  have hbase : w.heap.size ≤ w.heap.size := Nat.le_refl _
  have hinf : (Try.prog.info? 9).map (·.size) = some 1 := by rw [hi]; simp [hz1]
  have HTL : Hid ((tcells l).length = l.length) := tcells_len l
  have HMN : Hid (l.length = Nat.min l.length (l.length + 8)) := (Nat.min_eq_left (Nat.le_add_right _ _)).symm
  obtain ⟨tc, htc⟩ : ∃ tc, tc = tcells l := ⟨_, rfl⟩
  have HTC := hid htc
  rw [← htc] at HTL
  have HONE : Hid (∀ v ∈ tc, v.oneCell' = true) := by rw [htc]; exact tcells_one l
  clear hr hn htc
  go_enter Try.func31, Try.ntmps31
  go_wp2_with (first
    | (at_make; refine wpList_make_full _ rfl (.tmp 9) (.tmp 9) 34 rfl _ 9 i0 _ 1 Try.underlying34 hi hz0 hz1 .i64 .i64 _ _ (l.length + 8) rfl rfl HN.out HN.out hby hml hbase ?_; intro w1 hrow hgr; have HG1 : Hid (Below w.heap.size w w1) := ⟨hgr.os, hgr.tape, hgr.output, hgr.size, fun k hk => hgr.block k hk (by simp)⟩; obtain ⟨cur, hcur, hcl⟩ := made_row hrow; have HCU := hid hcur; have HCL := hid hcl; clear hrow hgr hcur hcl)
    | ((refine wpList_copy_splice rfl (.tmp 11) (.tmp 12) 34 34 rfl 9 Try.underlying34 hinf _ a _ _ l.length cap rfl rfl w.heap.size 0 cur 9 HCU.out tc (HTL.out.trans HMN.out) (by
        intro hp
        rw [HTL.out] at hp
        obtain ⟨b, off, ha, hb, _⟩ := HR.out 0 hp
        refine ⟨rfl, _, ha, fun j v hv => ?_⟩
        have h2 := HR.out.later HG1.out
        rw [ha] at h2
        rw [HTC.out] at hv
        exact srd_src h2 j v hv) (by rw [HTL.out, HCL.out]; omega) HONE.out w.heap.size w HG1.out (Nat.le_refl _) ?_); intro w2 HR2 hb2; have HB2 := hid hb2; clear hb2))

  go_loopw [5] (fun i wr => ∃ (k : Nat) (xs : List Value), i = .int .i64 k ∧ l.length ≤ k ∧ k ≤ l.length + 8 ∧ Hid (wr.heap[w.heap.size]? = some (.cells xs.toArray 9 (0, 0)) ∧ xs.length = l.length + 8 ∧ xs.take k = (handT l).take k ∧ Below w.heap.size w wr)) (fun i _ => l.length + 8 - (intOf i).toNat)
  case atStart =>
    refine ⟨l.length, _, rfl, Nat.le_refl _, by omega, HR2.out, ?_, ?_, HB2.out⟩
    · rw [length_splice _ _ _ (by rw [HTL.out, HCL.out]; omega), HCL.out]; omega
    · unfold splice
      rw [List.take_zero, List.nil_append, List.take_left' HTL.out, handT_first, HTC.out]
  case round =>
    obtain ⟨k, xs, rfl, hk1, hk2, HH⟩ := hrel
    have hgw : w.heap.size < wr.heap.size := (Array.getElem?_eq_some_iff.1 HH.out.1).1
    by_cases hlt : k < l.length + 8
    · have i1 : (0 : Int) ≤ (k : Int) := by omega
      have i2 : (k : Int) < (l.length : Int) + 8 := by omega
      have z0 : wr.cell? ⟨w.heap.size, k, none⟩ = some (xs.getD k default) := row_cell HH.out.1 k (by rw [HH.out.2.1]; exact hlt)
      have f0 : wr.frozen? ⟨w.heap.size, k, none⟩ = false := row_frozen HH.out.1 k
      go_wp2_with fail
      refine ⟨⟨k + 1, _, by go_num, by omega, by omega, row_set1 HH.out.1 _, by rw [List.length_set]; exact HH.out.2.1, ?_, HH.out.2.2.2.setCell (p := ⟨w.heap.size, k, none⟩) (Nat.le_refl _) _⟩, by simp [intOf]; omega⟩
      rw [take_set_succ (by rw [HH.out.2.1]; exact hlt), HH.out.2.2.1, handT_take l k hk1 hlt]
    · have i2 : ¬ (k : Int) < (l.length : Int) + 8 := by omega
      obtain rfl : k = l.length + 8 := by omega
      have HX : Hid (xs = handT l) := by
        have h := HH.out.2.2.1
        rw [List.take_of_length_le (by rw [HH.out.2.1]; omega), List.take_of_length_le (by rw [handT_len]; omega)] at h
        exact h
      go_wp2_with fail
      go_ret
      exact ⟨rfl, by rw [← HX.out]; exact HH.out.1, HH.out.2.2.2⟩
theorem drop_set_succ {xs : List Value} {i : Nat} (v : Value) : (xs.set i v).drop (i + 1) = xs.drop (i + 1) := by
  rw [List.drop_set_of_lt (by omega)]

theorem drop_head {xs ys : List Value} {k : Nat} (h : xs.drop k = ys.drop k) : xs[k]? = ys[k]? ∧ xs.drop (k + 1) = ys.drop (k + 1) := by
  constructor
  · have := congrArg (fun z => z[0]?) h
    simpa using this
  · have := congrArg (fun z => z.drop 1) h
    simpa [List.drop_drop] using this

theorem Only.set1 {lo hi : Nat} {w w1 : World} (h : Only lo hi w w1) {g j : Nat} (hg : lo ≤ g) (hg2 : g < hi) (a : Value) : Only lo hi w (w1.setCell ⟨g, j, none⟩ a) :=
  ⟨h.os, h.tape, h.output, by rw [show (w1.setCell ⟨g, j, none⟩ a).heap.size = w1.heap.size by simp [World.setCell]]; exact h.size, fun k hk hj => by rw [setCell_block _ _ _ _ (by show k ≠ g; omega)]; exact h.block k hk hj⟩

set_option maxHeartbeats 3200000 in
theorem untouchedTexts_any (g : Nat) (a : Option Addr) (cap : Nat) (l : List ByteArray) (w : World) (hg : w.heap[g]? = some (.cells (handT l).toArray 9 (0, 0))) (hr : SRd g w a l) (hl : l.length ≤ 8796093022208) :
    Calls Try.prog 33 #[.slice (some ⟨g, 0, none⟩) l.length (l.length + 8), .slice a l.length cap] w fun e w' => e = .returned (.bool true) ∧ Only g (g + 1) w w' := by
  have HR := hid hr
  have HG := hid hg
  have hgw : g < w.heap.size := (Array.getElem?_eq_some_iff.1 hg).1
  clear hr hg
  go_enter Try.func33, Try.ntmps33
  go_wp2_with fail
  go_loopw [7, 8] (fun ok i wr => ∃ (k : Nat) (xs : List Value), ok = .bool true ∧ i = .int .i64 k ∧ k ≤ l.length + 8 ∧ Hid (wr.heap[g]? = some (.cells xs.toArray 9 (0, 0)) ∧ xs.length = l.length + 8 ∧ xs.drop k = (handT l).drop k ∧ Only g (g + 1) w wr)) (fun _ i _ => l.length + 8 - (intOf i).toNat)
  case atStart => exact ⟨0, _, rfl, rfl, Nat.zero_le _, HG.out, handT_len l, rfl, Only.refl _ _ _⟩
  case round =>
    obtain ⟨k, xs, rfl, rfl, hk, HH⟩ := hrel
    by_cases hlt : k < l.length + 8
    · have i1 : (0 : Int) ≤ (k : Int) := by omega
      have i2 : (k : Int) < (l.length : Int) + 8 := by omega
      have hgr : g < wr.heap.size := (Array.getElem?_eq_some_iff.1 HH.out.1).1
      have f0 : wr.frozen? ⟨g, k, none⟩ = false := row_frozen HH.out.1 k
      have z1 := (list_getD_cell HH.out.1 k).trans (drop_head HH.out.2.2.1).1
      have HE : Hid (∀ v : Value, ∃ xs' : List Value, (wr.setCell ⟨g, k, none⟩ v).heap[g]? = some (.cells xs'.toArray 9 (0, 0)) ∧ xs'.length = l.length + 8 ∧ xs'.drop (k + 1) = (handT l).drop (k + 1) ∧ Only g (g + 1) w (wr.setCell ⟨g, k, none⟩ v)) := fun v =>
        ⟨_, row_set1 HH.out.1 v, by rw [List.length_set]; exact HH.out.2.1, by rw [drop_set_succ]; exact (drop_head HH.out.2.2.1).2, HH.out.2.2.2.set1 (Nat.le_refl _) (by omega) v⟩
      by_cases hkl : k < l.length
      · have i3 : (k : Int) < (l.length : Int) := by omega
        rw [handT_text l k hkl] at z1
        obtain ⟨b, off, rfl, hb, e0⟩ := HR.out k hkl
        have e1 : wr.cell? ⟨b, off + k, none⟩ = some (.string l[k]) := (World.cell?_of_block (w := w) (HH.out.2.2.2.block b (by omega) (.inl hb))).trans e0
        have hbr : b < wr.heap.size := by omega
        clear e0
        go_wp2_with fail
        obtain ⟨xs', q⟩ := HE.out (.string ⟨#[98, 108, 111, 116]⟩)
        exact ⟨⟨k + 1, xs', rfl, by go_num, by omega, q⟩, by simp [intOf]; omega⟩
      · have i3 : ¬ (k : Int) < (l.length : Int) := by omega
        rw [handT_bang l k (by omega) hlt] at z1
        go_wp2_with fail
        obtain ⟨xs', q⟩ := HE.out (.string ⟨#[98, 108, 111, 116]⟩)
        exact ⟨⟨k + 1, xs', rfl, by go_num, by omega, q⟩, by simp [intOf]; omega⟩
    · have i2 : ¬ (k : Int) < (l.length : Int) + 8 := by omega
      go_wp2_with fail
      go_ret
      exact ⟨rfl, HH.out.2.2.2⟩
end Go.Proofs.Ytbmohenjphmlgaa

/- The walk of pick (of the statements): which of n things a raw number speaks of. -/
namespace Go.Proofs.Ytbmohenjphmlgaa
open Go.RowKit
set_option maxRecDepth 100000

theorem pick_any (c n : Int) (w : World) (hn : 0 < n) (h1 : -9223372036854775808 ≤ c) (h2 : c ≤ 9223372036854775807) (hn2 : n ≤ 9223372036854775807) : Calls Try.prog 40 #[.int .i64 c, .int .i64 n] w fun e w' => (∃ m : Int, e = .returned (.int .i64 m) ∧ 0 ≤ m ∧ m < n) ∧ w' = w := by
  have hn0 : ¬ n = 0 := by omega
  by_cases hc : c < 0
  · go_enter Try.func40, Try.ntmps40
    go_wp2_with fail
    go_ret
    refine ⟨⟨_, rfl, ?_, ?_⟩, rfl⟩
    · rw [← Int.neg_tmod, Int.tmod_eq_emod_of_nonneg (by omega)]; exact Int.emod_nonneg _ (by omega)
    · rw [← Int.neg_tmod, Int.tmod_eq_emod_of_nonneg (by omega)]; exact Int.emod_lt_of_pos _ hn
  · go_enter Try.func40, Try.ntmps40
    go_wp2_with fail
    go_ret
    refine ⟨⟨_, rfl, ?_, ?_⟩, rfl⟩
    · exact Int.emod_nonneg _ (by omega)
    · exact Int.emod_lt_of_pos _ hn

end Go.Proofs.Ytbmohenjphmlgaa

/- Rows of pairs, as the statements make them; the walks of short, value, table (of the statements). -/
namespace Go.Proofs.Ytbmohenjphmlgaa
open Go.RowKit
set_option maxRecDepth 100000

theorem infoApiPair : (Try.prog.info? 72).map (fun i => (i.zero, i.size, i.bytes)) = some (some (.agg #[.string ⟨#[]⟩, .string ⟨#[]⟩]), 2, 32) := by kernel_rfl

def AOwn (w : World) (base : Nat) (v : Value) (l : List (ByteArray × ByteArray)) : Prop := w.ownsRow base 72 2 v l.length (pcells l)

theorem aown_nil (w : World) (base : Nat) : AOwn w base (.slice none 0 0) [] := World.ownsRow_nil _ _ _ _
theorem aown_shape {w : World} {base : Nat} {v : Value} {l : List (ByteArray × ByteArray)} (h : AOwn w base v l) : ∃ a cap, v = .slice a l.length cap ∧ l.length ≤ cap := by
  rcases h.2 with ⟨rfl, h0⟩ | ⟨g, cap, cur, rfl, _, _, hn, _⟩
  · exact ⟨none, 0, by rw [h0], by omega⟩
  · exact ⟨_, cap, rfl, hn⟩
theorem aown_frame {w w' : World} {b : Nat} {v : Value} {l : List (ByteArray × ByteArray)} (h : AOwn w b v l) (hg : ∀ g, v.ownBlock = some g → w'.heap[g]? = w.heap[g]?) : AOwn w' b v l := owns_frame h hg
theorem aown_lt {w : World} {b : Nat} {v : Value} {l : List (ByteArray × ByteArray)} (h : AOwn w b v l) : ∀ g, v.ownBlock = some g → b ≤ g ∧ g < w.heap.size := World.ownsRow.lt h
theorem aown_later {w w' : World} {b : Nat} {v : Value} {l : List (ByteArray × ByteArray)} (h : AOwn w b v l) (hb : Below w.heap.size w w') : AOwn w' b v l := aown_frame h fun g hg => hb.block g (aown_lt h g hg).2

theorem aown_rd {w : World} {base : Nat} {a : Option Addr} {n cap : Nat} {l : List (ByteArray × ByteArray)} (h : AOwn w base (.slice a n cap) l) : PRd w.heap.size w a l := by
  intro i hi
  rcases h.2 with ⟨_, h0⟩ | ⟨g, cap', cur, hv, hbg, hg, _⟩
  · omega
  · have hlt := (Array.getElem?_eq_some_iff.1 hg).1
    simp only [Value.slice.injEq] at hv
    obtain ⟨rfl, _, _⟩ := hv
    have hc := World.ownsRow.cells (g := g) h rfl
    have e := pcells_at l i hi
    have a0 : ((⟨g, 0, none⟩ : Addr).add (i * 2)) = ⟨g, 0 + i * 2, none⟩ := by unfold Addr.add; split <;> simp_all
    have a1 : ((⟨g, 0, none⟩ : Addr).add (i * 2 + 1)) = ⟨g, 0 + i * 2 + 1, none⟩ := by unfold Addr.add; split <;> simp_all <;> omega
    exact ⟨g, 0, rfl, hlt, a0 ▸ hc _ _ e.1, a1 ▸ hc _ _ e.2⟩

/-- A pair that was just laid is appended to a row of the call's own: for a walk. -/
theorem wpList_push_apair {ops : Array Oper} {rest : List Oper} {o : Oper} {act : Act} {Q' : Exit → Act → World → Prop} (hgd : o.guard = none) (s x : Operand)
    (hop : o.op = .call { callee := .builtin .append, args := #[s, x], argTypes := #[47, 47] }) {W w0 wr : World} {B : Nat} {v1 : Value} {l1 : List (ByteArray × ByteArray)} (p : ByteArray × ByteArray) (L : Nat) (hL : wr.heap.size = L)
    (hs : act.eval s = v1) (hx : act.eval x = .slice (some ⟨L, 0, none⟩) 1 1) (ho : AOwn w0 B v1 l1) (hw : Below w0.heap.size w0 wr) (hb : Below B W w0) (hB : B ≤ W.heap.size) (hlen : l1.length ≤ 1000000)
    (h : ∀ v' w', AOwn w' B v' (l1 ++ [p]) → Below B W w' → wpList Try.prog ops Q' rest (act.put o.dst v') w') : wpList Try.prog ops Q' (o :: rest) act (wr.alloc (.cells #[.string p.1, .string p.2] 72)) := by
  subst hL
  obtain ⟨i0, hi, hz0, hz1, hz2⟩ := info_parts infoApiPair
  have hb1 : Below B W wr := hb.trans (hw.mono (Nat.le_trans hB hb.size))
  have hb2 : Below B W (wr.alloc (.cells #[.string p.1, .string p.2] 72)) := hb1.alloc (Nat.le_trans hB hb1.size) _
  have hBw : B ≤ (wr.alloc (.cells #[.string p.1, .string p.2] 72)).heap.size := Nat.le_trans hB hb2.size
  have ho2 : AOwn (wr.alloc (.cells #[.string p.1, .string p.2] 72)) B v1 l1 := aown_frame ho (fun g hg => by
    rw [Below.heap_alloc _ _ _ (Nat.lt_of_lt_of_le (aown_lt ho g hg).2 hw.size)]
    exact hw.block g (aown_lt ho g hg).2)
  refine wpList_append_mine _ hgd s x 47 hop B 72 i0 _ 2 32 Try.underlying47 hi hz0 hz1 hz2 rfl (by decide) v1 l1.length (pcells l1) hs ho2 ⟨wr.heap.size, 0, none⟩ 1 1 [.string p.1, .string p.2] hx rfl (cells_two _ _ _ _) (by simp [Value.oneCell']) (by unfold maxLen; omega) (by omega) hBw ?_
  intro v' w' ho' hg _
  refine h v' w' ?_ (hb2.grown hg hBw (fun g hgg => (aown_lt ho g hgg).1))
  unfold AOwn
  rw [List.length_append, pcells_snoc]
  exact ho'

/-- A pair that was just laid is appended to a row of the call's own: at a step of a region that draws. -/
theorem step_push_apair {ops : Array Oper} {o : Oper} {act : Act} {K : Act → World → Prop} {Q' : Exit → Act → World → Prop} {E : Prop} (hgd : o.guard = none) (s x : Operand)
    (hop : o.op = .call { callee := .builtin .append, args := #[s, x], argTypes := #[47, 47] }) {W wr : World} {B : Nat} {v1 : Value} {l1 : List (ByteArray × ByteArray)} (p : ByteArray × ByteArray) (L : Nat) (hL : wr.heap.size = L)
    (hs : act.eval s = v1) (hx : act.eval x = .slice (some ⟨L, 0, none⟩) 1 1) (ho : AOwn wr B v1 l1) (hb : Below B W wr) (hB : B ≤ W.heap.size) (hlen : l1.length ≤ 1000000)
    (h : ∀ v' w', AOwn w' B v' (l1 ++ [p]) → Below B W w' → (∀ k, k < wr.heap.size → v1.ownBlock ≠ some k → w'.heap[k]? = wr.heap[k]?) → K (act.put o.dst v') w') : if Region.wanted o (yielded ops act.tmps) = true then Oper.wp Try.prog o act (wr.alloc (.cells #[.string p.1, .string p.2] 72)) K Q' else E := by
  subst hL
  have hw : Region.wanted o (yielded ops act.tmps) = true := by simp [Region.wanted, hgd]
  rw [if_pos hw]
  obtain ⟨i0, hi, hz0, hz1, hz2⟩ := info_parts infoApiPair
  have hb2 : Below B W (wr.alloc (.cells #[.string p.1, .string p.2] 72)) := hb.alloc (Nat.le_trans hB hb.size) _
  have hBw : B ≤ (wr.alloc (.cells #[.string p.1, .string p.2] 72)).heap.size := Nat.le_trans hB hb2.size
  have ho2 : AOwn (wr.alloc (.cells #[.string p.1, .string p.2] 72)) B v1 l1 := aown_frame ho (fun g hg => Below.heap_alloc _ _ _ (aown_lt ho g hg).2)
  obtain ⟨v', w', hr, h2, h3, _⟩ := run_append_mine (P := Try.prog) _ B 47 o.type 72 i0 _ 2 32 Try.underlying47 hi hz0 hz1 hz2 rfl (by decide) v1 l1.length (pcells l1) ho2 ⟨wr.heap.size, 0, none⟩ 1 1 [.string p.1, .string p.2] rfl (cells_two _ _ _ _) (by simp [Value.oneCell']) (by unfold maxLen; omega) (by omega) hBw
  unfold Oper.wp execOp
  simp only [hop, resolve, invoke, builtin, Sem.run_bind, Sem.run_pure, Result.andThen_ok, List.map_toArray, List.map_cons, List.map_nil, hs, hx, hr]
  refine h v' w' ?_ (hb2.grown h3 hBw (fun g hgg => (aown_lt ho g hgg).1)) (fun k hk hne => (h3.block k (by rw [alloc_size]; omega) (fun e => hne e.symm)).trans (Below.heap_alloc _ _ _ hk))
  unfold AOwn
  rw [List.length_append, pcells_snoc]
  exact h2


theorem pcells_one (l : List (ByteArray × ByteArray)) : ∀ u ∈ pcells l, u.oneCell' = true := by
  intro u hu
  unfold pcells at hu
  rw [List.mem_flatMap] at hu
  obtain ⟨p, _, hp⟩ := hu
  rcases List.mem_cons.1 hp with rfl | hp
  · rfl
  · rcases List.mem_cons.1 hp with rfl | hp
    · rfl
    · cases hp

theorem prd_cells {w : World} {l : List (ByteArray × ByteArray)} {B : Nat} {p : Addr} (h : PRd B w (some p) l) : ∀ j u, (pcells l)[j]? = some u → w.cell? (p.add j) = some u := by
  intro j u hu
  have hj : j < l.length * 2 := by rw [← pcells_len]; exact (List.getElem?_eq_some_iff.1 hu).1
  have hi : j / 2 < l.length := by omega
  obtain ⟨b, off, e, _, c0, c1⟩ := h (j / 2) hi
  cases e
  have hadd : (⟨b, off, none⟩ : Addr).add j = ⟨b, off + j, none⟩ := by unfold Addr.add; split <;> simp_all
  have e2 := pcells_at l (j / 2) hi
  rw [hadd]
  rcases Nat.mod_two_eq_zero_or_one j with h0 | h0
  · rw [show j = j / 2 * 2 by omega] at hu ⊢
    rw [e2.1] at hu; cases hu; exact c0
  · rw [show j = j / 2 * 2 + 1 by omega] at hu ⊢
    rw [e2.2] at hu; cases hu; exact c1

/-- Pairs that can be read are appended to a row of the call's own: for a walk. -/
theorem wpList_append_apairs {ops : Array Oper} {rest : List Oper} {o : Oper} {act : Act} {Q : Exit → Act → World → Prop} (w : World) (hgd : o.guard = none) (s x : Operand)
    (hop : o.op = .call { callee := .builtin .append, args := #[s, x], argTypes := #[47, 47] })
    (base B : Nat) (v1 : Value) (a2 : Option Addr) (c2 : Nat) (l1 l2 : List (ByteArray × ByteArray)) (hs : act.eval s = v1) (hx : act.eval x = .slice a2 l2.length c2) (h1 : AOwn w base v1 l1) (h2 : PRd B w a2 l2) (hn : a2 = none → l2.length = 0 ∧ c2 = 0) (hlen : l1.length + l2.length ≤ 1000000) (hbase : base ≤ w.heap.size)
    (h : ∀ v' w', AOwn w' base v' (l1 ++ l2) → w.grownBy w' v1.ownBlock → Newer w v1 v' → wpList Try.prog ops Q rest (act.put o.dst v') w') :
    wpList Try.prog ops Q (o :: rest) act w := by
  obtain ⟨i0, hi, hz0, hz1, hz2⟩ := info_parts infoApiPair
  cases a2 with
  | none =>
    obtain ⟨e1, e2⟩ := hn rfl
    obtain rfl : l2 = [] := List.eq_nil_of_length_eq_zero e1
    subst e2
    refine wpList_plain hgd fun K hK => ?_
    have hr := run_append_owned_none (P := Try.prog) w base 47 o.type 72 i0 2 Try.underlying47 hi v1 _ _ h1
    unfold Oper.wp execOp
    simp only [hop, resolve, invoke, builtin, Sem.run_bind, Sem.run_pure, Result.andThen_ok, List.map_toArray, List.map_cons, List.map_nil, hs, hx, List.length_nil, hr]
    exact hK _ _ (h v1 w (by rw [List.append_nil]; exact h1) (World.grownBy.refl _ _) (.inl rfl))
  | some p =>
    refine wpList_append_mine w hgd s x 47 hop base 72 i0 _ 2 32 Try.underlying47 hi hz0 hz1 hz2 rfl (by decide) v1 l1.length (pcells l1) hs h1 p l2.length c2 (pcells l2) hx (pcells_len l2) (prd_cells h2) (pcells_one l2) (by unfold maxLen; omega) (by omega) hbase ?_
    intro v' w' ho hg hn
    refine h v' w' ?_ hg hn
    unfold AOwn
    rw [List.length_append, show pcells (l1 ++ l2) = pcells l1 ++ pcells l2 by simp [pcells]]
    exact ho

/-- At most n bytes of a text. -/
def shortB (s : ByteArray) (n : Nat) : ByteArray := if n < s.size then s.extract 0 n else s

theorem shortB_size (s : ByteArray) (n : Nat) : (shortB s n).size ≤ n := by
  unfold shortB
  split
  · rw [ByteArray.size_extract]; omega
  · omega

theorem shortG_any (s : ByteArray) (n : Nat) (w : World) (hn : n ≤ 100000) : Calls Try.prog 36 #[.string s, .int .i64 n] w fun e w' => e = .returned (.string (shortB s n)) ∧ w' = w := by
  unfold shortB
  by_cases h : n < s.size
  · have h' : (n : Int) < (s.size : Int) := by omega
    rw [if_pos h]
    go_enter Try.func36, Try.ntmps36
    go_wp2_with fail
    go_ret
    exact ⟨by simp, rfl⟩
  · have h' : ¬ (n : Int) < (s.size : Int) := by omega
    rw [if_neg h]
    go_enter Try.func36, Try.ntmps36
    go_wp2_with fail
    go_ret
    exact ⟨rfl, rfl⟩

/-- What pairs have for a key. -/
def valB (l : List (ByteArray × ByteArray)) (key : ByteArray) : ByteArray := l.foldl (fun v p => if p.1 = key then p.2 else v) ⟨#[]⟩

theorem valB_take (l : List (ByteArray × ByteArray)) (key : ByteArray) (k : Nat) (h : k < l.length) : valB (l.take (k + 1)) key = if l[k].1 = key then l[k].2 else valB (l.take k) key := by
  unfold valB
  rw [List.take_succ_eq_append_getElem h, List.foldl_append]
  rfl

theorem bytes_no {a b : ByteArray} (h : a ≠ b) : (a.toList == b.toList) = false := by
  rw [beq_eq_false_iff_ne]
  intro e
  apply h
  rw [ByteArray.toList_eq, ByteArray.toList_eq] at e
  cases a; cases b
  simp only [Array.toList_inj] at e
  rw [e]

theorem value_any (a : Option Addr) (cap : Nat) (l : List (ByteArray × ByteArray)) (key : ByteArray) (w : World) (hr : PRd w.heap.size w a l) (hl : l.length ≤ 1000000) : Calls Try.prog 39 #[.slice a l.length cap, .string key] w fun e w' => e = .returned (.string (valB l key)) ∧ w' = w := by
  have HR := hid hr
  clear hr
  go_enter Try.func39, Try.ntmps39
  go_wp2_with fail
  go_loopw [5, 6] (fun v i wr => ∃ k : Nat, v = .string (valB (l.take k) key) ∧ i = .int .i64 k ∧ k ≤ l.length ∧ wr = w) (fun _ i _ => l.length - (intOf i).toNat)
  case atStart => exact ⟨0, rfl, rfl, Nat.zero_le _, rfl⟩
  case round =>
    obtain ⟨k, rfl, rfl, hk, rfl⟩ := hrel
    by_cases hlt : k < l.length
    · obtain ⟨b, off, rfl, hb, e0, e1⟩ := HR.out k hlt
      have i1 : (0 : Int) ≤ (k : Int) := by omega
      have i2 : (k : Int) < (l.length : Int) := by omega
      have HVT := hid (valB_take l key k hlt)
      generalize valB (l.take k) key = vk at *
      by_cases he : l[k].1 = key
      · have HX : Hid (valB (l.take (k + 1)) key = l[k].2) := by rw [Hid, HVT.out, if_pos he]
        have he' : (l[k].1.toList == key.toList) = true := by rw [he]; exact beq_self_eq_true _
        clear he
        go_wp2_with fail
        exact ⟨⟨k + 1, by rw [HX.out], by go_num, by omega, trivial⟩, by simp [intOf]; omega⟩
      · have HX : Hid (valB (l.take (k + 1)) key = vk) := by rw [Hid, HVT.out, if_neg he]
        have he' := bytes_no he
        clear he
        go_wp2_with fail
        exact ⟨⟨k + 1, by rw [HX.out], by go_num, by omega, trivial⟩, by simp [intOf]; omega⟩
    · have i2 : ¬ (k : Int) < (l.length : Int) := by omega
      have HK : Hid (valB (l.take k) key = valB l key) := by rw [Hid, List.take_of_length_le (by omega)]
      rw [HK.out]
      go_wp2_with fail
      go_ret
      exact ⟨rfl, rfl⟩

end Go.Proofs.Ytbmohenjphmlgaa

/- The walks of handedPairs and untouchedPairs (of the statements' own): pairs in a row with eight marked places behind it. -/
namespace Go.Proofs.Ytbmohenjphmlgaa
open Go.RowKit
set_option maxRecDepth 100000

/-- Pairs with eight marks behind them. -/
def handP (l : List (ByteArray × ByteArray)) : List Value := pcells (l ++ List.replicate 8 (bangB, bangB))

theorem handP_len (l : List (ByteArray × ByteArray)) : (handP l).length = (l.length + 8) * 2 := by
  unfold handP
  rw [pcells_len]
  simp

theorem handP_pair (l : List (ByteArray × ByteArray)) (i : Nat) (h : i < l.length) : (handP l)[i * 2]? = some (.string l[i].1) ∧ (handP l)[i * 2 + 1]? = some (.string l[i].2) := by
  unfold handP
  have := pcells_at (l ++ List.replicate 8 (bangB, bangB)) i (by simp; omega)
  rw [List.getElem_append_left h] at this
  exact this

theorem handP_bang (l : List (ByteArray × ByteArray)) (i : Nat) (h : l.length ≤ i) (h2 : i < l.length + 8) : (handP l)[i * 2]? = some (.string ⟨#[33]⟩) ∧ (handP l)[i * 2 + 1]? = some (.string ⟨#[33]⟩) := by
  unfold handP
  have := pcells_at (l ++ List.replicate 8 (bangB, bangB)) i (by simp; omega)
  rw [List.getElem_append_right h, List.getElem_replicate] at this
  exact this

theorem take_pair {xs : List Value} {k : Nat} {a b : Value} (h0 : xs[k]? = some a) (h1 : xs[k + 1]? = some b) : xs.take (k + 2) = xs.take k ++ [a, b] := by
  obtain ⟨l0, e0⟩ := List.getElem?_eq_some_iff.1 h0
  obtain ⟨l1, e1⟩ := List.getElem?_eq_some_iff.1 h1
  rw [List.take_succ_eq_append_getElem l1, List.take_succ_eq_append_getElem l0, e0, e1, List.append_assoc]
  rfl

theorem handP_take (l : List (ByteArray × ByteArray)) (i : Nat) (h : l.length ≤ i) (h2 : i < l.length + 8) : (handP l).take ((i + 1) * 2) = (handP l).take (i * 2) ++ [.string ⟨#[33]⟩, .string ⟨#[33]⟩] := by
  obtain ⟨a, b⟩ := handP_bang l i h h2
  rw [show (i + 1) * 2 = i * 2 + 2 by omega]
  exact take_pair a b

theorem handP_first (l : List (ByteArray × ByteArray)) : (handP l).take (l.length * 2) = pcells l := by
  unfold handP
  rw [show pcells (l ++ List.replicate 8 (bangB, bangB)) = pcells l ++ pcells (List.replicate 8 (bangB, bangB)) by simp [pcells], List.take_left' (pcells_len l)]

/-- A row with its k-th two cells written. -/
def put2 (xs : List Value) (k : Nat) (a b : Value) : List Value := (xs.set (k * 2) a).set (k * 2 + 1) b

theorem put2_len (xs : List Value) (k : Nat) (a b : Value) : (put2 xs k a b).length = xs.length := by simp [put2]

theorem row_put2 {w : World} {g k : Nat} {xs : List Value} {E : TypeId} (h : w.heap[g]? = some (.cells xs.toArray E (0, 0))) (a b : Value) :
    ((w.setCell ⟨g, k * 2, none⟩ a).setCell ⟨g, k * 2 + 1, none⟩ b).heap[g]? = some (.cells (put2 xs k a b).toArray E (0, 0)) := row_set1 (row_set1 h a) b

theorem put2_take {xs : List Value} {k : Nat} (h : k * 2 + 1 < xs.length) (a b : Value) : (put2 xs k a b).take ((k + 1) * 2) = xs.take (k * 2) ++ [a, b] := by
  unfold put2
  rw [show (k + 1) * 2 = k * 2 + 1 + 1 by omega, take_set_succ (by simpa using h), take_set_succ (by omega), List.append_assoc]
  rfl

theorem put2_drop {xs : List Value} {k : Nat} (a b : Value) : (put2 xs k a b).drop ((k + 1) * 2) = xs.drop ((k + 1) * 2) := by
  unfold put2
  rw [show (k + 1) * 2 = k * 2 + 2 by omega, List.drop_set_of_lt (by omega), List.drop_set_of_lt (by omega)]

/-- Pairs that can be read are copied into a row of the call's own: for a walk. -/
theorem wpList_copy_pairs {ops : Array Oper} {rest : List Oper} {o : Oper} {act : Act} {Q : Exit → Act → World → Prop} {w : World} (hgd : o.guard = none) (d s : Operand)
    (hop : o.op = .call { callee := .builtin .copy, args := #[d, s], argTypes := #[47, 47] }) (g dLen dCap : Nat) (a2 : Option Addr) (c2 B : Nat) (l : List (ByteArray × ByteArray))
    (hd : act.eval d = .slice (some ⟨g, 0, none⟩) dLen dCap) (hs : act.eval s = .slice a2 l.length c2) (hr : PRd B w a2 l) (cur : List Value) (hg : w.heap[g]? = some (.cells cur.toArray 72 (0, 0))) (hle : l.length ≤ dLen) (hcl : cur.length = dLen * 2)
    (h : ∀ w', Hid (w'.heap[g]? = some (.cells (pcells l ++ cur.drop (l.length * 2)).toArray 72 (0, 0))) → (∀ k, k ≠ g → w'.heap[k]? = w.heap[k]?) → Below g w w' → wpList Try.prog ops Q rest (act.put o.dst (goInt l.length)) w') :
    wpList Try.prog ops Q (o :: rest) act w := by
  obtain ⟨i0, hi, hz0, hz1, hz2⟩ := info_parts infoApiPair
  have hmin : Nat.min l.length dLen = l.length := Nat.min_eq_left hle
  have hu := Try.underlying47
  refine wpList_plain hgd fun K hK => ?_
  cases a2 with
  | none =>
    have hl0 : l = [] := by
      cases l with
      | nil => rfl
      | cons p r => obtain ⟨_, _, e, _⟩ := hr 0 (by simp); cases e
    subst hl0
    have hrun : (Builtin.copy_ #[47, 47] o.type #[.slice (some ⟨g, 0, none⟩) dLen dCap, .slice none 0 c2]).run Try.prog w = .ok (goInt 0) w := by
      simp [Builtin.copy_, run_underlying hu, Builtin.lenOf, Builtin.firstCells, sizeOf, typeInfo, hi, storeCells]
    unfold Oper.wp
    simp [execOp, hop, resolve, invoke, builtin, hd, hs, hrun, Result.andThen]
    exact hK _ _ (h w (by simpa [pcells, Hid] using hg) (fun _ _ => rfl) (Below.refl _ _))
  | some p =>
    have hl := run_loadCells_list (P := Try.prog) w p (pcells l) (prd_cells hr)
    have hst := run_storeCells_at Try.prog g 0 72 (pcells l) 0 cur.toArray w hg (by rw [pcells_len]; simp [hcl]; omega) (pcells_one l)
    rw [pcells_len] at hl
    have hrun : (Builtin.copy_ #[47, 47] o.type #[.slice (some ⟨g, 0, none⟩) dLen dCap, .slice (some p) l.length c2]).run Try.prog w = .ok (goInt l.length) (w.setRow g (pcells l ++ cur.drop (l.length * 2)).toArray) := by
      simp [Builtin.copy_, run_underlying hu, Builtin.lenOf, Builtin.firstCells, sizeOf, typeInfo, hi, hz1, hmin, hl, hst, pcells_len]
    unfold Oper.wp
    simp [execOp, hop, resolve, invoke, builtin, hd, hs, hrun, Result.andThen]
    refine hK _ _ (h _ ?_ (fun k hk => setRow_other w g k _ hk) ?_)
    · exact setRow_heap w g cur.toArray _ _ _ hg
    · exact below_setRow (Below.refl _ _) (Nat.le_refl _) _

set_option maxHeartbeats 3200000 in
theorem handedPairs_any (a : Option Addr) (cap : Nat) (l : List (ByteArray × ByteArray)) (w : World) (hr : PRd w.heap.size w a l) (hl : l.length ≤ 4398046511104) :
    Calls Try.prog 23 #[.slice a l.length cap] w fun e w' => e = .returned (.slice (some ⟨w.heap.size, 0, none⟩) l.length (l.length + 8)) ∧ w'.heap[w.heap.size]? = some (.cells (handP l).toArray 72 (0, 0)) ∧ Below w.heap.size w w' := by
  obtain ⟨i0, hi, hz0, hz1, hz2⟩ := info_parts infoApiPair
  have HR := hid hr
  have hby : i0.bytes * (l.length + 8) ≤ 281474976710656 := by rw [hz2]; omega
  have hml : l.length + 8 ≤ maxLen := by unfold maxLen; omega
  have HN : Hid ((l.length : Int) + 8 = ((l.length + 8 : Nat) : Int)) := by show _ = _; omega
  have hbase : w.heap.size ≤ w.heap.size := Nat.le_refl _
  clear hr
  go_enter Try.func23, Try.ntmps23
  go_wp2_with (first
    | (at_make; refine wpList_make_full _ rfl (.tmp 9) (.tmp 9) 47 rfl _ 72 i0 _ 2 Try.underlying47 hi hz0 hz1 .i64 .i64 _ _ (l.length + 8) rfl rfl HN.out HN.out hby hml hbase ?_; intro w1 hrow hgr; have HG1 : Hid (Below w.heap.size w w1) := ⟨hgr.os, hgr.tape, hgr.output, hgr.size, fun k hk => hgr.block k hk (by simp)⟩; obtain ⟨cur, hcur, hcl⟩ := made_row hrow; have HCU := hid hcur; have HCL := hid hcl; clear hrow hgr hcur hcl)
    | (refine wpList_copy_pairs rfl (.tmp 11) (.tmp 12) rfl w.heap.size (l.length + 8) (l.length + 8) a cap w.heap.size l rfl rfl (HR.out.later HG1.out) cur HCU.out (by omega) HCL.out ?_; intro w2 HR2 _ hb2; have HB2 : Hid (Below w.heap.size w w2) := HG1.out.trans hb2; clear hb2))
  go_loopw [5] (fun i wr => ∃ (k : Nat) (xs : List Value), i = .int .i64 k ∧ l.length ≤ k ∧ k ≤ l.length + 8 ∧ Hid (wr.heap[w.heap.size]? = some (.cells xs.toArray 72 (0, 0)) ∧ xs.length = (l.length + 8) * 2 ∧ xs.take (k * 2) = (handP l).take (k * 2) ∧ Below w.heap.size w wr)) (fun i _ => l.length + 8 - (intOf i).toNat)
  case atStart =>
    refine ⟨l.length, _, rfl, Nat.le_refl _, by omega, HR2.out, ?_, ?_, HB2.out⟩
    · rw [List.length_append, pcells_len, List.length_drop, HCL.out]; omega
    · rw [List.take_left' (pcells_len l), handP_first]
  case round =>
    obtain ⟨k, xs, rfl, hk1, hk2, HH⟩ := hrel
    have hgw : w.heap.size < wr.heap.size := (Array.getElem?_eq_some_iff.1 HH.out.1).1
    by_cases hlt : k < l.length + 8
    · have i1 : (0 : Int) ≤ (k : Int) := by omega
      have i2 : (k : Int) < (l.length : Int) + 8 := by omega
      have hx := HH.out.2.1
      have z0 : wr.cell? ⟨w.heap.size, k * 2, none⟩ = some (xs.getD (k * 2) default) := row_cell HH.out.1 _ (by omega)
      have z1 : wr.cell? ⟨w.heap.size, k * 2 + 1, none⟩ = some (xs.getD (k * 2 + 1) default) := row_cell HH.out.1 _ (by omega)
      have f0 : wr.frozen? ⟨w.heap.size, k * 2, none⟩ = false := row_frozen HH.out.1 _
      have f1 : wr.frozen? ⟨w.heap.size, k * 2 + 1, none⟩ = false := row_frozen HH.out.1 _
      clear hx
      go_wp2_with fail
      refine ⟨⟨k + 1, _, by go_num, by omega, by omega, row_put2 HH.out.1 _ _, by rw [put2_len]; exact HH.out.2.1, ?_, (HH.out.2.2.2.setCell (p := ⟨w.heap.size, k * 2, none⟩) (Nat.le_refl _) _).setCell (p := ⟨w.heap.size, k * 2 + 1, none⟩) (Nat.le_refl _) _⟩, by simp [intOf]; omega⟩
      rw [put2_take (by rw [HH.out.2.1]; omega), HH.out.2.2.1, handP_take l k hk1 hlt]
    · have i2 : ¬ (k : Int) < (l.length : Int) + 8 := by omega
      obtain rfl : k = l.length + 8 := by omega
      have HX : Hid (xs = handP l) := by
        have h := HH.out.2.2.1
        rw [List.take_of_length_le (by rw [HH.out.2.1]; omega), List.take_of_length_le (by rw [handP_len]; omega)] at h
        exact h
      go_wp2_with fail
      go_ret
      exact ⟨rfl, by rw [← HX.out]; exact HH.out.1, HH.out.2.2.2⟩
theorem drop_two {xs ys : List Value} {k : Nat} (h : xs.drop (k * 2) = ys.drop (k * 2)) : xs[k * 2]? = ys[k * 2]? ∧ xs[k * 2 + 1]? = ys[k * 2 + 1]? ∧ xs.drop ((k + 1) * 2) = ys.drop ((k + 1) * 2) := by
  obtain ⟨a, b⟩ := drop_head h
  obtain ⟨c, d⟩ := drop_head b
  exact ⟨a, c, by rw [show (k + 1) * 2 = k * 2 + 1 + 1 by omega]; exact d⟩

theorem Only.alloc {lo hi : Nat} {w w1 : World} (h : Only lo hi w w1) (o : Obj) : Only lo hi w (w1.alloc o) :=
  ⟨h.os, h.tape, h.output, by rw [alloc_size]; have := h.size; omega, fun k hk hj => (Below.heap_alloc _ _ _ (by have := h.size; omega)).trans (h.block k hk hj)⟩

theorem Only.drewN {lo hi : Nat} {w w1 : World} (h : Only lo hi w w1) (n : Nat) : Only lo hi w (w1.drewN n) := ⟨h.os, h.tape, h.output, h.size, h.block⟩

set_option maxHeartbeats 3200000 in
theorem untouchedPairs_any (g : Nat) (a : Option Addr) (cap : Nat) (l : List (ByteArray × ByteArray)) (w : World) (hg : w.heap[g]? = some (.cells (handP l).toArray 72 (0, 0))) (hr : PRd g w a l) (hl : l.length ≤ 4398046511104) :
    Calls Try.prog 25 #[.slice (some ⟨g, 0, none⟩) l.length (l.length + 8), .slice a l.length cap] w fun e w' => e = .returned (.bool true) ∧ Only g (g + 1) w w' := by
  have HR := hid hr
  have HG := hid hg
  have hgw : g < w.heap.size := (Array.getElem?_eq_some_iff.1 hg).1
  clear hr hg
  go_enter Try.func25, Try.ntmps25
  go_wp2_with fail
  go_loopw [7, 8] (fun ok i wr => ∃ (k : Nat) (xs : List Value), ok = .bool true ∧ i = .int .i64 k ∧ k ≤ l.length + 8 ∧ Hid (wr.heap[g]? = some (.cells xs.toArray 72 (0, 0)) ∧ xs.length = (l.length + 8) * 2 ∧ xs.drop (k * 2) = (handP l).drop (k * 2) ∧ Only g (g + 1) w wr)) (fun _ i _ => l.length + 8 - (intOf i).toNat)
  case atStart => exact ⟨0, _, rfl, rfl, Nat.zero_le _, HG.out, handP_len l, rfl, Only.refl _ _ _⟩
  case round =>
    obtain ⟨k, xs, rfl, rfl, hk, HH⟩ := hrel
    by_cases hlt : k < l.length + 8
    · have i1 : (0 : Int) ≤ (k : Int) := by omega
      have i2 : (k : Int) < (l.length : Int) + 8 := by omega
      have hgr : g < wr.heap.size := (Array.getElem?_eq_some_iff.1 HH.out.1).1
      have hgn : ¬ g = wr.heap.size := by omega
      have f0 : wr.frozen? ⟨g, k * 2, none⟩ = false := row_frozen HH.out.1 _
      have f1 : wr.frozen? ⟨g, k * 2 + 1, none⟩ = false := row_frozen HH.out.1 _
      have z0 := (list_getD_cell HH.out.1 (k * 2)).trans (drop_two HH.out.2.2.1).1
      have z1 := (list_getD_cell HH.out.1 (k * 2 + 1)).trans (drop_two HH.out.2.2.1).2.1
      have HE : Hid (∀ (O : Obj) (n : Nat) (u v : Value), ∃ xs' : List Value, ((((wr.alloc O).drewN n).setCell ⟨g, k * 2, none⟩ u).setCell ⟨g, k * 2 + 1, none⟩ v).heap[g]? = some (.cells xs'.toArray 72 (0, 0)) ∧ xs'.length = (l.length + 8) * 2 ∧ xs'.drop ((k + 1) * 2) = (handP l).drop ((k + 1) * 2) ∧ Only g (g + 1) w ((((wr.alloc O).drewN n).setCell ⟨g, k * 2, none⟩ u).setCell ⟨g, k * 2 + 1, none⟩ v)) := fun O n u v =>
        ⟨_, row_put2 (w := (wr.alloc O).drewN n) ((Below.heap_alloc _ _ _ hgr).trans HH.out.1) u v, by rw [put2_len]; exact HH.out.2.1, by rw [put2_drop]; exact (drop_two HH.out.2.2.1).2.2, (((HH.out.2.2.2.alloc O).drewN n).set1 (Nat.le_refl _) (by omega) u).set1 (Nat.le_refl _) (by omega) v⟩
      by_cases hkl : k < l.length
      · have i3 : (k : Int) < (l.length : Int) := by omega
        rw [(handP_pair l k hkl).1] at z0
        rw [(handP_pair l k hkl).2] at z1
        obtain ⟨b, off, rfl, hb, e0, e1⟩ := HR.out k hkl
        have hbb := HH.out.2.2.2.block b (by omega) (.inl hb)
        have y0 : wr.cell? ⟨b, off + k * 2, none⟩ = some (.string l[k].1) := (World.cell?_of_block (w := w) hbb).trans e0
        have y1 : wr.cell? ⟨b, off + k * 2 + 1, none⟩ = some (.string l[k].2) := (World.cell?_of_block (w := w) hbb).trans e1
        have hbr : b < wr.heap.size := by omega
        have hbn : ¬ b = wr.heap.size := by omega
        clear e0 e1 hbb
        go_wp2_with fail
        go_quiet (fail)
        go_wp2_with fail
        obtain ⟨xs', q⟩ := HE.out _ nq (.string ⟨#[98, 108, 111, 116]⟩) (.string ⟨#[98, 108, 111, 116]⟩)
        exact ⟨⟨k + 1, xs', rfl, by go_num, by omega, q⟩, by simp [intOf]; omega⟩
      · have i3 : ¬ (k : Int) < (l.length : Int) := by omega
        rw [(handP_bang l k (by omega) hlt).1] at z0
        rw [(handP_bang l k (by omega) hlt).2] at z1
        go_wp2_with fail
        go_quiet (fail)
        go_wp2_with fail
        obtain ⟨xs', q⟩ := HE.out _ nq (.string ⟨#[98, 108, 111, 116]⟩) (.string ⟨#[98, 108, 111, 116]⟩)
        exact ⟨⟨k + 1, xs', rfl, by go_num, by omega, q⟩, by simp [intOf]; omega⟩
    · have i2 : ¬ (k : Int) < (l.length : Int) + 8 := by omega
      go_wp2_with fail
      go_ret
      exact ⟨rfl, HH.out.2.2.2⟩
end Go.Proofs.Ytbmohenjphmlgaa

/- The walk of the statement Roots. -/
namespace Go.Proofs.Ytbmohenjphmlgaa
open Go.RowKit
set_option maxRecDepth 100000

theorem handP_rd {w : World} {g : Nat} {l : List (ByteArray × ByteArray)} (h : w.heap[g]? = some (.cells (handP l).toArray 72 (0, 0))) : PRd w.heap.size w (some ⟨g, 0, none⟩) l := by
  intro i hi
  obtain ⟨h1, h2⟩ := handP_pair l i hi
  refine ⟨g, 0, rfl, (Array.getElem?_eq_some_iff.1 h).1, ?_, ?_⟩
  · rw [Nat.zero_add, list_getD_cell h, h1]
  · rw [Nat.zero_add, list_getD_cell h, h2]

set_option maxHeartbeats 3200000 in
theorem roots_any (a : Option Addr) (cap : Nat) (l : List (ByteArray × ByteArray)) (w : World) (hr : PRd w.heap.size w a l) (hl : l.length ≤ 4398046511104) :
    Calls Try.prog 5 #[.slice a l.length cap] w fun e w' => e = .returned (.bool true) ∧ Below w.heap.size w w' := by
  have HH := hid (handedPairs_any a cap l w hr hl)
  have HV := hid (fun a cap w h => root_any a cap l w h)
  have HU := hid (fun g w h1 h2 => untouchedPairs_any g a cap l w h1 h2 hl)
  have HRV := hid (fun w h => refRoot_any a cap l w h hl)
  have HR := hid hr
  have HNU := hid num_any
  clear hr
  go_enter Try.func5, Try.ntmps5
  go_wp2_with fail
  refine HH.out.mono ?_
  rintro e w1 ⟨rfl, hg1, b1⟩
  have HG1 := hid hg1
  have HB1 := hid b1
  clear hg1 b1 HH
  obtain ⟨V, N, hT⟩ : ∃ V N, Tr.root (lists l) = (V, N) := ⟨_, _, rfl⟩
  rw [hT] at HV HRV
  clear hT
  go_wp2_with fail
  refine (HV.out _ _ _ (handP_rd HG1.out)).mono ?_
  rintro e w2 ⟨rfl, b2⟩
  have hg : w.heap.size < w1.heap.size := (Array.getElem?_eq_some_iff.1 HG1.out).1
  have HG2 := hid ((b2.block _ hg).trans HG1.out)
  have HB2 : Hid (Below w.heap.size w w2) := HB1.out.trans (b2.mono HB1.out.size)
  clear b2
  go_wp2_with fail
  refine (HU.out _ _ HG2.out (HR.out.later HB2.out)).mono ?_
  rintro e w3 ⟨rfl, o3⟩
  have HB3 : Hid (Below w.heap.size w w3) := HB2.out.trans (o3.below HB2.out.size)
  clear o3
  go_wp2_with fail
  refine (HRV.out _ ((HR.out.later HB3.out).wider HB3.out.size)).mono ?_
  rintro e w4 ⟨rfl, b4⟩
  have HB4 : Hid (Below w.heap.size w w4) := HB3.out.trans (b4.mono HB3.out.size)
  clear b4
  go_wp2_with fail
  refine (HNU.out _ _).mono ?_
  rintro e w5 ⟨rfl, hw⟩
  obtain rfl := hw.symm
  clear hw
  go_wp2_with fail
  go_ret
  exact ⟨rfl, HB4.out⟩
end Go.Proofs.Ytbmohenjphmlgaa
