/- Part 11 of a proof: what the last text needs. -/
import Derived.Test.YtbmohenjphmlgaaPart9
import Derived.Test.YtbmohenjphmlgaaPart10
import Derived.Test.YtbmohenjphmlgaaPart4
import Derived.Test.YtbmohenjphmlgaaPart5
import Derived.Deep.RegionHeld3
import Derived.Deep.AppendLies
/- The walks of handedPairs and untouchedPairs (of the statements' own): pairs in a row with eight marked places behind it. -/
namespace Go.Proofs.Ytbmohenjphmlgaa
open Go.RowKit
set_option maxRecDepth 100000

/-- Pairs with eight marks behind them. -/
def handP (l : List (ByteArray × ByteArray)) : List Value := pcells (l ++ List.replicate 8 (bangB, bangB))

theorem handP_len (l : List (ByteArray × ByteArray)) : (handP l).length = (l.length + 8) * 2 := by
  unfold handP
  rw [pcells_len]
  simp

theorem handP_pair (l : List (ByteArray × ByteArray)) (i : Nat) (h : i < l.length) : (handP l)[i * 2]? = some (.string l[i].1) ∧ (handP l)[i * 2 + 1]? = some (.string l[i].2) := by
  unfold handP
  have := pcells_at (l ++ List.replicate 8 (bangB, bangB)) i (by simp; omega)
  rw [List.getElem_append_left h] at this
  exact this

theorem handP_bang (l : List (ByteArray × ByteArray)) (i : Nat) (h : l.length ≤ i) (h2 : i < l.length + 8) : (handP l)[i * 2]? = some (.string ⟨#[33]⟩) ∧ (handP l)[i * 2 + 1]? = some (.string ⟨#[33]⟩) := by
  unfold handP
  have := pcells_at (l ++ List.replicate 8 (bangB, bangB)) i (by simp; omega)
  rw [List.getElem_append_right h, List.getElem_replicate] at this
  exact this

theorem take_pair {xs : List Value} {k : Nat} {a b : Value} (h0 : xs[k]? = some a) (h1 : xs[k + 1]? = some b) : xs.take (k + 2) = xs.take k ++ [a, b] := by
  obtain ⟨l0, e0⟩ := List.getElem?_eq_some_iff.1 h0
  obtain ⟨l1, e1⟩ := List.getElem?_eq_some_iff.1 h1
  rw [List.take_succ_eq_append_getElem l1, List.take_succ_eq_append_getElem l0, e0, e1, List.append_assoc]
  rfl

theorem handP_take (l : List (ByteArray × ByteArray)) (i : Nat) (h : l.length ≤ i) (h2 : i < l.length + 8) : (handP l).take ((i + 1) * 2) = (handP l).take (i * 2) ++ [.string ⟨#[33]⟩, .string ⟨#[33]⟩] := by
  obtain ⟨a, b⟩ := handP_bang l i h h2
  rw [show (i + 1) * 2 = i * 2 + 2 by omega]
  exact take_pair a b

theorem handP_first (l : List (ByteArray × ByteArray)) : (handP l).take (l.length * 2) = pcells l := by
  unfold handP
  rw [show pcells (l ++ List.replicate 8 (bangB, bangB)) = pcells l ++ pcells (List.replicate 8 (bangB, bangB)) by simp [pcells], List.take_left' (pcells_len l)]

/-- A row with its k-th two cells written. -/
def put2 (xs : List Value) (k : Nat) (a b : Value) : List Value := (xs.set (k * 2) a).set (k * 2 + 1) b

theorem put2_len (xs : List Value) (k : Nat) (a b : Value) : (put2 xs k a b).length = xs.length := by simp [put2]

theorem row_put2 {w : World} {g k : Nat} {xs : List Value} {E : TypeId} (h : w.heap[g]? = some (.cells xs.toArray E (0, 0))) (a b : Value) :
    ((w.setCell ⟨g, k * 2, none⟩ a).setCell ⟨g, k * 2 + 1, none⟩ b).heap[g]? = some (.cells (put2 xs k a b).toArray E (0, 0)) := row_set1 (row_set1 h a) b

theorem put2_take {xs : List Value} {k : Nat} (h : k * 2 + 1 < xs.length) (a b : Value) : (put2 xs k a b).take ((k + 1) * 2) = xs.take (k * 2) ++ [a, b] := by
  unfold put2
  rw [show (k + 1) * 2 = k * 2 + 1 + 1 by omega, take_set_succ (by simpa using h), take_set_succ (by omega), List.append_assoc]
  rfl

theorem put2_drop {xs : List Value} {k : Nat} (a b : Value) : (put2 xs k a b).drop ((k + 1) * 2) = xs.drop ((k + 1) * 2) := by
  unfold put2
  rw [show (k + 1) * 2 = k * 2 + 2 by omega, List.drop_set_of_lt (by omega), List.drop_set_of_lt (by omega)]

/-- Pairs that can be read are copied into a row of the call's own: for a walk. -/
theorem wpList_copy_pairs {ops : Array Oper} {rest : List Oper} {o : Oper} {act : Act} {Q : Exit → Act → World → Prop} {w : World} (hgd : o.guard = none) (d s : Operand)
    (hop : o.op = .call { callee := .builtin .copy, args := #[d, s], argTypes := #[47, 47] }) (g dLen dCap : Nat) (a2 : Option Addr) (c2 B : Nat) (l : List (ByteArray × ByteArray))
    (hd : act.eval d = .slice (some ⟨g, 0, none⟩) dLen dCap) (hs : act.eval s = .slice a2 l.length c2) (hr : PRd B w a2 l) (cur : List Value) (hg : w.heap[g]? = some (.cells cur.toArray 72 (0, 0))) (hle : l.length ≤ dLen) (hcl : cur.length = dLen * 2)
    (h : ∀ w', Hid (w'.heap[g]? = some (.cells (pcells l ++ cur.drop (l.length * 2)).toArray 72 (0, 0))) → (∀ k, k ≠ g → w'.heap[k]? = w.heap[k]?) → Below g w w' → wpList Try.prog ops Q rest (act.put o.dst (goInt l.length)) w') :
    wpList Try.prog ops Q (o :: rest) act w := by
  obtain ⟨i0, hi, hz0, hz1, hz2⟩ := info_parts infoApiPair
  have hmin : Nat.min l.length dLen = l.length := Nat.min_eq_left hle
  have hu := Try.underlying47
  refine wpList_plain hgd fun K hK => ?_
  cases a2 with
  | none =>
    have hl0 : l = [] := by
      cases l with
      | nil => rfl
      | cons p r => obtain ⟨_, _, e, _⟩ := hr 0 (by simp); cases e
    subst hl0
    have hrun : (Builtin.copy_ #[47, 47] o.type #[.slice (some ⟨g, 0, none⟩) dLen dCap, .slice none 0 c2]).run Try.prog w = .ok (goInt 0) w := by
      simp [Builtin.copy_, run_underlying hu, Builtin.lenOf, Builtin.firstCells, sizeOf, typeInfo, hi, storeCells]
    unfold Oper.wp
    simp [execOp, hop, resolve, invoke, builtin, hd, hs, hrun, Result.andThen]
    exact hK _ _ (h w (by simpa [pcells, Hid] using hg) (fun _ _ => rfl) (Below.refl _ _))
  | some p =>
    have hl := run_loadCells_list (P := Try.prog) w p (pcells l) (prd_cells hr)
    have hst := run_storeCells_at Try.prog g 0 72 (pcells l) 0 cur.toArray w hg (by rw [pcells_len]; simp [hcl]; omega) (pcells_one l)
    rw [pcells_len] at hl
    have hrun : (Builtin.copy_ #[47, 47] o.type #[.slice (some ⟨g, 0, none⟩) dLen dCap, .slice (some p) l.length c2]).run Try.prog w = .ok (goInt l.length) (w.setRow g (pcells l ++ cur.drop (l.length * 2)).toArray) := by
      simp [Builtin.copy_, run_underlying hu, Builtin.lenOf, Builtin.firstCells, sizeOf, typeInfo, hi, hz1, hmin, hl, hst, pcells_len]
    unfold Oper.wp
    simp [execOp, hop, resolve, invoke, builtin, hd, hs, hrun, Result.andThen]
    refine hK _ _ (h _ ?_ (fun k hk => setRow_other w g k _ hk) ?_)
    · exact setRow_heap w g cur.toArray _ _ _ hg
    · exact below_setRow (Below.refl _ _) (Nat.le_refl _) _

set_option maxHeartbeats 3200000 in
theorem handedPairs_any (a : Option Addr) (cap : Nat) (l : List (ByteArray × ByteArray)) (w : World) (hr : PRd w.heap.size w a l) (hl : l.length ≤ 4398046511104) :
    Calls Try.prog 23 #[.slice a l.length cap] w fun e w' => e = .returned (.slice (some ⟨w.heap.size, 0, none⟩) l.length (l.length + 8)) ∧ w'.heap[w.heap.size]? = some (.cells (handP l).toArray 72 (0, 0)) ∧ Below w.heap.size w w' := by
  obtain ⟨i0, hi, hz0, hz1, hz2⟩ := info_parts infoApiPair
  have HR := hid hr
  have hby : i0.bytes * (l.length + 8) ≤ 281474976710656 := by rw [hz2]; omega
  have hml : l.length + 8 ≤ maxLen := by unfold maxLen; omega
  have HN : Hid ((l.length : Int) + 8 = ((l.length + 8 : Nat) : Int)) := by show _ = _; omega
  have hbase : w.heap.size ≤ w.heap.size := Nat.le_refl _
  clear hr
  go_enter Try.func23, Try.ntmps23
  go_wp2_with (first
    | (at_make; refine wpList_make_full _ rfl (.tmp 9) (.tmp 9) 47 rfl _ 72 i0 _ 2 Try.underlying47 hi hz0 hz1 .i64 .i64 _ _ (l.length + 8) rfl rfl HN.out HN.out hby hml hbase ?_; intro w1 hrow hgr; have HG1 : Hid (Below w.heap.size w w1) := ⟨hgr.os, hgr.tape, hgr.output, hgr.size, fun k hk => hgr.block k hk (by simp)⟩; obtain ⟨cur, hcur, hcl⟩ := made_row hrow; have HCU := hid hcur; have HCL := hid hcl; clear hrow hgr hcur hcl)
    | (refine wpList_copy_pairs rfl (.tmp 11) (.tmp 12) rfl w.heap.size (l.length + 8) (l.length + 8) a cap w.heap.size l rfl rfl (HR.out.later HG1.out) cur HCU.out (by omega) HCL.out ?_; intro w2 HR2 _ hb2; have HB2 : Hid (Below w.heap.size w w2) := HG1.out.trans hb2; clear hb2))
  go_loopw [5] (fun i wr => ∃ (k : Nat) (xs : List Value), i = .int .i64 k ∧ l.length ≤ k ∧ k ≤ l.length + 8 ∧ Hid (wr.heap[w.heap.size]? = some (.cells xs.toArray 72 (0, 0)) ∧ xs.length = (l.length + 8) * 2 ∧ xs.take (k * 2) = (handP l).take (k * 2) ∧ Below w.heap.size w wr)) (fun i _ => l.length + 8 - (intOf i).toNat)
  case atStart =>
    refine ⟨l.length, _, rfl, Nat.le_refl _, by omega, HR2.out, ?_, ?_, HB2.out⟩
    · rw [List.length_append, pcells_len, List.length_drop, HCL.out]; omega
    · rw [List.take_left' (pcells_len l), handP_first]
  case round =>
    obtain ⟨k, xs, rfl, hk1, hk2, HH⟩ := hrel
    have hgw : w.heap.size < wr.heap.size := (Array.getElem?_eq_some_iff.1 HH.out.1).1
    by_cases hlt : k < l.length + 8
    · have i1 : (0 : Int) ≤ (k : Int) := by omega
      have i2 : (k : Int) < (l.length : Int) + 8 := by omega
      have hx := HH.out.2.1
      have z0 : wr.cell? ⟨w.heap.size, k * 2, none⟩ = some (xs.getD (k * 2) default) := row_cell HH.out.1 _ (by omega)
      have z1 : wr.cell? ⟨w.heap.size, k * 2 + 1, none⟩ = some (xs.getD (k * 2 + 1) default) := row_cell HH.out.1 _ (by omega)
      have f0 : wr.frozen? ⟨w.heap.size, k * 2, none⟩ = false := row_frozen HH.out.1 _
      have f1 : wr.frozen? ⟨w.heap.size, k * 2 + 1, none⟩ = false := row_frozen HH.out.1 _
      clear hx
      go_wp2_with fail
      refine ⟨⟨k + 1, _, by go_num, by omega, by omega, row_put2 HH.out.1 _ _, by rw [put2_len]; exact HH.out.2.1, ?_, (HH.out.2.2.2.setCell (p := ⟨w.heap.size, k * 2, none⟩) (Nat.le_refl _) _).setCell (p := ⟨w.heap.size, k * 2 + 1, none⟩) (Nat.le_refl _) _⟩, by simp [intOf]; omega⟩
      rw [put2_take (by rw [HH.out.2.1]; omega), HH.out.2.2.1, handP_take l k hk1 hlt]
    · have i2 : ¬ (k : Int) < (l.length : Int) + 8 := by omega
      obtain rfl : k = l.length + 8 := by omega
      have HX : Hid (xs = handP l) := by
        have h := HH.out.2.2.1
        rw [List.take_of_length_le (by rw [HH.out.2.1]; omega), List.take_of_length_le (by rw [handP_len]; omega)] at h
        exact h
      go_wp2_with fail
      go_ret
      exact ⟨rfl, by rw [← HX.out]; exact HH.out.1, HH.out.2.2.2⟩
theorem drop_two {xs ys : List Value} {k : Nat} (h : xs.drop (k * 2) = ys.drop (k * 2)) : xs[k * 2]? = ys[k * 2]? ∧ xs[k * 2 + 1]? = ys[k * 2 + 1]? ∧ xs.drop ((k + 1) * 2) = ys.drop ((k + 1) * 2) := by
  obtain ⟨a, b⟩ := drop_head h
  obtain ⟨c, d⟩ := drop_head b
  exact ⟨a, c, by rw [show (k + 1) * 2 = k * 2 + 1 + 1 by omega]; exact d⟩

theorem Only.alloc {lo hi : Nat} {w w1 : World} (h : Only lo hi w w1) (o : Obj) : Only lo hi w (w1.alloc o) :=
  ⟨h.os, h.tape, h.output, by rw [alloc_size]; have := h.size; omega, fun k hk hj => (Below.heap_alloc _ _ _ (by have := h.size; omega)).trans (h.block k hk hj)⟩

theorem Only.drewN {lo hi : Nat} {w w1 : World} (h : Only lo hi w w1) (n : Nat) : Only lo hi w (w1.drewN n) := ⟨h.os, h.tape, h.output, h.size, h.block⟩

set_option maxHeartbeats 3200000 in
theorem untouchedPairs_any (g : Nat) (a : Option Addr) (cap : Nat) (l : List (ByteArray × ByteArray)) (w : World) (hg : w.heap[g]? = some (.cells (handP l).toArray 72 (0, 0))) (hr : PRd g w a l) (hl : l.length ≤ 4398046511104) :
    Calls Try.prog 25 #[.slice (some ⟨g, 0, none⟩) l.length (l.length + 8), .slice a l.length cap] w fun e w' => e = .returned (.bool true) ∧ Only g (g + 1) w w' := by
  have HR := hid hr
  have HG := hid hg
  have hgw : g < w.heap.size := (Array.getElem?_eq_some_iff.1 hg).1
  clear hr hg
  go_enter Try.func25, Try.ntmps25
  go_wp2_with fail
  go_loopw [7, 8] (fun ok i wr => ∃ (k : Nat) (xs : List Value), ok = .bool true ∧ i = .int .i64 k ∧ k ≤ l.length + 8 ∧ Hid (wr.heap[g]? = some (.cells xs.toArray 72 (0, 0)) ∧ xs.length = (l.length + 8) * 2 ∧ xs.drop (k * 2) = (handP l).drop (k * 2) ∧ Only g (g + 1) w wr)) (fun _ i _ => l.length + 8 - (intOf i).toNat)
  case atStart => exact ⟨0, _, rfl, rfl, Nat.zero_le _, HG.out, handP_len l, rfl, Only.refl _ _ _⟩
  case round =>
    obtain ⟨k, xs, rfl, rfl, hk, HH⟩ := hrel
    by_cases hlt : k < l.length + 8
    · have i1 : (0 : Int) ≤ (k : Int) := by omega
      have i2 : (k : Int) < (l.length : Int) + 8 := by omega
      have hgr : g < wr.heap.size := (Array.getElem?_eq_some_iff.1 HH.out.1).1
      have hgn : ¬ g = wr.heap.size := by omega
      have f0 : wr.frozen? ⟨g, k * 2, none⟩ = false := row_frozen HH.out.1 _
      have f1 : wr.frozen? ⟨g, k * 2 + 1, none⟩ = false := row_frozen HH.out.1 _
      have z0 := (list_getD_cell HH.out.1 (k * 2)).trans (drop_two HH.out.2.2.1).1
      have z1 := (list_getD_cell HH.out.1 (k * 2 + 1)).trans (drop_two HH.out.2.2.1).2.1
      have HE : Hid (∀ (O : Obj) (n : Nat) (u v : Value), ∃ xs' : List Value, ((((wr.alloc O).drewN n).setCell ⟨g, k * 2, none⟩ u).setCell ⟨g, k * 2 + 1, none⟩ v).heap[g]? = some (.cells xs'.toArray 72 (0, 0)) ∧ xs'.length = (l.length + 8) * 2 ∧ xs'.drop ((k + 1) * 2) = (handP l).drop ((k + 1) * 2) ∧ Only g (g + 1) w ((((wr.alloc O).drewN n).setCell ⟨g, k * 2, none⟩ u).setCell ⟨g, k * 2 + 1, none⟩ v)) := fun O n u v =>
        ⟨_, row_put2 (w := (wr.alloc O).drewN n) ((Below.heap_alloc _ _ _ hgr).trans HH.out.1) u v, by rw [put2_len]; exact HH.out.2.1, by rw [put2_drop]; exact (drop_two HH.out.2.2.1).2.2, (((HH.out.2.2.2.alloc O).drewN n).set1 (Nat.le_refl _) (by omega) u).set1 (Nat.le_refl _) (by omega) v⟩
      by_cases hkl : k < l.length
      · have i3 : (k : Int) < (l.length : Int) := by omega
        rw [(handP_pair l k hkl).1] at z0
        rw [(handP_pair l k hkl).2] at z1
        obtain ⟨b, off, rfl, hb, e0, e1⟩ := HR.out k hkl
        have hbb := HH.out.2.2.2.block b (by omega) (.inl hb)
        have y0 : wr.cell? ⟨b, off + k * 2, none⟩ = some (.string l[k].1) := (World.cell?_of_block (w := w) hbb).trans e0
        have y1 : wr.cell? ⟨b, off + k * 2 + 1, none⟩ = some (.string l[k].2) := (World.cell?_of_block (w := w) hbb).trans e1
        have hbr : b < wr.heap.size := by omega
        have hbn : ¬ b = wr.heap.size := by omega
        clear e0 e1 hbb
        go_wp2_with fail
        go_quiet (fail)
        go_wp2_with fail
        obtain ⟨xs', q⟩ := HE.out _ nq (.string ⟨#[98, 108, 111, 116]⟩) (.string ⟨#[98, 108, 111, 116]⟩)
        exact ⟨⟨k + 1, xs', rfl, by go_num, by omega, q⟩, by simp [intOf]; omega⟩
      · have i3 : ¬ (k : Int) < (l.length : Int) := by omega
        rw [(handP_bang l k (by omega) hlt).1] at z0
        rw [(handP_bang l k (by omega) hlt).2] at z1
        go_wp2_with fail
        go_quiet (fail)
        go_wp2_with fail
        obtain ⟨xs', q⟩ := HE.out _ nq (.string ⟨#[98, 108, 111, 116]⟩) (.string ⟨#[98, 108, 111, 116]⟩)
        exact ⟨⟨k + 1, xs', rfl, by go_num, by omega, q⟩, by simp [intOf]; omega⟩
    · have i2 : ¬ (k : Int) < (l.length : Int) + 8 := by omega
      go_wp2_with fail
      go_ret
      exact ⟨rfl, HH.out.2.2.2⟩
end Go.Proofs.Ytbmohenjphmlgaa

/- The walk of Sum (of the document's own answer). -/
namespace Go.Proofs.Ytbmohenjphmlgaa
open Go.RowKit
set_option maxRecDepth 100000

set_option maxHeartbeats 1600000 in
theorem sumR_any (s : ByteArray) (w : World) (hs : s.size ≤ 1000000000) : Calls Try.prog 56 #[.string s] w fun e w' => e = .returned (.string ⟨(Tr.sum s.data.toList).toArray⟩) ∧ Below w.heap.size w w' := by
  go_enter Try.func56, Try.ntmps56
  go_wp2_with fail
  go_loopw [3, 4] (fun h i wr => ∃ k : Nat, h = .int .u64 (Tr.fnv (s.data.toList.take k)) ∧ i = .int .i64 k ∧ k ≤ s.size ∧ wr = w) (fun _ i _ => s.size - (intOf i).toNat)
  case atStart => exact ⟨0, by rw [List.take_zero, Tr.fnv_nil]; simp, rfl, Nat.zero_le _, rfl⟩
  case round =>
    obtain ⟨k, rfl, rfl, hk, rfl⟩ := hrel
    by_cases hlt : k < s.size
    · have i1 : (0 : Int) ≤ (k : Int) := by omega
      have i2 : (k : Int) < (s.size : Int) := by omega
      have HF := hid (step_val (Tr.fnv (s.data.toList.take k)) s[k] (Tr.fnv_lt _))
      have HS := hid (fnv_snoc s k hlt)
      go_wp2_with fail
      exact ⟨⟨k + 1, by rw [HF.out, HS.out], by go_num, by omega, trivial⟩, by simp [intOf]; omega⟩
    · have i2 : ¬ (k : Int) < (s.size : Int) := by omega
      have HK : Hid (Tr.fnv (s.data.toList.take k) = Tr.fnv s.data.toList) := by rw [Hid, List.take_of_length_le (by rw [ba_len]; omega)]
      rw [HK.out]
      have HLT := hid (Tr.fnv_lt s.data.toList)
      have HSE := hid (Tr.sum_eq s.data.toList)
      generalize Tr.fnv s.data.toList = n at *
      clear HK hlt hk
      go_wp2_with fail
      go_loopw [5, 6] (fun b i wx => ∃ m : Nat, i = .int .i64 (7 - (m : Int)) ∧ m ≤ 8 ∧ Hid (Bown wx wr.heap.size b ((List.range m).map (Tr.sumAt n)) ∧ Below wr.heap.size wr wx)) (fun _ i _ => (1 + intOf i).toNat)
      case atStart => exact ⟨0, rfl, by omega, bown_nil _ _, Below.refl _ _⟩
      case round =>
        obtain ⟨m, rfl, hm, HH⟩ := hrel
        obtain ⟨ab, cb, hv⟩ := bown_shape HH.out.1
        rw [show ((List.range m).map (Tr.sumAt n)).length = m by simp] at hv
        subst hv
        by_cases hlt2 : m < 8
        · have j1 : (0 : Int) ≤ 7 - (m : Int) := by omega
          have HZ : Hid (#[Value.int .u8 (bits .and .u64 ((n : Int) / 2 ^ (8 * (7 - m))) 255 % 256)].toList = Lib.byteCells [Tr.sumAt n m]) := by
            rw [Hid]
            simp only [Lib.byteCells, List.map_cons, List.map_nil]
            rw [sum_byte n m HLT.out]
          have HM : Hid ((List.range m).map (Tr.sumAt n) ++ [Tr.sumAt n m] = (List.range (m + 1)).map (Tr.sumAt n)) := by rw [Hid, List.range_succ, List.map_append]; rfl
          have HLN : Hid (((List.range m).map (Tr.sumAt n)).length + 1 ≤ 1000000000) := by rw [Hid]; simp; omega
          go_wp2_with (at_builtin; refine wpList_push_bytes rfl (.tmp 24) (.tmp 31) rfl [Tr.sumAt n m] wr.heap.size rfl rfl rfl HH.out.1 HH.out.2 (Nat.le_refl _) HZ.out HLN.out ?_; intro v' w' ho' hb'; have HO' := hid ho'; have HB' := hid hb'; clear ho' hb')
          exact ⟨⟨m + 1, by go_num, by omega, by rw [← HM.out]; exact HO'.out, HB'.out⟩, by simp [intOf]; omega⟩
        · have j1 : ¬ (0 : Int) ≤ 7 - (m : Int) := by omega
          obtain rfl : m = 8 := by omega
          have hcv := run_bytes_string (brd_of_bown HH.out.1)
          go_wp2_with fail
          go_ret
          exact ⟨by rw [HSE.out]; rfl, HH.out.2⟩
end Go.Proofs.Ytbmohenjphmlgaa

/- The walks of isEmpty, isBranch, isValue, isSum (of the document's own answer). -/
namespace Go.Proofs.Ytbmohenjphmlgaa
open Go.RowKit
set_option maxRecDepth 100000

theorem isEmpty_any (t : Itm) (w : World) (a : Option Addr) (cap : Nat) :
    Calls Try.prog 83 #[.agg #[.bool t.list, .string ⟨t.bytes.toArray⟩, .slice a t.items.length cap]] w fun e w' => e = .returned (.bool (Tr.isEmpty t)) ∧ Below w.heap.size w w' := by
  obtain ⟨lb, b, l⟩ := t
  cases lb
  · go_enter Try.func83, Try.ntmps83
    go_wp2_with fail
    go_ret
    exact ⟨by simp [Tr.isEmpty], (Below.refl _ _).alloc (Nat.le_refl _) _⟩
  · go_enter Try.func83, Try.ntmps83
    go_wp2_with fail
    go_ret
    exact ⟨by simp [Tr.isEmpty], (Below.refl _ _).alloc (Nat.le_refl _) _⟩

theorem isBranch_any (t : Itm) (w : World) (a : Option Addr) (cap : Nat) :
    Calls Try.prog 82 #[.agg #[.bool t.list, .string ⟨t.bytes.toArray⟩, .slice a t.items.length cap]] w fun e w' => e = .returned (.bool (Tr.isBranch t)) ∧ Below w.heap.size w w' := by
  obtain ⟨lb, b, l⟩ := t
  cases lb
  · go_enter Try.func82, Try.ntmps82
    go_wp2_with fail
    go_ret
    exact ⟨by simp [Tr.isBranch], (Below.refl _ _).alloc (Nat.le_refl _) _⟩
  · by_cases h : l.length = 17
    · have hb : ((l.length : Int) == 17) = true := by simp; omega
      go_enter Try.func82, Try.ntmps82
      go_wp2_with fail
      go_ret
      exact ⟨by simp [Tr.isBranch, h], (Below.refl _ _).alloc (Nat.le_refl _) _⟩
    · have hb : ((l.length : Int) == 17) = false := by simp; omega
      go_enter Try.func82, Try.ntmps82
      go_wp2_with fail
      go_ret
      exact ⟨by simp [Tr.isBranch, h], (Below.refl _ _).alloc (Nat.le_refl _) _⟩

theorem isValue_any (t : Itm) (w : World) (a : Option Addr) (cap : Nat) :
    Calls Try.prog 106 #[.agg #[.bool t.list, .string ⟨t.bytes.toArray⟩, .slice a t.items.length cap]] w fun e w' => e = .returned (.bool (Tr.isValue t)) ∧ Below w.heap.size w w' := by
  obtain ⟨lb, b, l⟩ := t
  cases lb
  · by_cases h : 1 ≤ b.length
    · by_cases h2 : b.length ≤ 40
      · have hb : (1 : Int) ≤ (b.length : Int) := by omega
        have hb2 : (b.length : Int) ≤ 40 := by omega
        go_enter Try.func106, Try.ntmps106
        go_wp2_with fail
        go_ret
        exact ⟨by simp [Tr.isValue, h, h2], (Below.refl _ _).alloc (Nat.le_refl _) _⟩
      · have hb : (1 : Int) ≤ (b.length : Int) := by omega
        have hb2 : ¬ (b.length : Int) ≤ 40 := by omega
        go_enter Try.func106, Try.ntmps106
        go_wp2_with fail
        go_ret
        exact ⟨by simp [Tr.isValue, h, h2], (Below.refl _ _).alloc (Nat.le_refl _) _⟩
    · have hb : ¬ (1 : Int) ≤ (b.length : Int) := by omega
      go_enter Try.func106, Try.ntmps106
      go_wp2_with fail
      go_ret
      exact ⟨by simp [Tr.isValue, h], (Below.refl _ _).alloc (Nat.le_refl _) _⟩
  · go_enter Try.func106, Try.ntmps106
    go_wp2_with fail
    go_ret
    exact ⟨by simp [Tr.isValue], (Below.refl _ _).alloc (Nat.le_refl _) _⟩

theorem isSum_any (t : Itm) (w : World) (a : Option Addr) (cap : Nat) :
    Calls Try.prog 107 #[.agg #[.bool t.list, .string ⟨t.bytes.toArray⟩, .slice a t.items.length cap]] w fun e w' => e = .returned (.bool (Tr.isSum t)) ∧ Below w.heap.size w w' := by
  obtain ⟨lb, b, l⟩ := t
  cases lb
  · by_cases h : b.length = 8
    · have hb : ((b.length : Int) == 8) = true := by simp; omega
      go_enter Try.func107, Try.ntmps107
      go_wp2_with fail
      go_ret
      exact ⟨by simp [Tr.isSum, h], (Below.refl _ _).alloc (Nat.le_refl _) _⟩
    · have hb : ((b.length : Int) == 8) = false := by simp; omega
      go_enter Try.func107, Try.ntmps107
      go_wp2_with fail
      go_ret
      exact ⟨by simp [Tr.isSum, h], (Below.refl _ _).alloc (Nat.le_refl _) _⟩
  · go_enter Try.func107, Try.ntmps107
    go_wp2_with fail
    go_ret
    exact ⟨by simp [Tr.isSum], (Below.refl _ _).alloc (Nat.le_refl _) _⟩
end Go.Proofs.Ytbmohenjphmlgaa

/- The walk of digits (of the document's own answer). -/
namespace Go.Proofs.Ytbmohenjphmlgaa
open Go.RowKit
set_option maxRecDepth 100000

set_option maxHeartbeats 1600000 in
theorem digits_any (s : ByteArray) (w : World) (hs : s.size ≤ 100000000) : Calls Try.prog 58 #[.string s] w fun e w' => ∃ a cap, e = .returned (.slice a (Tr.digits s.data.toList).length cap) ∧ Bown w' w.heap.size (.slice a (Tr.digits s.data.toList).length cap) (Tr.digits s.data.toList) ∧ Below w.heap.size w w' := by
  go_enter Try.func58, Try.ntmps58
  go_wp2_with fail
  go_loopw [3, 4] (fun l i wr => ∃ k : Nat, i = .int .i64 k ∧ k ≤ s.size ∧ Hid (Bown wr w.heap.size l (Tr.digits (s.data.toList.take k)) ∧ Below w.heap.size w wr)) (fun _ i _ => s.size - (intOf i).toNat)
  case atStart => exact ⟨0, rfl, Nat.zero_le _, bown_nil _ _, Below.refl _ _⟩
  case round =>
    obtain ⟨k, rfl, hk, HH⟩ := hrel
    obtain ⟨ab, cb, hv⟩ := bown_shape HH.out.1
    by_cases hlt : k < s.size
    · subst hv
      have i1 : (0 : Int) ≤ (k : Int) := by omega
      have i2 : (k : Int) < (s.size : Int) := by omega
      have HD : Hid (Tr.digits (s.data.toList.take (k + 1)) = Tr.digits (s.data.toList.take k) ++ [UInt8.ofNat (s[k].toNat / 16), UInt8.ofNat (s[k].toNat % 16)]) := by
        rw [Hid, take_snoc s k hlt, Tr.digits_append]; rfl
      have HLN : Hid ((Tr.digits (s.data.toList.take k)).length + 2 ≤ 1000000000) := by
        rw [Hid, Tr.digits_len, List.length_take]; omega
      have HZ := hid (digit_cells s[k])
      have HH1 := hid HH.out.1
      have HH2 := hid HH.out.2
      generalize Tr.digits (s.data.toList.take k) = dk at *
      go_wp2_with fail
      go_region_held3 (fun _ => True) (trivial) ((refine step_push_bytes rfl (.tmp 11) (.tmp 20) rfl [UInt8.ofNat (s[k].toNat / 16), UInt8.ofNat (s[k].toNat % 16)] _ rfl rfl rfl HH1.out (HH2.out.drew) (Nat.le_refl _) HZ.out HLN.out ?_; intro v' w' ho' hb'; have HO' := hid ho'; have HB' := hid hb'; clear ho' hb'))
      all_goals
        go_wp2_with fail
        exact ⟨⟨k + 1, by go_num, by omega, by rw [HD.out]; exact HO'.out, HB'.out⟩, by simp [intOf]; omega⟩
    · have i2 : ¬ (k : Int) < (s.size : Int) := by omega
      have hke : k = s.size := by omega
      have HK : Hid (Tr.digits (s.data.toList.take k) = Tr.digits s.data.toList) := by rw [Hid, List.take_of_length_le (by rw [ba_len]; omega)]
      rw [HK.out] at hv
      subst hv
      go_wp2_with fail
      go_ret
      refine ⟨ab, cb, rfl, ?_, HH.out.2⟩
      have h := HH.out.1
      rw [HK.out] at h
      exact h
end Go.Proofs.Ytbmohenjphmlgaa

/- The walks of Decode: the item whose bytes these are, in lists of its own, or the error. -/
namespace Go.Proofs.Ytbmohenjphmlgaa
open Go.RowKit
set_option maxRecDepth 100000

namespace Itm
theorem deep_le_enc (t : Itm) : deep t ≤ (enc t).length := by
  refine ind (p := fun t => deep t ≤ (enc t).length) ?_ t
  intro t ih
  rw [deep_eq, enc_eq]
  by_cases h : t.list
  · rw [if_pos h, if_pos h]
    have h1 := headed_len 192 (t.items.flatMap enc)
    have h2 : top (t.items.map deep) ≤ (t.items.flatMap enc).length := by
      refine top_le fun x hx => ?_
      simp only [List.mem_map] at hx
      obtain ⟨y, hy, rfl⟩ := hx
      exact Nat.le_trans (ih y hy) (mem_enc_len hy)
    omega
  · rw [if_neg h]; exact Nat.zero_le _

/-- What Decode answers: an error's number, or the item. -/
def dec (l : List UInt8) : Except Nat Itm :=
  if 1000 < l.length then .error 2 else
  match parse l.length l with
  | none => .error 1
  | some (t, rest) => if rest.isEmpty then (if 8 < deep t then .error 2 else .ok t) else .error 1
end Itm

theorem ow_shape {w : World} {n lo hi : Nat} {v : Value} {t : Itm} (h : Ow w n lo hi v t) : ∃ a cap, v = .agg #[.bool t.list, .string ⟨t.bytes.toArray⟩, .slice a t.items.length cap] := by
  cases n with
  | zero => exact h.elim
  | succ n =>
    obtain ⟨sl, rfl, hl⟩ := h
    obtain ⟨a, cap, rfl⟩ := ownL_len hl
    exact ⟨a, cap, rfl⟩

def DecodeOk (s : ByteArray) (w : World) (e : Ending) (w' : World) : Prop :=
  (∀ n, Itm.dec s.data.toList = .error n → e = .returned (.tuple #[.agg #[.bool false, .string ⟨#[]⟩, .slice none 0 0], .int .i64 n])) ∧
  (∀ t, Itm.dec s.data.toList = .ok t → ∃ v, e = .returned (.tuple #[v, .int .i64 0]) ∧ Ow w' s.size w.heap.size w'.heap.size v t) ∧ Below w.heap.size w w'

theorem decodeOk_err {s : ByteArray} {w w' : World} {n : Nat} (h : Itm.dec s.data.toList = .error n) (hb : Below w.heap.size w w') : DecodeOk s w (.returned (.tuple #[.agg #[.bool false, .string ⟨#[]⟩, .slice none 0 0], .int .i64 n])) w' := by
  refine ⟨fun m hm => ?_, fun t ht => ?_, hb⟩
  · rw [h] at hm; cases hm; rfl
  · rw [h] at ht; cases ht

section
variable (s : ByteArray) (w : World)

set_option maxHeartbeats 400000 in
theorem itemsDecode_big (h : 1000 < s.size) : Calls Try.prog 45 #[.string s] w (DecodeOk s w) := by
  have hd : Itm.dec s.data.toList = .error 2 := by unfold Itm.dec; rw [if_pos (by rw [ba_len]; exact h)]
  have HD := hid hd
  clear hd
  go_enter Try.func45, Try.ntmps45
  go_wp2_with fail
  exact bodyPost_ret (v := .tuple #[.agg #[.bool false, .string ⟨#[]⟩, .slice none 0 0], .int .i64 2]) (by simp [results, Try.results45, go_sem]) rfl (decodeOk_err HD.out ((Below.refl _ _).alloc (Nat.le_refl _) _))

set_option maxHeartbeats 400000 in
theorem itemsDecode_none (h : s.size ≤ 1000) (hp : Itm.parse s.size s.data.toList = none) : Calls Try.prog 45 #[.string s] w (DecodeOk s w) := by
  have hd : Itm.dec s.data.toList = .error 1 := by unfold Itm.dec; rw [if_neg (by rw [ba_len]; omega), ba_len, hp]
  have HD := hid hd
  have HC := hid (fun w => (first_ok s.size).no s w (Nat.le_refl _) (by omega) hp)
  clear hd hp
  go_enter Try.func45, Try.ntmps45
  go_wp2_with fail
  refine (HC.out _).mono ?_
  rintro e w1 ⟨⟨b, r, rfl⟩, hbel⟩
  obtain ⟨hcc, hff⟩ := bcell hbel
  have hsz : w.heap.size < w1.heap.size := by have := hbel.size; simp at this; omega
  go_wp2_with fail
  obtain ⟨c0, c1, c2⟩ := set3 (old_block hbel) (.bool false) (.string ⟨#[]⟩) (.slice none 0 0)
  refine bodyPost_ret (v := .tuple #[.agg #[.bool false, .string ⟨#[]⟩, .slice none 0 0], .int .i64 1]) (by simp [results, Try.results45, go_sem, c0, c1, c2, hsz]) rfl (decodeOk_err HD.out ?_)
  exact (box_below hbel _ _ _).alloc (by rw [box_size]; omega) _

set_option maxHeartbeats 400000 in
theorem itemsDecode_rest (h : s.size ≤ 1000) (t : Itm) (rest : List UInt8) (hp : Itm.parse s.size s.data.toList = some (t, rest)) (hr : rest ≠ []) : Calls Try.prog 45 #[.string s] w (DecodeOk s w) := by
  have hd : Itm.dec s.data.toList = .error 1 := by unfold Itm.dec; rw [if_neg (by rw [ba_len]; omega), ba_len, hp]; simp [hr]
  have hb : rest.isEmpty = false := by simpa using hr
  have HD := hid hd
  have HC := hid (fun w => (first_ok s.size).yes s w t rest (Nat.le_refl _) (by omega) hp)
  clear hd hp hr
  go_enter Try.func45, Try.ntmps45
  go_wp2_with fail
  refine (HC.out _).mono ?_
  rintro e w1 ⟨v, rfl, hown, hbel⟩
  obtain ⟨a2, cap2, rfl⟩ := ow_shape hown
  clear hown
  obtain ⟨hcc, hff⟩ := bcell hbel
  have hsz : w.heap.size < w1.heap.size := by have := hbel.size; simp at this; omega
  go_wp2_with fail
  obtain ⟨c0, c1, c2⟩ := set3 (old_block hbel) (.bool false) (.string ⟨#[]⟩) (.slice none 0 0)
  refine bodyPost_ret (v := .tuple #[.agg #[.bool false, .string ⟨#[]⟩, .slice none 0 0], .int .i64 1]) (by simp [results, Try.results45, go_sem, c0, c1, c2, hsz]) rfl (decodeOk_err HD.out ?_)
  exact (box_below hbel _ _ _).alloc (by rw [box_size]; omega) _

set_option maxHeartbeats 400000 in
theorem itemsDecode_deep (h : s.size ≤ 1000) (t : Itm) (hp : Itm.parse s.size s.data.toList = some (t, [])) (hd8 : 8 < Itm.deep t) : Calls Try.prog 45 #[.string s] w (DecodeOk s w) := by
  have hd : Itm.dec s.data.toList = .error 2 := by unfold Itm.dec; rw [if_neg (by rw [ba_len]; omega), ba_len, hp]; simp [hd8]
  have hdl : Itm.deep t ≤ 1000000000 := by
    have h1 := Itm.deep_le_enc t
    have h2 := (Itm.parse_sound _ _ _ _ hp).1
    have h3 : s.size = (Itm.enc t).length := by rw [← ba_len, h2]; simp
    omega
  have HD := hid hd
  have HC := hid (fun w => (first_ok s.size).yes s w t [] (Nat.le_refl _) (by omega) hp)
  clear hd hp
  go_enter Try.func45, Try.ntmps45
  go_wp2_with fail
  refine (HC.out _).mono ?_
  rintro e w1 ⟨v, rfl, hown, hbel⟩
  have hrep := rep_of_own _ _ _ _ _ (Nat.le_refl _) hown
  obtain ⟨a2, cap2, rfl⟩ := ow_shape hown
  have HR := hid hrep
  clear hown hrep
  obtain ⟨hcc, hff⟩ := bcell hbel
  have hsz : w.heap.size < w1.heap.size := by have := hbel.size; simp at this; omega
  go_wp2_with fail
  refine (depth_any _ _ t _ (rep_in HR.out ((Below.refl _ _).alloc (Nat.le_refl _) _)) hdl).mono ?_
  rintro e w2 ⟨rfl, hbel2⟩
  obtain ⟨hcc2, hff2⟩ := bcell hbel2
  have hsz1 : w.heap.size < w1.heap.size + 1 := by omega
  go_wp2_with fail
  have hb3 : Below (w.alloc (.cells #[.bool false, .string ⟨#[]⟩, .slice none 0 0] 24)).heap.size (w.alloc (.cells #[.bool false, .string ⟨#[]⟩, .slice none 0 0] 24)) w2 :=
    (hbel.alloc hbel.size _).trans (hbel2.mono (by have := hbel.size; simp at this ⊢; omega))
  obtain ⟨c0, c1, c2⟩ := set3 (old_block hb3) (.bool false) (.string ⟨#[]⟩) (.slice none 0 0)
  exact bodyPost_ret (v := .tuple #[.agg #[.bool false, .string ⟨#[]⟩, .slice none 0 0], .int .i64 2]) (by simp [results, Try.results45, go_sem, c0, c1, c2]) rfl (decodeOk_err HD.out (box_below hb3 _ _ _))

set_option maxHeartbeats 400000 in
theorem itemsDecode_yes (h : s.size ≤ 1000) (t : Itm) (hp : Itm.parse s.size s.data.toList = some (t, [])) (hd8 : Itm.deep t ≤ 8) : Calls Try.prog 45 #[.string s] w (DecodeOk s w) := by
  have hd : Itm.dec s.data.toList = .ok t := by
    unfold Itm.dec; rw [if_neg (by rw [ba_len]; omega), ba_len, hp]; simp; omega
  have HD := hid hd
  have HC := hid (fun w => (first_ok s.size).yes s w t [] (Nat.le_refl _) (by omega) hp)
  clear hd hp
  go_enter Try.func45, Try.ntmps45
  go_wp2_with fail
  refine (HC.out _).mono ?_
  rintro e w1 ⟨v, rfl, hown, hbel⟩
  have hrep := rep_of_own _ _ _ _ _ (Nat.le_refl _) hown
  obtain ⟨a2, cap2, rfl⟩ := ow_shape hown
  have HR := hid hrep
  have HO := hid hown
  clear hown hrep
  obtain ⟨hcc, hff⟩ := bcell hbel
  have hsz : w.heap.size < w1.heap.size := by have := hbel.size; simp at this; omega
  go_wp2_with fail
  refine (depth_any _ _ t _ (rep_in HR.out ((Below.refl _ _).alloc (Nat.le_refl _) _)) (by omega)).mono ?_
  rintro e w2 ⟨rfl, hbel2⟩
  obtain ⟨hcc2, hff2⟩ := bcell hbel2
  have hsz1 : w.heap.size < w1.heap.size + 1 := by omega
  go_wp2_with fail
  have hb3 : Below (w.alloc (.cells #[.bool false, .string ⟨#[]⟩, .slice none 0 0] 24)).heap.size (w.alloc (.cells #[.bool false, .string ⟨#[]⟩, .slice none 0 0] 24)) w2 :=
    (hbel.alloc hbel.size _).trans (hbel2.mono (by have := hbel.size; simp at this ⊢; omega))
  obtain ⟨c0, c1, c2⟩ := set3 (old_block hb3) (.bool t.list) (.string ⟨t.bytes.toArray⟩) (.slice a2 t.items.length cap2)
  refine bodyPost_ret (v := .tuple #[.agg #[.bool t.list, .string ⟨t.bytes.toArray⟩, .slice a2 t.items.length cap2], .int .i64 0]) (by simp [results, Try.results45, go_sem, c0, c1, c2]) rfl ⟨fun n hn => ?_, fun t' ht' => ?_, box_below hb3 _ _ _⟩
  · rw [HD.out] at hn; cases hn
  · rw [HD.out] at ht'
    cases ht'
    refine ⟨_, rfl, ?_⟩
    rw [box_size]
    refine own_widen (lo := w.heap.size + 1) (hi := w1.heap.size) (ow_box _ _ _ ?_) (Nat.le_succ _) (by have := hbel2.size; simp at this; omega)
    refine own_frame _ _ _ _ _ ?_ (by have := HO.out; unfold Ow at this; simpa using this)
    intro k _ hk
    rw [hbel2.block k (by simp; omega)]
    exact Below.heap_alloc _ _ _ hk

theorem itemsDecode_any : Calls Try.prog 45 #[.string s] w (DecodeOk s w) := by
  by_cases h : 1000 < s.size
  · exact itemsDecode_big s w h
  · cases hp : Itm.parse s.size s.data.toList with
    | none => exact itemsDecode_none s w (by omega) hp
    | some tr =>
      obtain ⟨t, rest⟩ := tr
      by_cases hr : rest = []
      · subst hr
        by_cases h8 : 8 < Itm.deep t
        · exact itemsDecode_deep s w (by omega) t hp h8
        · exact itemsDecode_yes s w (by omega) t hp (by omega)
      · exact itemsDecode_rest s w (by omega) t rest hp hr

set_option maxHeartbeats 400000 in
theorem decode_any : Calls Try.prog 17 #[.string s] w (DecodeOk s w) := by
  have HC := hid (fun w => itemsDecode_any s w)
  go_enter Try.func17, Try.ntmps17
  go_wp2_with fail
  refine (HC.out _).mono ?_
  rintro e w1 ⟨h1, h2, hbel⟩
  have H1 := hid h1
  have H2 := hid h2
  clear h1 h2
  cases hd : Itm.dec s.data.toList with
  | error n =>
    obtain rfl := H1.out n hd
    have HD := hid hd
    clear hd
    obtain ⟨hcc, hff⟩ := bcell hbel
    go_wp2_with fail
    obtain ⟨c0, c1, c2⟩ := set3 (old_block hbel) (.bool false) (.string ⟨#[]⟩) (.slice none 0 0)
    exact bodyPost_ret (v := .tuple #[.agg #[.bool false, .string ⟨#[]⟩, .slice none 0 0], .int .i64 n]) (by simp [results, Try.results17, go_sem, c0, c1, c2]) rfl (decodeOk_err HD.out (box_below hbel _ _ _))
  | ok t =>
    obtain ⟨v, rfl, hown⟩ := H2.out t hd
    have HD := hid hd
    have HO := hid hown
    obtain ⟨a2, cap2, rfl⟩ := ow_shape hown
    clear hd hown
    obtain ⟨hcc, hff⟩ := bcell hbel
    go_wp2_with fail
    obtain ⟨c0, c1, c2⟩ := set3 (old_block hbel) (.bool t.list) (.string ⟨t.bytes.toArray⟩) (.slice a2 t.items.length cap2)
    refine bodyPost_ret (v := .tuple #[.agg #[.bool t.list, .string ⟨t.bytes.toArray⟩, .slice a2 t.items.length cap2], .int .i64 0]) (by simp [results, Try.results17, go_sem, c0, c1, c2]) rfl ⟨fun n hn => ?_, fun t' ht' => ?_, box_below hbel _ _ _⟩
    · rw [HD.out] at hn; cases hn
    · rw [HD.out] at ht'
      cases ht'
      refine ⟨_, rfl, ?_⟩
      rw [box_size]
      refine own_widen (lo := w.heap.size + 1) (ow_box _ _ _ ?_) (Nat.le_succ _) (Nat.le_refl _)
      have := HO.out
      simpa using this
end
end Go.Proofs.Ytbmohenjphmlgaa
