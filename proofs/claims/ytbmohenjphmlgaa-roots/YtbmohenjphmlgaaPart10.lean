/- Part 10 of a proof: what the last text needs. -/
import Derived.Test.YtbmohenjphmlgaaPart9
import Derived.Maps.OwnOps
import Derived.Maps.OwnSet
import Derived.Deep.RegionHeld3
import Derived.Test.YtbmohenjphmlgaaPart2
/- The walk of tableOf (of the program): the pairs that count. -/
namespace Go.Proofs.Ytbmohenjphmlgaa
open Go.RowKit
set_option maxRecDepth 100000

/-- The last place below k with a key, or nought. -/
def lastAt (l : List (ByteArray × ByteArray)) (key : List UInt8) : Nat → Nat
  | 0 => 0
  | k + 1 => if (l[k]?).map (fun p => p.1.data.toList) = some key then k else lastAt l key k

theorem lastAt_max (l : List (ByteArray × ByteArray)) (key : List UInt8) (k j : Nat) (hj : j < k) (h : (l[j]?).map (fun p => p.1.data.toList) = some key) : j ≤ lastAt l key k ∧ lastAt l key k < k ∧ (l[lastAt l key k]?).map (fun p => p.1.data.toList) = some key := by
  induction k with
  | zero => omega
  | succ k ih =>
    unfold lastAt
    by_cases hk : (l[k]?).map (fun p => p.1.data.toList) = some key
    · rw [if_pos hk]; exact ⟨by omega, by omega, hk⟩
    · rw [if_neg hk]
      have hne : j ≠ k := fun e => hk (e ▸ h)
      have := ih (by omega)
      exact ⟨this.1, by omega, this.2.2⟩

/-- Does the i-th pair count? -/
def counts (l : List (ByteArray × ByteArray)) (p : ByteArray × ByteArray) (i : Nat) : Prop := p.1.data.toList ∉ (l.drop (i + 1)).map (fun q => q.1.data.toList) ∧ p.2.data.toList ≠ []

instance (l : List (ByteArray × ByteArray)) (p : ByteArray × ByteArray) (i : Nat) : Decidable (counts l p i) := by unfold counts; infer_instance

theorem counts_iff {l : List (ByteArray × ByteArray)} {i : Nat} (hi : i < l.length) : counts l l[i] i ↔ lastAt l l[i].1.data.toList l.length = i ∧ l[i].2.data.toList ≠ [] := by
  have hat : (l[i]?).map (fun p => p.1.data.toList) = some l[i].1.data.toList := by rw [List.getElem?_eq_getElem hi]; rfl
  have hm := lastAt_max l l[i].1.data.toList l.length i hi hat
  unfold counts
  refine and_congr_left fun _ => ?_
  constructor
  · intro hno
    refine Classical.byContradiction fun hne => hno ?_
    have hlt : i < lastAt l l[i].1.data.toList l.length := by omega
    have hk := hm.2.2
    rw [List.getElem?_eq_getElem hm.2.1] at hk
    refine List.mem_map.2 ⟨l[lastAt l l[i].1.data.toList l.length]'hm.2.1, ?_, by simpa using hk⟩
    rw [List.mem_iff_getElem]
    refine ⟨lastAt l l[i].1.data.toList l.length - (i + 1), by rw [List.length_drop]; omega, ?_⟩
    rw [List.getElem_drop]
    congr 1
    omega
  · intro he hin
    obtain ⟨q, hq, hqk⟩ := List.mem_map.1 hin
    obtain ⟨j, hj, rfl⟩ := List.getElem_of_mem hq
    rw [List.length_drop] at hj
    rw [List.getElem_drop] at hqk
    have := lastAt_max l l[i].1.data.toList l.length (i + 1 + j) (by omega) (by rw [List.getElem?_eq_getElem (by omega)]; simpa using hqk)
    omega

def digB (p : ByteArray × ByteArray) : ByteArray × ByteArray := (⟨(Tr.digits p.1.data.toList).toArray⟩, p.2)

/-- The pairs that count, among the first k. -/
def tabTo (l : List (ByteArray × ByteArray)) (k : Nat) : List (ByteArray × ByteArray) := (List.range k).filterMap fun i => match l[i]? with | some p => if counts l p i then some (digB p) else none | none => none

theorem tabTo_succ {l : List (ByteArray × ByteArray)} {k : Nat} (hk : k < l.length) : tabTo l (k + 1) = tabTo l k ++ (if counts l l[k] k then [digB l[k]] else []) := by
  unfold tabTo
  rw [List.range_succ, List.filterMap_append]
  congr 1
  simp only [List.filterMap_cons, List.filterMap_nil, List.getElem?_eq_getElem hk]
  split <;> simp_all

/-- As lists of bytes. -/
def lists (l : List (ByteArray × ByteArray)) : List (List UInt8 × List UInt8) := l.map fun p => (p.1.data.toList, p.2.data.toList)

theorem tabTo_table : ∀ l : List (ByteArray × ByteArray), ents (tabTo l l.length) = Tr.table (lists l)
  | [] => rfl
  | p :: r => by
    have ih := tabTo_table r
    have e : tabTo (p :: r) (p :: r).length = (if counts (p :: r) p 0 then [digB p] else []) ++ tabTo r r.length := by
      unfold tabTo
      rw [List.length_cons, List.range_succ_eq_map, List.filterMap_cons, List.filterMap_map]
      have e2 : ((fun i => match (p :: r)[i]? with | some q => if counts (p :: r) q i then some (digB q) else none | none => none) ∘ Nat.succ) = fun i => match r[i]? with | some q => if counts r q i then some (digB q) else none | none => none := by
        funext i
        simp only [Function.comp, Nat.succ_eq_add_one, List.getElem?_cons_succ]
        rfl
      rw [e2]
      simp only [List.getElem?_cons_zero]
      by_cases hc : counts (p :: r) p 0
      · rw [if_pos hc, if_pos hc]; rfl
      · rw [if_neg hc, if_neg hc]; rfl
    rw [e]
    unfold ents at ih ⊢
    rw [List.map_append, ih]
    show _ = Tr.table ((p.1.data.toList, p.2.data.toList) :: lists r)
    rw [Tr.table]
    have hmap : (lists r).map (·.1) = r.map (fun q => q.1.data.toList) := by unfold lists; rw [List.map_map]; rfl
    by_cases hc : counts (p :: r) p 0
    · rw [if_pos hc, if_neg]
      · rfl
      · rw [hmap]
        exact fun h => h.elim (fun h => hc.1 h) (fun h => hc.2 h)
    · rw [if_neg hc, if_pos]
      · rfl
      · rw [hmap]
        refine Classical.byContradiction fun h => hc ?_
        rw [not_or] at h
        exact ⟨h.1, h.2⟩

end Go.Proofs.Ytbmohenjphmlgaa

/- The walk of tableOf (of the program). -/
namespace Go.Proofs.Ytbmohenjphmlgaa
open Go.RowKit Go.Maps
set_option maxRecDepth 100000

theorem lawText : Keyed Try.prog 9 := string_keyed Try.underlying9
theorem zeroInt (w : World) : (zeroValue 3).run Try.prog w = .ok (.int .i64 0) w := by kernel_rfl

/-- The map of last places. -/
def LastMap (w : World) (b : Nat) (l : List (ByteArray × ByteArray)) (k : Nat) (D : DataW Unit) : Prop :=
  w.ownsMap Try.prog 9 (plainElem Try.prog 3) b k D ∧ ∀ key : List UInt8, D.atKey (.string key) (.lit (.int .i64 0)) = .lit (.int .i64 (lastAt l key k : Nat))

theorem lastMap_start (w : World) (l : List (ByteArray × ByteArray)) : LastMap (w.alloc (.map #[] 0)) w.heap.size l 0 (.map []) := ⟨World.ownsMap_made _ _ _ _, fun _ => rfl⟩

theorem lastMap_next {w w' : World} {b : Nat} {l : List (ByteArray × ByteArray)} {k : Nat} {D : DataW Unit} (h : LastMap w b l k D) (hk : k < l.length) (ho : w'.ownsMap Try.prog 9 (plainElem Try.prog 3) b (k + 1) (D.put (.string l[k].1.data.toList) (.lit (.int .i64 k)))) : LastMap w' b l (k + 1) (D.put (.string l[k].1.data.toList) (.lit (.int .i64 k))) := by
  refine ⟨ho, fun key => ?_⟩
  unfold lastAt
  rw [List.getElem?_eq_getElem hk]
  by_cases hkey : l[k].1.data.toList = key
  · subst hkey
    rw [atKey_put_same (k := .string l[k].1.data.toList) h.1.isMap trivial, if_pos (show Option.map (fun p : ByteArray × ByteArray => p.1.data.toList) (some l[k]) = some l[k].1.data.toList from rfl)]
  · rw [atKey_put_other (fun e => hkey (by cases e; rfl)), if_neg (fun e => hkey (by simpa using e))]
    exact h.2 key

theorem lastMap_kept {w w' : World} {b : Nat} {l : List (ByteArray × ByteArray)} {k : Nat} {D : DataW Unit} (h : LastMap w b l k D) (hb : w'.heap[b]? = w.heap[b]?) : LastMap w' b l k D := by
  obtain ⟨⟨es, clock, h1, h2⟩, h3⟩ := h
  exact ⟨⟨es, clock, hb.trans h1, h2⟩, h3⟩

/-- A pair that was just laid is appended to a row of the call's own: at a step of a region that draws. -/
theorem step_push_pair {ops : Array Oper} {o : Oper} {act : Act} {K : Act → World → Prop} {Q' : Exit → Act → World → Prop} {E : Prop} (hgd : o.guard = none) (s x : Operand)
    (hop : o.op = .call { callee := .builtin .append, args := #[s, x], argTypes := #[111, 111] }) {W wr : World} {B : Nat} {v1 : Value} {l1 : List (ByteArray × ByteArray)} (p : ByteArray × ByteArray) (L : Nat) (hL : wr.heap.size = L)
    (hs : act.eval s = v1) (hx : act.eval x = .slice (some ⟨L, 0, none⟩) 1 1) (ho : POwn wr B v1 l1) (hb : Below B W wr) (hB : B ≤ W.heap.size) (hlen : l1.length ≤ 1000000)
    (h : ∀ v' w', POwn w' B v' (l1 ++ [p]) → Below B W w' → (∀ k, k < wr.heap.size → v1.ownBlock ≠ some k → w'.heap[k]? = wr.heap[k]?) → K (act.put o.dst v') w') : if Region.wanted o (yielded ops act.tmps) = true then Oper.wp Try.prog o act (wr.alloc (.cells #[.string p.1, .string p.2] 133)) K Q' else E := by
  subst hL
  have hw : Region.wanted o (yielded ops act.tmps) = true := by simp [Region.wanted, hgd]
  rw [if_pos hw]
  obtain ⟨i0, hi, hz0, hz1, hz2⟩ := info_parts infoPair
  have hb2 : Below B W (wr.alloc (.cells #[.string p.1, .string p.2] 133)) := hb.alloc (Nat.le_trans hB hb.size) _
  have hBw : B ≤ (wr.alloc (.cells #[.string p.1, .string p.2] 133)).heap.size := Nat.le_trans hB hb2.size
  have ho2 : POwn (wr.alloc (.cells #[.string p.1, .string p.2] 133)) B v1 l1 := pown_frame ho (fun g hg => Below.heap_alloc _ _ _ (pown_lt ho g hg).2)
  obtain ⟨v', w', hr, h2, h3, _⟩ := run_append_mine (P := Try.prog) _ B 111 o.type 133 i0 _ 2 32 Try.underlying111 hi hz0 hz1 hz2 rfl (by decide) v1 l1.length (pcells l1) ho2 ⟨wr.heap.size, 0, none⟩ 1 1 [.string p.1, .string p.2] rfl (cells_two _ _ _ _) (by simp [Value.oneCell']) (by unfold maxLen; omega) (by omega) hBw
  unfold Oper.wp execOp
  simp only [hop, resolve, invoke, builtin, Sem.run_bind, Sem.run_pure, Result.andThen_ok, List.map_toArray, List.map_cons, List.map_nil, hs, hx, hr]
  refine h v' w' ?_ (hb2.grown h3 hBw (fun g hgg => (pown_lt ho g hgg).1)) (fun k hk hne => (h3.block k (by rw [alloc_size]; omega) (fun e => hne e.symm)).trans (Below.heap_alloc _ _ _ hk))
  unfold POwn
  rw [List.length_append, pcells_snoc]
  exact h2

theorem tabTo_le (l : List (ByteArray × ByteArray)) (k : Nat) : (tabTo l k).length ≤ k := by
  unfold tabTo
  have := List.length_filterMap_le (fun i => match l[i]? with | some p => if counts l p i then some (digB p) else none | none => none) (List.range k)
  rwa [List.length_range] at this

theorem cellB {w w' : World} {b off : Nat} (h : w'.heap[b]? = w.heap[b]?) : w'.cell? ⟨b, off, none⟩ = w.cell? ⟨b, off, none⟩ := World.cell?_of_block (w := w) h

set_option maxHeartbeats 3200000 in
theorem tableOf_any (a : Option Addr) (cap : Nat) (l : List (ByteArray × ByteArray)) (w : World) (hr : PRd w.heap.size w a l) (hl : l.length ≤ 1000) (hz : ∀ p ∈ l, p.1.size ≤ 1000) : Calls Try.prog 74 #[.slice a l.length cap] w fun e w' => ∃ v, e = .returned v ∧ POwn w' w.heap.size v (tabTo l l.length) ∧ Below w.heap.size w w' := by
  have HR := hid hr
  have HZ := hid hz
  have HD := hid (fun s w h => digitsOf_any s w h)
  have hmm := @run_makeMap Try.prog
  have HM0 := hid (lastMap_start w l)
  clear hr hz
  go_enter Try.func74, Try.ntmps74
  go_wp2_with fail
  go_loopw [5, 12] (fun _ i wr => ∃ k : Nat, i = .int .i64 k ∧ k ≤ l.length ∧ Hid (∃ D, LastMap wr w.heap.size l k D ∧ Below w.heap.size w wr)) (fun _ i _ => l.length - (intOf i).toNat)
  case atStart => exact ⟨0, rfl, Nat.zero_le _, _, HM0.out, (Below.refl _ _).alloc (Nat.le_refl _) _⟩
  case round =>
    obtain ⟨k, rfl, hk, HH⟩ := hrel
    by_cases hlt : k < l.length
    · obtain ⟨b, off, rfl, hb, e0, e1⟩ := HR.out k hlt
      obtain ⟨D, hD, hB⟩ := HH.out
      have f0 := (hB.cell (p := ⟨b, off + k * 2, none⟩) hb).trans e0
      have f1 := (hB.cell (p := ⟨b, off + k * 2 + 1, none⟩) hb).trans e1
      have i1 : (0 : Int) ≤ (k : Int) := by omega
      have i2 : (k : Int) < (l.length : Int) := by omega
      have HDM := hid hD
      have HDB := hid hB
      have HDA := hid (lastMap_kept (w' := wr.alloc (.cells #[.string l[k].1, .string l[k].2] 72)) hD (Below.heap_alloc _ _ _ hD.1.lt))
      have hkey : keyOf Try.prog 9 (.string l[k].1) = some (.string l[k].1.data.toList) := Go.WideMaps.keyOf_string_mk Try.underlying9 (by have := HZ.out _ (List.getElem_mem hlt); unfold maxLen; omega)
      clear e0 e1 hD hB HH
      go_wp2_with (at_mapUpdate; go_loud (refine wpList_mapUpdate_own _ rfl _ _ _ 146 rfl 9 3 lawText Try.underlying146 _ w.heap.size k _ rfl HDA.out.1 (by unfold maxLen; omega) _ _ _ rfl rfl hkey _ [] (plainElem_int Try.underlying3 (WalkArith.wf_i64 (by omega))) ?_); intro w1 hown1 hgrow1; have HO1 := hid hown1; have HG1 := hid hgrow1; clear hown1 hgrow1)
      exact ⟨⟨k + 1, by go_num, by omega, _, lastMap_next HDM.out hlt HO1.out, (HDB.out.alloc HDB.out.size _).grown HG1.out (by have := HDB.out.size; rw [alloc_size]; omega) (fun j hj => by cases hj; exact Nat.le_refl _)⟩, by simp [intOf]; omega⟩
    · have i2 : ¬ (k : Int) < (l.length : Int) := by omega
      obtain rfl : k = l.length := by omega
      obtain ⟨D, hD, hB⟩ := HH.out
      have HDM := hid hD
      have HDB := hid hB
      have HBS : Hid (w.heap.size + 1 ≤ wr.heap.size) := hD.1.lt
      clear hD hB HH hlt hk
      generalize wr = W2 at *
      go_wp2_with fail
      go_loopw [6, 8, 24] (fun v _ i wx => ∃ m : Nat, i = .int .i64 m ∧ m ≤ l.length ∧ Hid (POwn wx (w.heap.size + 1) v (tabTo l m) ∧ Below (w.heap.size + 1) W2 wx)) (fun _ _ i _ => l.length - (intOf i).toNat)
      case atStart => exact ⟨0, rfl, Nat.zero_le _, pown_nil _ _, Below.refl _ _⟩
      case round =>
        obtain ⟨m, rfl, hm, HV⟩ := hrel
        obtain ⟨av, cv, hv⟩ := pown_shape HV.out.1
        subst hv
        by_cases hlt : m < l.length
        · obtain ⟨b, off, rfl, hb, e0, e1⟩ := HR.out m hlt
          have HBW : Hid (Below w.heap.size w wr) := HDB.out.trans (HV.out.2.mono (Nat.le_succ _))
          have f0 := (HBW.out.cell (p := ⟨b, off + m * 2, none⟩) hb).trans e0
          have f1 := (HBW.out.cell (p := ⟨b, off + m * 2 + 1, none⟩) hb).trans e1
          have i1 : (0 : Int) ≤ (m : Int) := by omega
          have i3 : (m : Int) < (l.length : Int) := by omega
          have hkey : keyOf Try.prog 9 (.string l[m].1) = some (.string l[m].1.data.toList) := Go.WideMaps.keyOf_string_mk Try.underlying9 (by have := HZ.out _ (List.getElem_mem hlt); unfold maxLen; omega)
          have HDA : Hid (LastMap (wr.alloc (.cells #[.string l[m].1, .string l[m].2] 72)) w.heap.size l l.length D) := lastMap_kept HDM.out ((Below.heap_alloc _ _ _ (by have := HV.out.2.size; have := HBS.out; omega)).trans (HV.out.2.block _ (by omega)))
          have HTS := hid (tabTo_succ hlt)
          have HCT := hid (counts_iff hlt)
          have HLE : Hid ((tabTo l m).length ≤ 1000000) := by have := tabTo_le l m; rw [Hid]; omega
          clear e0 e1
          obtain ⟨q, hq⟩ : ∃ q, q = lastAt l l[m].1.data.toList l.length := ⟨_, rfl⟩
          have HLM : Hid (D.atKey (.string l[m].1.data.toList) (.lit (.int .i64 0)) = .lit (.int .i64 (q : Nat))) := by rw [Hid, hq]; exact HDM.out.2 _
          have HSKIP : Hid (¬ counts l l[m] m → (∃ m_1 : Nat, Value.int .i64 ((m : Int) + 1) = .int .i64 m_1 ∧ m_1 ≤ l.length ∧ Hid (POwn (wr.alloc (.cells #[.string l[m].1, .string l[m].2] 72)) (w.heap.size + 1) (.slice av (tabTo l m).length cv) (tabTo l m_1) ∧ Below (w.heap.size + 1) W2 (wr.alloc (.cells #[.string l[m].1, .string l[m].2] 72)))) ∧ l.length - (intOf (.int .i64 ((m : Int) + 1))).toNat < l.length - (intOf (.int .i64 (m : Int))).toNat) := fun hno =>
            ⟨⟨m + 1, by go_num, by omega, by rw [HTS.out, if_neg hno, List.append_nil]; exact pown_frame HV.out.1 (fun g hg => Below.heap_alloc _ _ _ (pown_lt HV.out.1 g hg).2), HV.out.2.alloc (Nat.le_trans HBS.out HV.out.2.size) _⟩, by simp [intOf]; omega⟩
          by_cases hqm : q = m
          · by_cases hve : l[m].2.data.toList = []
            · have hve' : (l[m].2.toList == []) = true := by rw [ByteArray.toList_eq, hve]; rfl
              have HNO : Hid (¬ counts l l[m] m) := fun h => (HCT.out.1 h).2 hve
              have hqm' : (q : Int) = (m : Int) := by rw [hqm]
              clear hve hq hqm
              go_wp2_with (at_lookup; go_loud (refine wpList_lookup_own_int _ rfl _ _ 146 rfl 9 3 .i64 lawText Try.underlying146 Try.underlying3 (zeroInt _) w.heap.size l.length D rfl HDA.out.1 _ _ rfl hkey ?_); intro c hat hwc; obtain rfl : c = (q : Int) := (by rw [HLM.out] at hat; cases hat; rfl); clear hat hwc)
              exact HSKIP.out HNO.out
            · have hve' : (l[m].2.toList == []) = false := by rw [ByteArray.toList_eq, beq_eq_false_iff_ne]; exact hve
              have HYES : Hid (counts l l[m] m) := HCT.out.2 ⟨by rw [← hq]; exact hqm, hve⟩
              have hqm' : (q : Int) = (m : Int) := by rw [hqm]
              have hks : l[m].1.size ≤ 100000000 := by have := HZ.out _ (List.getElem_mem hlt); omega
              have HTS2 : Hid (tabTo l (m + 1) = tabTo l m ++ [digB l[m]]) := by rw [Hid, HTS.out, if_pos HYES.out]
              have HPW : Hid (POwn (wr.alloc (.cells #[.string l[m].1, .string l[m].2] 72)) (w.heap.size + 1) (.slice av (tabTo l m).length cv) (tabTo l m)) := pown_frame HV.out.1 (fun g hg => Below.heap_alloc _ _ _ (pown_lt HV.out.1 g hg).2)
              have HBA : Hid (Below (w.heap.size + 1) W2 (wr.alloc (.cells #[.string l[m].1, .string l[m].2] 72))) := HV.out.2.alloc (Nat.le_trans HBS.out HV.out.2.size) _
              have HSZ2 : Hid (w.heap.size + 1 ≤ wr.heap.size + 1) := by have := HV.out.2.size; have := HBS.out; rw [Hid]; omega
              have HOB : Hid ((Value.slice av (tabTo l m).length cv).ownBlock ≠ some wr.heap.size) := fun e => Nat.lt_irrefl _ (pown_lt HV.out.1 _ e).2
              clear hve hq hqm HSKIP HTS HCT
              generalize tabTo l m = tm at *
              go_wp2_with (at_lookup; go_loud (refine wpList_lookup_own_int _ rfl _ _ 146 rfl 9 3 .i64 lawText Try.underlying146 Try.underlying3 (zeroInt _) w.heap.size l.length D rfl HDA.out.1 _ _ rfl hkey ?_); intro c hat hwc; obtain rfl : c = (q : Int) := (by rw [HLM.out] at hat; cases hat; rfl); clear hat hwc)
              have x0 : (wr.alloc (.cells #[.string l[m].1, .string l[m].2] 72)).cell? ⟨wr.heap.size, 0, none⟩ = some (.string l[m].1) := cell_of_row _ _ 0 _ _ _ (heap_alloc_new wr _)
              have x1 : (wr.alloc (.cells #[.string l[m].1, .string l[m].2] 72)).cell? ⟨wr.heap.size, 1, none⟩ = some (.string l[m].2) := cell_of_row _ _ 1 _ _ _ (heap_alloc_new wr _)
              have hlt3 : wr.heap.size < (wr.alloc (.cells #[.string l[m].1, .string l[m].2] 72)).heap.size := by rw [alloc_size]; omega
              generalize wr.alloc (.cells #[.string l[m].1, .string l[m].2] 72) = W3 at *
              go_region_held3 (fun w' => w'.cell? ⟨wr.heap.size, 0, none⟩ = some (.string l[m].1) ∧ w'.cell? ⟨wr.heap.size, 1, none⟩ = some (.string l[m].2)) (go_keep)
                ((first
                  | (go_at_call 79; refine (HD.out _ _ hks).mono ?_; rintro e w3 ⟨rfl, b3⟩; have HB3 : Hid (Below (w.heap.size + 1) W2 w3) := HBA.out.trans (Below.mono ⟨b3.os, b3.tape, b3.output, b3.size, b3.block⟩ (Nat.le_trans HBS.out HBA.out.size)); have HO3 : Hid (POwn w3 (w.heap.size + 1) (.slice av tm.length cv) tm) := pown_frame HPW.out (fun g hg => b3.block g (pown_lt HPW.out g hg).2); have z0 := (b3.cell (p := ⟨wr.heap.size, 0, none⟩) hlt3).trans x0; have z1 := (b3.cell (p := ⟨wr.heap.size, 1, none⟩) hlt3).trans x1; have hne3 : wr.heap.size ≠ w3.heap.size := Nat.ne_of_lt (Nat.lt_of_lt_of_le hlt3 b3.size); have hlt4 : wr.heap.size < w3.heap.size := Nat.lt_of_lt_of_le hlt3 b3.size; clear b3)
                  | (go_loud (refine step_push_pair rfl (.tmp 40) (.tmp 47) rfl (digB l[m]) _ rfl rfl rfl HO3.out HB3.out HBS.out HLE.out ?_); intro v' w' ho' hb' hk'; have HO' := hid ho'; have HB' := hid hb'; have y0 := (cellB (off := 0) (hk' wr.heap.size (Nat.lt_of_le_of_ne (Nat.le_of_lt hlt4) hne3) HOB.out)).trans z0; have y1 := (cellB (off := 1) (hk' wr.heap.size (Nat.lt_of_le_of_ne (Nat.le_of_lt hlt4) hne3) HOB.out)).trans z1; clear ho' hb' hk')))
              all_goals go_wp2_with fail
              all_goals exact ⟨⟨m + 1, by go_num, by omega, by rw [HTS2.out]; exact HO'.out, HB'.out⟩, by simp [intOf]; omega⟩
          · have HNO : Hid (¬ counts l l[m] m) := fun h => hqm (by rw [hq]; exact (HCT.out.1 h).1)
            have hqm' : ¬ (q : Int) = (m : Int) := by omega
            clear hq hqm
            go_wp2_with (at_lookup; go_loud (refine wpList_lookup_own_int _ rfl _ _ 146 rfl 9 3 .i64 lawText Try.underlying146 Try.underlying3 (zeroInt _) w.heap.size l.length D rfl HDA.out.1 _ _ rfl hkey ?_); intro c hat hwc; obtain rfl : c = (q : Int) := (by rw [HLM.out] at hat; cases hat; rfl); clear hat hwc)
            exact HSKIP.out HNO.out
        · have i3 : ¬ (m : Int) < (l.length : Int) := by omega
          obtain rfl : m = l.length := by omega
          go_wp2_with fail
          go_ret
          exact ⟨_, rfl, owns_base HV.out.1 (Nat.le_succ _), HDB.out.trans (HV.out.2.mono (Nat.le_succ _))⟩
end Go.Proofs.Ytbmohenjphmlgaa

/- The walk of pick (of the statements): which of n things a raw number speaks of. -/
namespace Go.Proofs.Ytbmohenjphmlgaa
open Go.RowKit
set_option maxRecDepth 100000

theorem pick_any (c n : Int) (w : World) (hn : 0 < n) (h1 : -9223372036854775808 ≤ c) (h2 : c ≤ 9223372036854775807) (hn2 : n ≤ 9223372036854775807) : Calls Try.prog 40 #[.int .i64 c, .int .i64 n] w fun e w' => (∃ m : Int, e = .returned (.int .i64 m) ∧ 0 ≤ m ∧ m < n) ∧ w' = w := by
  have hn0 : ¬ n = 0 := by omega
  by_cases hc : c < 0
  · go_enter Try.func40, Try.ntmps40
    go_wp2_with fail
    go_ret
    refine ⟨⟨_, rfl, ?_, ?_⟩, rfl⟩
    · rw [← Int.neg_tmod, Int.tmod_eq_emod_of_nonneg (by omega)]; exact Int.emod_nonneg _ (by omega)
    · rw [← Int.neg_tmod, Int.tmod_eq_emod_of_nonneg (by omega)]; exact Int.emod_lt_of_pos _ hn
  · go_enter Try.func40, Try.ntmps40
    go_wp2_with fail
    go_ret
    refine ⟨⟨_, rfl, ?_, ?_⟩, rfl⟩
    · exact Int.emod_nonneg _ (by omega)
    · exact Int.emod_lt_of_pos _ hn

end Go.Proofs.Ytbmohenjphmlgaa

/- Rows of pairs, as the statements make them; the walks of short, value, table (of the statements). -/
namespace Go.Proofs.Ytbmohenjphmlgaa
open Go.RowKit
set_option maxRecDepth 100000

theorem infoApiPair : (Try.prog.info? 72).map (fun i => (i.zero, i.size, i.bytes)) = some (some (.agg #[.string ⟨#[]⟩, .string ⟨#[]⟩]), 2, 32) := by kernel_rfl

def AOwn (w : World) (base : Nat) (v : Value) (l : List (ByteArray × ByteArray)) : Prop := w.ownsRow base 72 2 v l.length (pcells l)

theorem aown_nil (w : World) (base : Nat) : AOwn w base (.slice none 0 0) [] := World.ownsRow_nil _ _ _ _
theorem aown_shape {w : World} {base : Nat} {v : Value} {l : List (ByteArray × ByteArray)} (h : AOwn w base v l) : ∃ a cap, v = .slice a l.length cap ∧ l.length ≤ cap := by
  rcases h.2 with ⟨rfl, h0⟩ | ⟨g, cap, cur, rfl, _, _, hn, _⟩
  · exact ⟨none, 0, by rw [h0], by omega⟩
  · exact ⟨_, cap, rfl, hn⟩
theorem aown_frame {w w' : World} {b : Nat} {v : Value} {l : List (ByteArray × ByteArray)} (h : AOwn w b v l) (hg : ∀ g, v.ownBlock = some g → w'.heap[g]? = w.heap[g]?) : AOwn w' b v l := owns_frame h hg
theorem aown_lt {w : World} {b : Nat} {v : Value} {l : List (ByteArray × ByteArray)} (h : AOwn w b v l) : ∀ g, v.ownBlock = some g → b ≤ g ∧ g < w.heap.size := World.ownsRow.lt h
theorem aown_later {w w' : World} {b : Nat} {v : Value} {l : List (ByteArray × ByteArray)} (h : AOwn w b v l) (hb : Below w.heap.size w w') : AOwn w' b v l := aown_frame h fun g hg => hb.block g (aown_lt h g hg).2

theorem aown_rd {w : World} {base : Nat} {a : Option Addr} {n cap : Nat} {l : List (ByteArray × ByteArray)} (h : AOwn w base (.slice a n cap) l) : PRd w.heap.size w a l := by
  intro i hi
  rcases h.2 with ⟨_, h0⟩ | ⟨g, cap', cur, hv, hbg, hg, _⟩
  · omega
  · have hlt := (Array.getElem?_eq_some_iff.1 hg).1
    simp only [Value.slice.injEq] at hv
    obtain ⟨rfl, _, _⟩ := hv
    have hc := World.ownsRow.cells (g := g) h rfl
    have e := pcells_at l i hi
    have a0 : ((⟨g, 0, none⟩ : Addr).add (i * 2)) = ⟨g, 0 + i * 2, none⟩ := by unfold Addr.add; split <;> simp_all
    have a1 : ((⟨g, 0, none⟩ : Addr).add (i * 2 + 1)) = ⟨g, 0 + i * 2 + 1, none⟩ := by unfold Addr.add; split <;> simp_all <;> omega
    exact ⟨g, 0, rfl, hlt, a0 ▸ hc _ _ e.1, a1 ▸ hc _ _ e.2⟩

/-- A pair that was just laid is appended to a row of the call's own: for a walk. -/
theorem wpList_push_apair {ops : Array Oper} {rest : List Oper} {o : Oper} {act : Act} {Q' : Exit → Act → World → Prop} (hgd : o.guard = none) (s x : Operand)
    (hop : o.op = .call { callee := .builtin .append, args := #[s, x], argTypes := #[47, 47] }) {W w0 wr : World} {B : Nat} {v1 : Value} {l1 : List (ByteArray × ByteArray)} (p : ByteArray × ByteArray) (L : Nat) (hL : wr.heap.size = L)
    (hs : act.eval s = v1) (hx : act.eval x = .slice (some ⟨L, 0, none⟩) 1 1) (ho : AOwn w0 B v1 l1) (hw : Below w0.heap.size w0 wr) (hb : Below B W w0) (hB : B ≤ W.heap.size) (hlen : l1.length ≤ 1000000)
    (h : ∀ v' w', AOwn w' B v' (l1 ++ [p]) → Below B W w' → wpList Try.prog ops Q' rest (act.put o.dst v') w') : wpList Try.prog ops Q' (o :: rest) act (wr.alloc (.cells #[.string p.1, .string p.2] 72)) := by
  subst hL
  obtain ⟨i0, hi, hz0, hz1, hz2⟩ := info_parts infoApiPair
  have hb1 : Below B W wr := hb.trans (hw.mono (Nat.le_trans hB hb.size))
  have hb2 : Below B W (wr.alloc (.cells #[.string p.1, .string p.2] 72)) := hb1.alloc (Nat.le_trans hB hb1.size) _
  have hBw : B ≤ (wr.alloc (.cells #[.string p.1, .string p.2] 72)).heap.size := Nat.le_trans hB hb2.size
  have ho2 : AOwn (wr.alloc (.cells #[.string p.1, .string p.2] 72)) B v1 l1 := aown_frame ho (fun g hg => by
    rw [Below.heap_alloc _ _ _ (Nat.lt_of_lt_of_le (aown_lt ho g hg).2 hw.size)]
    exact hw.block g (aown_lt ho g hg).2)
  refine wpList_append_mine _ hgd s x 47 hop B 72 i0 _ 2 32 Try.underlying47 hi hz0 hz1 hz2 rfl (by decide) v1 l1.length (pcells l1) hs ho2 ⟨wr.heap.size, 0, none⟩ 1 1 [.string p.1, .string p.2] hx rfl (cells_two _ _ _ _) (by simp [Value.oneCell']) (by unfold maxLen; omega) (by omega) hBw ?_
  intro v' w' ho' hg _
  refine h v' w' ?_ (hb2.grown hg hBw (fun g hgg => (aown_lt ho g hgg).1))
  unfold AOwn
  rw [List.length_append, pcells_snoc]
  exact ho'

/-- A pair that was just laid is appended to a row of the call's own: at a step of a region that draws. -/
theorem step_push_apair {ops : Array Oper} {o : Oper} {act : Act} {K : Act → World → Prop} {Q' : Exit → Act → World → Prop} {E : Prop} (hgd : o.guard = none) (s x : Operand)
    (hop : o.op = .call { callee := .builtin .append, args := #[s, x], argTypes := #[47, 47] }) {W wr : World} {B : Nat} {v1 : Value} {l1 : List (ByteArray × ByteArray)} (p : ByteArray × ByteArray) (L : Nat) (hL : wr.heap.size = L)
    (hs : act.eval s = v1) (hx : act.eval x = .slice (some ⟨L, 0, none⟩) 1 1) (ho : AOwn wr B v1 l1) (hb : Below B W wr) (hB : B ≤ W.heap.size) (hlen : l1.length ≤ 1000000)
    (h : ∀ v' w', AOwn w' B v' (l1 ++ [p]) → Below B W w' → (∀ k, k < wr.heap.size → v1.ownBlock ≠ some k → w'.heap[k]? = wr.heap[k]?) → K (act.put o.dst v') w') : if Region.wanted o (yielded ops act.tmps) = true then Oper.wp Try.prog o act (wr.alloc (.cells #[.string p.1, .string p.2] 72)) K Q' else E := by
  subst hL
  have hw : Region.wanted o (yielded ops act.tmps) = true := by simp [Region.wanted, hgd]
  rw [if_pos hw]
  obtain ⟨i0, hi, hz0, hz1, hz2⟩ := info_parts infoApiPair
  have hb2 : Below B W (wr.alloc (.cells #[.string p.1, .string p.2] 72)) := hb.alloc (Nat.le_trans hB hb.size) _
  have hBw : B ≤ (wr.alloc (.cells #[.string p.1, .string p.2] 72)).heap.size := Nat.le_trans hB hb2.size
  have ho2 : AOwn (wr.alloc (.cells #[.string p.1, .string p.2] 72)) B v1 l1 := aown_frame ho (fun g hg => Below.heap_alloc _ _ _ (aown_lt ho g hg).2)
  obtain ⟨v', w', hr, h2, h3, _⟩ := run_append_mine (P := Try.prog) _ B 47 o.type 72 i0 _ 2 32 Try.underlying47 hi hz0 hz1 hz2 rfl (by decide) v1 l1.length (pcells l1) ho2 ⟨wr.heap.size, 0, none⟩ 1 1 [.string p.1, .string p.2] rfl (cells_two _ _ _ _) (by simp [Value.oneCell']) (by unfold maxLen; omega) (by omega) hBw
  unfold Oper.wp execOp
  simp only [hop, resolve, invoke, builtin, Sem.run_bind, Sem.run_pure, Result.andThen_ok, List.map_toArray, List.map_cons, List.map_nil, hs, hx, hr]
  refine h v' w' ?_ (hb2.grown h3 hBw (fun g hgg => (aown_lt ho g hgg).1)) (fun k hk hne => (h3.block k (by rw [alloc_size]; omega) (fun e => hne e.symm)).trans (Below.heap_alloc _ _ _ hk))
  unfold AOwn
  rw [List.length_append, pcells_snoc]
  exact h2


theorem pcells_one (l : List (ByteArray × ByteArray)) : ∀ u ∈ pcells l, u.oneCell' = true := by
  intro u hu
  unfold pcells at hu
  rw [List.mem_flatMap] at hu
  obtain ⟨p, _, hp⟩ := hu
  rcases List.mem_cons.1 hp with rfl | hp
  · rfl
  · rcases List.mem_cons.1 hp with rfl | hp
    · rfl
    · cases hp

theorem prd_cells {w : World} {l : List (ByteArray × ByteArray)} {B : Nat} {p : Addr} (h : PRd B w (some p) l) : ∀ j u, (pcells l)[j]? = some u → w.cell? (p.add j) = some u := by
  intro j u hu
  have hj : j < l.length * 2 := by rw [← pcells_len]; exact (List.getElem?_eq_some_iff.1 hu).1
  have hi : j / 2 < l.length := by omega
  obtain ⟨b, off, e, _, c0, c1⟩ := h (j / 2) hi
  cases e
  have hadd : (⟨b, off, none⟩ : Addr).add j = ⟨b, off + j, none⟩ := by unfold Addr.add; split <;> simp_all
  have e2 := pcells_at l (j / 2) hi
  rw [hadd]
  rcases Nat.mod_two_eq_zero_or_one j with h0 | h0
  · rw [show j = j / 2 * 2 by omega] at hu ⊢
    rw [e2.1] at hu; cases hu; exact c0
  · rw [show j = j / 2 * 2 + 1 by omega] at hu ⊢
    rw [e2.2] at hu; cases hu; exact c1

/-- Pairs that can be read are appended to a row of the call's own: for a walk. -/
theorem wpList_append_apairs {ops : Array Oper} {rest : List Oper} {o : Oper} {act : Act} {Q : Exit → Act → World → Prop} (w : World) (hgd : o.guard = none) (s x : Operand)
    (hop : o.op = .call { callee := .builtin .append, args := #[s, x], argTypes := #[47, 47] })
    (base B : Nat) (v1 : Value) (a2 : Option Addr) (c2 : Nat) (l1 l2 : List (ByteArray × ByteArray)) (hs : act.eval s = v1) (hx : act.eval x = .slice a2 l2.length c2) (h1 : AOwn w base v1 l1) (h2 : PRd B w a2 l2) (hn : a2 = none → l2.length = 0 ∧ c2 = 0) (hlen : l1.length + l2.length ≤ 1000000) (hbase : base ≤ w.heap.size)
    (h : ∀ v' w', AOwn w' base v' (l1 ++ l2) → w.grownBy w' v1.ownBlock → Newer w v1 v' → wpList Try.prog ops Q rest (act.put o.dst v') w') :
    wpList Try.prog ops Q (o :: rest) act w := by
  obtain ⟨i0, hi, hz0, hz1, hz2⟩ := info_parts infoApiPair
  cases a2 with
  | none =>
    obtain ⟨e1, e2⟩ := hn rfl
    obtain rfl : l2 = [] := List.eq_nil_of_length_eq_zero e1
    subst e2
    refine wpList_plain hgd fun K hK => ?_
    have hr := run_append_owned_none (P := Try.prog) w base 47 o.type 72 i0 2 Try.underlying47 hi v1 _ _ h1
    unfold Oper.wp execOp
    simp only [hop, resolve, invoke, builtin, Sem.run_bind, Sem.run_pure, Result.andThen_ok, List.map_toArray, List.map_cons, List.map_nil, hs, hx, List.length_nil, hr]
    exact hK _ _ (h v1 w (by rw [List.append_nil]; exact h1) (World.grownBy.refl _ _) (.inl rfl))
  | some p =>
    refine wpList_append_mine w hgd s x 47 hop base 72 i0 _ 2 32 Try.underlying47 hi hz0 hz1 hz2 rfl (by decide) v1 l1.length (pcells l1) hs h1 p l2.length c2 (pcells l2) hx (pcells_len l2) (prd_cells h2) (pcells_one l2) (by unfold maxLen; omega) (by omega) hbase ?_
    intro v' w' ho hg hn
    refine h v' w' ?_ hg hn
    unfold AOwn
    rw [List.length_append, show pcells (l1 ++ l2) = pcells l1 ++ pcells l2 by simp [pcells]]
    exact ho

/-- At most n bytes of a text. -/
def shortB (s : ByteArray) (n : Nat) : ByteArray := if n < s.size then s.extract 0 n else s

theorem shortB_size (s : ByteArray) (n : Nat) : (shortB s n).size ≤ n := by
  unfold shortB
  split
  · rw [ByteArray.size_extract]; omega
  · omega

theorem shortG_any (s : ByteArray) (n : Nat) (w : World) (hn : n ≤ 100000) : Calls Try.prog 36 #[.string s, .int .i64 n] w fun e w' => e = .returned (.string (shortB s n)) ∧ w' = w := by
  unfold shortB
  by_cases h : n < s.size
  · have h' : (n : Int) < (s.size : Int) := by omega
    rw [if_pos h]
    go_enter Try.func36, Try.ntmps36
    go_wp2_with fail
    go_ret
    exact ⟨by simp, rfl⟩
  · have h' : ¬ (n : Int) < (s.size : Int) := by omega
    rw [if_neg h]
    go_enter Try.func36, Try.ntmps36
    go_wp2_with fail
    go_ret
    exact ⟨rfl, rfl⟩

/-- What pairs have for a key. -/
def valB (l : List (ByteArray × ByteArray)) (key : ByteArray) : ByteArray := l.foldl (fun v p => if p.1 = key then p.2 else v) ⟨#[]⟩

theorem valB_take (l : List (ByteArray × ByteArray)) (key : ByteArray) (k : Nat) (h : k < l.length) : valB (l.take (k + 1)) key = if l[k].1 = key then l[k].2 else valB (l.take k) key := by
  unfold valB
  rw [List.take_succ_eq_append_getElem h, List.foldl_append]
  rfl

theorem bytes_no {a b : ByteArray} (h : a ≠ b) : (a.toList == b.toList) = false := by
  rw [beq_eq_false_iff_ne]
  intro e
  apply h
  rw [ByteArray.toList_eq, ByteArray.toList_eq] at e
  cases a; cases b
  simp only [Array.toList_inj] at e
  rw [e]

theorem value_any (a : Option Addr) (cap : Nat) (l : List (ByteArray × ByteArray)) (key : ByteArray) (w : World) (hr : PRd w.heap.size w a l) (hl : l.length ≤ 1000000) : Calls Try.prog 39 #[.slice a l.length cap, .string key] w fun e w' => e = .returned (.string (valB l key)) ∧ w' = w := by
  have HR := hid hr
  clear hr
  go_enter Try.func39, Try.ntmps39
  go_wp2_with fail
  go_loopw [5, 6] (fun v i wr => ∃ k : Nat, v = .string (valB (l.take k) key) ∧ i = .int .i64 k ∧ k ≤ l.length ∧ wr = w) (fun _ i _ => l.length - (intOf i).toNat)
  case atStart => exact ⟨0, rfl, rfl, Nat.zero_le _, rfl⟩
  case round =>
    obtain ⟨k, rfl, rfl, hk, rfl⟩ := hrel
    by_cases hlt : k < l.length
    · obtain ⟨b, off, rfl, hb, e0, e1⟩ := HR.out k hlt
      have i1 : (0 : Int) ≤ (k : Int) := by omega
      have i2 : (k : Int) < (l.length : Int) := by omega
      have HVT := hid (valB_take l key k hlt)
      generalize valB (l.take k) key = vk at *
      by_cases he : l[k].1 = key
      · have HX : Hid (valB (l.take (k + 1)) key = l[k].2) := by rw [Hid, HVT.out, if_pos he]
        have he' : (l[k].1.toList == key.toList) = true := by rw [he]; exact beq_self_eq_true _
        clear he
        go_wp2_with fail
        exact ⟨⟨k + 1, by rw [HX.out], by go_num, by omega, trivial⟩, by simp [intOf]; omega⟩
      · have HX : Hid (valB (l.take (k + 1)) key = vk) := by rw [Hid, HVT.out, if_neg he]
        have he' := bytes_no he
        clear he
        go_wp2_with fail
        exact ⟨⟨k + 1, by rw [HX.out], by go_num, by omega, trivial⟩, by simp [intOf]; omega⟩
    · have i2 : ¬ (k : Int) < (l.length : Int) := by omega
      have HK : Hid (valB (l.take k) key = valB l key) := by rw [Hid, List.take_of_length_le (by omega)]
      rw [HK.out]
      go_wp2_with fail
      go_ret
      exact ⟨rfl, rfl⟩

end Go.Proofs.Ytbmohenjphmlgaa
