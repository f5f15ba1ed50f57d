/- The walk of tableOf (of the program). -/
import Derived.Test.YtbmohenjphmlgaaPrTab
import Derived.Deep.RegionHeld3
namespace Go.Proofs.Ytbmohenjphmlgaa
open Go.RowKit Go.Maps
set_option maxRecDepth 100000

theorem lawText : Keyed Try.prog 9 := string_keyed Try.underlying9
theorem zeroInt (w : World) : (zeroValue 3).run Try.prog w = .ok (.int .i64 0) w := by kernel_rfl

/-- The map of last places. -/
def LastMap (w : World) (b : Nat) (l : List (ByteArray × ByteArray)) (k : Nat) (D : DataW Unit) : Prop :=
  w.ownsMap Try.prog 9 (plainElem Try.prog 3) b k D ∧ ∀ key : List UInt8, D.atKey (.string key) (.lit (.int .i64 0)) = .lit (.int .i64 (lastAt l key k : Nat))

theorem lastMap_start (w : World) (l : List (ByteArray × ByteArray)) : LastMap (w.alloc (.map #[] 0)) w.heap.size l 0 (.map []) := ⟨World.ownsMap_made _ _ _ _, fun _ => rfl⟩

theorem lastMap_next {w w' : World} {b : Nat} {l : List (ByteArray × ByteArray)} {k : Nat} {D : DataW Unit} (h : LastMap w b l k D) (hk : k < l.length) (ho : w'.ownsMap Try.prog 9 (plainElem Try.prog 3) b (k + 1) (D.put (.string l[k].1.data.toList) (.lit (.int .i64 k)))) : LastMap w' b l (k + 1) (D.put (.string l[k].1.data.toList) (.lit (.int .i64 k))) := by
  refine ⟨ho, fun key => ?_⟩
  unfold lastAt
  rw [List.getElem?_eq_getElem hk]
  by_cases hkey : l[k].1.data.toList = key
  · subst hkey
    rw [atKey_put_same (k := .string l[k].1.data.toList) h.1.isMap trivial, if_pos (show Option.map (fun p : ByteArray × ByteArray => p.1.data.toList) (some l[k]) = some l[k].1.data.toList from rfl)]
  · rw [atKey_put_other (fun e => hkey (by cases e; rfl)), if_neg (fun e => hkey (by simpa using e))]
    exact h.2 key

theorem lastMap_kept {w w' : World} {b : Nat} {l : List (ByteArray × ByteArray)} {k : Nat} {D : DataW Unit} (h : LastMap w b l k D) (hb : w'.heap[b]? = w.heap[b]?) : LastMap w' b l k D := by
  obtain ⟨⟨es, clock, h1, h2⟩, h3⟩ := h
  exact ⟨⟨es, clock, hb.trans h1, h2⟩, h3⟩

/-- A pair that was just laid is appended to a row of the call's own: at a step of a region that draws. -/
theorem step_push_pair {ops : Array Oper} {o : Oper} {act : Act} {K : Act → World → Prop} {Q' : Exit → Act → World → Prop} {E : Prop} (hgd : o.guard = none) (s x : Operand)
    (hop : o.op = .call { callee := .builtin .append, args := #[s, x], argTypes := #[111, 111] }) {W wr : World} {B : Nat} {v1 : Value} {l1 : List (ByteArray × ByteArray)} (p : ByteArray × ByteArray) (L : Nat) (hL : wr.heap.size = L)
    (hs : act.eval s = v1) (hx : act.eval x = .slice (some ⟨L, 0, none⟩) 1 1) (ho : POwn wr B v1 l1) (hb : Below B W wr) (hB : B ≤ W.heap.size) (hlen : l1.length ≤ 1000000)
    (h : ∀ v' w', POwn w' B v' (l1 ++ [p]) → Below B W w' → (∀ k, k < wr.heap.size → v1.ownBlock ≠ some k → w'.heap[k]? = wr.heap[k]?) → K (act.put o.dst v') w') : if Region.wanted o (yielded ops act.tmps) = true then Oper.wp Try.prog o act (wr.alloc (.cells #[.string p.1, .string p.2] 133)) K Q' else E := by
  subst hL
  have hw : Region.wanted o (yielded ops act.tmps) = true := by simp [Region.wanted, hgd]
  rw [if_pos hw]
  obtain ⟨i0, hi, hz0, hz1, hz2⟩ := info_parts infoPair
  have hb2 : Below B W (wr.alloc (.cells #[.string p.1, .string p.2] 133)) := hb.alloc (Nat.le_trans hB hb.size) _
  have hBw : B ≤ (wr.alloc (.cells #[.string p.1, .string p.2] 133)).heap.size := Nat.le_trans hB hb2.size
  have ho2 : POwn (wr.alloc (.cells #[.string p.1, .string p.2] 133)) B v1 l1 := pown_frame ho (fun g hg => Below.heap_alloc _ _ _ (pown_lt ho g hg).2)
  obtain ⟨v', w', hr, h2, h3, _⟩ := run_append_mine (P := Try.prog) _ B 111 o.type 133 i0 _ 2 32 Try.underlying111 hi hz0 hz1 hz2 rfl (by decide) v1 l1.length (pcells l1) ho2 ⟨wr.heap.size, 0, none⟩ 1 1 [.string p.1, .string p.2] rfl (cells_two _ _ _ _) (by simp [Value.oneCell']) (by unfold maxLen; omega) (by omega) hBw
  unfold Oper.wp execOp
  simp only [hop, resolve, invoke, builtin, Sem.run_bind, Sem.run_pure, Result.andThen_ok, List.map_toArray, List.map_cons, List.map_nil, hs, hx, hr]
  refine h v' w' ?_ (hb2.grown h3 hBw (fun g hgg => (pown_lt ho g hgg).1)) (fun k hk hne => (h3.block k (by rw [alloc_size]; omega) (fun e => hne e.symm)).trans (Below.heap_alloc _ _ _ hk))
  unfold POwn
  rw [List.length_append, pcells_snoc]
  exact h2

theorem tabTo_le (l : List (ByteArray × ByteArray)) (k : Nat) : (tabTo l k).length ≤ k := by
  unfold tabTo
  have := List.length_filterMap_le (fun i => match l[i]? with | some p => if counts l p i then some (digB p) else none | none => none) (List.range k)
  rwa [List.length_range] at this

theorem cellB {w w' : World} {b off : Nat} (h : w'.heap[b]? = w.heap[b]?) : w'.cell? ⟨b, off, none⟩ = w.cell? ⟨b, off, none⟩ := World.cell?_of_block (w := w) h

set_option maxHeartbeats 3200000 in
theorem tableOf_any (a : Option Addr) (cap : Nat) (l : List (ByteArray × ByteArray)) (w : World) (hr : PRd w.heap.size w a l) (hl : l.length ≤ 1000) (hz : ∀ p ∈ l, p.1.size ≤ 1000) : Calls Try.prog 74 #[.slice a l.length cap] w fun e w' => ∃ v, e = .returned v ∧ POwn w' w.heap.size v (tabTo l l.length) ∧ Below w.heap.size w w' := by
  have HR := hid hr
  have HZ := hid hz
  have HD := hid (fun s w h => digitsOf_any s w h)
  have hmm := @run_makeMap Try.prog
  have HM0 := hid (lastMap_start w l)
  clear hr hz
  go_enter Try.func74, Try.ntmps74
  go_wp2_with fail
  go_loopw [5, 12] (fun _ i wr => ∃ k : Nat, i = .int .i64 k ∧ k ≤ l.length ∧ Hid (∃ D, LastMap wr w.heap.size l k D ∧ Below w.heap.size w wr)) (fun _ i _ => l.length - (intOf i).toNat)
  case atStart => exact ⟨0, rfl, Nat.zero_le _, _, HM0.out, (Below.refl _ _).alloc (Nat.le_refl _) _⟩
  case round =>
    obtain ⟨k, rfl, hk, HH⟩ := hrel
    by_cases hlt : k < l.length
    · obtain ⟨b, off, rfl, hb, e0, e1⟩ := HR.out k hlt
      obtain ⟨D, hD, hB⟩ := HH.out
      have f0 := (hB.cell (p := ⟨b, off + k * 2, none⟩) hb).trans e0
      have f1 := (hB.cell (p := ⟨b, off + k * 2 + 1, none⟩) hb).trans e1
      have i1 : (0 : Int) ≤ (k : Int) := by omega
      have i2 : (k : Int) < (l.length : Int) := by omega
      have HDM := hid hD
      have HDB := hid hB
      have HDA := hid (lastMap_kept (w' := wr.alloc (.cells #[.string l[k].1, .string l[k].2] 72)) hD (Below.heap_alloc _ _ _ hD.1.lt))
      have hkey : keyOf Try.prog 9 (.string l[k].1) = some (.string l[k].1.data.toList) := Go.WideMaps.keyOf_string_mk Try.underlying9 (by have := HZ.out _ (List.getElem_mem hlt); unfold maxLen; omega)
      clear e0 e1 hD hB HH
      go_wp2_with (at_mapUpdate; go_loud (refine wpList_mapUpdate_own _ rfl _ _ _ 146 rfl 9 3 lawText Try.underlying146 _ w.heap.size k _ rfl HDA.out.1 (by unfold maxLen; omega) _ _ _ rfl rfl hkey _ [] (plainElem_int Try.underlying3 (WalkArith.wf_i64 (by omega))) ?_); intro w1 hown1 hgrow1; have HO1 := hid hown1; have HG1 := hid hgrow1; clear hown1 hgrow1)
      exact ⟨⟨k + 1, by go_num, by omega, _, lastMap_next HDM.out hlt HO1.out, (HDB.out.alloc HDB.out.size _).grown HG1.out (by have := HDB.out.size; rw [alloc_size]; omega) (fun j hj => by cases hj; exact Nat.le_refl _)⟩, by simp [intOf]; omega⟩
    · have i2 : ¬ (k : Int) < (l.length : Int) := by omega
      obtain rfl : k = l.length := by omega
      obtain ⟨D, hD, hB⟩ := HH.out
      have HDM := hid hD
      have HDB := hid hB
      have HBS : Hid (w.heap.size + 1 ≤ wr.heap.size) := hD.1.lt
      clear hD hB HH hlt hk
      generalize wr = W2 at *
      go_wp2_with fail
      go_loopw [6, 8, 24] (fun v _ i wx => ∃ m : Nat, i = .int .i64 m ∧ m ≤ l.length ∧ Hid (POwn wx (w.heap.size + 1) v (tabTo l m) ∧ Below (w.heap.size + 1) W2 wx)) (fun _ _ i _ => l.length - (intOf i).toNat)
      case atStart => exact ⟨0, rfl, Nat.zero_le _, pown_nil _ _, Below.refl _ _⟩
      case round =>
        obtain ⟨m, rfl, hm, HV⟩ := hrel
        obtain ⟨av, cv, hv⟩ := pown_shape HV.out.1
        subst hv
        by_cases hlt : m < l.length
        · obtain ⟨b, off, rfl, hb, e0, e1⟩ := HR.out m hlt
          have HBW : Hid (Below w.heap.size w wr) := HDB.out.trans (HV.out.2.mono (Nat.le_succ _))
          have f0 := (HBW.out.cell (p := ⟨b, off + m * 2, none⟩) hb).trans e0
          have f1 := (HBW.out.cell (p := ⟨b, off + m * 2 + 1, none⟩) hb).trans e1
          have i1 : (0 : Int) ≤ (m : Int) := by omega
          have i3 : (m : Int) < (l.length : Int) := by omega
          have hkey : keyOf Try.prog 9 (.string l[m].1) = some (.string l[m].1.data.toList) := Go.WideMaps.keyOf_string_mk Try.underlying9 (by have := HZ.out _ (List.getElem_mem hlt); unfold maxLen; omega)
          have HDA : Hid (LastMap (wr.alloc (.cells #[.string l[m].1, .string l[m].2] 72)) w.heap.size l l.length D) := lastMap_kept HDM.out ((Below.heap_alloc _ _ _ (by have := HV.out.2.size; have := HBS.out; omega)).trans (HV.out.2.block _ (by omega)))
          have HTS := hid (tabTo_succ hlt)
          have HCT := hid (counts_iff hlt)
          have HLE : Hid ((tabTo l m).length ≤ 1000000) := by have := tabTo_le l m; rw [Hid]; omega
          clear e0 e1
          obtain ⟨q, hq⟩ : ∃ q, q = lastAt l l[m].1.data.toList l.length := ⟨_, rfl⟩
          have HLM : Hid (D.atKey (.string l[m].1.data.toList) (.lit (.int .i64 0)) = .lit (.int .i64 (q : Nat))) := by rw [Hid, hq]; exact HDM.out.2 _
          have HSKIP : Hid (¬ counts l l[m] m → (∃ m_1 : Nat, Value.int .i64 ((m : Int) + 1) = .int .i64 m_1 ∧ m_1 ≤ l.length ∧ Hid (POwn (wr.alloc (.cells #[.string l[m].1, .string l[m].2] 72)) (w.heap.size + 1) (.slice av (tabTo l m).length cv) (tabTo l m_1) ∧ Below (w.heap.size + 1) W2 (wr.alloc (.cells #[.string l[m].1, .string l[m].2] 72)))) ∧ l.length - (intOf (.int .i64 ((m : Int) + 1))).toNat < l.length - (intOf (.int .i64 (m : Int))).toNat) := fun hno =>
            ⟨⟨m + 1, by go_num, by omega, by rw [HTS.out, if_neg hno, List.append_nil]; exact pown_frame HV.out.1 (fun g hg => Below.heap_alloc _ _ _ (pown_lt HV.out.1 g hg).2), HV.out.2.alloc (Nat.le_trans HBS.out HV.out.2.size) _⟩, by simp [intOf]; omega⟩
          by_cases hqm : q = m
          · by_cases hve : l[m].2.data.toList = []
            · have hve' : (l[m].2.toList == []) = true := by rw [ByteArray.toList_eq, hve]; rfl
              have HNO : Hid (¬ counts l l[m] m) := fun h => (HCT.out.1 h).2 hve
              have hqm' : (q : Int) = (m : Int) := by rw [hqm]
              clear hve hq hqm
              go_wp2_with (at_lookup; go_loud (refine wpList_lookup_own_int _ rfl _ _ 146 rfl 9 3 .i64 lawText Try.underlying146 Try.underlying3 (zeroInt _) w.heap.size l.length D rfl HDA.out.1 _ _ rfl hkey ?_); intro c hat hwc; obtain rfl : c = (q : Int) := (by rw [HLM.out] at hat; cases hat; rfl); clear hat hwc)
              exact HSKIP.out HNO.out
            · have hve' : (l[m].2.toList == []) = false := by rw [ByteArray.toList_eq, beq_eq_false_iff_ne]; exact hve
              have HYES : Hid (counts l l[m] m) := HCT.out.2 ⟨by rw [← hq]; exact hqm, hve⟩
              have hqm' : (q : Int) = (m : Int) := by rw [hqm]
              have hks : l[m].1.size ≤ 100000000 := by have := HZ.out _ (List.getElem_mem hlt); omega
              have HTS2 : Hid (tabTo l (m + 1) = tabTo l m ++ [digB l[m]]) := by rw [Hid, HTS.out, if_pos HYES.out]
              have HPW : Hid (POwn (wr.alloc (.cells #[.string l[m].1, .string l[m].2] 72)) (w.heap.size + 1) (.slice av (tabTo l m).length cv) (tabTo l m)) := pown_frame HV.out.1 (fun g hg => Below.heap_alloc _ _ _ (pown_lt HV.out.1 g hg).2)
              have HBA : Hid (Below (w.heap.size + 1) W2 (wr.alloc (.cells #[.string l[m].1, .string l[m].2] 72))) := HV.out.2.alloc (Nat.le_trans HBS.out HV.out.2.size) _
              have HSZ2 : Hid (w.heap.size + 1 ≤ wr.heap.size + 1) := by have := HV.out.2.size; have := HBS.out; rw [Hid]; omega
              have HOB : Hid ((Value.slice av (tabTo l m).length cv).ownBlock ≠ some wr.heap.size) := fun e => Nat.lt_irrefl _ (pown_lt HV.out.1 _ e).2
              clear hve hq hqm HSKIP HTS HCT
              generalize tabTo l m = tm at *
              go_wp2_with (at_lookup; go_loud (refine wpList_lookup_own_int _ rfl _ _ 146 rfl 9 3 .i64 lawText Try.underlying146 Try.underlying3 (zeroInt _) w.heap.size l.length D rfl HDA.out.1 _ _ rfl hkey ?_); intro c hat hwc; obtain rfl : c = (q : Int) := (by rw [HLM.out] at hat; cases hat; rfl); clear hat hwc)
              have x0 : (wr.alloc (.cells #[.string l[m].1, .string l[m].2] 72)).cell? ⟨wr.heap.size, 0, none⟩ = some (.string l[m].1) := cell_of_row _ _ 0 _ _ _ (heap_alloc_new wr _)
              have x1 : (wr.alloc (.cells #[.string l[m].1, .string l[m].2] 72)).cell? ⟨wr.heap.size, 1, none⟩ = some (.string l[m].2) := cell_of_row _ _ 1 _ _ _ (heap_alloc_new wr _)
              have hlt3 : wr.heap.size < (wr.alloc (.cells #[.string l[m].1, .string l[m].2] 72)).heap.size := by rw [alloc_size]; omega
              generalize wr.alloc (.cells #[.string l[m].1, .string l[m].2] 72) = W3 at *
              go_region_held3 (fun w' => w'.cell? ⟨wr.heap.size, 0, none⟩ = some (.string l[m].1) ∧ w'.cell? ⟨wr.heap.size, 1, none⟩ = some (.string l[m].2)) (go_keep)
                ((first
                  | (go_at_call 79; refine (HD.out _ _ hks).mono ?_; rintro e w3 ⟨rfl, b3⟩; have HB3 : Hid (Below (w.heap.size + 1) W2 w3) := HBA.out.trans (Below.mono ⟨b3.os, b3.tape, b3.output, b3.size, b3.block⟩ (Nat.le_trans HBS.out HBA.out.size)); have HO3 : Hid (POwn w3 (w.heap.size + 1) (.slice av tm.length cv) tm) := pown_frame HPW.out (fun g hg => b3.block g (pown_lt HPW.out g hg).2); have z0 := (b3.cell (p := ⟨wr.heap.size, 0, none⟩) hlt3).trans x0; have z1 := (b3.cell (p := ⟨wr.heap.size, 1, none⟩) hlt3).trans x1; have hne3 : wr.heap.size ≠ w3.heap.size := Nat.ne_of_lt (Nat.lt_of_lt_of_le hlt3 b3.size); have hlt4 : wr.heap.size < w3.heap.size := Nat.lt_of_lt_of_le hlt3 b3.size; clear b3)
                  | (go_loud (refine step_push_pair rfl (.tmp 40) (.tmp 47) rfl (digB l[m]) _ rfl rfl rfl HO3.out HB3.out HBS.out HLE.out ?_); intro v' w' ho' hb' hk'; have HO' := hid ho'; have HB' := hid hb'; have y0 := (cellB (off := 0) (hk' wr.heap.size (Nat.lt_of_le_of_ne (Nat.le_of_lt hlt4) hne3) HOB.out)).trans z0; have y1 := (cellB (off := 1) (hk' wr.heap.size (Nat.lt_of_le_of_ne (Nat.le_of_lt hlt4) hne3) HOB.out)).trans z1; clear ho' hb' hk')))
              all_goals go_wp2_with fail
              all_goals exact ⟨⟨m + 1, by go_num, by omega, by rw [HTS2.out]; exact HO'.out, HB'.out⟩, by simp [intOf]; omega⟩
          · have HNO : Hid (¬ counts l l[m] m) := fun h => hqm (by rw [hq]; exact (HCT.out.1 h).1)
            have hqm' : ¬ (q : Int) = (m : Int) := by omega
            clear hq hqm
            go_wp2_with (at_lookup; go_loud (refine wpList_lookup_own_int _ rfl _ _ 146 rfl 9 3 .i64 lawText Try.underlying146 Try.underlying3 (zeroInt _) w.heap.size l.length D rfl HDA.out.1 _ _ rfl hkey ?_); intro c hat hwc; obtain rfl : c = (q : Int) := (by rw [HLM.out] at hat; cases hat; rfl); clear hat hwc)
            exact HSKIP.out HNO.out
        · have i3 : ¬ (m : Int) < (l.length : Int) := by omega
          obtain rfl : m = l.length := by omega
          go_wp2_with fail
          go_ret
          exact ⟨_, rfl, owns_base HV.out.1 (Nat.le_succ _), HDB.out.trans (HV.out.2.mono (Nat.le_succ _))⟩
end Go.Proofs.Ytbmohenjphmlgaa
