/- Part 14 of a proof: what the last text needs. -/
import Derived.Test.YtbmohenjphmlgaaGreatPart13
import Derived.Shelf.SlMaps.Clone
import Derived.ArgAppend
import Derived.Test.YtbmohenjphmlgaaGreatPart12
import Derived.Test.YtbmohenjphmlgaaGreatPart11
/- The walks of Kept and of Add (of the program). -/
namespace Go.Proofs.YtbmohenjphmlgaaGreat
open Go.RowKit
set_option maxRecDepth 100000

theorem cloneMap_any (b : Nat) (es : Array MapEntry) (clock : Nat) (w : World) (hb : w.heap[b]? = some (.map es clock)) :
    Calls Tryz.prog 99 #[.map (some b)] w fun e w' => e = .returned (.map (some w.heap.size)) ∧ w' = w.alloc (.map es clock) := by
  have hq := fun w => run_eql_map_nil_sl (P := Tryz.prog) w 146 _ _ (some b) Tryz.underlying146
  have hc : ∀ args w, (callFunc 126 args).run Tryz.prog w = ((Extern.MapsClone.clone args).run Tryz.prog w).andThen fun v w' => .ok (.value v) w' := fun args w => run_callFunc_extern Tryz.func126 (by kernel_rfl) (by kernel_rfl) (by kernel_rfl) (e := Extern.MapsClone.clone) (by kernel_rfl) args w
  go_enter Tryz.func99, Tryz.ntmps99
  go_wp2_with fail
  rw [run_maps_clone_sl w _ hb]
  simp only [Result.andThen]
  rw [Oper.upon_value]
  go_wp2_with fail
  rw [run_typeAssert_map_sl _ 146 _ _ _ _ Tryz.underlying146]
  simp only [Result.andThen]
  rw [Oper.upon_value]
  go_wp2_with fail
  go_ret
  exact ⟨rfl, rfl⟩

theorem count_any (k2 k3 n : Nat) (f : List UInt8 → Option Value) (w : World) (h2 : w.heap[k2]? = some (.cells #[.map (some k3)] 148 (0, 0))) (h3 : MapAt Tryz.prog 9 w k3 n f) :
    Calls Tryz.prog 58 #[.pointer (some ⟨k2, 0, none⟩)] w fun e w' => e = .returned (.int .i64 n) ∧ w' = w := by
  have hl := fun ty => mapAt_len h3 Tryz.underlying146 ty
  have c0 := cell_of_row _ _ 0 _ _ _ h2
  clear h2 h3
  go_enter Tryz.func58, Tryz.ntmps58
  go_wp2_with fail
  go_ret
  exact ⟨rfl, rfl⟩

theorem kept_in (k1 k2 k3 n : Nat) (hv : Value) (f : List UInt8 → Option Value) (w : World) (h1 : w.heap[k1]? = some (.cells #[hv, .pointer (some ⟨k2, 0, none⟩)] 94 (0, 0))) (h2 : w.heap[k2]? = some (.cells #[.map (some k3)] 148 (0, 0))) (h3 : MapAt Tryz.prog 9 w k3 n f) :
    Calls Tryz.prog 33 #[.pointer (some ⟨k1, 0, none⟩)] w fun e w' => e = .returned (.int .i64 n) ∧ w' = w := by
  have HC := hid (count_any k2 k3 n f w h2 h3)
  have c0 := cell_of_row _ _ 1 _ _ _ h1
  clear h1 h2 h3
  go_enter Tryz.func33, Tryz.ntmps33
  go_wp2_with fail
  refine HC.out.mono ?_
  rintro e w1 ⟨rfl, hw⟩
  obtain rfl := hw.symm
  go_wp2_with fail
  go_ret
  exact ⟨rfl, rfl⟩

theorem kept_any (k0 k1 k2 k3 n : Nat) (hv : Value) (f : List UInt8 → Option Value) (w : World) (h0 : w.heap[k0]? = some (.cells #[.pointer (some ⟨k1, 0, none⟩)] 71 (0, 0))) (h1 : w.heap[k1]? = some (.cells #[hv, .pointer (some ⟨k2, 0, none⟩)] 94 (0, 0))) (h2 : w.heap[k2]? = some (.cells #[.map (some k3)] 148 (0, 0))) (h3 : MapAt Tryz.prog 9 w k3 n f) :
    Calls Tryz.prog 19 #[.pointer (some ⟨k0, 0, none⟩)] w fun e w' => e = .returned (.int .i64 n) ∧ w' = w := by
  have HC := hid (kept_in k1 k2 k3 n hv f w h1 h2 h3)
  have c0 := cell_of_row _ _ 0 _ _ _ h0
  clear h0 h1 h2 h3
  go_enter Tryz.func19, Tryz.ntmps19
  go_wp2_with fail
  refine HC.out.mono ?_
  rintro e w1 ⟨rfl, hw⟩
  obtain rfl := hw.symm
  go_wp2_with fail
  go_ret
  exact ⟨rfl, rfl⟩

theorem nodesAt_add {own : Nat → Prop} {C : Nat} {w : World} {T : List (List UInt8)} {F : List UInt8 → Option Value} (h : NodesAt own C w T F) {e : List UInt8} {v : Value} {t : Itm} {lo B m : Nat} (hf : F (Tr.sum e) = none) (h1 : Tr.reads e = some t) (h2 : e.length ≤ 1000) (h3 : B ≤ C) (h4 : ∀ k, own k → k < lo ∨ B ≤ k) (h5 : RN lo B w m v t) :
    NodesAt own C w (Tr.add T e) (fun x => if x = Tr.sum e then some v else F x) ∧ Tr.add T e = T ++ [e] := by
  obtain ⟨g1, g2, g3⟩ := h
  have hn : Tr.find T (Tr.sum e) = none := by
    cases hx : Tr.find T (Tr.sum e) with
    | none => rfl
    | some x =>
      obtain ⟨hm, hs⟩ := Tr.find_some hx
      obtain ⟨v', _, _, _, _, q, _⟩ := g3 x hm
      rw [hs, hf] at q
      cases q
  have he : Tr.add T e = T ++ [e] := by unfold Tr.add; rw [hn]; rfl
  refine ⟨?_, he⟩
  rw [he]
  refine ⟨g1.snoc hn, fun s hs => ?_, fun x hx => ?_⟩
  · rw [Tr.find_append] at hs
    cases hq : Tr.find T s with
    | some y => rw [hq] at hs; cases hs
    | none =>
      rw [hq, Tr.find_one] at hs
      by_cases hse : Tr.sum e = s
      · rw [if_pos hse] at hs; cases hs
      · dsimp only
        rw [if_neg (fun q => hse q.symm)]
        exact g2 s hq
  · rcases List.mem_append.1 hx with hx | hx
    · obtain ⟨v', t', lo', B', m', q1, q2⟩ := g3 x hx
      refine ⟨v', t', lo', B', m', ?_, q2⟩
      dsimp only
      rw [if_neg (Tr.find_none.1 hn x hx)]
      exact q1
    · rw [List.mem_singleton.1 hx]
      exact ⟨v, t, lo, B, m, if_pos rfl, h1, h2, h3, h4, h5⟩

theorem nodesAt_old {own : Nat → Prop} {C : Nat} {w : World} {T : List (List UInt8)} {F : List UInt8 → Option Value} (h : NodesAt own C w T F) {e : List UInt8} {v : Value} (hf : F (Tr.sum e) = some v) : Tr.add T e = T ∧ IsNode v := by
  obtain ⟨g1, g2, g3⟩ := h
  cases hx : Tr.find T (Tr.sum e) with
  | none => rw [g2 _ hx] at hf; cases hf
  | some x =>
    obtain ⟨hm, hs⟩ := Tr.find_some hx
    obtain ⟨v', t, lo, B, m, q1, q2, q3, q4, q5, q6⟩ := g3 x hm
    rw [hs, hf] at q1
    cases q1
    exact ⟨by unfold Tr.add; rw [hx]; rfl, rn_node (small_of q3 q2).1.pure q6⟩

/-- What is kept when a proof is offered, and what is answered. -/
def offerTo (S : List (List UInt8)) (root key : List UInt8) (p : List (List UInt8)) : Nat × List (List UInt8) :=
  if (Tr.verify root key p).2.2 ≠ 0 then ((Tr.verify root key p).2.2, S)
  else if 200 < (Tr.addAll S p).length then (9, S)
  else (0, Tr.addAll S p)

def AddOk (own : Nat → Prop) (k2 : Nat) (S : List (List UInt8)) (root key : ByteArray) (p : List ByteArray) (w : World) (e : Ending) (w' : World) : Prop :=
  ∃ k3' F', e = .returned (.int .i64 ((offerTo S root.data.toList key.data.toList (bl p)).1 : Int)) ∧ w'.heap[k2]? = some (.cells #[.map (some k3')] 148 (0, 0)) ∧ StoreAt own w' k3' (offerTo S root.data.toList key.data.toList (bl p)).2 F' ∧ Turns (fun k => k = k2) w w'

/-- What holds while the nodes of a proof are added to a copy of the map. -/
def AddAt (own : Nat → Prop) (W : World) (S : List (List UInt8)) (p : List ByteArray) (k : Nat) (wr : World) : Prop :=
  Below W.heap.size W wr ∧ ∃ F, MapAt Tryz.prog 9 wr W.heap.size (Tr.addAll S (bl (p.take k))).length F ∧ NodesAt own W.heap.size W (Tr.addAll S (bl (p.take k))) F

theorem bl_append (p q : List ByteArray) : bl (p ++ q) = bl p ++ bl q := by simp [bl]

theorem addAt_end {own : Nat → Prop} {W wr : World} {S : List (List UInt8)} {p : List ByteArray} (hn : ∀ k, own k → k < W.heap.size) (h : AddAt own W S p p.length wr) : ∃ F, StoreAt own wr W.heap.size (Tr.addAll S (bl p)) F := by
  obtain ⟨hb, F, h1, h2⟩ := h
  rw [List.take_length] at h1 h2
  exact ⟨F, h1, fun ho => Nat.lt_irrefl _ (hn _ ho), nodesAt_turns h2 hb.size (fun k hk _ => hb.block k hk)⟩

set_option maxHeartbeats 3200000 in
theorem add_any {own : Nat → Prop} (k2 k3 : Nat) (S : List (List UInt8)) (F : List UInt8 → Option Value) (root key : ByteArray) (a : Option Addr) (cap : Nat) (p : List ByteArray) (w : World) (hS : S.length ≤ 1000) (h2 : w.heap[k2]? = some (.cells #[.map (some k3)] 148 (0, 0))) (h3 : StoreAt own w k3 S F) (hn : ∀ k, own k → k < w.heap.size) (hk2 : own k2) (hr : SRd w.heap.size w a p) :
    Calls Tryz.prog 57 #[.pointer (some ⟨k2, 0, none⟩), .string root, .string key, .slice a p.length cap] w (AddOk own k2 S root key p w) := by
  have HC := hid (check_any root key a cap p w hr)
  have H2 := hid h2
  have H3 := hid h3
  have HN := hid hn
  have HK2 := hid hk2
  have HV : Hid ((Tr.verify root.data.toList key.data.toList (bl p)).2.2 = 0 → p.length ≤ 20 ∧ ∀ s ∈ p, s.size ≤ 1000) := fun hv => by
    by_cases hf : pfault root key p = 0
    · exact ⟨(pfault_none hf).2.2.1, (pfault_none hf).2.2.2⟩
    · rw [pfault_verify hf] at hv; exact absurd hv hf
  clear h2 h3 hn hk2 hr
  go_enter Tryz.func57, Tryz.ntmps57
  go_wp2_with fail
  refine HC.out.mono ?_
  rintro e w1 ⟨r, s, N, rfl, b1, hv, h0, h1⟩
  by_cases hN : N = 0
  · subst hN
    obtain ⟨vs, ho, hno⟩ := h1 rfl
    obtain ⟨a1, c1, rfl, _⟩ := nown_shape ho
    have HVS : Hid (vs.length = p.length) := hno.1
    rw [HVS.out] at ho hno ⊢
    have HRD := hid (nown_rd ho)
    have HNO := hid hno
    have HB1 := hid b1
    have H20 := hid (HV.out (by rw [hv]))
    have hp20 : p.length ≤ 20 := H20.out.1
    have HV0 : Hid ((Tr.verify root.data.toList key.data.toList (bl p)).2.2 = 0) := by rw [Hid, hv]
    have HS1 := hid (storeAt_later H3.out b1)
    have c0 := (cell_of_row _ _ 0 _ _ _ ((b1.block _ (Array.getElem?_eq_some_iff.1 H2.out).1).trans H2.out)).trans rfl
    have HK : Hid (w1.heap[k2]? = some (.cells #[.map (some k3)] 148 (0, 0))) := (b1.block _ (Array.getElem?_eq_some_iff.1 H2.out).1).trans H2.out
    obtain ⟨es, clock, hes, hcl⟩ := mapAt_clone HS1.out.1
    have HCL := hid hcl
    have HCM := hid (cloneMap_any k3 es clock w1 hes)
    have HBN : Hid (∀ k, own k → k < w1.heap.size) := fun k hk => Nat.lt_of_lt_of_le (HN.out k hk) b1.size
    clear ho hno h0 h1 hv b1 HC hes hcl
    go_wp2_with fail
    refine HCM.out.mono ?_
    rintro e w2 ⟨rfl, rfl⟩
    have HA0 : Hid (AddAt own w1 S p 0 (w1.alloc (.map es clock))) := ⟨(Below.refl _ _).alloc (Nat.le_refl _) _, F, HCL.out _ _ (heap_alloc_new w1 _), HS1.out.2.2⟩
    go_wp2_with fail
    go_loopw [36] (fun i wr => ∃ k : Nat, i = .int .i64 k ∧ k ≤ p.length ∧ Hid (AddAt own w1 S p k wr)) (fun i _ => p.length - (intOf i).toNat)
    case atStart => exact ⟨0, rfl, Nat.zero_le _, HA0.out⟩
    case round =>
      obtain ⟨k, rfl, hk, HH⟩ := hrel
      clear HA0
      by_cases hlt : k < p.length
      · obtain ⟨v, t, lo, B, m, e1, e2, e3, ⟨_, e5⟩, e4⟩ := HNO.out.2 k hlt
        obtain ⟨hsm, henc, hsd⟩ := reads_small (H20.out.2 _ (List.getElem_mem hlt)) e2
        obtain ⟨k', l', s', a', n', cap', hnd, hrep, _⟩ := rn_nd hsm.pure e4
        obtain ⟨m, rfl⟩ : ∃ m', m = m' + 1 := by
          cases m with
          | zero => exact e4.elim
          | succ m => exact ⟨m, rfl⟩
        obtain ⟨b, off, rfl, hb, hcell⟩ := HRD.out k (by rw [HVS.out]; exact hlt)
        have hvk : vs[k]'(by rw [HVS.out]; exact hlt) = v := by rw [List.getElem?_eq_getElem (by rw [HVS.out]; exact hlt)] at e1; exact Option.some.inj e1
        rw [hvk] at hcell
        have f0 := (HH.out.1.cell (p := ⟨b, off + k, none⟩) hb).trans hcell
        have i1 : (0 : Int) ≤ (k : Int) := by omega
        have i2 : (k : Int) < (p.length : Int) := by omega
        have HSUM := hid (commonSum_any k' a' n' cap' l' s' m t wr hsm (rep_wider (Nat.le_trans e3 HH.out.1.size) _ _ _ (rep_frame (HH.out.1.mono e3) _ _ _ hrep)))
        have HTK : Hid (Tr.addAll S (bl (p.take (k + 1))) = Tr.add (Tr.addAll S (bl (p.take k))) p[k].data.toList) := by
          rw [Hid, List.take_succ_eq_append_getElem hlt, bl_append]
          exact Tr.addAll_snoc _ _ _
        obtain ⟨E, hE⟩ : ∃ E : ByteArray, E = ⟨(Tr.sum (Itm.enc t)).toArray⟩ := ⟨_, rfl⟩
        have hEd : E.data.toList = Tr.sum p[k].data.toList := by rw [hE, henc]
        have hEs : E.size ≤ 1000 := by rw [← ba_len, hEd, Tr.sum_len]; decide
        have HE := hid hE
        have HED := hid hEd
        have HADD := hid (fun (T : List (List UInt8)) (G : List UInt8 → Option Value) (h : NodesAt own w1.heap.size w1 T G) (hg : G (Tr.sum p[k].data.toList) = none) => nodesAt_add (v := v) h hg e2 (by rw [ba_len]; exact H20.out.2 _ (List.getElem_mem hlt)) e3 (fun q hq => .inl (Nat.lt_of_lt_of_le (HN.out q hq) e5)) e4)
        have HOLD := hid (fun (T : List (List UInt8)) (G : List UInt8 → Option Value) (u : Value) (h : NodesAt own w1.heap.size w1 T G) (hg : G (Tr.sum p[k].data.toList) = some u) => nodesAt_old h hg)
        have HND := hid hnd
        obtain ⟨T, A, rfl, _, _, _, hm⟩ := nd_call hnd
        have hTn : (Tr.addAll S (bl (p.take k))).length ≤ 2000 := by
          have h1 := Tr.addAll_len (bl (p.take k)) S
          have h2 : (bl (p.take k)).length ≤ 20 := by rw [bl_len, List.length_take]; have := H20.out.1; omega
          omega
        obtain ⟨hbl, G, hmap, hnodes⟩ := HH.out
        have HMAP := hid hmap
        have HNODES := hid hnodes
        have HBL := hid hbl
        clear hE hEd e1 e2 e3 e4 e5 hsm hsd hrep hnd hvk hcell henc hmap hnodes hbl HH
        go_wp2_with fail
        refine HSUM.out.mono ?_
        rintro e w3 ⟨rfl, b3⟩
        rw [← HE.out]
        have HB3 : Hid (Below w1.heap.size w1 w3) := HBL.out.trans (b3.mono HBL.out.size)
        have HM3 := hid (mapAt_frame HMAP.out (b3.block _ (mapAt_lt HMAP.out)))
        have hlk := look_node HM3.out E hEs
        rw [HED.out] at hlk
        clear b3
        cases hg : G (Tr.sum p[k].data.toList) with
        | some u =>
          obtain ⟨q1, q2⟩ := HOLD.out _ _ _ HNODES.out hg
          have HQ := hid q1
          rw [hg] at hlk
          clear q1
          rcases q2 with rfl | ⟨Tu, xu, rfl⟩
          all_goals
            simp only [Option.getD_some, Option.isSome_some] at hlk
            go_wp2_with fail
            refine ⟨⟨k + 1, by go_num, by omega, ?_⟩, by simp [intOf]; omega⟩
            refine ⟨HB3.out, G, ?_, ?_⟩
            · rw [HTK.out, HQ.out]; exact HM3.out
            · rw [HTK.out, HQ.out]; exact HNODES.out
        | none =>
          obtain ⟨q1, q2⟩ := HADD.out _ _ HNODES.out hg
          have HQ1 := hid q1
          have HQ2 := hid q2
          rw [hg] at hlk
          simp only [Option.getD_none, Option.isSome_none] at hlk
          obtain ⟨w4, hup, hm4, ht4⟩ := mapAt_store HM3.out storeKeyed Tryz.underlying146 Tryz.underlying9 (by unfold maxLen; omega) E (by unfold maxLen; omega) (.iface T (.agg A))
          rw [HED.out, hg] at hm4
          have HM4 := hid hm4
          have HB4 : Hid (Below w1.heap.size w1 w4) := HB3.out.trans ⟨ht4.grown.os, ht4.grown.tape, ht4.grown.output, ht4.grown.size, fun i hi => ht4.grown.block i (Nat.lt_of_lt_of_le hi HB3.out.size) (fun e => by cases e; omega)⟩
          clear q1 q2 hm4 ht4
          go_wp2_with fail
          refine ⟨⟨k + 1, by go_num, by omega, ?_⟩, by simp [intOf]; omega⟩
          refine ⟨HB4.out, fun x => if x = Tr.sum p[k].data.toList then some (.iface T (.agg A)) else G x, ?_, ?_⟩
          · rw [HTK.out, HQ2.out, List.length_append]
            exact HM4.out
          · rw [HTK.out]; exact HQ1.out
      · obtain rfl : k = p.length := by omega
        have i2 : ¬ (p.length : Int) < (p.length : Int) := by omega
        obtain ⟨F', hst⟩ := addAt_end HBN.out HH.out
        have hl := fun ty => mapAt_len hst.1 Tryz.underlying146 ty
        have HST := hid hst
        have HBW := hid HH.out.1
        have hkr : wr.heap[k2]? = some (.cells #[.map (some k3)] 148 (0, 0)) := (HBW.out.block _ (Array.getElem?_eq_some_iff.1 HK.out).1).trans HK.out
        have z0 := cell_of_row _ _ 0 _ _ _ hkr
        have z1 := frozen_of_row _ _ 0 _ _ hkr
        have HKR := hid hkr
        have HOF : Hid (offerTo S root.data.toList key.data.toList (bl p) = if 200 < (Tr.addAll S (bl p)).length then (9, S) else (0, Tr.addAll S (bl p))) := by
          rw [Hid]; unfold offerTo; rw [if_neg (by rw [HV0.out]; simp)]
        have HBWW : Hid (Below w.heap.size w wr) := HB1.out.trans (HBW.out.mono HB1.out.size)
        have HW1 := hid HB1.out.size
        clear hst hkr HH hlt
        generalize hT : Tr.addAll S (bl p) = T' at *
        by_cases h200 : 200 < T'.length
        · have j1 : (200 : Int) < (T'.length : Int) := by omega
          rw [if_pos h200] at HOF
          clear h200
          go_wp2_with fail
          go_ret
          unfold AddOk
          rw [HOF.out]
          exact ⟨k3, F, rfl, HKR.out, storeAt_later H3.out HBWW.out, Turns.of_below HBWW.out⟩
        · have j1 : ¬ (200 : Int) < (T'.length : Int) := by omega
          rw [if_neg h200] at HOF
          clear h200
          go_wp2_with fail
          go_ret
          unfold AddOk
          rw [HOF.out]
          refine ⟨w1.heap.size, F', rfl, heap_setCell_same _ _ _ _ _ _ HKR.out, storeAt_turns HST.out (by simp [World.setCell]) (fun q hq ho => Below.heap_setCell _ _ _ _ (fun e => ho (by rw [e]; exact HK2.out))), ?_⟩
          have ht : Turns (fun q => q = k2) wr (wr.setCell ⟨k2, 0, none⟩ (.map (some w1.heap.size))) := ⟨rfl, rfl, rfl, by simp [World.setCell], fun q hq ho => Below.heap_setCell _ _ _ _ ho⟩
          exact (Turns.of_below HBWW.out).trans ht
  · have hN' : ¬ (N : Int) = 0 := by omega
    obtain rfl := h0 hN
    have HB1 := hid b1
    have HOF : Hid (offerTo S root.data.toList key.data.toList (bl p) = (N, S)) := by
      rw [Hid]; unfold offerTo; rw [hv]; exact if_pos hN
    clear h0 h1 hv b1 hN
    go_wp2_with fail
    go_ret
    unfold AddOk
    rw [HOF.out]
    exact ⟨k3, F, rfl, (HB1.out.block _ (Array.getElem?_eq_some_iff.1 H2.out).1).trans H2.out, storeAt_later H3.out HB1.out, Turns.of_below HB1.out⟩
end Go.Proofs.YtbmohenjphmlgaaGreat

/- The walks of slices.Delete at heads, and of roots (of the program). -/
namespace Go.Proofs.YtbmohenjphmlgaaGreat
open Go.RowKit
set_option maxRecDepth 100000

theorem set_take_drop {α : Type} (l : List α) (o : Nat) (v : α) (h : o < l.length) (n : Nat) : (l.set o v).take (o + 1) = l.take o ++ [v] ∧ (l.set o v).drop (o + 1 + n) = l.drop (o + 1 + n) := by
  constructor
  · rw [List.take_succ_eq_append_getElem (by rw [List.length_set]; exact h), List.take_set_of_le (Nat.le_refl _), List.getElem_set_self]
  · rw [List.drop_set, if_pos (by omega)]

/-- What lies in a block behind some stores. -/
theorem block_setCells {e : TypeId} (g : Nat) : ∀ (xs : List Value) (o : Nat) (w : World) (cur : Array Value), w.heap[g]? = some (.cells cur e (0, 0)) → o + xs.length ≤ cur.size → ∃ cur', (w.setCells g o xs).heap[g]? = some (.cells cur' e (0, 0)) ∧ cur'.toList = cur.toList.take o ++ xs ++ cur.toList.drop (o + xs.length) := by
  intro xs
  induction xs with
  | nil => intro o w cur h _; exact ⟨cur, h, by simp⟩
  | cons v r ih =>
    intro o w cur h hl
    rw [List.length_cons] at hl
    have h1 := heap_setCell_same w g o cur e v h
    obtain ⟨cur', h2, h3⟩ := ih (o + 1) _ _ h1 (by rw [Array.size_setIfInBounds]; omega)
    refine ⟨cur', h2, ?_⟩
    rw [h3, Array.toList_setIfInBounds]
    obtain ⟨e1, e2⟩ := set_take_drop cur.toList o v (by rw [Array.length_toList]; omega) r.length
    rw [e1, e2, List.length_cons]
    simp only [List.append_assoc, List.cons_append, List.nil_append]
    rw [show o + (r.length + 1) = o + 1 + r.length by omega]

theorem setCells_turns (g : Nat) (w : World) (o : Nat) (xs : List Value) : Turns (fun k => k = g) w (w.setCells g o xs) := by
  induction xs generalizing o w with
  | nil => exact Turns.refl _ _
  | cons v r ih =>
    have h1 : Turns (fun k => k = g) w (w.setCell ⟨g, o, none⟩ v) := ⟨rfl, rfl, rfl, by simp [World.setCell], fun k _ hk => Below.heap_setCell _ _ _ _ hk⟩
    exact h1.trans (ih (w.setCell ⟨g, o, none⟩ v) (o + 1))

theorem hcells_drop (l : List (Int × ByteArray)) (p : Nat) : (hcells l).drop (p * 2) = hcells (l.drop p) := by
  have e : hcells l = hcells (l.take p) ++ hcells (l.drop p) := by rw [← hcells_append, List.take_append_drop]
  by_cases hp : p ≤ l.length
  · rw [e, List.drop_append_of_le_length (by rw [hcells_len, List.length_take]; omega), List.drop_of_length_le (by rw [hcells_len, List.length_take]; omega)]
    rfl
  · rw [List.drop_of_length_le (by rw [hcells_len]; omega), List.drop_of_length_le (by omega)]; rfl

theorem hcells_take (l : List (Int × ByteArray)) (p : Nat) : (hcells l).take (p * 2) = hcells (l.take p) := by
  have e : hcells l = hcells (l.take p) ++ hcells (l.drop p) := by rw [← hcells_append, List.take_append_drop]
  by_cases hp : p ≤ l.length
  · rw [e, List.take_append_of_le_length (by rw [hcells_len, List.length_take]; omega), List.take_of_length_le (by rw [hcells_len, List.length_take]; omega)]
  · rw [List.take_of_length_le (by rw [hcells_len]; omega), List.take_of_length_le (by omega)]

/-- The heads behind one that is deleted are moved down by one. -/
theorem cut_block {w : World} {g cap : Nat} {cur : Array Value} {l : List (Int × ByteArray)} {p : Nat} (h : w.heap[g]? = some (.cells cur 99 (0, 0))) (hp : p < l.length) (hn : l.length ≤ cap) (hcs : cur.size = cap * 2) (ht : cur.toList.take (l.length * 2) = hcells l) (z0 z1 : Value) :
    ∃ cur', ((w.setCells g (p * 2) (hcells (l.drop (p + 1)))).setCells g ((l.length - 1) * 2) [z0, z1]).heap[g]? = some (.cells cur' 99 (0, 0)) ∧ cur'.size = cap * 2 ∧ cur'.toList.take ((l.length - 1) * 2) = hcells (l.eraseIdx p) := by
  have hl1 : (hcells (l.drop (p + 1))).length = (l.length - (p + 1)) * 2 := by rw [hcells_len, List.length_drop]
  have hpl : p * 2 + (hcells (l.drop (p + 1))).length = (l.length - 1) * 2 := by rw [hl1]; omega
  obtain ⟨c1, h1, e1⟩ := block_setCells g (hcells (l.drop (p + 1))) (p * 2) w cur h (by omega)
  have hs1 : c1.size = cap * 2 := by
    rw [← Array.length_toList, e1]
    simp only [List.length_append, List.length_take, List.length_drop, Array.length_toList]
    omega
  have hc1l : c1.toList.length = cap * 2 := by rw [Array.length_toList]; exact hs1
  obtain ⟨c2, h2, e2⟩ := block_setCells g [z0, z1] ((l.length - 1) * 2) _ c1 h1 (by simp only [List.length_cons, List.length_nil]; omega)
  refine ⟨c2, h2, ?_, ?_⟩
  · rw [← Array.length_toList, e2]
    simp only [List.length_append, List.length_take, List.length_drop, Array.length_toList, List.length_cons, List.length_nil]
    omega
  · rw [e2, List.append_assoc, List.take_append_of_le_length (by rw [List.length_take, hc1l]; omega), List.take_take, Nat.min_self, e1]
    rw [← hpl, List.take_append_of_le_length (by simp only [List.length_append, List.length_take, Array.length_toList]; omega), List.take_of_length_le (by simp only [List.length_append, List.length_take, Array.length_toList]; omega)]
    have e3 : cur.toList.take (p * 2) = hcells (l.take p) := by
      rw [← hcells_take, ← ht, List.take_take, Nat.min_eq_left (by omega)]
    rw [e3, ← hcells_append, List.eraseIdx_eq_take_drop_succ]

/-- At a step of a region that draws: what stands behind a head is moved onto it. -/
theorem wp_cut_heads {o : Oper} {act : Act} {K : Act → World → Prop} {Q' : Exit → Act → World → Prop} (s x : Operand)
    (hop : o.op = .call { callee := .builtin .append, args := #[s, x], argTypes := #[51, 51] }) {w : World} {g cap p m c : Nat} {ad : Addr} {news : List Value}
    (hs : act.eval s = .slice (some ⟨g, 0, none⟩) p cap) (hx : act.eval x = .slice (some ad) m c) (hl : news.length = m * 2) (hnews : ∀ j u, news[j]? = some u → w.cell? (ad.add j) = some u) (h1 : ∀ u ∈ news, u.oneCell' = true) (hroom : p + m ≤ cap) {cur : Array Value} (hg : w.heap[g]? = some (.cells cur 99 (0, 0))) (hcs : cur.size = cap * 2)
    (h : K (act.put o.dst (.slice (some ⟨g, 0, none⟩) (p + m) cap)) (w.setCells g (p * 2) news)) : Oper.wp Tryz.prog o act w K Q' := by
  obtain ⟨i0, hi, hz0, hz1, hz2⟩ := info_parts infoHead
  have hr := run_append_room_cells (P := Tryz.prog) w 51 o.type 99 i0 Tryz.underlying51 hi g 0 p cap ad m c news (by rw [hz1]; exact hl) hnews h1 hroom
    (fun j hj => by rw [cell_of_row _ _ _ _ _ _ hg, hz1, Array.getElem?_eq_getElem (by omega)]; rfl) (fun j hj => frozen_of_row _ _ _ _ _ hg)
  rw [hz1, Nat.zero_add] at hr
  unfold Oper.wp execOp
  simp only [hop, resolve, invoke, builtin, Sem.run_bind, Sem.run_pure, Result.andThen_ok, List.map_toArray, List.map_cons, List.map_nil, hs, hx, hr]
  exact h

/-- One head is cleared. -/
theorem clear_head {w : World} {g o c : Nat} {cur : Array Value} (hg : w.heap[g]? = some (.cells cur 99 (0, 0))) (hl : o + 2 ≤ cur.size) (ty : TypeId) :
    (Builtin.clear_ #[51] ty #[.slice (some ⟨g, o, none⟩) 1 c]).run Tryz.prog w = .ok (.tuple #[]) (w.setCells g o [.int .i64 0, .string ⟨#[]⟩]) := by
  have hst := run_storeCells_cells (P := Tryz.prog) g o [.int .i64 0, .string ⟨#[]⟩] 0 w
    (fun j hj => by
      have : j < 2 := hj
      rw [cell_of_row _ _ _ _ _ _ hg, Array.getElem?_eq_getElem (by omega)]; rfl) (fun j hj => frozen_of_row _ _ _ _ _ hg) (by simp [Value.oneCell'])
  simp only [Nat.add_zero] at hst
  have hz : (Builtin.zeroCells (Value.agg #[.int .i64 0, .string ⟨#[]⟩]).cells 1).toList = [.int .i64 0, .string ⟨#[]⟩] := by kernel_rfl
  simp [Builtin.clear_, run_underlying Tryz.underlying51, hz, hst]

theorem slice_cells {w : World} {g p : Nat} {cur : Array Value} {l : List (Int × ByteArray)} (h : w.heap[g]? = some (.cells cur 99 (0, 0))) (ht : cur.toList.take (l.length * 2) = hcells l) {ad : Addr} (had : p < l.length → ad = ⟨g, p * 2, none⟩) : ∀ j u, (hcells (l.drop p))[j]? = some u → w.cell? (ad.add j) = some u := by
  intro j u hu
  have hj : j < (hcells (l.drop p)).length := (List.getElem?_eq_some_iff.1 hu).1
  rw [hcells_len, List.length_drop] at hj
  rw [had (by omega)]
  have hadd : (⟨g, p * 2, none⟩ : Addr).add j = ⟨g, p * 2 + j, none⟩ := by unfold Addr.add; split <;> simp_all
  rw [hadd, cell_of_row _ _ _ _ _ _ h]
  rw [← hcells_drop, List.getElem?_drop, ← ht, List.getElem?_take_of_lt (by omega)] at hu
  rw [← hu, Array.getElem?_toList]

set_option maxHeartbeats 3200000 in
theorem deleteHead_any (base g cap p : Nat) (l : List (Int × ByteArray)) (w : World) (ho : HOwn w base (.slice (some ⟨g, 0, none⟩) l.length cap) l) (hp : p < l.length) (hl8 : l.length ≤ 1000) :
    Calls Tryz.prog 60 #[.slice (some ⟨g, 0, none⟩) l.length cap, .int .i64 p, .int .i64 (p + 1 : Nat)] w fun e w' => e = .returned (.slice (some ⟨g, 0, none⟩) (l.length - 1) cap) ∧ HOwn w' base (.slice (some ⟨g, 0, none⟩) (l.length - 1) cap) (l.eraseIdx p) ∧ Turns (fun k => k = g) w w' := by
  rcases ho.2 with ⟨hv, _⟩ | ⟨g', cap', cur, hv, hbg, hg, hnc, hcm, hcs, htk⟩
  · cases hv
  simp only [Value.slice.injEq, Option.some.injEq, Addr.mk.injEq, and_true, true_and] at hv
  obtain ⟨rfl, rfl⟩ := hv
  obtain ⟨n, hn⟩ : ∃ n, n = l.length := ⟨_, rfl⟩
  have HCB := hid (cut_block (w := w.drew) (p := p) hg hp hnc hcs htk (.int .i64 0) (.string ⟨#[]⟩))
  have HNW := hid (fun (ad : Addr) (had : p + 1 < l.length → ad = ⟨g, (p + 1) * 2, none⟩) => slice_cells (w := w.drew) (p := p + 1) hg htk had)
  have HLE : Hid ((hcells (l.drop (p + 1))).length = (n - (p + 1)) * 2) := by rw [Hid, hcells_len, List.length_drop, hn]
  have HON := hid (hcells_one (l.drop (p + 1)))
  have HG : Hid (w.drew.heap[g]? = some (.cells cur 99 (0, 0))) := hg
  have HCS := hid hcs
  have HER : Hid ((l.eraseIdx p).length = n - 1) := by rw [Hid, List.length_eraseIdx, if_pos hp, hn]
  have HBS := hid (And.intro hbg hcm)
  rw [← hn] at HCB HNW hp hnc hl8 ⊢
  clear ho hg hcs htk hcm hbg hn
  have j1 : (p : Int) ≤ (n : Int) := by omega
  have j2 : (p : Int) + 1 ≤ (n : Int) := by omega
  have j3 : (n : Int) ≤ (cap : Int) := by omega
  have j4 : ¬ (p : Int) = (p : Int) + 1 := by omega
  have j5 : (0 : Int) ≤ (p : Int) := by omega
  have HRM : Hid (p + (n - (p + 1)) ≤ cap) := by rw [Hid]; omega
  have HN1 : Hid (p + (n - (p + 1)) = n - 1) := by rw [Hid]; omega
  obtain ⟨ad, haq, had⟩ : ∃ ad : Addr, (if cap = p + 1 then some (⟨g, 0, none⟩ : Addr) else some ⟨g, (p + 1) * 2, none⟩) = some ad ∧ (p + 1 < n → ad = ⟨g, (p + 1) * 2, none⟩) := by
    by_cases hc : cap = p + 1
    · exact ⟨_, if_pos hc, fun h => by omega⟩
    · exact ⟨_, if_neg hc, fun _ => rfl⟩
  have HAQ := hid haq
  have HAD := hid had
  clear haq had
  go_enter Tryz.func60, Tryz.ntmps60
  go_wp2_with fail
  have hS : (fun _ : World => True) w.drew := trivial
  refine wp_region_held_drew (S := fun _ => True) (by kernel_rfl) hS (fun _ => ?_)
  refine wpAnyH_take (i := 0) (v := .slice (some ⟨g, 0, none⟩) n cap) rfl (by kernel_rfl) (by kernel_rfl) (by kernel_rfl) (fun _ _ _ h => h) (Or.inl ⟨by kernel_rfl, ?_⟩) hS ?_
  · (intro w' hSw; go_simp)
  try simp only [Act.put]
  refine wpAnyH_take (i := 1) (v := .int .i64 p) rfl (by kernel_rfl) (by kernel_rfl) (by kernel_rfl) (fun _ _ _ h => h) (Or.inl ⟨by kernel_rfl, ?_⟩) hS ?_
  · (intro w' hSw; go_simp)
  try simp only [Act.put]
  refine wpAnyH_take (i := 2) (v := .slice (some ⟨g, 0, none⟩) p cap) rfl (by kernel_rfl) (by kernel_rfl) (by kernel_rfl) (fun _ _ _ h => h) (Or.inl ⟨by kernel_rfl, ?_⟩) hS ?_
  · (intro w' hSw; have q1 : ¬ cap < p := by omega
     go_simp)
  try simp only [Act.put]
  refine wpAnyH_take (i := 3) (v := .slice (some ⟨g, 0, none⟩) n cap) rfl (by kernel_rfl) (by kernel_rfl) (by kernel_rfl) (fun _ _ _ h => h) (Or.inl ⟨by kernel_rfl, ?_⟩) hS ?_
  · (intro w' hSw; go_simp)
  try simp only [Act.put]
  refine wpAnyH_take (i := 4) (v := .int .i64 (p + 1 : Nat)) rfl (by kernel_rfl) (by kernel_rfl) (by kernel_rfl) (fun _ _ _ h => h) (Or.inl ⟨by kernel_rfl, ?_⟩) hS ?_
  · (intro w' hSw; go_simp)
  try simp only [Act.put]
  refine wpAnyH_take (i := 5) (v := .slice (some ad) (n - (p + 1)) (cap - (p + 1))) rfl (by kernel_rfl) (by kernel_rfl) (by kernel_rfl) (fun _ _ _ h => h) (Or.inl ⟨by kernel_rfl, ?_⟩) hS ?_
  · (intro w' hSw; have q1 : (0 : Int) ≤ (p : Int) + 1 := by omega
     have q2 : p + 1 ≤ n := by omega
     have q3 := HAQ.out
     go_simp)
  try simp only [Act.put]
  refine wpAnyH_ready (rs := [6]) (by kernel_rfl) (by simp) ?_
  refine AllReadyH.cons rfl (fun K hK => ?_) AllReadyH.nil
  dsimp only [getElem?_def, Array.getElem?_toList, List.getElem_toArray, List.getElem_cons_succ, List.getElem_cons_zero]
  simp only [List.setIfInBounds_toArray, List.set_cons_succ, List.set_cons_zero]
  rw [if_pos (by simp [Region.wanted])]
  refine wp_cut_heads (.tmp 22) (.tmp 25) rfl (g := g) (cap := cap) (p := p) (m := n - (p + 1)) (c := cap - (p + 1)) (ad := ad) ?_ ?_ HLE.out (HNW.out ad HAD.out) HON.out HRM.out HG.out HCS.out ?_
  · rfl
  · rfl
  refine hK.out _ _ trivial (fun _ => ?_)
  clear hK K
  try simp only [Act.put]
  rw [HN1.out]
  refine wpAnyH_take (i := 7) (v := .slice (some ⟨g, 0, none⟩) (n - 1) cap) rfl (by kernel_rfl) (by kernel_rfl) (by kernel_rfl) (fun _ _ _ h => h) (Or.inl ⟨by kernel_rfl, ?_⟩) trivial ?_
  · (intro w' hSw; go_simp)
  try simp only [Act.put]
  refine wpAnyH_done (by kernel_rfl) ?_ _
  obtain ⟨c1, hc1, hs1⟩ := block_setCells (e := 99) g (hcells (l.drop (p + 1))) (p * 2) w.drew cur HG.out (by rw [HLE.out, HCS.out]; omega)
  have hs1z : c1.size = cap * 2 := by
    rw [← Array.length_toList, hs1]
    simp only [List.length_append, List.length_take, List.length_drop, Array.length_toList, HLE.out, HCS.out]
    omega
  have hcl := fun ty c => clear_head (o := (n - 1) * 2) (c := c) hc1 (by omega) ty
  have HT : Hid (Turns (fun k => k = g) w ((w.drew.setCells g (p * 2) (hcells (l.drop (p + 1)))).setCells g ((n - 1) * 2) [.int .i64 0, .string ⟨#[]⟩])) := by
    have h0 : Turns (fun k => k = g) w w.drew := ⟨rfl, rfl, rfl, Nat.le_refl _, fun _ _ _ => rfl⟩
    exact (h0.trans (setCells_turns g _ _ _)).trans (setCells_turns g _ _ _)
  generalize hW : w.drew.setCells g (p * 2) (hcells (l.drop (p + 1))) = W at *
  clear hs1 hs1z hW HNW HLE HON
  have k1 : ((n - 1 : Nat) : Int) ≤ (n : Int) := by omega
  have k2 : (0 : Int) ≤ ((n - 1 : Nat) : Int) := by omega
  have k3 : n - (n - 1) = 1 := by omega
  have k4 : ¬ cap ≤ n - 1 := by omega
  have k5 : n - 1 ≤ n := by omega
  have k6 : ¬ cap = n - 1 := by omega
  go_wp2_with fail
  go_ret
  obtain ⟨cur', g1, g2, g3⟩ := HCB.out
  refine ⟨rfl, ⟨hcells_len _, .inr ⟨g, cap, cur', by rw [HER.out], HBS.out.1, g1, by rw [HER.out]; omega, HBS.out.2, g2, by rw [HER.out]; exact g3⟩⟩, HT.out⟩

/-- The roots of heads. -/
def rootsB (l : List (Int × ByteArray)) : List ByteArray := l.map (·.2)

set_option maxHeartbeats 1600000 in
theorem roots_any (k1 : Nat) (a : Option Addr) (cap : Nat) (l : List (Int × ByteArray)) (y : Value) (w : World) (hk : w.heap[k1]? = some (.cells #[.slice a l.length cap, y] 94 (0, 0))) (hr : HRd w.heap.size w a l) (hl : l.length ≤ 1000) :
    Calls Tryz.prog 62 #[.pointer (some ⟨k1, 0, none⟩)] w fun e w' => ∃ v, e = .returned v ∧ TOwn w' w.heap.size v (rootsB l) ∧ Below w.heap.size w w' := by
  have HR := hid hr
  have c0 := cell_of_row _ _ 0 _ _ _ hk
  clear hr hk
  go_enter Tryz.func62, Tryz.ntmps62
  go_wp2_with fail
  go_loopw [3, 11] (fun v i wr => ∃ k : Nat, i = .int .i64 k ∧ k ≤ l.length ∧ Hid (TOwn wr w.heap.size v (rootsB (l.take k)) ∧ Below w.heap.size w wr)) (fun _ i _ => l.length - (intOf i).toNat)
  case atStart => exact ⟨0, rfl, Nat.zero_le _, town_nil _ _, Below.refl _ _⟩
  case round =>
    obtain ⟨k, rfl, hk, HH⟩ := hrel
    obtain ⟨av, cv, rfl, _⟩ := town_shape HH.out.1
    by_cases hlt : k < l.length
    · obtain ⟨b, off, rfl, hb, e0, e1⟩ := HR.out k hlt
      have f0 := (HH.out.2.cell (p := ⟨b, off + k * 2, none⟩) hb).trans e0
      have f1 := (HH.out.2.cell (p := ⟨b, off + k * 2 + 1, none⟩) hb).trans e1
      have i1 : (0 : Int) ≤ (k : Int) := by omega
      have i2 : (k : Int) < (l.length : Int) := by omega
      have HTK : Hid (rootsB (l.take (k + 1)) = rootsB (l.take k) ++ [l[k].2]) := by rw [Hid, List.take_succ_eq_append_getElem hlt]; unfold rootsB; rw [List.map_append]; rfl
      have HLT : Hid ((rootsB (l.take k)).length ≤ 1000000) := by rw [Hid]; unfold rootsB; rw [List.length_map, List.length_take]; omega
      clear e0 e1
      generalize l[k].2 = rk at *
      generalize l[k].1 = hk' at *
      generalize rootsB (l.take k) = rl at *
      have HA : Hid (Below wr.heap.size wr (wr.alloc (.cells #[.int .i64 hk', .string rk] 99))) := (Below.refl _ _).alloc (Nat.le_refl _) _
      go_wp2_with (at_builtin; refine wpList_push_text rfl (.tmp 15) (.tmp 18) rfl rk (wr.heap.size + 1) (alloc_size _ _) rfl rfl HH.out.1 HA.out HH.out.2 (Nat.le_refl _) HLT.out ?_; intro v' w' ho' hb'; have HO' := hid ho'; have HB' := hid hb'; clear ho' hb')
      exact ⟨⟨k + 1, by go_num, by omega, by rw [HTK.out]; exact HO'.out, HB'.out⟩, by simp [intOf]; omega⟩
    · obtain rfl : k = l.length := by omega
      have i2 : ¬ (l.length : Int) < (l.length : Int) := by omega
      rw [List.take_length] at HH
      rw [List.take_length]
      clear hlt
      go_wp2_with fail
      go_ret
      exact ⟨_, rfl, HH.out.1, HH.out.2⟩
end Go.Proofs.YtbmohenjphmlgaaGreat

/- The walks of Root, Prove, Verify, Offer that are refused (of the program). -/
namespace Go.Proofs.YtbmohenjphmlgaaGreat
open Go.RowKit
set_option maxRecDepth 100000

theorem turns_cell {own : Nat → Prop} {w w' : World} {b off : Nat} (h : Turns own w w') (hb : b < w.heap.size) (ho : ¬ own b) : w'.cell? ⟨b, off, none⟩ = w.cell? ⟨b, off, none⟩ := World.cell?_of_block (w := w) (h.block b hb ho)

/-- Offer at a height that is trusted hands on to the store. -/
theorem offer_in {k1 k2 : Nat} {a : Option Addr} {cap : Nat} {l : List (Int × ByteArray)} {x : Int} {key r0 : ByteArray} {v : Value} {w : World} {Q : Int → World → Prop}
    (hk : w.heap[k1]? = some (.cells #[.slice a l.length cap, .pointer (some ⟨k2, 0, none⟩)] 94 (0, 0))) (hr : HRd w.heap.size w a l) (hl : l.length ≤ 8) (hs : Rises l) (hx : (x, r0) ∈ l) (hne : k1 ≠ k2) (hnb : ∀ b off, a = some ⟨b, off, none⟩ → b ≠ k2)
    (h : ∀ W, Below w.heap.size w W → Calls Tryz.prog 57 #[.pointer (some ⟨k2, 0, none⟩), .string r0, .string key, v] W fun e w' => ∃ n, e = .returned (.int .i64 n) ∧ Q n w' ∧ Turns (fun k => k = k2) W w') :
    Calls Tryz.prog 32 #[.pointer (some ⟨k1, 0, none⟩), .int .i64 x, .string key, v] w fun e w' => ∃ n, e = .returned (.int .i64 n) ∧ Q n w' ∧ Turns (fun k => k = k2) w w' := by
  have HP := hid (place_any k1 a cap l _ x w hk hr (by omega) hs)
  have HRD := hid hr
  have HS := hid hs
  have HX := hid hx
  have HK := hid hk
  have HT := hid h
  clear hk hr hs hx h
  go_enter Tryz.func32, Tryz.ntmps32
  go_wp2_with fail
  refine HP.out.mono ?_
  rintro e w2 ⟨⟨p, rfl, p1, p2, p3⟩, b2⟩
  obtain ⟨hp, hp1, hp2⟩ := found_at HS.out HX.out p2 p3
  rw [decide_eq_true (⟨hp, hp1⟩ : ∃ h : p < l.length, l[p].1 = x)]
  obtain ⟨b, off, rfl, hb, e0, e1⟩ := HRD.out p hp
  have hnb' := hnb b off rfl
  rw [hp2] at e1
  have f1 := (b2.cell (p := ⟨b, off + p * 2 + 1, none⟩) hb).trans e1
  have c0 := (b2.cell (p := ⟨k1, 0, none⟩) (Array.getElem?_eq_some_iff.1 HK.out).1).trans (cell_of_row _ _ 0 _ _ _ HK.out)
  have c1 := (b2.cell (p := ⟨k1, 1, none⟩) (Array.getElem?_eq_some_iff.1 HK.out).1).trans (cell_of_row _ _ 1 _ _ _ HK.out)
  have i1 : (0 : Int) ≤ (p : Int) := by omega
  have i2 : (p : Int) < (l.length : Int) := by omega
  have HB := hid b2
  have hk1 : k1 < w2.heap.size := Nat.lt_of_lt_of_le (Array.getElem?_eq_some_iff.1 HK.out).1 b2.size
  have hb1 : b < w2.heap.size := Nat.lt_of_lt_of_le hb b2.size
  clear e0 e1 p1 p2 p3 b2 hp1 hp2 hnb
  go_wp2_with fail
  go_region_held3 (fun w' => w'.cell? ⟨k1, 0, none⟩ = some (.slice (some ⟨b, off, none⟩) l.length cap) ∧ w'.cell? ⟨k1, 1, none⟩ = some (.pointer (some ⟨k2, 0, none⟩)) ∧ w'.cell? ⟨b, off + p * 2 + 1, none⟩ = some (.string r0)) (go_keep) ((go_at_call 57; refine (HT.out _ HB.out.drew).mono ?_; rintro e w3 ⟨n, rfl, q, b3⟩; have HQ := hid q; have HB3 : Hid (Turns (fun k => k = k2) w w3) := (Turns.of_below HB.out.drew).trans b3; have z0 := (turns_cell (off := 0) b3 hk1 hne).trans c0; have z1 := (turns_cell (off := 1) b3 hk1 hne).trans c1; have z2 := (turns_cell (off := off + p * 2 + 1) b3 hb1 hnb').trans f1; clear q b3))
  all_goals go_wp2_with fail
  all_goals go_ret
  all_goals exact ⟨n, rfl, HQ.out, HB3.out⟩

end Go.Proofs.YtbmohenjphmlgaaGreat
