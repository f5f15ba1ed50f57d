/- Part 14 of a proof: what the last text needs. -/
import Derived.Test.YtbmohenjphmlgaaGreatPart13
import Derived.Shelf.SlMaps.Clone
import Derived.ArgAppend
import Derived.Test.YtbmohenjphmlgaaGreatPart12
import Derived.Test.YtbmohenjphmlgaaGreatPart11
import Derived.Deep.MidRow
import Derived.Test.YtbmohenjphmlgaaGreatPart7
import Derived.Test.YtbmohenjphmlgaaGreatPart9
import Derived.Test.YtbmohenjphmlgaaGreatPart4
import Derived.Test.YtbmohenjphmlgaaGreatPart6
import Derived.Maps.OwnOps
import Derived.Maps.OwnSet
import Derived.Deep.RegionHeld3
import Derived.Test.YtbmohenjphmlgaaGreatPart2
import Derived.Deep.RegionWith
/- The walks of Kept and of Add (of the program). -/
namespace Go.Proofs.YtbmohenjphmlgaaGreat
open Go.RowKit
set_option maxRecDepth 100000

theorem cloneMap_any (b : Nat) (es : Array MapEntry) (clock : Nat) (w : World) (hb : w.heap[b]? = some (.map es clock)) :
    Calls Tryz.prog 99 #[.map (some b)] w fun e w' => e = .returned (.map (some w.heap.size)) ∧ w' = w.alloc (.map es clock) := by
  have hq := fun w => run_eql_map_nil_sl (P := Tryz.prog) w 146 _ _ (some b) Tryz.underlying146
  have hc : ∀ args w, (callFunc 126 args).run Tryz.prog w = ((Extern.MapsClone.clone args).run Tryz.prog w).andThen fun v w' => .ok (.value v) w' := fun args w => run_callFunc_extern Tryz.func126 (by kernel_rfl) (by kernel_rfl) (by kernel_rfl) (e := Extern.MapsClone.clone) (by kernel_rfl) args w
  go_enter Tryz.func99, Tryz.ntmps99
  go_wp2_with fail
  rw [run_maps_clone_sl w _ hb]
  simp only [Result.andThen]
  rw [Oper.upon_value]
  go_wp2_with fail
  rw [run_typeAssert_map_sl _ 146 _ _ _ _ Tryz.underlying146]
  simp only [Result.andThen]
  rw [Oper.upon_value]
  go_wp2_with fail
  go_ret
  exact ⟨rfl, rfl⟩

theorem count_any (k2 k3 n : Nat) (f : List UInt8 → Option Value) (w : World) (h2 : w.heap[k2]? = some (.cells #[.map (some k3)] 148 (0, 0))) (h3 : MapAt Tryz.prog 9 w k3 n f) :
    Calls Tryz.prog 58 #[.pointer (some ⟨k2, 0, none⟩)] w fun e w' => e = .returned (.int .i64 n) ∧ w' = w := by
  have hl := fun ty => mapAt_len h3 Tryz.underlying146 ty
  have c0 := cell_of_row _ _ 0 _ _ _ h2
  clear h2 h3
  go_enter Tryz.func58, Tryz.ntmps58
  go_wp2_with fail
  go_ret
  exact ⟨rfl, rfl⟩

theorem kept_in (k1 k2 k3 n : Nat) (hv : Value) (f : List UInt8 → Option Value) (w : World) (h1 : w.heap[k1]? = some (.cells #[hv, .pointer (some ⟨k2, 0, none⟩)] 94 (0, 0))) (h2 : w.heap[k2]? = some (.cells #[.map (some k3)] 148 (0, 0))) (h3 : MapAt Tryz.prog 9 w k3 n f) :
    Calls Tryz.prog 33 #[.pointer (some ⟨k1, 0, none⟩)] w fun e w' => e = .returned (.int .i64 n) ∧ w' = w := by
  have HC := hid (count_any k2 k3 n f w h2 h3)
  have c0 := cell_of_row _ _ 1 _ _ _ h1
  clear h1 h2 h3
  go_enter Tryz.func33, Tryz.ntmps33
  go_wp2_with fail
  refine HC.out.mono ?_
  rintro e w1 ⟨rfl, hw⟩
  obtain rfl := hw.symm
  go_wp2_with fail
  go_ret
  exact ⟨rfl, rfl⟩

theorem kept_any (k0 k1 k2 k3 n : Nat) (hv : Value) (f : List UInt8 → Option Value) (w : World) (h0 : w.heap[k0]? = some (.cells #[.pointer (some ⟨k1, 0, none⟩)] 71 (0, 0))) (h1 : w.heap[k1]? = some (.cells #[hv, .pointer (some ⟨k2, 0, none⟩)] 94 (0, 0))) (h2 : w.heap[k2]? = some (.cells #[.map (some k3)] 148 (0, 0))) (h3 : MapAt Tryz.prog 9 w k3 n f) :
    Calls Tryz.prog 19 #[.pointer (some ⟨k0, 0, none⟩)] w fun e w' => e = .returned (.int .i64 n) ∧ w' = w := by
  have HC := hid (kept_in k1 k2 k3 n hv f w h1 h2 h3)
  have c0 := cell_of_row _ _ 0 _ _ _ h0
  clear h0 h1 h2 h3
  go_enter Tryz.func19, Tryz.ntmps19
  go_wp2_with fail
  refine HC.out.mono ?_
  rintro e w1 ⟨rfl, hw⟩
  obtain rfl := hw.symm
  go_wp2_with fail
  go_ret
  exact ⟨rfl, rfl⟩

theorem nodesAt_add {own : Nat → Prop} {C : Nat} {w : World} {T : List (List UInt8)} {F : List UInt8 → Option Value} (h : NodesAt own C w T F) {e : List UInt8} {v : Value} {t : Itm} {lo B m : Nat} (hf : F (Tr.sum e) = none) (h1 : Tr.reads e = some t) (h2 : e.length ≤ 1000) (h3 : B ≤ C) (h4 : ∀ k, own k → k < lo ∨ B ≤ k) (h5 : RN lo B w m v t) :
    NodesAt own C w (Tr.add T e) (fun x => if x = Tr.sum e then some v else F x) ∧ Tr.add T e = T ++ [e] := by
  obtain ⟨g1, g2, g3⟩ := h
  have hn : Tr.find T (Tr.sum e) = none := by
    cases hx : Tr.find T (Tr.sum e) with
    | none => rfl
    | some x =>
      obtain ⟨hm, hs⟩ := Tr.find_some hx
      obtain ⟨v', _, _, _, _, q, _⟩ := g3 x hm
      rw [hs, hf] at q
      cases q
  have he : Tr.add T e = T ++ [e] := by unfold Tr.add; rw [hn]; rfl
  refine ⟨?_, he⟩
  rw [he]
  refine ⟨g1.snoc hn, fun s hs => ?_, fun x hx => ?_⟩
  · rw [Tr.find_append] at hs
    cases hq : Tr.find T s with
    | some y => rw [hq] at hs; cases hs
    | none =>
      rw [hq, Tr.find_one] at hs
      by_cases hse : Tr.sum e = s
      · rw [if_pos hse] at hs; cases hs
      · dsimp only
        rw [if_neg (fun q => hse q.symm)]
        exact g2 s hq
  · rcases List.mem_append.1 hx with hx | hx
    · obtain ⟨v', t', lo', B', m', q1, q2⟩ := g3 x hx
      refine ⟨v', t', lo', B', m', ?_, q2⟩
      dsimp only
      rw [if_neg (Tr.find_none.1 hn x hx)]
      exact q1
    · rw [List.mem_singleton.1 hx]
      exact ⟨v, t, lo, B, m, if_pos rfl, h1, h2, h3, h4, h5⟩

theorem nodesAt_old {own : Nat → Prop} {C : Nat} {w : World} {T : List (List UInt8)} {F : List UInt8 → Option Value} (h : NodesAt own C w T F) {e : List UInt8} {v : Value} (hf : F (Tr.sum e) = some v) : Tr.add T e = T ∧ IsNode v := by
  obtain ⟨g1, g2, g3⟩ := h
  cases hx : Tr.find T (Tr.sum e) with
  | none => rw [g2 _ hx] at hf; cases hf
  | some x =>
    obtain ⟨hm, hs⟩ := Tr.find_some hx
    obtain ⟨v', t, lo, B, m, q1, q2, q3, q4, q5, q6⟩ := g3 x hm
    rw [hs, hf] at q1
    cases q1
    exact ⟨by unfold Tr.add; rw [hx]; rfl, rn_node (small_of q3 q2).1.pure q6⟩

/-- What is kept when a proof is offered, and what is answered. -/
def offerTo (S : List (List UInt8)) (root key : List UInt8) (p : List (List UInt8)) : Nat × List (List UInt8) :=
  if (Tr.verify root key p).2.2 ≠ 0 then ((Tr.verify root key p).2.2, S)
  else if 200 < (Tr.addAll S p).length then (9, S)
  else (0, Tr.addAll S p)

def AddOk (own : Nat → Prop) (k2 : Nat) (S : List (List UInt8)) (root key : ByteArray) (p : List ByteArray) (w : World) (e : Ending) (w' : World) : Prop :=
  ∃ k3' F', e = .returned (.int .i64 ((offerTo S root.data.toList key.data.toList (bl p)).1 : Int)) ∧ w'.heap[k2]? = some (.cells #[.map (some k3')] 148 (0, 0)) ∧ StoreAt own w' k3' (offerTo S root.data.toList key.data.toList (bl p)).2 F' ∧ Turns (fun k => k = k2) w w'

/-- What holds while the nodes of a proof are added to a copy of the map. -/
def AddAt (own : Nat → Prop) (W : World) (S : List (List UInt8)) (p : List ByteArray) (k : Nat) (wr : World) : Prop :=
  Below W.heap.size W wr ∧ ∃ F, MapAt Tryz.prog 9 wr W.heap.size (Tr.addAll S (bl (p.take k))).length F ∧ NodesAt own W.heap.size W (Tr.addAll S (bl (p.take k))) F

theorem bl_append (p q : List ByteArray) : bl (p ++ q) = bl p ++ bl q := by simp [bl]

theorem addAt_end {own : Nat → Prop} {W wr : World} {S : List (List UInt8)} {p : List ByteArray} (hn : ∀ k, own k → k < W.heap.size) (h : AddAt own W S p p.length wr) : ∃ F, StoreAt own wr W.heap.size (Tr.addAll S (bl p)) F := by
  obtain ⟨hb, F, h1, h2⟩ := h
  rw [List.take_length] at h1 h2
  exact ⟨F, h1, fun ho => Nat.lt_irrefl _ (hn _ ho), nodesAt_turns h2 hb.size (fun k hk _ => hb.block k hk)⟩

set_option maxHeartbeats 3200000 in
theorem add_any {own : Nat → Prop} (k2 k3 : Nat) (S : List (List UInt8)) (F : List UInt8 → Option Value) (root key : ByteArray) (a : Option Addr) (cap : Nat) (p : List ByteArray) (w : World) (hS : S.length ≤ 1000) (h2 : w.heap[k2]? = some (.cells #[.map (some k3)] 148 (0, 0))) (h3 : StoreAt own w k3 S F) (hn : ∀ k, own k → k < w.heap.size) (hk2 : own k2) (hr : SRd w.heap.size w a p) :
    Calls Tryz.prog 57 #[.pointer (some ⟨k2, 0, none⟩), .string root, .string key, .slice a p.length cap] w (AddOk own k2 S root key p w) := by
  have HC := hid (check_any root key a cap p w hr)
  have H2 := hid h2
  have H3 := hid h3
  have HN := hid hn
  have HK2 := hid hk2
  have HV : Hid ((Tr.verify root.data.toList key.data.toList (bl p)).2.2 = 0 → p.length ≤ 20 ∧ ∀ s ∈ p, s.size ≤ 1000) := fun hv => by
    by_cases hf : pfault root key p = 0
    · exact ⟨(pfault_none hf).2.2.1, (pfault_none hf).2.2.2⟩
    · rw [pfault_verify hf] at hv; exact absurd hv hf
  clear h2 h3 hn hk2 hr
  go_enter Tryz.func57, Tryz.ntmps57
  go_wp2_with fail
  refine HC.out.mono ?_
  rintro e w1 ⟨r, s, N, rfl, b1, hv, h0, h1⟩
  by_cases hN : N = 0
  · subst hN
    obtain ⟨vs, ho, hno⟩ := h1 rfl
    obtain ⟨a1, c1, rfl, _⟩ := nown_shape ho
    have HVS : Hid (vs.length = p.length) := hno.1
    rw [HVS.out] at ho hno ⊢
    have HRD := hid (nown_rd ho)
    have HNO := hid hno
    have HB1 := hid b1
    have H20 := hid (HV.out (by rw [hv]))
    have hp20 : p.length ≤ 20 := H20.out.1
    have HV0 : Hid ((Tr.verify root.data.toList key.data.toList (bl p)).2.2 = 0) := by rw [Hid, hv]
    have HS1 := hid (storeAt_later H3.out b1)
    have c0 := (cell_of_row _ _ 0 _ _ _ ((b1.block _ (Array.getElem?_eq_some_iff.1 H2.out).1).trans H2.out)).trans rfl
    have HK : Hid (w1.heap[k2]? = some (.cells #[.map (some k3)] 148 (0, 0))) := (b1.block _ (Array.getElem?_eq_some_iff.1 H2.out).1).trans H2.out
    obtain ⟨es, clock, hes, hcl⟩ := mapAt_clone HS1.out.1
    have HCL := hid hcl
    have HCM := hid (cloneMap_any k3 es clock w1 hes)
    have HBN : Hid (∀ k, own k → k < w1.heap.size) := fun k hk => Nat.lt_of_lt_of_le (HN.out k hk) b1.size
    clear ho hno h0 h1 hv b1 HC hes hcl
    go_wp2_with fail
    refine HCM.out.mono ?_
    rintro e w2 ⟨rfl, rfl⟩
    have HA0 : Hid (AddAt own w1 S p 0 (w1.alloc (.map es clock))) := ⟨(Below.refl _ _).alloc (Nat.le_refl _) _, F, HCL.out _ _ (heap_alloc_new w1 _), HS1.out.2.2⟩
    go_wp2_with fail
    go_loopw [36] (fun i wr => ∃ k : Nat, i = .int .i64 k ∧ k ≤ p.length ∧ Hid (AddAt own w1 S p k wr)) (fun i _ => p.length - (intOf i).toNat)
    case atStart => exact ⟨0, rfl, Nat.zero_le _, HA0.out⟩
    case round =>
      obtain ⟨k, rfl, hk, HH⟩ := hrel
      clear HA0
      by_cases hlt : k < p.length
      · obtain ⟨v, t, lo, B, m, e1, e2, e3, ⟨_, e5⟩, e4⟩ := HNO.out.2 k hlt
        obtain ⟨hsm, henc, hsd⟩ := reads_small (H20.out.2 _ (List.getElem_mem hlt)) e2
        obtain ⟨k', l', s', a', n', cap', hnd, hrep, _⟩ := rn_nd hsm.pure e4
        obtain ⟨m, rfl⟩ : ∃ m', m = m' + 1 := by
          cases m with
          | zero => exact e4.elim
          | succ m => exact ⟨m, rfl⟩
        obtain ⟨b, off, rfl, hb, hcell⟩ := HRD.out k (by rw [HVS.out]; exact hlt)
        have hvk : vs[k]'(by rw [HVS.out]; exact hlt) = v := by rw [List.getElem?_eq_getElem (by rw [HVS.out]; exact hlt)] at e1; exact Option.some.inj e1
        rw [hvk] at hcell
        have f0 := (HH.out.1.cell (p := ⟨b, off + k, none⟩) hb).trans hcell
        have i1 : (0 : Int) ≤ (k : Int) := by omega
        have i2 : (k : Int) < (p.length : Int) := by omega
        have HSUM := hid (commonSum_any k' a' n' cap' l' s' m t wr hsm (rep_wider (Nat.le_trans e3 HH.out.1.size) _ _ _ (rep_frame (HH.out.1.mono e3) _ _ _ hrep)))
        have HTK : Hid (Tr.addAll S (bl (p.take (k + 1))) = Tr.add (Tr.addAll S (bl (p.take k))) p[k].data.toList) := by
          rw [Hid, List.take_succ_eq_append_getElem hlt, bl_append]
          exact Tr.addAll_snoc _ _ _
        obtain ⟨E, hE⟩ : ∃ E : ByteArray, E = ⟨(Tr.sum (Itm.enc t)).toArray⟩ := ⟨_, rfl⟩
        have hEd : E.data.toList = Tr.sum p[k].data.toList := by rw [hE, henc]
        have hEs : E.size ≤ 1000 := by rw [← ba_len, hEd, Tr.sum_len]; decide
        have HE := hid hE
        have HED := hid hEd
        have HADD := hid (fun (T : List (List UInt8)) (G : List UInt8 → Option Value) (h : NodesAt own w1.heap.size w1 T G) (hg : G (Tr.sum p[k].data.toList) = none) => nodesAt_add (v := v) h hg e2 (by rw [ba_len]; exact H20.out.2 _ (List.getElem_mem hlt)) e3 (fun q hq => .inl (Nat.lt_of_lt_of_le (HN.out q hq) e5)) e4)
        have HOLD := hid (fun (T : List (List UInt8)) (G : List UInt8 → Option Value) (u : Value) (h : NodesAt own w1.heap.size w1 T G) (hg : G (Tr.sum p[k].data.toList) = some u) => nodesAt_old h hg)
        have HND := hid hnd
        obtain ⟨T, A, rfl, _, _, _, hm⟩ := nd_call hnd
        have hTn : (Tr.addAll S (bl (p.take k))).length ≤ 2000 := by
          have h1 := Tr.addAll_len (bl (p.take k)) S
          have h2 : (bl (p.take k)).length ≤ 20 := by rw [bl_len, List.length_take]; have := H20.out.1; omega
          omega
        obtain ⟨hbl, G, hmap, hnodes⟩ := HH.out
        have HMAP := hid hmap
        have HNODES := hid hnodes
        have HBL := hid hbl
        clear hE hEd e1 e2 e3 e4 e5 hsm hsd hrep hnd hvk hcell henc hmap hnodes hbl HH
        go_wp2_with fail
        refine HSUM.out.mono ?_
        rintro e w3 ⟨rfl, b3⟩
        rw [← HE.out]
        have HB3 : Hid (Below w1.heap.size w1 w3) := HBL.out.trans (b3.mono HBL.out.size)
        have HM3 := hid (mapAt_frame HMAP.out (b3.block _ (mapAt_lt HMAP.out)))
        have hlk := look_node HM3.out E hEs
        rw [HED.out] at hlk
        clear b3
        cases hg : G (Tr.sum p[k].data.toList) with
        | some u =>
          obtain ⟨q1, q2⟩ := HOLD.out _ _ _ HNODES.out hg
          have HQ := hid q1
          rw [hg] at hlk
          clear q1
          rcases q2 with rfl | ⟨Tu, xu, rfl⟩
          all_goals
            simp only [Option.getD_some, Option.isSome_some] at hlk
            go_wp2_with fail
            refine ⟨⟨k + 1, by go_num, by omega, ?_⟩, by simp [intOf]; omega⟩
            refine ⟨HB3.out, G, ?_, ?_⟩
            · rw [HTK.out, HQ.out]; exact HM3.out
            · rw [HTK.out, HQ.out]; exact HNODES.out
        | none =>
          obtain ⟨q1, q2⟩ := HADD.out _ _ HNODES.out hg
          have HQ1 := hid q1
          have HQ2 := hid q2
          rw [hg] at hlk
          simp only [Option.getD_none, Option.isSome_none] at hlk
          obtain ⟨w4, hup, hm4, ht4⟩ := mapAt_store HM3.out storeKeyed Tryz.underlying146 Tryz.underlying9 (by unfold maxLen; omega) E (by unfold maxLen; omega) (.iface T (.agg A))
          rw [HED.out, hg] at hm4
          have HM4 := hid hm4
          have HB4 : Hid (Below w1.heap.size w1 w4) := HB3.out.trans ⟨ht4.grown.os, ht4.grown.tape, ht4.grown.output, ht4.grown.size, fun i hi => ht4.grown.block i (Nat.lt_of_lt_of_le hi HB3.out.size) (fun e => by cases e; omega)⟩
          clear q1 q2 hm4 ht4
          go_wp2_with fail
          refine ⟨⟨k + 1, by go_num, by omega, ?_⟩, by simp [intOf]; omega⟩
          refine ⟨HB4.out, fun x => if x = Tr.sum p[k].data.toList then some (.iface T (.agg A)) else G x, ?_, ?_⟩
          · rw [HTK.out, HQ2.out, List.length_append]
            exact HM4.out
          · rw [HTK.out]; exact HQ1.out
      · obtain rfl : k = p.length := by omega
        have i2 : ¬ (p.length : Int) < (p.length : Int) := by omega
        obtain ⟨F', hst⟩ := addAt_end HBN.out HH.out
        have hl := fun ty => mapAt_len hst.1 Tryz.underlying146 ty
        have HST := hid hst
        have HBW := hid HH.out.1
        have hkr : wr.heap[k2]? = some (.cells #[.map (some k3)] 148 (0, 0)) := (HBW.out.block _ (Array.getElem?_eq_some_iff.1 HK.out).1).trans HK.out
        have z0 := cell_of_row _ _ 0 _ _ _ hkr
        have z1 := frozen_of_row _ _ 0 _ _ hkr
        have HKR := hid hkr
        have HOF : Hid (offerTo S root.data.toList key.data.toList (bl p) = if 200 < (Tr.addAll S (bl p)).length then (9, S) else (0, Tr.addAll S (bl p))) := by
          rw [Hid]; unfold offerTo; rw [if_neg (by rw [HV0.out]; simp)]
        have HBWW : Hid (Below w.heap.size w wr) := HB1.out.trans (HBW.out.mono HB1.out.size)
        have HW1 := hid HB1.out.size
        clear hst hkr HH hlt
        generalize hT : Tr.addAll S (bl p) = T' at *
        by_cases h200 : 200 < T'.length
        · have j1 : (200 : Int) < (T'.length : Int) := by omega
          rw [if_pos h200] at HOF
          clear h200
          go_wp2_with fail
          go_ret
          unfold AddOk
          rw [HOF.out]
          exact ⟨k3, F, rfl, HKR.out, storeAt_later H3.out HBWW.out, Turns.of_below HBWW.out⟩
        · have j1 : ¬ (200 : Int) < (T'.length : Int) := by omega
          rw [if_neg h200] at HOF
          clear h200
          go_wp2_with fail
          go_ret
          unfold AddOk
          rw [HOF.out]
          refine ⟨w1.heap.size, F', rfl, heap_setCell_same _ _ _ _ _ _ HKR.out, storeAt_turns HST.out (by simp [World.setCell]) (fun q hq ho => Below.heap_setCell _ _ _ _ (fun e => ho (by rw [e]; exact HK2.out))), ?_⟩
          have ht : Turns (fun q => q = k2) wr (wr.setCell ⟨k2, 0, none⟩ (.map (some w1.heap.size))) := ⟨rfl, rfl, rfl, by simp [World.setCell], fun q hq ho => Below.heap_setCell _ _ _ _ ho⟩
          exact (Turns.of_below HBWW.out).trans ht
  · have hN' : ¬ (N : Int) = 0 := by omega
    obtain rfl := h0 hN
    have HB1 := hid b1
    have HOF : Hid (offerTo S root.data.toList key.data.toList (bl p) = (N, S)) := by
      rw [Hid]; unfold offerTo; rw [hv]; exact if_pos hN
    clear h0 h1 hv b1 hN
    go_wp2_with fail
    go_ret
    unfold AddOk
    rw [HOF.out]
    exact ⟨k3, F, rfl, (HB1.out.block _ (Array.getElem?_eq_some_iff.1 H2.out).1).trans H2.out, storeAt_later H3.out HB1.out, Turns.of_below HB1.out⟩
end Go.Proofs.YtbmohenjphmlgaaGreat

/- The walks of slices.Delete at heads, and of roots (of the program). -/
namespace Go.Proofs.YtbmohenjphmlgaaGreat
open Go.RowKit
set_option maxRecDepth 100000

theorem set_take_drop {α : Type} (l : List α) (o : Nat) (v : α) (h : o < l.length) (n : Nat) : (l.set o v).take (o + 1) = l.take o ++ [v] ∧ (l.set o v).drop (o + 1 + n) = l.drop (o + 1 + n) := by
  constructor
  · rw [List.take_succ_eq_append_getElem (by rw [List.length_set]; exact h), List.take_set_of_le (Nat.le_refl _), List.getElem_set_self]
  · rw [List.drop_set, if_pos (by omega)]

/-- What lies in a block behind some stores. -/
theorem block_setCells {e : TypeId} (g : Nat) : ∀ (xs : List Value) (o : Nat) (w : World) (cur : Array Value), w.heap[g]? = some (.cells cur e (0, 0)) → o + xs.length ≤ cur.size → ∃ cur', (w.setCells g o xs).heap[g]? = some (.cells cur' e (0, 0)) ∧ cur'.toList = cur.toList.take o ++ xs ++ cur.toList.drop (o + xs.length) := by
  intro xs
  induction xs with
  | nil => intro o w cur h _; exact ⟨cur, h, by simp⟩
  | cons v r ih =>
    intro o w cur h hl
    rw [List.length_cons] at hl
    have h1 := heap_setCell_same w g o cur e v h
    obtain ⟨cur', h2, h3⟩ := ih (o + 1) _ _ h1 (by rw [Array.size_setIfInBounds]; omega)
    refine ⟨cur', h2, ?_⟩
    rw [h3, Array.toList_setIfInBounds]
    obtain ⟨e1, e2⟩ := set_take_drop cur.toList o v (by rw [Array.length_toList]; omega) r.length
    rw [e1, e2, List.length_cons]
    simp only [List.append_assoc, List.cons_append, List.nil_append]
    rw [show o + (r.length + 1) = o + 1 + r.length by omega]

theorem setCells_turns (g : Nat) (w : World) (o : Nat) (xs : List Value) : Turns (fun k => k = g) w (w.setCells g o xs) := by
  induction xs generalizing o w with
  | nil => exact Turns.refl _ _
  | cons v r ih =>
    have h1 : Turns (fun k => k = g) w (w.setCell ⟨g, o, none⟩ v) := ⟨rfl, rfl, rfl, by simp [World.setCell], fun k _ hk => Below.heap_setCell _ _ _ _ hk⟩
    exact h1.trans (ih (w.setCell ⟨g, o, none⟩ v) (o + 1))

theorem hcells_drop (l : List (Int × ByteArray)) (p : Nat) : (hcells l).drop (p * 2) = hcells (l.drop p) := by
  have e : hcells l = hcells (l.take p) ++ hcells (l.drop p) := by rw [← hcells_append, List.take_append_drop]
  by_cases hp : p ≤ l.length
  · rw [e, List.drop_append_of_le_length (by rw [hcells_len, List.length_take]; omega), List.drop_of_length_le (by rw [hcells_len, List.length_take]; omega)]
    rfl
  · rw [List.drop_of_length_le (by rw [hcells_len]; omega), List.drop_of_length_le (by omega)]; rfl

theorem hcells_take (l : List (Int × ByteArray)) (p : Nat) : (hcells l).take (p * 2) = hcells (l.take p) := by
  have e : hcells l = hcells (l.take p) ++ hcells (l.drop p) := by rw [← hcells_append, List.take_append_drop]
  by_cases hp : p ≤ l.length
  · rw [e, List.take_append_of_le_length (by rw [hcells_len, List.length_take]; omega), List.take_of_length_le (by rw [hcells_len, List.length_take]; omega)]
  · rw [List.take_of_length_le (by rw [hcells_len]; omega), List.take_of_length_le (by omega)]

theorem slice_cells {w : World} {g p : Nat} {cur : Array Value} {l : List (Int × ByteArray)} (h : w.heap[g]? = some (.cells cur 99 (0, 0))) (ht : cur.toList.take (l.length * 2) = hcells l) {ad : Addr} (had : p < l.length → ad = ⟨g, p * 2, none⟩) : ∀ j u, (hcells (l.drop p))[j]? = some u → w.cell? (ad.add j) = some u := by
  intro j u hu
  have hj : j < (hcells (l.drop p)).length := (List.getElem?_eq_some_iff.1 hu).1
  rw [hcells_len, List.length_drop] at hj
  rw [had (by omega)]
  have hadd : (⟨g, p * 2, none⟩ : Addr).add j = ⟨g, p * 2 + j, none⟩ := by unfold Addr.add; split <;> simp_all
  rw [hadd, cell_of_row _ _ _ _ _ _ h]
  rw [← hcells_drop, List.getElem?_drop, ← ht, List.getElem?_take_of_lt (by omega)] at hu
  rw [← hu, Array.getElem?_toList]

/-- The roots of heads. -/
def rootsB (l : List (Int × ByteArray)) : List ByteArray := l.map (·.2)

end Go.Proofs.YtbmohenjphmlgaaGreat

/- The walks of Root, Prove, Verify, Offer that are refused (of the program). -/
namespace Go.Proofs.YtbmohenjphmlgaaGreat
open Go.RowKit
set_option maxRecDepth 100000

theorem turns_cell {own : Nat → Prop} {w w' : World} {b off : Nat} (h : Turns own w w') (hb : b < w.heap.size) (ho : ¬ own b) : w'.cell? ⟨b, off, none⟩ = w.cell? ⟨b, off, none⟩ := World.cell?_of_block (w := w) (h.block b hb ho)

/-- Offer at a height that is trusted hands on to the store. -/
theorem offer_in {k1 k2 : Nat} {a : Option Addr} {cap : Nat} {l : List (Int × ByteArray)} {x : Int} {key r0 : ByteArray} {v : Value} {w : World} {Q : Int → World → Prop}
    (hk : w.heap[k1]? = some (.cells #[.slice a l.length cap, .pointer (some ⟨k2, 0, none⟩)] 94 (0, 0))) (hr : HRd w.heap.size w a l) (hl : l.length ≤ 8) (hs : Rises l) (hx : (x, r0) ∈ l) (hne : k1 ≠ k2) (hnb : ∀ b off, a = some ⟨b, off, none⟩ → b ≠ k2)
    (h : ∀ W, Below w.heap.size w W → Calls Tryz.prog 57 #[.pointer (some ⟨k2, 0, none⟩), .string r0, .string key, v] W fun e w' => ∃ n, e = .returned (.int .i64 n) ∧ Q n w' ∧ Turns (fun k => k = k2) W w') :
    Calls Tryz.prog 32 #[.pointer (some ⟨k1, 0, none⟩), .int .i64 x, .string key, v] w fun e w' => ∃ n, e = .returned (.int .i64 n) ∧ Q n w' ∧ Turns (fun k => k = k2) w w' := by
  have HP := hid (place_any k1 a cap l _ x w hk hr (by omega) hs)
  have HRD := hid hr
  have HS := hid hs
  have HX := hid hx
  have HK := hid hk
  have HT := hid h
  clear hk hr hs hx h
  go_enter Tryz.func32, Tryz.ntmps32
  go_wp2_with fail
  refine HP.out.mono ?_
  rintro e w2 ⟨⟨p, rfl, p1, p2, p3⟩, b2⟩
  obtain ⟨hp, hp1, hp2⟩ := found_at HS.out HX.out p2 p3
  rw [decide_eq_true (⟨hp, hp1⟩ : ∃ h : p < l.length, l[p].1 = x)]
  obtain ⟨b, off, rfl, hb, e0, e1⟩ := HRD.out p hp
  have hnb' := hnb b off rfl
  rw [hp2] at e1
  have f1 := (b2.cell (p := ⟨b, off + p * 2 + 1, none⟩) hb).trans e1
  have c0 := (b2.cell (p := ⟨k1, 0, none⟩) (Array.getElem?_eq_some_iff.1 HK.out).1).trans (cell_of_row _ _ 0 _ _ _ HK.out)
  have c1 := (b2.cell (p := ⟨k1, 1, none⟩) (Array.getElem?_eq_some_iff.1 HK.out).1).trans (cell_of_row _ _ 1 _ _ _ HK.out)
  have i1 : (0 : Int) ≤ (p : Int) := by omega
  have i2 : (p : Int) < (l.length : Int) := by omega
  have HB := hid b2
  have hk1 : k1 < w2.heap.size := Nat.lt_of_lt_of_le (Array.getElem?_eq_some_iff.1 HK.out).1 b2.size
  have hb1 : b < w2.heap.size := Nat.lt_of_lt_of_le hb b2.size
  clear e0 e1 p1 p2 p3 b2 hp1 hp2 hnb
  go_wp2_with fail
  go_region_held3 (fun w' => w'.cell? ⟨k1, 0, none⟩ = some (.slice (some ⟨b, off, none⟩) l.length cap) ∧ w'.cell? ⟨k1, 1, none⟩ = some (.pointer (some ⟨k2, 0, none⟩)) ∧ w'.cell? ⟨b, off + p * 2 + 1, none⟩ = some (.string r0)) (go_keep) ((go_at_call 57; refine (HT.out _ HB.out.drew).mono ?_; rintro e w3 ⟨n, rfl, q, b3⟩; have HQ := hid q; have HB3 : Hid (Turns (fun k => k = k2) w w3) := (Turns.of_below HB.out.drew).trans b3; have z0 := (turns_cell (off := 0) b3 hk1 hne).trans c0; have z1 := (turns_cell (off := 1) b3 hk1 hne).trans c1; have z2 := (turns_cell (off := off + p * 2 + 1) b3 hb1 hnb').trans f1; clear q b3))
  all_goals go_wp2_with fail
  all_goals go_ret
  all_goals exact ⟨n, rfl, HQ.out, HB3.out⟩

end Go.Proofs.YtbmohenjphmlgaaGreat

/- The walks of ForgetAllBut and Drop (of the program), for what reach does. -/
namespace Go.Proofs.YtbmohenjphmlgaaGreat
open Go.RowKit
set_option maxRecDepth 100000

/-- R is a part of the store S, with the same nodes. -/
def PartOf (S R : List (List UInt8)) (F G : List UInt8 → Option Value) : Prop :=
  Tr.Lone R ∧ (∀ e ∈ R, e ∈ S) ∧ (∀ s, Tr.find R s = none → G s = none) ∧ ∀ e ∈ R, G (Tr.sum e) = F (Tr.sum e)

/-- What reach does. -/
def ReachOk (own : Nat → Prop) (k2 k3 r : Nat) (S : List (List UInt8)) (F : List UInt8 → Option Value) : Prop :=
  ∀ (f : Nat) (w : World) (s : ByteArray) (R : List (List UInt8)) (G : List UInt8 → Option Value), s.size ≤ 1000 → w.heap[k2]? = some (.cells #[.map (some k3)] 148 (0, 0)) → StoreAt own w k3 S F → MapAt Tryz.prog 9 w r R.length G → PartOf S R F G → Tr.missing S R ≤ f →
    Calls Tryz.prog 101 #[.pointer (some ⟨k2, 0, none⟩), .string s, .map (some r)] w fun e w' => e = .returned (.tuple #[]) ∧ ∃ G', MapAt Tryz.prog 9 w' r (Tr.dfs S f s.data.toList R).length G' ∧ PartOf S (Tr.dfs S f s.data.toList R) F G' ∧ Turns (fun k => k = r) w w'

/-- What is reached from some roots. -/
def reachedFrom (S : List (List UInt8)) (l : List ByteArray) : List (List UInt8) := (bl l).foldl (fun R r => Tr.dfs S S.length r R) []

def ForgetOk (own : Nat → Prop) (k2 : Nat) (S : List (List UInt8)) (l : List ByteArray) (w : World) (e : Ending) (w' : World) : Prop :=
  e = .returned (.tuple #[]) ∧ ∃ k3' F', w'.heap[k2]? = some (.cells #[.map (some k3')] 148 (0, 0)) ∧ StoreAt own w' k3' (reachedFrom S l) F' ∧ Turns (fun k => k = k2) w w'

/-- What Drop does at a height that is trusted. -/
def DropOk (own : Nat → Prop) (k1 k2 base g cap : Nat) (S : List (List UInt8)) (l : List (Int × ByteArray)) (p : Nat) (w : World) (e : Ending) (w' : World) : Prop :=
  e = .returned (.int .i64 0) ∧ ∃ k3' F', w'.heap[k1]? = some (.cells #[.slice (some ⟨g, 0, none⟩) (l.length - 1) cap, .pointer (some ⟨k2, 0, none⟩)] 94 (0, 0)) ∧ HOwn w' base (.slice (some ⟨g, 0, none⟩) (l.length - 1) cap) (l.eraseIdx p) ∧ w'.heap[k2]? = some (.cells #[.map (some k3')] 148 (0, 0)) ∧ StoreAt own w' k3' (reachedFrom S (rootsB (l.eraseIdx p))) F' ∧ Turns (fun k => k = k1 ∨ k = k2 ∨ k = g) w w'

end Go.Proofs.YtbmohenjphmlgaaGreat

/- A keeper in memory, and what its calls do to it (of the program). -/
namespace Go.Proofs.YtbmohenjphmlgaaGreat
open Go.RowKit
set_option maxRecDepth 100000

/-- A keeper: the heads l and the elements S; the blocks that its calls write are those of own. -/
structure KAt0 (own : Nat → Prop) (w : World) (k0 k1 k2 k3 base : Nat) (a : Option Addr) (cap : Nat) (F : List UInt8 → Option Value) (l : List (Int × ByteArray)) (S : List (List UInt8)) : Prop where
  outer : w.heap[k0]? = some (.cells #[.pointer (some ⟨k1, 0, none⟩)] 71 (0, 0))
  inner : w.heap[k1]? = some (.cells #[.slice a l.length cap, .pointer (some ⟨k2, 0, none⟩)] 94 (0, 0))
  cell : w.heap[k2]? = some (.cells #[.map (some k3)] 148 (0, 0))
  heads : HOwn w base (.slice a l.length cap) l
  base : base ≤ w.heap.size
  store : StoreAt own w k3 S F
  own : ∀ k, own k ↔ k = k0 ∨ k = k1 ∨ k = k2 ∨ (Value.slice a l.length cap).ownBlock = some k
  n01 : k0 ≠ k1
  n02 : k0 ≠ k2
  n12 : k1 ≠ k2
  far : ∀ g, (Value.slice a l.length cap).ownBlock = some g → g ≠ k0 ∧ g ≠ k1 ∧ g ≠ k2
  rises : Rises l
  few : l.length ≤ 8
  eight : ∀ q ∈ l, q.2.size = 8
  most : S.length ≤ 200

def KAt (own : Nat → Prop) (w : World) (k0 : Nat) (l : List (Int × ByteArray)) (S : List (List UInt8)) : Prop := ∃ k1 k2 k3 base a cap F, KAt0 own w k0 k1 k2 k3 base a cap F l S

theorem srd_wider {B C : Nat} {w : World} {a : Option Addr} {l : List ByteArray} (h : SRd B w a l) (hB : B ≤ C) : SRd C w a l := by
  intro i hi
  obtain ⟨b, off, h1, h2, h3⟩ := h i hi
  exact ⟨b, off, h1, Nat.lt_of_lt_of_le h2 hB, h3⟩

theorem offerTo_most {S : List (List UInt8)} (hS : S.length ≤ 200) (root key : List UInt8) (p : List (List UInt8)) : (offerTo S root key p).2.length ≤ 200 := by
  unfold offerTo
  split
  · exact hS
  · split
    · exact hS
    · rename_i h; exact Nat.le_of_not_lt h

end Go.Proofs.YtbmohenjphmlgaaGreat

/- The walks of sums, of each kind of nodes (of the program). -/
namespace Go.Proofs.YtbmohenjphmlgaaGreat
open Go.RowKit
set_option maxRecDepth 100000

/-- The sums in the first k places of a branch. -/
def sumsB (t : Itm) (k : Nat) : List ByteArray := (List.range k).filterMap fun i => if Tr.isSum (Tr.kid t i) then some ⟨(Tr.kid t i).bytes.toArray⟩ else none

end Go.Proofs.YtbmohenjphmlgaaGreat

/- The walk of the finder in proofFor (of the program): it takes down the bytes of each node that it is asked for. -/
namespace Go.Proofs.YtbmohenjphmlgaaGreat
open Go.RowKit
set_option maxRecDepth 100000

/-- The variable at block c holds these texts, in a row of its own. -/
def Holds (w : World) (c : Nat) (l : List ByteArray) : Prop := ∃ v, w.heap[c]? = some (.cells #[v] 28 (0, 0)) ∧ TOwn w (c + 1) v l

end Go.Proofs.YtbmohenjphmlgaaGreat

/- The walk of tableOf (of the program): the pairs that count. -/
namespace Go.Proofs.YtbmohenjphmlgaaGreat
open Go.RowKit
set_option maxRecDepth 100000

/-- The last place below k with a key, or nought. -/
def lastAt (l : List (ByteArray × ByteArray)) (key : List UInt8) : Nat → Nat
  | 0 => 0
  | k + 1 => if (l[k]?).map (fun p => p.1.data.toList) = some key then k else lastAt l key k

/-- Does the i-th pair count? -/
def counts (l : List (ByteArray × ByteArray)) (p : ByteArray × ByteArray) (i : Nat) : Prop := p.1.data.toList ∉ (l.drop (i + 1)).map (fun q => q.1.data.toList) ∧ p.2.data.toList ≠ []

instance (l : List (ByteArray × ByteArray)) (p : ByteArray × ByteArray) (i : Nat) : Decidable (counts l p i) := by unfold counts; infer_instance

def digB (p : ByteArray × ByteArray) : ByteArray × ByteArray := (⟨(Tr.digits p.1.data.toList).toArray⟩, p.2)

/-- The pairs that count, among the first k. -/
def tabTo (l : List (ByteArray × ByteArray)) (k : Nat) : List (ByteArray × ByteArray) := (List.range k).filterMap fun i => match l[i]? with | some p => if counts l p i then some (digB p) else none | none => none

/-- As lists of bytes. -/
def lists (l : List (ByteArray × ByteArray)) : List (List UInt8 × List UInt8) := l.map fun p => (p.1.data.toList, p.2.data.toList)

end Go.Proofs.YtbmohenjphmlgaaGreat

/- The walk of tableOf (of the program). -/
namespace Go.Proofs.YtbmohenjphmlgaaGreat
open Go.RowKit Go.Maps
set_option maxRecDepth 100000

/-- The map of last places. -/
def LastMap (w : World) (b : Nat) (l : List (ByteArray × ByteArray)) (k : Nat) (D : DataW Unit) : Prop :=
  w.ownsMap Tryz.prog 9 (plainElem Tryz.prog 3) b k D ∧ ∀ key : List UInt8, D.atKey (.string key) (.lit (.int .i64 0)) = .lit (.int .i64 (lastAt l key k : Nat))

end Go.Proofs.YtbmohenjphmlgaaGreat

/- The walk of buildBranch (of the program), once build of what is behind each digit is known. -/
namespace Go.Proofs.YtbmohenjphmlgaaGreat
open Go.RowKit
set_option maxRecDepth 100000

/-- build answers with the tree of these pairs. -/
def BuildOk (f : Nat) : Prop := ∀ (w : World) (a : Option Addr) (cap : Nat) (l : List (ByteArray × ByteArray)), PRd w.heap.size w a l → l.length ≤ 1000 → Tr.Fits f (ents l) → Tr.Apart (ents l) →
  Calls Tryz.prog 48 #[.slice a l.length cap] w fun e w' => ∃ v, e = .returned v ∧ BT w.heap.size w' f v (ents l) ∧ Below w.heap.size w w'

def BranchOk (f : Nat) : Prop := ∀ (w : World) (a : Option Addr) (cap : Nat) (l : List (ByteArray × ByteArray)), PRd w.heap.size w a l → l.length ≤ 1000 → Tr.Fits f (ents l) → Tr.Apart (ents l) → Tr.Forks (ents l) →
  Calls Tryz.prog 88 #[.slice a l.length cap] w fun e w' => ∃ a2 c2 cs x, e = .returned (.agg (branchCells a2 c2 cs x)) ∧ BT w.heap.size w' f (branchV a2 c2 cs x) (ents l) ∧ Below w.heap.size w w'

/-- The row of references, of which the first k are there. -/
def RefsTo (lo : Nat) (w : World) (f : Nat) (l : List Tr.Ent) (k : Nat) (cs : Array Value) : Prop :=
  cs.size = 32 ∧ ∀ d, d < k → ∃ vd, cs[2 * d]? = some (.string (refSum (Tr.node f (Tr.behind [UInt8.ofNat d] l)))) ∧ cs[2 * d + 1]? = some vd ∧ BT lo w f vd (Tr.behind [UInt8.ofNat d] l)

def refsZero : Array Value := #[.string ⟨#[]⟩, .nilIface, .string ⟨#[]⟩, .nilIface, .string ⟨#[]⟩, .nilIface, .string ⟨#[]⟩, .nilIface, .string ⟨#[]⟩, .nilIface, .string ⟨#[]⟩, .nilIface, .string ⟨#[]⟩, .nilIface, .string ⟨#[]⟩, .nilIface, .string ⟨#[]⟩, .nilIface, .string ⟨#[]⟩, .nilIface, .string ⟨#[]⟩, .nilIface, .string ⟨#[]⟩, .nilIface, .string ⟨#[]⟩, .nilIface, .string ⟨#[]⟩, .nilIface, .string ⟨#[]⟩, .nilIface, .string ⟨#[]⟩, .nilIface]

/-- What stands while the references are made. -/
structure Mid (w : World) (f : Nat) (l : List Tr.Ent) (k : Nat) (wr : World) (cs : Array Value) : Prop where
  below : Below w.heap.size w wr
  res : wr.heap[w.heap.size]? = some (.cells branchZero 142 (0, 0))
  row : wr.heap[w.heap.size + 1]? = some (.cells cs 140 (0, 0))
  refs : RefsTo (w.heap.size + 1 + 1) wr f l k cs

end Go.Proofs.YtbmohenjphmlgaaGreat

/- The walk of build (of the program): the tree of pairs. -/
namespace Go.Proofs.YtbmohenjphmlgaaGreat
open Go.RowKit
set_option maxRecDepth 100000

end Go.Proofs.YtbmohenjphmlgaaGreat

/- The walk of Root (of the program). -/
namespace Go.Proofs.YtbmohenjphmlgaaGreat
open Go.RowKit
set_option maxRecDepth 100000

end Go.Proofs.YtbmohenjphmlgaaGreat

/- The walks of proofFor and Prove (of the program). -/
namespace Go.Proofs.YtbmohenjphmlgaaGreat
open Go.RowKit
set_option maxRecDepth 100000

def toB (l : List UInt8) : ByteArray := ⟨l.toArray⟩

/-- What holds on the way down. -/
def PJ (W : World) (lo : Nat) (goal : List ByteArray) (w : World) (v : Value) (d : ByteArray) : Prop :=
  Below W.heap.size W w ∧ ∃ f l P, f ≤ 100 ∧ BT lo W f v l ∧ Tr.Fits f l ∧ Tr.Apart l ∧ (∀ c ∈ d.data.toList, c.toNat < 16) ∧ Holds w W.heap.size P ∧ P ++ (Tr.elems f l d.data.toList).map toB = goal

def PQ (W : World) (goal : List ByteArray) (_ : ByteArray) (ok : Bool) (w : World) : Prop := ok = true ∧ Below W.heap.size W w ∧ Holds w W.heap.size goal

end Go.Proofs.YtbmohenjphmlgaaGreat

/- The walks of proofFor and Prove (of the program): Prove answers as the document says. -/
namespace Go.Proofs.YtbmohenjphmlgaaGreat
open Go.RowKit
set_option maxRecDepth 100000

end Go.Proofs.YtbmohenjphmlgaaGreat

/- The walk of pick (of the statements): which of n things a raw number speaks of. -/
namespace Go.Proofs.YtbmohenjphmlgaaGreat
open Go.RowKit
set_option maxRecDepth 100000

end Go.Proofs.YtbmohenjphmlgaaGreat

/- Rows of pairs, as the statements make them; the walks of short, value, table (of the statements). -/
namespace Go.Proofs.YtbmohenjphmlgaaGreat
open Go.RowKit
set_option maxRecDepth 100000

def AOwn (w : World) (base : Nat) (v : Value) (l : List (ByteArray × ByteArray)) : Prop := w.ownsRow base 67 2 v l.length (pcells l)

/-- At most n bytes of a text. -/
def shortB (s : ByteArray) (n : Nat) : ByteArray := if n < s.size then s.extract 0 n else s

/-- What pairs have for a key. -/
def valB (l : List (ByteArray × ByteArray)) (key : ByteArray) : ByteArray := l.foldl (fun v p => if p.1 = key then p.2 else v) ⟨#[]⟩

end Go.Proofs.YtbmohenjphmlgaaGreat

/- The walk of table (of the statements): pairs that may be, out of raw ones. -/
namespace Go.Proofs.YtbmohenjphmlgaaGreat
open Go.RowKit
set_option maxRecDepth 100000

def shortP (p : ByteArray × ByteArray) : ByteArray × ByteArray := (shortB p.1 6, shortB p.2 40)

/-- Pairs that may be, out of raw ones. -/
def tableB (l : List (ByteArray × ByteArray)) : List (ByteArray × ByteArray) := (l.take 30).map shortP

end Go.Proofs.YtbmohenjphmlgaaGreat

/- What the statement Orders leans on: tables that have the same for each key have the same root. -/
namespace Go.Proofs.YtbmohenjphmlgaaGreat
open Go.RowKit
set_option maxRecDepth 100000

/-- The root of a table with which nothing is wrong. -/
def rootB (l : List (ByteArray × ByteArray)) : ByteArray := ⟨(Tr.sum (Itm.enc (Tr.node 13 (Tr.table (lists l))))).toArray⟩

/-- Nothing is wrong with these. -/
def Fine (l : List (ByteArray × ByteArray)) : Prop := l.length ≤ 60 ∧ ∀ p ∈ l, p.1.size ≤ 6 ∧ p.2.size ≤ 40

/-- The pairs of a table, the last first, each with what the table has for its key. -/
def turnedB (l : List (ByteArray × ByteArray)) : List (ByteArray × ByteArray) := l.reverse.map fun p => (p.1, valB l p.1)

/-- A pair put in, and behind all the key's value. -/
def moreB (l : List (ByteArray × ByteArray)) (i : Nat) (k o : ByteArray) : List (ByteArray × ByteArray) := l.take i ++ [(k, o)] ++ l.drop i ++ [(k, valB l k)]

end Go.Proofs.YtbmohenjphmlgaaGreat

/- The walk of the statement Orders. -/
namespace Go.Proofs.YtbmohenjphmlgaaGreat
open Go.RowKit
set_option maxRecDepth 100000

end Go.Proofs.YtbmohenjphmlgaaGreat

/- Proofs of tables that may be; the walk of the statement Proven. -/
namespace Go.Proofs.YtbmohenjphmlgaaGreat
open Go.RowKit
set_option maxRecDepth 100000

/-- The proof of a table for a key. -/
def proofB (l : List (ByteArray × ByteArray)) (key : ByteArray) : List ByteArray := (Tr.prove (lists l) key.data.toList).map toB

end Go.Proofs.YtbmohenjphmlgaaGreat

/- The walks of sum, with, few, meet and proofs (of the statements). -/
namespace Go.Proofs.YtbmohenjphmlgaaGreat
open Go.RowKit
set_option maxRecDepth 100000

/-- Texts with one more, if it is not there. -/
def withB (l : List ByteArray) (s : ByteArray) : List ByteArray := if ∃ x ∈ l, x = s then l else l ++ [s]

/-- What with does. -/
def WithOk (B : Nat) (w : World) (v : Value) (l : List ByteArray) (s : ByteArray) (e : Ending) (w' : World) : Prop :=
  ∃ v', e = .returned v' ∧ TOwn w' B v' (withB l s) ∧ Below B w w' ∧ (∀ k, k < w.heap.size → v.ownBlock ≠ some k → w'.heap[k]? = w.heap[k]?) ∧ (∀ b, v'.ownBlock = some b → v.ownBlock = some b ∨ w.heap.size ≤ b)

/-- Two elements that are not the same have the same sum. -/
def Meets (l : List ByteArray) : Prop := ∃ i k, k < i ∧ ∃ (hi : i < l.length) (hk : k < l.length), Tr.fnv l[i].data.toList = Tr.fnv l[k].data.toList ∧ l[i] ≠ l[k]

end Go.Proofs.YtbmohenjphmlgaaGreat

/- The walks of meet and proofs (of the statements). -/
namespace Go.Proofs.YtbmohenjphmlgaaGreat
open Go.RowKit
set_option maxRecDepth 100000

/-- The elements i and k of some are not the same, but have the same sum. -/
def MeetAt (l : List ByteArray) (i k : Nat) : Prop := ∃ (hi : i < l.length) (hk : k < l.length), Tr.fnv l[i].data.toList = Tr.fnv l[k].data.toList ∧ l[i] ≠ l[k]

/-- What meet tells. -/
def MeetOk (l : List ByteArray) (w : World) (e : Ending) (w' : World) : Prop := ∃ b, e = .returned (.bool b) ∧ (b = false → ¬ Meets l) ∧ Below w.heap.size w w'

/-- All elements of the proofs of a table for some keys. -/
def allB (l : List (ByteArray × ByteArray)) (keys : List ByteArray) : List ByteArray := keys.foldl (fun A k => (proofB l (shortB k 6)).foldl withB A) []

end Go.Proofs.YtbmohenjphmlgaaGreat

/- The walk of reach (of the program): it reaches what is reached. -/
namespace Go.Proofs.YtbmohenjphmlgaaGreat
open Go.RowKit
set_option maxRecDepth 100000

/-- What is reached by the first sums of a node. -/
def reachTo (S : List (List UInt8)) (f : Nat) (R : List (List UInt8)) (L : List ByteArray) : List (List UInt8) := (bl L).foldl (fun R c => Tr.dfs S f c R) R

/-- What holds while the sums of a node are gone through. -/
def ReachAt (own : Nat → Prop) (k2 k3 r : Nat) (S : List (List UInt8)) (F : List UInt8 → Option Value) (f : Nat) (w : World) (B : Nat) (u : Value) (L : List ByteArray) (T : List (List UInt8)) (wr : World) : Prop :=
  Turns (fun k => k = r) w wr ∧ wr.heap[k2]? = some (.cells #[.map (some k3)] 148 (0, 0)) ∧ StoreAt own wr k3 S F ∧ (∃ G, MapAt Tryz.prog 9 wr r T.length G ∧ PartOf S T F G) ∧ Tr.missing S T ≤ f ∧ TOwn wr B u L

end Go.Proofs.YtbmohenjphmlgaaGreat
