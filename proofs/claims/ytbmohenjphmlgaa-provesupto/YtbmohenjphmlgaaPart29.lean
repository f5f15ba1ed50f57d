/- Part 29 of a proof: what the last text needs. -/
import Derived.Test.YtbmohenjphmlgaaPart28
import Derived.Test.YtbmohenjphmlgaaPart27
import Derived.Test.YtbmohenjphmlgaaPart14
/- The walk of build (of the program): the tree of pairs. -/
namespace Go.Proofs.Ytbmohenjphmlgaa
open Go.RowKit
set_option maxRecDepth 100000

theorem ents_len (l : List (ByteArray × ByteArray)) : (ents l).length = l.length := by simp [ents]

theorem ents_nil {l : List (ByteArray × ByteArray)} (h : ents l = []) : l = [] := by
  have := ents_len l
  rw [h] at this
  exact List.eq_nil_of_length_eq_zero this.symm

theorem ents_two {l : List (ByteArray × ByteArray)} (h : 1 < l.length) : ∃ p q r, ents l = p :: q :: r := by
  match l, h with
  | a :: b :: r, _ => exact ⟨_, _, _, rfl⟩

/-- No pairs. -/
theorem build_none (f : Nat) (w : World) (a : Option Addr) (cap : Nat) : Calls Try.prog 73 #[.slice a 0 cap] w fun e w' => ∃ v, e = .returned v ∧ BT w.heap.size w' f v [] ∧ Below w.heap.size w w' := by
  have HE := hid (fun w => newEmpty_any w)
  go_enter Try.func73, Try.ntmps73
  go_wp2_with fail
  refine (HE.out _).mono ?_
  rintro e w1 ⟨rfl, b1⟩
  have HB := hid b1
  clear b1
  go_wp2_with fail
  go_ret
  refine ⟨_, rfl, ?_, HB.out⟩
  cases f with
  | zero => exact ⟨rfl, rfl⟩
  | succ f => exact .inl ⟨rfl, rfl⟩

set_option maxHeartbeats 1600000 in
/-- One pair. -/
theorem build_one (f : Nat) (p : ByteArray × ByteArray) (w : World) (a : Option Addr) (cap : Nat) (hr : PRd w.heap.size w a [p]) (hfit : Tr.Fits (f + 1) (ents [p])) (hf : f ≤ 50) : Calls Try.prog 73 #[.slice a 1 cap] w fun e w' => ∃ v, e = .returned v ∧ BT w.heap.size w' (f + 1) v (ents [p]) ∧ Below w.heap.size w w' := by
  obtain ⟨b, off, rfl, hb, c0, c1⟩ := hr 0 (by simp)
  obtain ⟨g1, g2, g3⟩ := hfit _ (List.mem_singleton.2 rfl)
  have hsz : p.1.size ≤ 10000000 := by
    have : p.1.data.toList.length < f + 1 := g1
    rw [ba_len] at this; omega
  have d0 : w.cell? ⟨b, off, none⟩ = some (.string p.1) := by simpa using c0
  have d1 : w.cell? ⟨b, off + 1, none⟩ = some (.string p.2) := by simpa using c1
  have HL := hid (fun w => newLeaf_any p.1 p.2 (f + 1) w hsz g2)
  clear c0 c1 g1 g2 g3 hfit hr
  go_enter Try.func73, Try.ntmps73
  go_wp2_with fail
  go_region_held3 (fun w' => w'.cell? ⟨b, off, none⟩ = some (.string p.1) ∧ w'.cell? ⟨b, off + 1, none⟩ = some (.string p.2)) (go_keep) ((go_at_call 96; refine (HL.out _).mono ?_; rintro e w3 ⟨a3, c3, rfl, r3, b3⟩; have HR3 := hid r3; have HB3 : Hid (Below w.heap.size w w3) := ⟨b3.os, b3.tape, b3.output, b3.size, b3.block⟩; have z0 := (b3.cell (p := ⟨b, off, none⟩) hb).trans d0; have z1 := (b3.cell (p := ⟨b, off + 1, none⟩) hb).trans d1; clear r3 b3))
  all_goals go_wp2_with fail
  all_goals go_ret
  all_goals exact ⟨_, rfl, .inr (.inl ⟨_, a3, c3, p.1, p.2, rfl, rfl, rfl, rfl, HR3.out⟩), HB3.out⟩

theorem branchV_inj {a a' : Option Addr} {cap cap' : Nat} {cs cs' : Array Value} {x x' : ByteArray} (h : branchV a cap cs x = branchV a' cap' cs' x') : a = a' ∧ cap = cap' ∧ cs = cs' ∧ x = x' := by
  unfold branchV branchCells at h
  simp only [Value.iface.injEq, Value.agg.injEq, true_and] at h
  have h' := congrArg Array.toList h
  simp only [Array.toList_append, List.cons_append, List.nil_append, List.cons.injEq, Value.slice.injEq, true_and] at h'
  obtain ⟨⟨h1, h2⟩, h3⟩ := h'
  have h4 := List.append_inj' h3 rfl
  refine ⟨h1, h2, Array.toList_inj.1 h4.1, ?_⟩
  have := h4.2
  simpa using this

/-- What newExtension asks of the branch below. -/
theorem ext_call {lo : Nat} {w : World} {f : Nat} {a : Option Addr} {cap : Nat} {cs : Array Value} {x : ByteArray} {l : List Tr.Ent} (h : BT lo w f (branchV a cap cs x) l) (hfit : Tr.Fits f l) (hf : f ≤ 50) : cs.size = 32 ∧ Small (Tr.node f l) ∧ ¬ (Itm.enc (Tr.node f l)).length < 8 ∧ Rep w.heap.size w (f + 1 + 1) (.agg #[.bool true, .string ⟨#[]⟩, .slice a 17 cap]) (Tr.node f l) := by
  cases f with
  | zero => obtain ⟨_, h⟩ := h; simp [branchV, emptyV] at h
  | succ f =>
    rcases h with ⟨_, h⟩ | ⟨e, _, _, _, _, _, h, _⟩ | ⟨_, _, _, _, _, _, _, _, _, _, _, _, h, _⟩ | ⟨h1, a', cap', cs', x', h2, h3, h4, h5, h6⟩
    · simp [branchV, emptyV] at h
    · simp [branchV, leafV] at h
    · simp [branchV, extV] at h
    · have e := branchV_inj h2
      obtain ⟨rfl, rfl, rfl, rfl⟩ := e
      exact ⟨h3, node_small _ _ (by omega) hfit, Tr.fork_long f h1, repW_rep _ _ _ h5⟩

set_option maxHeartbeats 3200000 in
/-- Several pairs. -/
theorem build_more (f : Nat) (hf : f ≤ 50) (hQ : BranchOk f) (hQ1 : BranchOk (f + 1)) (w : World) (a : Option Addr) (cap : Nat) (l : List (ByteArray × ByteArray)) (hr : PRd w.heap.size w a l) (hl : l.length ≤ 1000) (h1 : 1 < l.length) (hfit : Tr.Fits (f + 1) (ents l)) (hap : Tr.Apart (ents l)) :
    Calls Try.prog 73 #[.slice a l.length cap] w fun e w' => ∃ v, e = .returned v ∧ BT w.heap.size w' (f + 1) v (ents l) ∧ Below w.heap.size w w' := by
  have hz : ∀ x ∈ l, x.1.size ≤ 1000000 := fun x hx => by
    have := (hfit (toEnt x) (List.mem_map.2 ⟨x, hx, rfl⟩)).1
    have : x.1.data.toList.length < f + 1 := this
    rw [ba_len] at this; omega
  have HSS := hid (sharedStart_any a cap l w hr (by omega) (by omega) hz)
  have HBH := hid (fun p w h => behindP_any p a cap l w h (by omega))
  have HQ := hid hQ
  have HQ1 := hid hQ1
  have HR := hid hr
  have HFIT := hid hfit
  have HAP := hid hap
  have HTW := hid (ents_two h1)
  have i0 : ¬ (l.length : Int) = 0 := by omega
  have i1 : ¬ (l.length : Int) = 1 := by omega
  have HL := hid hl
  clear hz hQ hQ1 hr hfit hap h1 hl
  go_enter Try.func73, Try.ntmps73
  go_wp2_with fail
  refine HSS.out.mono ?_
  rintro e w1 ⟨t, rfl, ht, b1⟩
  have HT := hid ht
  have HB1 := hid b1
  clear ht b1
  by_cases hn : t.data.toList = []
  · have hn' : (t.toList == []) = true := by rw [ByteArray.toList_eq, hn]; rfl
    have HF : Hid (Tr.Forks (ents l)) := by
      obtain ⟨p, q, r, e⟩ := HTW.out
      exact ⟨p, q, r, e, by rw [← HT.out, hn]⟩
    clear hn
    go_wp2_with fail
    refine (HQ1.out _ _ _ _ ((HR.out.later HB1.out).wider HB1.out.size) HL.out HFIT.out HAP.out HF.out).mono ?_
    rintro e w2 ⟨a2, c2, cs, x, rfl, t2, b2⟩
    have HT2 := hid (bt_low t2 HB1.out.size)
    have HB2 : Hid (Below w.heap.size w w2) := HB1.out.trans (b2.mono HB1.out.size)
    clear t2 b2
    obtain ⟨BB, hBB⟩ : ∃ B, B = branchCells a2 c2 cs x := ⟨_, rfl⟩
    have HBB : Hid (BB = branchCells a2 c2 cs x) := hBB
    rw [← hBB]
    clear hBB
    go_wp2_with fail
    go_ret
    exact ⟨branchV a2 c2 cs x, by rw [branchV, ← HBB.out]; rfl, HT2.out, HB2.out⟩
  · have hn' : (t.toList == []) = false := by rw [ByteArray.toList_eq, beq_eq_false_iff_ne]; exact hn
    have HN : Hid (Tr.shared (ents l) ≠ []) := by rw [Hid, ← HT.out]; exact hn
    clear hn
    go_wp2_with fail
    refine (HBH.out _ _ ((HR.out.later HB1.out).wider HB1.out.size)).mono ?_
    rintro e w2 ⟨v2, rfl, o2, b2⟩
    obtain ⟨a2, c2, hv2, p2⟩ := prd_of_pown o2
    subst hv2
    have HP2 := hid p2
    have HB2 : Hid (Below w.heap.size w w2) := HB1.out.trans (b2.mono HB1.out.size)
    have HE2 : Hid (ents (behindB t l) = Tr.behind (Tr.shared (ents l)) (ents l)) := by rw [Hid, behindB_ents, HT.out]
    have HL2 : Hid ((behindB t l).length ≤ 1000) := Nat.le_trans (behindB_le _ _) HL.out
    clear b2 o2 p2
    generalize behindB t l = lk at *
    go_wp2_with fail
    refine (HQ.out _ _ _ _ HP2.out HL2.out (by rw [HE2.out]; exact HFIT.out.behind HN.out) (by rw [HE2.out]; exact HAP.out.behind) (by rw [HE2.out]; obtain ⟨p, q, r, e⟩ := HTW.out; exact Tr.forks_behind e)).mono ?_
    rintro e w3 ⟨a3, c3, cs, x, rfl, t3, b3⟩
    rw [HE2.out] at t3
    have HT3 := hid (bt_low t3 HB2.out.size)
    have HB3 : Hid (Below w.heap.size w w3) := HB2.out.trans (b3.mono HB2.out.size)
    clear t3 b3
    have HX := hid (ext_call HT3.out (HFIT.out.behind HN.out) hf)
    have HNE := hid (newExtension_any (m := f + 1) (a := a3) (cap := c3) (cs := cs) (x := x) t w3 (by
        obtain ⟨p, q, r, e⟩ := HTW.out
        have h1 := (Tr.shared_pre (ents l) p (by rw [e]; simp)).length_le
        have h2 := (HFIT.out p (by rw [e]; simp)).1
        have h3 : t.data.toList.length ≤ p.dig.length := by rw [HT.out]; exact h1
        rw [ba_len] at h3; omega) (fun c hc => by
        obtain ⟨p, q, r, e⟩ := HTW.out
        rw [HT.out] at hc
        exact (HFIT.out p (by rw [e]; simp)).2.1 c ((Tr.shared_pre (ents l) p (by rw [e]; simp)).subset hc)) HX.out.1 HX.out.2.1 HX.out.2.2.1 HX.out.2.2.2)
    obtain ⟨BB, hBB⟩ : ∃ B, B = branchCells a3 c3 cs x := ⟨_, rfl⟩
    have HBB : Hid (BB = branchCells a3 c3 cs x) := hBB
    rw [← hBB] at HNE ⊢
    clear hBB
    go_wp2_with fail
    refine HNE.out.mono ?_
    rintro e w4 ⟨a4, c4, rfl, r4, b4⟩
    have HR4 := hid r4
    have HB4 := hid b4
    clear r4 b4
    generalize hrs : refSum (Tr.node f (Tr.behind (Tr.shared (ents l)) (ents l))) = S at *
    have HRS : Hid (refSum (Tr.node f (Tr.behind (Tr.shared (ents l)) (ents l))) = S) := hrs
    clear hrs
    go_wp2_with fail
    go_ret
    obtain ⟨p, q, r, e⟩ := HTW.out
    have hnode : Tr.node (f + 1) (ents l) = Tr.itL [Tr.itB (Tr.path t.data.toList false), Tr.ref (Tr.node f (Tr.behind (Tr.shared (ents l)) (ents l)))] := by rw [Tr.node_ext f e HN.out, HT.out]
    refine ⟨extV a4 c4 t S (branchV a3 c3 cs x), by rw [extV, branchV, ← HBB.out]; rfl, .inr (.inr (.inl ⟨p, q, r, e, HN.out, a4, c4, t, a3, c3, cs, x, by rw [HRS.out], HT.out, ?_, bt_later HT3.out HB4.out⟩)), HB3.out.trans (HB4.out.mono HB3.out.size)⟩
    rw [hnode]
    exact repW_turn HB3.out.size (Nat.le_refl _) (fun _ _ _ => rfl) _ _ _ HR4.out

theorem build_ok (f : Nat) (hf : f ≤ 50) (hQ : BranchOk f) (hQ1 : BranchOk (f + 1)) : BuildOk (f + 1) := by
  intro w a cap l hr hl hfit hap
  match l, hr, hl, hfit, hap with
  | [], _, _, _, _ => exact build_none (f + 1) w a cap
  | [p], hr, _, hfit, _ => exact build_one f p w a cap hr hfit hf
  | p :: q :: r, hr, hl, hfit, hap => exact build_more f hf hQ hQ1 w a cap _ hr hl (by simp) hfit hap

/-- build and buildBranch, at every depth that a table has. -/
theorem builds_ok : ∀ f, f ≤ 50 → BuildOk f ∧ BranchOk f := by
  intro f
  induction f with
  | zero =>
    intro _
    refine ⟨fun w a cap l _ _ hfit _ => ?_, fun w a cap l _ _ hfit _ hfk => ?_⟩
    · have : l = [] := by
        match l, hfit with
        | [], _ => rfl
        | x :: r, hfit => have := (hfit (toEnt x) (by simp [ents])).1; omega
      subst this
      exact build_none 0 w a cap
    · obtain ⟨x, y, r, e, _⟩ := hfk
      have := (hfit x (by rw [e]; simp)).1
      omega
  | succ f ih =>
    intro hf
    have h := ih (by omega)
    have hb := branch_ok f (by omega) h.1
    exact ⟨build_ok f (by omega) h.2 hb, hb⟩

end Go.Proofs.Ytbmohenjphmlgaa

/- The walk of Root (of the program). -/
namespace Go.Proofs.Ytbmohenjphmlgaa
open Go.RowKit
set_option maxRecDepth 100000

theorem ba_len2 (s : ByteArray) : s.data.toList.length = s.size := ba_len s

theorem tfault_fault (l : List (ByteArray × ByteArray)) (key : ByteArray) : tfault l key = Tr.fault (lists l) key.data.toList := by
  have e1 : (lists l).length = l.length := by simp [lists]
  have e2 : (∃ p ∈ lists l, 6 < p.1.length) ↔ ∃ p ∈ l, 6 < p.1.size := by
    unfold lists
    simp only [List.mem_map]
    constructor
    · rintro ⟨p, ⟨q, hq, rfl⟩, h⟩; exact ⟨q, hq, by rw [← ba_len q.1]; exact h⟩
    · rintro ⟨q, hq, h⟩; exact ⟨_, ⟨q, hq, rfl⟩, by rw [ba_len]; exact h⟩
  have e3 : (∃ p ∈ lists l, 40 < p.2.length) ↔ ∃ p ∈ l, 40 < p.2.size := by
    unfold lists
    simp only [List.mem_map]
    constructor
    · rintro ⟨p, ⟨q, hq, rfl⟩, h⟩; exact ⟨q, hq, by rw [← ba_len q.2]; exact h⟩
    · rintro ⟨q, hq, h⟩; exact ⟨_, ⟨q, hq, rfl⟩, by rw [ba_len]; exact h⟩
  unfold tfault Tr.fault
  simp only [e1, e2, e3, ba_len]

/-- Pairs with which nothing is wrong. -/
theorem fault_none {l : List (ByteArray × ByteArray)} {key : ByteArray} (h : tfault l key = 0) : l.length ≤ 60 ∧ (∀ p ∈ l, p.1.size ≤ 6) ∧ key.size ≤ 6 ∧ (∀ p ∈ l, p.2.size ≤ 40) := by
  unfold tfault at h
  by_cases h1 : 60 < l.length
  · rw [if_pos h1] at h; omega
  · rw [if_neg h1] at h
    by_cases h2 : (∃ p ∈ l, 6 < p.1.size) ∨ 6 < key.size
    · rw [if_pos h2] at h; omega
    · rw [if_neg h2] at h
      by_cases h3 : ∃ p ∈ l, 40 < p.2.size
      · rw [if_pos h3] at h; omega
      · rw [not_or] at h2
        exact ⟨by omega, fun p hp => Classical.byContradiction fun hh => h2.1 ⟨p, hp, by omega⟩, by have := h2.2; omega, fun p hp => Classical.byContradiction fun hh => h3 ⟨p, hp, by omega⟩⟩

theorem lists_ok {l : List (ByteArray × ByteArray)} (h1 : ∀ p ∈ l, p.1.size ≤ 6) (h2 : ∀ p ∈ l, p.2.size ≤ 40) : (∀ p ∈ lists l, p.1.length ≤ 6) ∧ (∀ p ∈ lists l, p.2.length ≤ 40) := by
  unfold lists
  constructor
  · intro p hp
    obtain ⟨q, hq, rfl⟩ := List.mem_map.1 hp
    rw [ba_len]; exact h1 q hq
  · intro p hp
    obtain ⟨q, hq, rfl⟩ := List.mem_map.1 hp
    rw [ba_len]; exact h2 q hq

/-- The tree of a table. -/
theorem tree_any (a : Option Addr) (cap : Nat) (l : List (ByteArray × ByteArray)) (w : World) (hr : PRd w.heap.size w a (tabTo l l.length)) (hl : l.length ≤ 60) (h1 : ∀ p ∈ l, p.1.size ≤ 6) (h2 : ∀ p ∈ l, p.2.size ≤ 40) :
    Calls Try.prog 73 #[.slice a (tabTo l l.length).length cap] w fun e w' => ∃ v, e = .returned v ∧ BT w.heap.size w' 13 v (Tr.table (lists l)) ∧ Below w.heap.size w w' := by
  have hk := lists_ok h1 h2
  have := (builds_ok 13 (by decide)).1 w a cap (tabTo l l.length) hr (Nat.le_trans (tabTo_le l _) (by omega)) (by rw [tabTo_table]; exact Tr.table_fits _ hk.1 hk.2) (by rw [tabTo_table]; exact Tr.table_apart _)
  rw [tabTo_table] at this
  exact this

set_option maxHeartbeats 1600000 in
theorem treeRoot_ok (a : Option Addr) (cap : Nat) (l : List (ByteArray × ByteArray)) (w : World) (hr : PRd w.heap.size w a l) (hf : tfault l ⟨#[]⟩ = 0) :
    Calls Try.prog 53 #[.slice a l.length cap] w fun e w' => e = .returned (.tuple #[.string ⟨(Tr.sum (Itm.enc (Tr.node 13 (Tr.table (lists l))))).toArray⟩, .int .i64 0]) ∧ Below w.heap.size w w' := by
  have hft := tableFault_any ⟨#[]⟩ a cap l w hr
  rw [hf] at hft
  have HFT := hid hft
  obtain ⟨h1, h2, _, h4⟩ := fault_none hf
  have HTO := hid (fun w h => tableOf_any a cap l w h (by omega) (fun p hp => by have := h2 p hp; omega))
  have HTR := hid (fun a cap w h => tree_any a cap l w h h1 h2 h4)
  have hk := lists_ok h2 h4
  have HSM := hid (node_small 13 _ (by decide) (Tr.table_fits _ hk.1 hk.2))
  have HR := hid hr
  clear hft hf h2 h4 hk hr
  go_enter Try.func53, Try.ntmps53
  go_wp2_with fail
  refine HFT.out.mono ?_
  rintro e w1 ⟨rfl, b1⟩
  have HB1 := hid b1
  clear b1
  go_wp2_with fail
  refine (HTO.out _ ((HR.out.later HB1.out).wider HB1.out.size)).mono ?_
  rintro e w2 ⟨v2, rfl, o2, b2⟩
  obtain ⟨a2, c2, hv2, p2⟩ := prd_of_pown o2
  subst hv2
  have HB2 : Hid (Below w.heap.size w w2) := HB1.out.trans (b2.mono HB1.out.size)
  have HP2 := hid p2
  clear o2 b2 p2
  go_wp2_with fail
  refine (HTR.out _ _ _ HP2.out).mono ?_
  rintro e w3 ⟨v3, rfl, t3, b3⟩
  have HB3 : Hid (Below w.heap.size w w3) := HB2.out.trans (b3.mono HB2.out.size)
  obtain ⟨k, l0, s, aa, nn, cc, hnd, hrep⟩ := bt_nd t3
  have HCS := hid (commonSum_any k aa nn cc l0 s _ _ w3 HSM.out (repW_rep _ _ _ hrep))
  obtain ⟨T, A, rfl, _, _, _, hm⟩ := nd_call hnd
  clear t3 b3 hrep hnd
  go_wp2_with fail
  refine HCS.out.mono ?_
  rintro e w4 ⟨rfl, b4⟩
  have HB4 : Hid (Below w.heap.size w w4) := HB3.out.trans (b4.mono HB3.out.size)
  clear b4
  go_wp2_with fail
  go_ret2
  exact ⟨rfl, HB4.out⟩

/-- Root answers as the document says. -/
theorem root_any (a : Option Addr) (cap : Nat) (l : List (ByteArray × ByteArray)) (w : World) (hr : PRd w.heap.size w a l) :
    Calls Try.prog 24 #[.slice a l.length cap] w fun e w' => e = .returned (.tuple #[.string ⟨(Tr.root (lists l)).1.toArray⟩, .int .i64 ((Tr.root (lists l)).2 : Nat)]) ∧ Below w.heap.size w w' := by
  by_cases hf : tfault l ⟨#[]⟩ = 0
  · have e : Tr.root (lists l) = (Tr.sum (Itm.enc (Tr.node 13 (Tr.table (lists l)))), 0) := by
      unfold Tr.root
      rw [if_pos (by rw [← hf, tfault_fault])]
    rw [e]
    have H := hid (treeRoot_ok a cap l w hr hf)
    clear hr hf e
    go_enter Try.func24, Try.ntmps24
    go_wp2_with fail
    refine H.out.mono ?_
    rintro e w1 ⟨rfl, b1⟩
    have HB := hid b1
    clear b1
    go_wp2_with fail
    go_ret2
    exact ⟨rfl, HB.out⟩
  · have e : Tr.root (lists l) = ([], tfault l ⟨#[]⟩) := by
      have e2 : tfault l ⟨#[]⟩ = Tr.fault (lists l) [] := tfault_fault l ⟨#[]⟩
      unfold Tr.root
      rw [← e2, if_neg hf]
    rw [e]
    exact root_fault hf (tableFault_any ⟨#[]⟩ a cap l w hr)

end Go.Proofs.Ytbmohenjphmlgaa

/- The walk of Root (of the document's own answer). -/
namespace Go.Proofs.Ytbmohenjphmlgaa
open Go.RowKit
set_option maxRecDepth 100000

theorem table_len (l : List (ByteArray × ByteArray)) : (Tr.table (lists l)).length ≤ l.length := by
  rw [← tabTo_table]
  unfold ents
  rw [List.length_map]
  exact tabTo_len l l.length

set_option maxHeartbeats 1600000 in
theorem refRoot_any (a : Option Addr) (cap : Nat) (l : List (ByteArray × ByteArray)) (w : World) (hr : PRd w.heap.size w a l) (hl : l.length ≤ 4398046511104) :
    Calls Try.prog 26 #[.slice a l.length cap] w fun e w' => e = .returned (.tuple #[.string ⟨(Tr.root (lists l)).1.toArray⟩, .int .i64 ((Tr.root (lists l)).2 : Nat)]) ∧ Below w.heap.size w w' := by
  have HT := hid (tableR_any a cap l w hr hl)
  have hff : tfault l ⟨#[]⟩ = Tr.fault (lists l) [] := tfault_fault l ⟨#[]⟩
  by_cases hf : tfault l ⟨#[]⟩ = 0
  · have hroot : Tr.root (lists l) = (Tr.sum (Itm.enc (Tr.node 13 (Tr.table (lists l)))), 0) := by
      unfold Tr.root
      rw [if_pos (hff.symm.trans hf)]
    obtain ⟨h1, h2, _, h4⟩ := fault_none hf
    have hk := lists_ok h2 h4
    have hfit := Tr.table_fits _ hk.1 hk.2
    have HN := hid (fun a cap w h => nodeAt_all 13 (by decide) (Tr.table (lists l)) a cap w h hfit (Tr.table_apart _) (Nat.le_trans (table_len l) h1))
    have HWT := hid (node_wt 13 (Tr.table (lists l)) (by decide) hfit)
    have HLEN : Hid ((Itm.enc (Tr.node 13 (Tr.table (lists l)))).length ≤ 1000000000) := Nat.le_trans (Tr.node_len 13 _ (by decide) hfit) (by decide)
    rw [hroot]
    have HF := hid hf
    clear hroot hff hf h1 h2 h4 hk hfit hr
    generalize Tr.node 13 (Tr.table (lists l)) = t at *
    go_enter Try.func26, Try.ntmps26
    go_wp2_with fail
    refine HT.out.mono ?_
    rintro e w1 ⟨b1, _, h1⟩
    obtain ⟨a1, c1, rfl, r1⟩ := h1 HF.out
    have HR1 := hid r1
    have HB1 := hid b1
    clear h1 r1 b1
    go_wp2_with fail
    refine (HN.out _ _ _ HR1.out).mono ?_
    rintro e w2 ⟨v2, rfl, o2, b2⟩
    obtain ⟨a2, c2, rfl⟩ := ow_shape o2
    have HRP := hid (rep_of_own _ _ _ _ _ (Nat.le_refl _) o2)
    have HB2 : Hid (Below w.heap.size w w2) := HB1.out.trans (b2.mono HB1.out.size)
    have HBX : Hid (Below w2.heap.size w2 (w2.alloc (.cells #[.bool t.list, .string ⟨t.bytes.toArray⟩, .slice a2 t.items.length c2] 24))) := (Below.refl _ _).alloc (Nat.le_refl _) _
    clear o2 b2
    go_wp2_with fail
    refine (bytesR_any _ _ t _ (rep_later HBX.out HRP.out) HWT.out).mono ?_
    rintro e w3 ⟨rfl, b3⟩
    have HB3 : Hid (Below w.heap.size w w3) := (HB2.out.trans (HBX.out.mono HB2.out.size)).trans (b3.mono (Nat.le_trans HB2.out.size HBX.out.size))
    clear b3
    go_wp2_with fail
    refine (sumR_any ⟨(Itm.enc t).toArray⟩ _ (by show (Itm.enc t).toArray.size ≤ _; rw [List.size_toArray]; exact HLEN.out)).mono ?_
    rintro e w4 ⟨rfl, b4⟩
    have HB4 : Hid (Below w.heap.size w w4) := HB3.out.trans (b4.mono HB3.out.size)
    clear b4
    go_wp2_with fail
    go_ret2
    exact ⟨rfl, HB4.out⟩
  · have hroot : Tr.root (lists l) = ([], tfault l ⟨#[]⟩) := by
      unfold Tr.root
      rw [if_neg (fun h => hf (hff.trans h)), hff]
    rw [hroot]
    have HF := hid hf
    have i0 : ¬ ((tfault l ⟨#[]⟩ : Nat) : Int) = 0 := by omega
    clear hroot hff hf hr
    go_enter Try.func26, Try.ntmps26
    go_wp2_with fail
    refine HT.out.mono ?_
    rintro e w1 ⟨b1, h1, _⟩
    obtain rfl := h1 HF.out
    have HB1 := hid b1
    clear b1 h1
    go_wp2_with fail
    go_ret2
    exact ⟨rfl, HB1.out⟩
end Go.Proofs.Ytbmohenjphmlgaa

/- One step of a way through nodes (of the program): next and valueAt, by the kind of the node. -/
namespace Go.Proofs.Ytbmohenjphmlgaa
open Go.RowKit
set_option maxRecDepth 100000

theorem belowAA (w : World) (a b : Obj) : Below w.heap.size w ((w.alloc a).alloc b) := ((Below.refl _ _).alloc (Nat.le_refl _) _).alloc (by simp) _

theorem commonNext_any (k : Int) (l : Bool) (s : ByteArray) (x : Value) (d : ByteArray) (w : World) : Calls Try.prog 160 #[.agg #[.int .i64 k, .bool l, .string s, x], .string d] w fun e w' => e = .returned (.tuple #[.agg #[.string ⟨#[]⟩, .nilIface], .string ⟨#[]⟩, .bool false]) ∧ Below w.heap.size w w' := by
  go_enter Try.func160, Try.ntmps160
  go_wp2_with fail
  exact bodyPost_ret (v := .tuple #[.agg #[.string ⟨#[]⟩, .nilIface], .string ⟨#[]⟩, .bool false]) (by simp [results, Try.results160, go_sem]) rfl ⟨rfl, belowAA _ _ _⟩

theorem commonValueAt_any (k : Int) (l : Bool) (s : ByteArray) (x : Value) (d : ByteArray) (w : World) : Calls Try.prog 162 #[.agg #[.int .i64 k, .bool l, .string s, x], .string d] w fun e w' => e = .returned (.string ⟨#[]⟩) ∧ Below w.heap.size w w' := by
  go_enter Try.func162, Try.ntmps162
  go_wp2_with fail
  go_ret
  exact ⟨rfl, (Below.refl _ _).alloc (Nat.le_refl _) _⟩

theorem leafValueAt_any (a : Option Addr) (n cap : Nat) (k : Int) (l : Bool) (s t x : ByteArray) (d : ByteArray) (w : World) : Calls Try.prog 166 #[.agg #[.int .i64 k, .bool l, .string s, .slice a n cap, .string t, .string x], .string d] w fun e w' => e = .returned (.string (if d = t then x else ⟨#[]⟩)) ∧ Below w.heap.size w w' := by
  by_cases h : d = t
  · rw [if_pos h]
    have he : (d.toList == t.toList) = true := by rw [h]; exact beq_self_eq_true _
    clear h
    go_enter Try.func166, Try.ntmps166
    go_wp2_with fail
    go_ret
    exact ⟨rfl, (Below.refl _ _).alloc (Nat.le_refl _) _⟩
  · rw [if_neg h]
    have he : (d.toList == t.toList) = false := by
      rw [beq_eq_false_iff_ne]
      intro e
      apply h
      rw [ByteArray.toList_eq, ByteArray.toList_eq] at e
      cases d; cases t
      simp only [Array.toList_inj] at e
      rw [e]
    clear h
    go_enter Try.func166, Try.ntmps166
    go_wp2_with fail
    go_ret
    exact ⟨rfl, (Below.refl _ _).alloc (Nat.le_refl _) _⟩

/-- A node or none. -/
def IsNode (v : Value) : Prop := v = .nilIface ∨ ∃ T x, v = .iface T x

theorem extNext_any (a : Option Addr) (n cap : Nat) (k : Int) (l : Bool) (s t x : ByteArray) (v : Value) (d : ByteArray) (w : World) (hv : IsNode v) : Calls Try.prog 167 #[.agg #[.int .i64 k, .bool l, .string s, .slice a n cap, .string t, .string x, v], .string d] w fun e w' => e = .returned (.tuple #[.agg #[.string x, v], .string (cutP t d), .bool (pre t d)]) ∧ Below w.heap.size w w' := by
  have HC := hid (fun w => cutPrefix_any d t w)
  rcases hv with rfl | ⟨T, y, rfl⟩
  all_goals
    go_enter Try.func167, Try.ntmps167
    go_wp2_with fail
    refine (HC.out _).mono ?_
    rintro e w1 ⟨rfl, rfl⟩
    go_wp2_with fail
  · exact bodyPost_ret (v := .tuple #[.agg #[.string x, .nilIface], .string (cutP t d), .bool (pre t d)]) (by simp [results, Try.results167, go_sem]) rfl ⟨rfl, belowAA _ _ _⟩
  · exact bodyPost_ret (v := .tuple #[.agg #[.string x, .iface T y], .string (cutP t d), .bool (pre t d)]) (by simp [results, Try.results167, go_sem]) rfl ⟨rfl, belowAA _ _ _⟩

theorem branchCells_to (a : Option Addr) (cap : Nat) (cs : Array Value) (x : ByteArray) (i : Nat) (hi : i < cs.size) : (branchCells a cap cs x)[4 + i]? = cs[i]? := by
  unfold branchCells
  rw [Array.getElem?_append_left (by simp; omega), Array.getElem?_append_right (by simp)]
  simp

theorem branchCells_last (a : Option Addr) (cap : Nat) (cs : Array Value) (x : ByteArray) (hcs : cs.size = 32) : (branchCells a cap cs x)[36]? = some (.string x) := by
  unfold branchCells
  rw [Array.getElem?_append_right (by simp [hcs])]
  simp [hcs]

theorem branchValueAt_any (a : Option Addr) (cap : Nat) (cs : Array Value) (x d : ByteArray) (w : World) (hcs : cs.size = 32) : Calls Try.prog 165 #[.agg (branchCells a cap cs x), .string d] w fun e w' => e = .returned (.string x) ∧ Below w.heap.size w w' := by
  have h36 := branchCells_last a cap cs x hcs
  generalize branchCells a cap cs x = BB at *
  have hc := (cell_of_row (w.alloc (.cells BB 143)) _ 36 _ _ _ (heap_alloc_new w _)).trans h36
  go_enter Try.func165, Try.ntmps165
  go_wp2_with fail
  go_ret
  exact ⟨rfl, (Below.refl _ _).alloc (Nat.le_refl _) _⟩

theorem branchNext_nil (a : Option Addr) (cap : Nat) (cs : Array Value) (x : ByteArray) (w : World) : Calls Try.prog 163 #[.agg (branchCells a cap cs x), .string ⟨#[]⟩] w fun e w' => e = .returned (.tuple #[.agg #[.string ⟨#[]⟩, .nilIface], .string ⟨#[]⟩, .bool false]) ∧ Below w.heap.size w w' := by
  generalize branchCells a cap cs x = BB at *
  go_enter Try.func163, Try.ntmps163
  go_wp2_with fail
  exact bodyPost_ret (v := .tuple #[.agg #[.string ⟨#[]⟩, .nilIface], .string ⟨#[]⟩, .bool false]) (by simp [results, Try.results163, go_sem]) rfl ⟨rfl, belowAA _ _ _⟩

theorem branchNext_any (a : Option Addr) (cap : Nat) (cs : Array Value) (x d : ByteArray) (w : World) (hd : 0 < d.size) (c : UInt8) (r : List UInt8) (hcr : d.data.toList = c :: r) (hc : c.toNat < 16) (s : ByteArray) (v : Value) (hv : IsNode v)
    (h0 : cs[2 * c.toNat]? = some (.string s)) (h1 : cs[2 * c.toNat + 1]? = some v) :
    Calls Try.prog 163 #[.agg (branchCells a cap cs x), .string d] w fun e w' => e = .returned (.tuple #[.agg #[.string s, v], .string ⟨r.toArray⟩, .bool true]) ∧ Below w.heap.size w w' := by
  have k0 := (branchCells_to a cap cs x _ (Array.getElem?_eq_some_iff.1 h0).1).trans h0
  have k1 := (branchCells_to a cap cs x _ (Array.getElem?_eq_some_iff.1 h1).1).trans h1
  generalize branchCells a cap cs x = BB at *
  have he : d.toList.isEmpty = false := by rw [ByteArray.toList_eq, hcr]; rfl
  have HD0 : Hid (∀ h : 0 < d.size, d[0] = c) := fun h => by
    have e : d.data.toList[0]? = some c := by rw [hcr]; rfl
    rw [Array.getElem?_toList] at e
    exact (Array.getElem?_eq_some_iff.1 e).2
  have k0 : BB[4 + c.toNat * 2]? = some (.string s) := by rw [Nat.mul_comm]; exact k0
  have k1 : BB[4 + c.toNat * 2 + 1]? = some v := by rw [Nat.mul_comm, Nat.add_assoc]; exact k1
  have HDR : Hid (d.extract 1 d.size = ⟨r.toArray⟩) := by
    rw [Hid]
    have e : (d.extract 1 d.size).data.toList = r := by rw [Lib.extract_to_end, hcr]; rfl
    have e2 : (d.extract 1 d.size).data = r.toArray := by rw [← e]
    generalize d.extract 1 d.size = u at *
    cases u
    rw [← e2]
  have i1 : (0 : Int) < (d.size : Int) := by omega
  have hc1 : (c.toNat : Int) < 16 := by omega
  have hc0 : (0 : Int) ≤ (c.toNat : Int) := by omega
  have i2 : (1 : Int) ≤ (d.size : Int) := by omega
  have HG : Hid ((w.alloc (.cells BB 143)).heap[w.heap.size]? = some (.cells BB 143 (0, 0))) := heap_alloc_new w _
  clear h0 h1 hd
  go_enter Try.func163, Try.ntmps163
  go_wp2_with fail
  refine wp_region_L (fun w' => w'.heap[w.heap.size]? = some (.cells BB 143 (0, 0))) 9 (by kernel_rfl) ?_
  have hS : (fun w' : World => w'.heap[w.heap.size]? = some (.cells BB 143 (0, 0))) (((w.alloc (.cells BB 143)).alloc (.cells #[.string ⟨#[]⟩, .nilIface] 140)).drew) := (Below.heap_alloc _ _ _ (by rw [alloc_size]; omega)).trans HG.out
  refine wpAnyL_take (i := 0) (v := .string d) rfl (by kernel_rfl) (by kernel_rfl) (by kernel_rfl) (by kernel_rfl) (by kernel_rfl) (fun _ _ _ h => h) hS (Or.inl ⟨by kernel_rfl, ?_⟩) ?_
  · (intro w' hSw; go_simp)
  try simp only [Act.put]
  refine wpAnyL_take (i := 1) (v := .int .u8 c.toNat) rfl (by kernel_rfl) (by kernel_rfl) (by kernel_rfl) (by kernel_rfl) (by kernel_rfl) (fun _ _ _ h => h) hS (Or.inl ⟨by kernel_rfl, ?_⟩) ?_
  · intro w' hSw
    go_simp
    rw [dif_pos (by omega)]
    rw [HD0.out]
    rfl
  try simp only [Act.put]
  refine wpAnyL_take (i := 2) (v := .pointer (some ⟨w.heap.size, 4, none⟩)) rfl (by kernel_rfl) (by kernel_rfl) (by kernel_rfl) (by kernel_rfl) (by kernel_rfl) (fun _ _ _ h => h) hS (Or.inl ⟨by kernel_rfl, ?_⟩) ?_
  · (intro w' hSw; go_simp)
  try simp only [Act.put]
  refine wpAnyL_take (i := 3) (v := .pointer (some ⟨w.heap.size, 4 + c.toNat * 2, none⟩)) rfl (by kernel_rfl) (by kernel_rfl) (by kernel_rfl) (by kernel_rfl) (by kernel_rfl) (fun _ _ _ h => h) hS (Or.inl ⟨by kernel_rfl, ?_⟩) ?_
  · intro w' hSw
    go_simp
  try simp only [Act.put]
  refine wpAnyL_take (i := 4) (v := .agg #[.string s, v]) rfl (by kernel_rfl) (by kernel_rfl) (by kernel_rfl) (by kernel_rfl) (by kernel_rfl) (fun _ _ _ h => h) hS (Or.inl ⟨by kernel_rfl, ?_⟩) ?_
  · intro w' hSw
    have z0 := (cell_of_row w' _ (4 + c.toNat * 2) _ _ _ hSw).trans k0
    have z1 := (cell_of_row w' _ (4 + c.toNat * 2 + 1) _ _ _ hSw).trans k1
    go_simp
  try simp only [Act.put]
  refine wpAnyL_take (i := 5) (v := .string d) rfl (by kernel_rfl) (by kernel_rfl) (by kernel_rfl) (by kernel_rfl) (by kernel_rfl) (fun _ _ _ h => h) hS (Or.inl ⟨by kernel_rfl, ?_⟩) ?_
  · (intro w' hSw; go_simp)
  try simp only [Act.put]
  refine wpAnyL_take (i := 6) (v := .string (d.extract 1 d.size)) rfl (by kernel_rfl) (by kernel_rfl) (by kernel_rfl) (by kernel_rfl) (by kernel_rfl) (fun _ _ _ h => h) hS (Or.inl ⟨by kernel_rfl, ?_⟩) ?_
  · (intro w' hSw; go_simp)
  try simp only [Act.put]
  rcases hv with rfl | ⟨T, y, rfl⟩
  all_goals
    refine wpAnyL_ready (rs := [7]) (by kernel_rfl) (by simp) ?_
    refine AllReadyL.cons rfl (fun K hK => ?_) AllReadyL.nil
    go_simp
    refine hK.out _ _ ((Below.heap_alloc _ _ _ (by rw [alloc_size]; omega)).trans HG.out) ?_
    clear hK K
    try simp only [Act.put]
    refine wpAnyL_ready (rs := [8]) (by kernel_rfl) (by simp) ?_
    refine AllReadyL.cons rfl (fun K hK => ?_) AllReadyL.nil
    go_simp
    refine hK.out _ _ ((Below.heap_alloc _ _ _ (by rw [alloc_size]; omega)).trans HG.out) ?_
    clear hK K
    try simp only [Act.put]
    refine wpAnyL_ready (rs := [9]) (by kernel_rfl) (by simp) ?_
    refine AllReadyL.last rfl (fun K hK => ?_)
    go_simp
    refine hK.out _ _ ?_
    clear hK K
    try simp only [Act.put]
    refine wpAny_done (by kernel_rfl) ?_ _
    go_wp2_with fail
  · exact bodyPost_ret (v := .tuple #[.agg #[.string s, .nilIface], .string (d.extract 1 d.size), .bool true]) (by simp [results, Try.results163, go_sem]) rfl ⟨by rw [HDR.out], (belowAA _ _ _).drew⟩
  · exact bodyPost_ret (v := .tuple #[.agg #[.string s, .iface T y], .string (d.extract 1 d.size), .bool true]) (by simp [results, Try.results163, go_sem]) rfl ⟨by rw [HDR.out], (belowAA _ _ _).drew⟩

end Go.Proofs.Ytbmohenjphmlgaa

/- The walk of walk (of the program), for any finder that keeps what it must. -/
namespace Go.Proofs.Ytbmohenjphmlgaa
open Go.RowKit
set_option maxRecDepth 100000

/-- A function that is entered when it is called. -/
def Enters (F : Nat) : Prop := ∀ (args : Array Value) (w : World), (callFunc F args).run Try.prog w = .ok (.enter F args) w

theorem enters_proof : Enters 102 := fun args w => by kernel_rfl
theorem enters_check : Enters 105 := fun args w => by kernel_rfl

/-- What next and valueAt of a node tell, for digits. -/
def Steps (v : Value) (d s : ByteArray) (n : Value) (rest : ByteArray) (on : Bool) (x : ByteArray) : Prop :=
  ∃ T A f1 r1 f2 r2, v = .iface T A ∧ Enters f1 ∧ Enters f2 ∧
    (∀ w, (method 305 T A "witness/tree.next").run Try.prog w = .ok (f1, r1) w) ∧ (∀ w, Calls Try.prog f1 #[r1, .string d] w fun e w' => e = .returned (.tuple #[.agg #[.string s, n], .string rest, .bool on]) ∧ Below w.heap.size w w') ∧
    (∀ w, (method 305 T A "witness/tree.valueAt").run Try.prog w = .ok (f2, r2) w) ∧ (on = false → ∀ w, Calls Try.prog f2 #[r2, .string d] w fun e w' => e = .returned (.string x) ∧ Below w.heap.size w w')

theorem steps_empty (d : ByteArray) : Steps emptyV d ⟨#[]⟩ .nilIface ⟨#[]⟩ false ⟨#[]⟩ :=
  ⟨_, _, 160, .agg #[.int .i64 0, .bool false, .string ⟨#[]⟩, .slice none 0 0], 162, .agg #[.int .i64 0, .bool false, .string ⟨#[]⟩, .slice none 0 0], rfl, fun _ _ => by kernel_rfl, fun _ _ => by kernel_rfl, fun _ => by kernel_rfl, fun w => commonNext_any _ _ _ _ _ w, fun _ => by kernel_rfl, fun _ w => commonValueAt_any _ _ _ _ _ w⟩

theorem steps_leaf (a : Option Addr) (cap : Nat) (t x d : ByteArray) : Steps (leafV a cap t x) d ⟨#[]⟩ .nilIface ⟨#[]⟩ false (if d = t then x else ⟨#[]⟩) :=
  ⟨_, _, 160, .agg #[.int .i64 1, .bool true, .string ⟨#[]⟩, .slice a 2 cap], 166, .agg #[.int .i64 1, .bool true, .string ⟨#[]⟩, .slice a 2 cap, .string t, .string x], rfl, fun _ _ => by kernel_rfl, fun _ _ => by kernel_rfl, fun _ => by kernel_rfl, fun w => commonNext_any _ _ _ _ _ w, fun _ => by kernel_rfl, fun _ w => leafValueAt_any _ _ _ _ _ _ _ _ _ w⟩

theorem steps_ext (a : Option Addr) (cap : Nat) (t s d : ByteArray) (v : Value) (hv : IsNode v) : Steps (extV a cap t s v) d s v (cutP t d) (pre t d) ⟨#[]⟩ :=
  ⟨_, _, 167, .agg #[.int .i64 2, .bool true, .string ⟨#[]⟩, .slice a 2 cap, .string t, .string s, v], 162, .agg #[.int .i64 2, .bool true, .string ⟨#[]⟩, .slice a 2 cap], rfl, fun _ _ => by kernel_rfl, fun _ _ => by kernel_rfl, fun _ => by kernel_rfl, fun w => extNext_any _ _ _ _ _ _ _ _ _ _ w hv, fun _ => by kernel_rfl, fun _ w => commonValueAt_any _ _ _ _ _ w⟩

theorem steps_end (a : Option Addr) (cap : Nat) (cs : Array Value) (x : ByteArray) (hcs : cs.size = 32) : Steps (branchV a cap cs x) ⟨#[]⟩ ⟨#[]⟩ .nilIface ⟨#[]⟩ false x :=
  ⟨_, _, 163, .agg (branchCells a cap cs x), 165, .agg (branchCells a cap cs x), rfl, fun _ _ => by kernel_rfl, fun _ _ => by kernel_rfl, fun _ => by kernel_rfl, fun w => branchNext_nil _ _ _ _ w, fun _ => by kernel_rfl, fun _ w => branchValueAt_any _ _ _ _ _ w hcs⟩

theorem steps_branch (a : Option Addr) (cap : Nat) (cs : Array Value) (x d : ByteArray) (hcs : cs.size = 32) (c : UInt8) (r : List UInt8) (hcr : d.data.toList = c :: r) (hc : c.toNat < 16) (s : ByteArray) (v : Value) (hv : IsNode v)
    (h0 : cs[2 * c.toNat]? = some (.string s)) (h1 : cs[2 * c.toNat + 1]? = some v) : Steps (branchV a cap cs x) d s v ⟨r.toArray⟩ true x :=
  ⟨_, _, 163, .agg (branchCells a cap cs x), 165, .agg (branchCells a cap cs x), rfl, fun _ _ => by kernel_rfl, fun _ _ => by kernel_rfl, fun _ => by kernel_rfl, fun w => branchNext_any _ _ _ _ _ w (by rw [← ba_len, hcr]; simp) c r hcr hc s v hv h0 h1, fun _ => by kernel_rfl, fun _ w => branchValueAt_any _ _ _ _ _ w hcs⟩

/-- What a way does at a node: it ends there, or goes on by a reference. -/
structure Way (F : Nat) (c : Addr) (J : World → Value → ByteArray → Prop) (Q : ByteArray → Bool → World → Prop) (w : World) (v : Value) (d : ByteArray) : Prop where
  step : ∃ s n rest on x, Steps v d s n rest on x ∧ IsNode n ∧
    (on = false → ∀ w', Below w.heap.size w w' → Q x true w') ∧
    (on = true → rest.size < d.size ∧ ∀ w', Below w.heap.size w w' → Calls Try.prog 122 #[v, .agg #[.string s, n], .func (.func F) #[] #[.pointer (some c)]] w' fun e w'' => ∃ v' ok, e = .returned (.tuple #[v', .bool ok]) ∧ (ok = true → J w'' v' rest) ∧ (ok = false → Q ⟨#[]⟩ false w''))

set_option maxHeartbeats 3200000 in
theorem walk_any (F : Nat) (hF : Enters F) (c : Addr) (s : ByteArray) (n : Value) (hn : IsNode n) (d : ByteArray) (w : World) (J : World → Value → ByteArray → Prop) (Q : ByteArray → Bool → World → Prop)
    (h0 : ∀ w', Below w.heap.size w w' → Calls Try.prog F #[.agg #[.string s, n], .pointer (some c)] w' fun e w'' => ∃ v' ok, e = .returned (.tuple #[v', .bool ok]) ∧ (ok = true → J w'' v' d) ∧ (ok = false → Q ⟨#[]⟩ false w''))
    (hJ : ∀ w v d, J w v d → Way F c J Q w v d) :
    Calls Try.prog 101 #[.agg #[.string s, n], .string d, .func (.func F) #[] #[.pointer (some c)]] w fun e w' => ∃ x ok, e = .returned (.tuple #[.string x, .bool ok]) ∧ Q x ok w' := by
  have H0 := hid h0
  have HJ := hid hJ
  clear h0 hJ
  unfold Enters at hF
  rcases hn with rfl | ⟨T, y, rfl⟩
  all_goals
    go_enter Try.func101, Try.ntmps101
    go_wp2_with fail
    refine (H0.out _ ((Below.refl _ _).alloc (Nat.le_refl _) _)).mono ?_
    rintro e w1 ⟨v1, ok, rfl, g1, g2⟩
    have HG1 := hid g1
    have HG2 := hid g2
    clear g1 g2
    go_wp2_with fail
    go_loopw [1, 7, 8] (fun dd oo vv wr => ∃ d' ok', dd = .string d' ∧ oo = .bool ok' ∧ (ok' = true → J wr vv d') ∧ (ok' = false → Q ⟨#[]⟩ false wr)) (fun dd _ _ _ => (match dd with | .string d' => d'.size | _ => 0))
    case atStart => exact ⟨d, ok, rfl, rfl, HG1.out, HG2.out⟩
    case round =>
      obtain ⟨d', ok', rfl, rfl, hg1, hg2⟩ := hrel
      cases ok' with
      | false =>
        have HQ := hid (hg2 rfl)
        clear hg1 hg2
        go_wp2_with fail
        exact bodyPost_ret (v := .tuple #[.string ⟨#[]⟩, .bool false]) (by simp [results, Try.results101, go_sem]) rfl ⟨_, _, rfl, HQ.out⟩
      | true =>
        obtain ⟨⟨s', n', rest, on, x, hst, hn', hq, hf⟩⟩ := HJ.out _ _ _ (hg1 rfl)
        obtain ⟨T', A', f1, r1, f2, r2, rfl, e1, e2, m1, c1, m2, c2⟩ := hst
        unfold Enters at e1 e2
        have HC1 := hid c1
        have HC2 := hid c2
        have HQ := hid hq
        have HF := hid hf
        clear c1 c2 hq hf hg1 hg2
        rcases hn' with rfl | ⟨T2, y2, rfl⟩
        all_goals
          cases on with
          | false =>
            go_wp2_with fail
            refine (HC1.out _).mono ?_
            rintro e w2 ⟨rfl, b2⟩
            have HB2 := hid b2
            clear b2
            go_wp2_with fail
            refine (HC2.out (by trivial) _).mono ?_
            rintro e w3 ⟨rfl, b3⟩
            have HB3 := hid b3
            clear b3
            go_wp2_with fail
            exact bodyPost_ret (v := .tuple #[.string x, .bool true]) (by simp [results, Try.results101, go_sem]) rfl ⟨_, _, rfl, HQ.out (by trivial) _ ((HB2.out.alloc HB2.out.size _).trans (HB3.out.mono (by simp; exact Nat.le_succ_of_le HB2.out.size)))⟩
          | true =>
            go_wp2_with fail
            refine (HC1.out _).mono ?_
            rintro e w2 ⟨rfl, b2⟩
            have HB2 := hid b2
            clear b2
            go_wp2_with fail
            refine ((HF.out (by trivial)).2 _ (HB2.out.alloc HB2.out.size _)).mono ?_
            rintro e w3 ⟨v3, ok3, rfl, g1, g2⟩
            have HG1 := hid g1
            have HG2 := hid g2
            clear g1 g2
            go_wp2_with fail
            exact ⟨⟨rest, ok3, rfl, rfl, HG1.out, HG2.out⟩, (HF.out (by trivial)).1⟩
end Go.Proofs.Ytbmohenjphmlgaa
