/- The walk of build (of the program): the tree of pairs. -/
import Derived.Test.YtbmohenjphmlgaaPrBuild1
import Derived.Test.YtbmohenjphmlgaaPrExt
namespace Go.Proofs.Ytbmohenjphmlgaa
open Go.RowKit
set_option maxRecDepth 100000

theorem ents_len (l : List (ByteArray × ByteArray)) : (ents l).length = l.length := by simp [ents]

theorem ents_nil {l : List (ByteArray × ByteArray)} (h : ents l = []) : l = [] := by
  have := ents_len l
  rw [h] at this
  exact List.eq_nil_of_length_eq_zero this.symm

theorem ents_two {l : List (ByteArray × ByteArray)} (h : 1 < l.length) : ∃ p q r, ents l = p :: q :: r := by
  match l, h with
  | a :: b :: r, _ => exact ⟨_, _, _, rfl⟩

/-- No pairs. -/
theorem build_none (f : Nat) (w : World) (a : Option Addr) (cap : Nat) : Calls Try.prog 73 #[.slice a 0 cap] w fun e w' => ∃ v, e = .returned v ∧ BT w.heap.size w' f v [] ∧ Below w.heap.size w w' := by
  have HE := hid (fun w => newEmpty_any w)
  go_enter Try.func73, Try.ntmps73
  go_wp2_with fail
  refine (HE.out _).mono ?_
  rintro e w1 ⟨rfl, b1⟩
  have HB := hid b1
  clear b1
  go_wp2_with fail
  go_ret
  refine ⟨_, rfl, ?_, HB.out⟩
  cases f with
  | zero => exact ⟨rfl, rfl⟩
  | succ f => exact .inl ⟨rfl, rfl⟩

set_option maxHeartbeats 1600000 in
/-- One pair. -/
theorem build_one (f : Nat) (p : ByteArray × ByteArray) (w : World) (a : Option Addr) (cap : Nat) (hr : PRd w.heap.size w a [p]) (hfit : Tr.Fits (f + 1) (ents [p])) (hf : f ≤ 50) : Calls Try.prog 73 #[.slice a 1 cap] w fun e w' => ∃ v, e = .returned v ∧ BT w.heap.size w' (f + 1) v (ents [p]) ∧ Below w.heap.size w w' := by
  obtain ⟨b, off, rfl, hb, c0, c1⟩ := hr 0 (by simp)
  obtain ⟨g1, g2, g3⟩ := hfit _ (List.mem_singleton.2 rfl)
  have hsz : p.1.size ≤ 10000000 := by
    have : p.1.data.toList.length < f + 1 := g1
    rw [ba_len] at this; omega
  have d0 : w.cell? ⟨b, off, none⟩ = some (.string p.1) := by simpa using c0
  have d1 : w.cell? ⟨b, off + 1, none⟩ = some (.string p.2) := by simpa using c1
  have HL := hid (fun w => newLeaf_any p.1 p.2 (f + 1) w hsz g2)
  clear c0 c1 g1 g2 g3 hfit hr
  go_enter Try.func73, Try.ntmps73
  go_wp2_with fail
  go_region_held3 (fun w' => w'.cell? ⟨b, off, none⟩ = some (.string p.1) ∧ w'.cell? ⟨b, off + 1, none⟩ = some (.string p.2)) (go_keep) ((go_at_call 96; refine (HL.out _).mono ?_; rintro e w3 ⟨a3, c3, rfl, r3, b3⟩; have HR3 := hid r3; have HB3 : Hid (Below w.heap.size w w3) := ⟨b3.os, b3.tape, b3.output, b3.size, b3.block⟩; have z0 := (b3.cell (p := ⟨b, off, none⟩) hb).trans d0; have z1 := (b3.cell (p := ⟨b, off + 1, none⟩) hb).trans d1; clear r3 b3))
  all_goals go_wp2_with fail
  all_goals go_ret
  all_goals exact ⟨_, rfl, .inr (.inl ⟨_, a3, c3, p.1, p.2, rfl, rfl, rfl, rfl, HR3.out⟩), HB3.out⟩

theorem branchV_inj {a a' : Option Addr} {cap cap' : Nat} {cs cs' : Array Value} {x x' : ByteArray} (h : branchV a cap cs x = branchV a' cap' cs' x') : a = a' ∧ cap = cap' ∧ cs = cs' ∧ x = x' := by
  unfold branchV branchCells at h
  simp only [Value.iface.injEq, Value.agg.injEq, true_and] at h
  have h' := congrArg Array.toList h
  simp only [Array.toList_append, List.cons_append, List.nil_append, List.cons.injEq, Value.slice.injEq, true_and] at h'
  obtain ⟨⟨h1, h2⟩, h3⟩ := h'
  have h4 := List.append_inj' h3 rfl
  refine ⟨h1, h2, Array.toList_inj.1 h4.1, ?_⟩
  have := h4.2
  simpa using this

/-- What newExtension asks of the branch below. -/
theorem ext_call {lo : Nat} {w : World} {f : Nat} {a : Option Addr} {cap : Nat} {cs : Array Value} {x : ByteArray} {l : List Tr.Ent} (h : BT lo w f (branchV a cap cs x) l) (hfit : Tr.Fits f l) (hf : f ≤ 50) : cs.size = 32 ∧ Small (Tr.node f l) ∧ ¬ (Itm.enc (Tr.node f l)).length < 8 ∧ Rep w.heap.size w (f + 1 + 1) (.agg #[.bool true, .string ⟨#[]⟩, .slice a 17 cap]) (Tr.node f l) := by
  cases f with
  | zero => obtain ⟨_, h⟩ := h; simp [branchV, emptyV] at h
  | succ f =>
    rcases h with ⟨_, h⟩ | ⟨e, _, _, _, _, _, h, _⟩ | ⟨_, _, _, _, _, _, _, _, _, _, _, _, h, _⟩ | ⟨h1, a', cap', cs', x', h2, h3, h4, h5, h6⟩
    · simp [branchV, emptyV] at h
    · simp [branchV, leafV] at h
    · simp [branchV, extV] at h
    · have e := branchV_inj h2
      obtain ⟨rfl, rfl, rfl, rfl⟩ := e
      exact ⟨h3, node_small _ _ (by omega) hfit, Tr.fork_long f h1, repW_rep _ _ _ h5⟩

set_option maxHeartbeats 3200000 in
/-- Several pairs. -/
theorem build_more (f : Nat) (hf : f ≤ 50) (hQ : BranchOk f) (hQ1 : BranchOk (f + 1)) (w : World) (a : Option Addr) (cap : Nat) (l : List (ByteArray × ByteArray)) (hr : PRd w.heap.size w a l) (hl : l.length ≤ 1000) (h1 : 1 < l.length) (hfit : Tr.Fits (f + 1) (ents l)) (hap : Tr.Apart (ents l)) :
    Calls Try.prog 73 #[.slice a l.length cap] w fun e w' => ∃ v, e = .returned v ∧ BT w.heap.size w' (f + 1) v (ents l) ∧ Below w.heap.size w w' := by
  have hz : ∀ x ∈ l, x.1.size ≤ 1000000 := fun x hx => by
    have := (hfit (toEnt x) (List.mem_map.2 ⟨x, hx, rfl⟩)).1
    have : x.1.data.toList.length < f + 1 := this
    rw [ba_len] at this; omega
  have HSS := hid (sharedStart_any a cap l w hr (by omega) (by omega) hz)
  have HBH := hid (fun p w h => behindP_any p a cap l w h (by omega))
  have HQ := hid hQ
  have HQ1 := hid hQ1
  have HR := hid hr
  have HFIT := hid hfit
  have HAP := hid hap
  have HTW := hid (ents_two h1)
  have i0 : ¬ (l.length : Int) = 0 := by omega
  have i1 : ¬ (l.length : Int) = 1 := by omega
  have HL := hid hl
  clear hz hQ hQ1 hr hfit hap h1 hl
  go_enter Try.func73, Try.ntmps73
  go_wp2_with fail
  refine HSS.out.mono ?_
  rintro e w1 ⟨t, rfl, ht, b1⟩
  have HT := hid ht
  have HB1 := hid b1
  clear ht b1
  by_cases hn : t.data.toList = []
  · have hn' : (t.toList == []) = true := by rw [ByteArray.toList_eq, hn]; rfl
    have HF : Hid (Tr.Forks (ents l)) := by
      obtain ⟨p, q, r, e⟩ := HTW.out
      exact ⟨p, q, r, e, by rw [← HT.out, hn]⟩
    clear hn
    go_wp2_with fail
    refine (HQ1.out _ _ _ _ ((HR.out.later HB1.out).wider HB1.out.size) HL.out HFIT.out HAP.out HF.out).mono ?_
    rintro e w2 ⟨a2, c2, cs, x, rfl, t2, b2⟩
    have HT2 := hid (bt_low t2 HB1.out.size)
    have HB2 : Hid (Below w.heap.size w w2) := HB1.out.trans (b2.mono HB1.out.size)
    clear t2 b2
    obtain ⟨BB, hBB⟩ : ∃ B, B = branchCells a2 c2 cs x := ⟨_, rfl⟩
    have HBB : Hid (BB = branchCells a2 c2 cs x) := hBB
    rw [← hBB]
    clear hBB
    go_wp2_with fail
    go_ret
    exact ⟨branchV a2 c2 cs x, by rw [branchV, ← HBB.out]; rfl, HT2.out, HB2.out⟩
  · have hn' : (t.toList == []) = false := by rw [ByteArray.toList_eq, beq_eq_false_iff_ne]; exact hn
    have HN : Hid (Tr.shared (ents l) ≠ []) := by rw [Hid, ← HT.out]; exact hn
    clear hn
    go_wp2_with fail
    refine (HBH.out _ _ ((HR.out.later HB1.out).wider HB1.out.size)).mono ?_
    rintro e w2 ⟨v2, rfl, o2, b2⟩
    obtain ⟨a2, c2, hv2, p2⟩ := prd_of_pown o2
    subst hv2
    have HP2 := hid p2
    have HB2 : Hid (Below w.heap.size w w2) := HB1.out.trans (b2.mono HB1.out.size)
    have HE2 : Hid (ents (behindB t l) = Tr.behind (Tr.shared (ents l)) (ents l)) := by rw [Hid, behindB_ents, HT.out]
    have HL2 : Hid ((behindB t l).length ≤ 1000) := Nat.le_trans (behindB_le _ _) HL.out
    clear b2 o2 p2
    generalize behindB t l = lk at *
    go_wp2_with fail
    refine (HQ.out _ _ _ _ HP2.out HL2.out (by rw [HE2.out]; exact HFIT.out.behind HN.out) (by rw [HE2.out]; exact HAP.out.behind) (by rw [HE2.out]; obtain ⟨p, q, r, e⟩ := HTW.out; exact Tr.forks_behind e)).mono ?_
    rintro e w3 ⟨a3, c3, cs, x, rfl, t3, b3⟩
    rw [HE2.out] at t3
    have HT3 := hid (bt_low t3 HB2.out.size)
    have HB3 : Hid (Below w.heap.size w w3) := HB2.out.trans (b3.mono HB2.out.size)
    clear t3 b3
    have HX := hid (ext_call HT3.out (HFIT.out.behind HN.out) hf)
    have HNE := hid (newExtension_any (m := f + 1) (a := a3) (cap := c3) (cs := cs) (x := x) t w3 (by
        obtain ⟨p, q, r, e⟩ := HTW.out
        have h1 := (Tr.shared_pre (ents l) p (by rw [e]; simp)).length_le
        have h2 := (HFIT.out p (by rw [e]; simp)).1
        have h3 : t.data.toList.length ≤ p.dig.length := by rw [HT.out]; exact h1
        rw [ba_len] at h3; omega) (fun c hc => by
        obtain ⟨p, q, r, e⟩ := HTW.out
        rw [HT.out] at hc
        exact (HFIT.out p (by rw [e]; simp)).2.1 c ((Tr.shared_pre (ents l) p (by rw [e]; simp)).subset hc)) HX.out.1 HX.out.2.1 HX.out.2.2.1 HX.out.2.2.2)
    obtain ⟨BB, hBB⟩ : ∃ B, B = branchCells a3 c3 cs x := ⟨_, rfl⟩
    have HBB : Hid (BB = branchCells a3 c3 cs x) := hBB
    rw [← hBB] at HNE ⊢
    clear hBB
    go_wp2_with fail
    refine HNE.out.mono ?_
    rintro e w4 ⟨a4, c4, rfl, r4, b4⟩
    have HR4 := hid r4
    have HB4 := hid b4
    clear r4 b4
    generalize hrs : refSum (Tr.node f (Tr.behind (Tr.shared (ents l)) (ents l))) = S at *
    have HRS : Hid (refSum (Tr.node f (Tr.behind (Tr.shared (ents l)) (ents l))) = S) := hrs
    clear hrs
    go_wp2_with fail
    go_ret
    obtain ⟨p, q, r, e⟩ := HTW.out
    have hnode : Tr.node (f + 1) (ents l) = Tr.itL [Tr.itB (Tr.path t.data.toList false), Tr.ref (Tr.node f (Tr.behind (Tr.shared (ents l)) (ents l)))] := by rw [Tr.node_ext f e HN.out, HT.out]
    refine ⟨extV a4 c4 t S (branchV a3 c3 cs x), by rw [extV, branchV, ← HBB.out]; rfl, .inr (.inr (.inl ⟨p, q, r, e, HN.out, a4, c4, t, a3, c3, cs, x, by rw [HRS.out], HT.out, ?_, bt_later HT3.out HB4.out⟩)), HB3.out.trans (HB4.out.mono HB3.out.size)⟩
    rw [hnode]
    exact repW_turn HB3.out.size (Nat.le_refl _) (fun _ _ _ => rfl) _ _ _ HR4.out

theorem build_ok (f : Nat) (hf : f ≤ 50) (hQ : BranchOk f) (hQ1 : BranchOk (f + 1)) : BuildOk (f + 1) := by
  intro w a cap l hr hl hfit hap
  match l, hr, hl, hfit, hap with
  | [], _, _, _, _ => exact build_none (f + 1) w a cap
  | [p], hr, _, hfit, _ => exact build_one f p w a cap hr hfit hf
  | p :: q :: r, hr, hl, hfit, hap => exact build_more f hf hQ hQ1 w a cap _ hr hl (by simp) hfit hap

/-- build and buildBranch, at every depth that a table has. -/
theorem builds_ok : ∀ f, f ≤ 50 → BuildOk f ∧ BranchOk f := by
  intro f
  induction f with
  | zero =>
    intro _
    refine ⟨fun w a cap l _ _ hfit _ => ?_, fun w a cap l _ _ hfit _ hfk => ?_⟩
    · have : l = [] := by
        match l, hfit with
        | [], _ => rfl
        | x :: r, hfit => have := (hfit (toEnt x) (by simp [ents])).1; omega
      subst this
      exact build_none 0 w a cap
    · obtain ⟨x, y, r, e, _⟩ := hfk
      have := (hfit x (by rw [e]; simp)).1
      omega
  | succ f ih =>
    intro hf
    have h := ih (by omega)
    have hb := branch_ok f (by omega) h.1
    exact ⟨build_ok f (by omega) h.2 hb, hb⟩

end Go.Proofs.Ytbmohenjphmlgaa
