/- Part 25 of a proof: what the last text needs. -/
import Derived.Test.YtbmohenjphmlgaaPart24
import Derived.Test.YtbmohenjphmlgaaPart10
import Derived.Test.YtbmohenjphmlgaaPart23
/- The walk of newExtension (of the program). -/
namespace Go.Proofs.Ytbmohenjphmlgaa
open Go.RowKit
set_option maxRecDepth 100000

theorem exec_load_row {P : Program} {o : Oper} {ρ : Operand → Value} {w : World} (ty : TypeId) (x : Operand) (ho : o.op = .load ty x)
    (g : Nat) (hx : ρ x = .pointer (some ⟨g, 0, none⟩)) (t : TypeId) (cs : Array Value) (fr : Nat × Nat) (d : TypeDesc) (hg : w.heap[g]? = some (.cells cs t fr))
    (hu : P.underlying ty = some d) (hd : (match d with | .struct _ | .array _ _ => true | _ => false) = true) (hi : (P.info? ty).map (·.size) = some cs.size) : Sem.run P (execOp ρ o) w = .ok (.value (.agg cs)) w := by
  unfold execOp
  simp only [ho, hx, Instr.loadAt, Instr.sureAddr, Sem.run_bind, Sem.run_pure, Result.andThen_ok, run_loadVar_row w g t ty cs fr d hg hu hd hi]

/-- What a step of a region leaves: a reference in block g. -/
theorem two_set {W : World} {g : Nat} {x0 x1 a b : Value} {e : TypeId} {fz : Nat × Nat} (h : W.heap[g]? = some (.cells #[x0, x1] e fz)) : ((W.setCell ⟨g, 0, none⟩ a).setCell ⟨g, 1, none⟩ b).heap[g]? = some (.cells #[a, b] e fz) := by
  simp [World.setCell, Array.getElem?_modify, h]

theorem ext_end {w F : World} {r m : Nat} {t : Itm} {b : Bool} {s' : ByteArray} {a : Option Addr} {n cap : Nat} (p : List UInt8) (d y : Value) (hf : t.items = []) (hr : Rep w.heap.size w (m + 1) (.agg #[.bool b, .string s', .slice a n cap]) t) (hb : Below w.heap.size w F)
    (hrow : F.heap[r]? = some (.cells #[.bool false, .string ⟨p.toArray⟩, .slice none 0 0, .bool b, .string s', .slice a n cap] 24 (0, 0))) (hle : w.heap.size ≤ r) {x : Value} :
    ∃ a' cap', Ending.returned (.iface 165 (.agg #[.int .i64 2, .bool true, .string ⟨#[]⟩, .slice (some ⟨r, 0, none⟩) 2 2, d, x, y])) = .returned (.iface 165 (.agg #[.int .i64 2, .bool true, .string ⟨#[]⟩, .slice a' 2 cap', d, x, y])) ∧
      RepW w.heap.size F.heap.size F (m + 2) (.agg #[.bool true, .string ⟨#[]⟩, .slice a' 2 cap']) (Tr.itL [Tr.itB p, t]) ∧ Below w.heap.size w F :=
  ⟨_, _, rfl, repW_flat (rowR_rep (rowR_of_block hrow hle (rep_bytes _ _ _ _) (rep_frame hb _ _ _ hr)) hb.size (by simp [maxLen])) (fun u hu => by
    simp only [Tr.itL, List.mem_cons, List.not_mem_nil, or_false] at hu
    rcases hu with rfl | rfl
    · rfl
    · exact hf) (fun b off e => by cases e; exact hle), hb⟩

theorem far1 {w : World} {g : Nat} {O : Obj} (h : w.heap[g]? = some O) : (¬ g = w.heap.size) ∧ (¬ w.heap.size = g) ∧ g < w.heap.size ∧ (¬ g = w.heap.size + 1) ∧ (¬ w.heap.size + 1 = g) := by
  have := (Array.getElem?_eq_some_iff.1 h).1
  exact ⟨by omega, by omega, this, by omega, by omega⟩

set_option maxHeartbeats 6400000 in
theorem newExtension_any {a : Option Addr} {cap m : Nat} {cs : Array Value} {x : ByteArray} {t : Itm} (d : ByteArray) (w : World) (hsz : d.size ≤ 10000000) (hd : ∀ c ∈ d.data.toList, c.toNat < 16) (hcs : cs.size = 32) (hs : Small t) (h8 : ¬ (Itm.enc t).length < 8) (hr : Rep w.heap.size w (m + 1) (.agg #[.bool true, .string ⟨#[]⟩, .slice a 17 cap]) t) :
    Calls Try.prog 98 #[.string d, .agg (branchCells a cap cs x)] w fun e w' => ∃ a' cap', e = .returned (.iface 165 (.agg #[.int .i64 2, .bool true, .string ⟨#[]⟩, .slice a' 2 cap', .string d, .string (refSum t), .iface 143 (.agg (branchCells a cap cs x))])) ∧ RepW w.heap.size w'.heap.size w' (m + 2) (.agg #[.bool true, .string ⟨#[]⟩, .slice a' 2 cap']) (Tr.itL [Tr.itB (Tr.path d.data.toList false), Tr.ref t]) ∧ Below w.heap.size w w' := by
  have HP := hid (fun w => pathOf_any d false w hsz hd)
  have HBI := hid (fun s w => bytesItem_any s w)
  have HLI := hid (fun a n cap w => listItem_any a n cap w)
  have HRI := hid (fun w' => refItem_any w' w (nd_branch a cap cs x) hr)
  have HSM := hid (fun w h => commonSum_any 3 a 17 cap true ⟨#[]⟩ m t w hs h)
  have HR := hid hr
  have HRS := hid (refSum_some h8)
  have HFL : Hid ((Tr.ref t).items = []) := by rw [Hid, Tr.ref_long h8]; rfl
  obtain ⟨k0, k1, k2, k3⟩ := branchCells_at a cap cs x
  have hsize := branchCells_size a cap cs x hcs
  generalize branchCells a cap cs x = BB at *
  clear hr h8 hd
  go_enter Try.func98, Try.ntmps98
  go_upto_region 1 with fail
  have HG : Hid ((w.alloc (.cells BB 143)).heap[w.heap.size]? = some (.cells BB 143 (0, 0))) := heap_alloc_new w _
  refine wp_region_L (fun w' => w'.heap[w.heap.size]? = some (.cells BB 143 (0, 0))) 7 (by kernel_rfl) ?_
  have hS : (fun w' : World => w'.heap[w.heap.size]? = some (.cells BB 143 (0, 0))) (w.alloc (.cells BB 143)).drew := HG.out
  refine wpAnyL_take (i := 0) (v := .pointer (some ⟨w.heap.size, 0, none⟩)) rfl (by kernel_rfl) (by kernel_rfl) (by kernel_rfl) (by kernel_rfl) (by kernel_rfl) (fun _ _ _ h => h) hS (Or.inl ⟨by kernel_rfl, ?_⟩) ?_
  · (intro w' hSw; go_simp)
  try simp only [Act.put]
  refine wpAnyL_take (i := 1) (v := .agg #[.int .i64 3, .bool true, .string ⟨#[]⟩, .slice a 17 cap]) rfl (by kernel_rfl) (by kernel_rfl) (by kernel_rfl) (by kernel_rfl) (by kernel_rfl) (fun _ _ _ h => h) hS (Or.inl ⟨by kernel_rfl, ?_⟩) ?_
  · intro w' hSw
    have z0 := (cell_of_row w' _ 0 _ _ _ hSw).trans k0
    have z1 := (cell_of_row w' _ 1 _ _ _ hSw).trans k1
    have z2 := (cell_of_row w' _ 2 _ _ _ hSw).trans k2
    have z3 := (cell_of_row w' _ 3 _ _ _ hSw).trans k3
    go_simp
  try simp only [Act.put]
  refine wpAnyL_take (i := 3) (v := .agg BB) rfl (by kernel_rfl) (by kernel_rfl) (by kernel_rfl) (by kernel_rfl) (by kernel_rfl) (fun _ _ _ h => h) hS (Or.inl ⟨by kernel_rfl, ?_⟩) ?_
  · intro w' hSw
    exact exec_load_row 143 (.tmp 3) rfl w.heap.size rfl 143 BB (0, 0) _ hSw Try.underlying143 rfl (by rw [hsize]; kernel_rfl)
  try simp only [Act.put]
  refine wpAnyL_take (i := 4) (v := .iface 143 (.agg BB)) rfl (by kernel_rfl) (by kernel_rfl) (by kernel_rfl) (by kernel_rfl) (by kernel_rfl) (fun _ _ _ h => h) hS (Or.inl ⟨by kernel_rfl, ?_⟩) ?_
  · (intro w' hSw; go_simp)
  try simp only [Act.put]
  have HWB : Hid (Below w.heap.size w (w.alloc (.cells BB 143))) := (Below.refl _ _).alloc (Nat.le_refl _) _
  refine wpAnyL_ready (rs := [2, 6]) (by kernel_rfl) (by simp) ?_
  refine AllReadyL.cons rfl (fun K hK => ?_) (AllReadyL.cons rfl (fun K hK => ?_) AllReadyL.nil)
  · go_simp
    refine (HSM.out _ (rep_later HWB.out.drew HR.out)).mono ?_
    rintro e w1 ⟨rfl, b1⟩
    have hS1 : w1.heap[w.heap.size]? = some (.cells BB 143 (0, 0)) := (b1.block _ (by show w.heap.size < (w.alloc (.cells BB 143)).heap.size; rw [alloc_size]; omega)).trans HG.out
    have HB1 : Hid (Below w.heap.size w w1) := HWB.out.drew.trans (b1.mono (by show w.heap.size ≤ (w.alloc (.cells BB 143)).heap.size; rw [alloc_size]; omega))
    clear b1
    refine hK.out _ _ hS1 ?_
    clear hK K
    try simp only [Act.put]
    refine wpAnyL_take (i := 5) (v := .agg #[.string ⟨(Tr.sum (Itm.enc t)).toArray⟩, .iface 143 (.agg BB)]) rfl (by kernel_rfl) (by kernel_rfl) (by kernel_rfl) (by kernel_rfl) (by kernel_rfl) (fun _ _ _ h => h) hS1 (Or.inl ⟨by kernel_rfl, ?_⟩) ?_
    · (intro w' hSw; go_simp)
    try simp only [Act.put]
    refine wpAnyL_ready (rs := [6]) (by kernel_rfl) (by simp) ?_
    refine AllReadyL.cons rfl (fun K hK => ?_) AllReadyL.nil
    go_simp
    refine hK.out _ _ ((Below.heap_alloc _ _ _ (Array.getElem?_eq_some_iff.1 hS1).1).trans hS1) ?_
    clear hK K
    try simp only [Act.put]
    refine wpAnyL_ready (rs := [7]) (by kernel_rfl) (by simp) ?_
    refine AllReadyL.last rfl (fun K hK => ?_)
    go_simp
    refine hK.out _ _ ?_
    clear hK K
    try simp only [Act.put]
    refine wpAny_done (by kernel_rfl) ?_ _
    have HBW' : Hid (Below w.heap.size w (w1.alloc (.cells #[.string ⟨(Tr.sum (Itm.enc t)).toArray⟩, .iface 143 (.agg BB)] 140))) := HB1.out.alloc HB1.out.size _
    have HKW' := hid (heap_alloc_new w1 (.cells #[.string ⟨(Tr.sum (Itm.enc t)).toArray⟩, .iface 143 (.agg BB)] 140))
    rw [← HRS.out] at HKW' HBW' ⊢
    obtain ⟨S, hSS⟩ : ∃ S, S = refSum t := ⟨_, rfl⟩
    have HSS : Hid (S = refSum t) := hSS
    rw [← hSS] at HKW' HBW' HRI ⊢
    clear hSS
    generalize hg : w1.heap.size = g at *
    generalize w1.alloc (.cells #[.string S, .iface 143 (.agg BB)] 140) = W at *
    have HKW := HKW'
    have HBW := HBW'
    clear hg HKW' HBW' hS1 HB1 hS HG HWB HSM HR HRS k0 k1 k2 k3
    have g0 := cell_of_row _ _ 0 _ _ _ HKW.out
    have g1 := cell_of_row _ _ 1 _ _ _ HKW.out
    obtain ⟨p1, p2, p3, p4, p5⟩ := far1 HKW.out
    go_wp2_with fail
    go_region_held3 (fun w' => w'.cell? ⟨g, 0, none⟩ = some (.string S) ∧ w'.cell? ⟨g, 1, none⟩ = some (.iface 143 (.agg BB))) (go_keep)
      ((first
        | (go_at_call 114; refine (HP.out _).mono ?_; rintro e w2 ⟨rfl, b2⟩; (first | (have HK2 : Hid (w2.heap[g]? = some (.cells #[.string S, .iface 143 (.agg BB)] 140 (0, 0))) := kept_block b2 (block_alloc HKW.out); have HV2 : Hid (w2.heap[W.heap.size]? = some (.cells #[.bool false, .string ⟨#[]⟩, .slice none 0 0] 24 (0, 0))) := kept_block b2 (heap_alloc_new W _); have HB2 : Hid (Below w.heap.size w w2) := belowC (belowA HBW.out.drew _) b2; have hgw := HBW.out.size) | (have HK2 : Hid (w2.heap[g]? = some (.cells #[.string S, .iface 143 (.agg BB)] 140 (0, 0))) := kept_block b2 HKW.out; have HB2 : Hid (Below w.heap.size w w2) := belowC HBW.out.drew b2)); obtain ⟨x1, x2, x3, x4, x5⟩ := far1 HK2.out; obtain ⟨m20, m21⟩ := pair_cells HK2.out; clear b2)
        | (go_at_call 112; refine (HBI.out _ _).mono ?_; rintro e w3 ⟨rfl, b3⟩; (first | (have HK3 : Hid (w3.heap[g]? = some (.cells #[.string S, .iface 143 (.agg BB)] 140 (0, 0))) := kept_block b3 (block_alloc HK2.out); have HV3 : Hid (w3.heap[w2.heap.size]? = some (.cells #[.bool false, .string ⟨#[]⟩, .slice none 0 0] 24 (0, 0))) := kept_block b3 (heap_alloc_new w2 _); have HB3 : Hid (Below w.heap.size w w3) := belowC (belowA HB2.out _) b3; have hgw := HB2.out.size) | (have HK3 : Hid (w3.heap[g]? = some (.cells #[.string S, .iface 143 (.agg BB)] 140 (0, 0))) := kept_block b3 HK2.out; have HB3 : Hid (Below w.heap.size w w3) := belowC HB2.out b3; (first | (have HV3 := hid (kept_block b3 HV2.out)) | skip))); obtain ⟨y1, y2, y3, y4, y5⟩ := far1 HK3.out; obtain ⟨m30, m31⟩ := pair_cells HK3.out; clear b3)
        | (go_at_call 117; refine (HRI.out _).mono ?_; rintro e w4 ⟨l', s', a', n', cap', rfl, r4, b4⟩; (first | (have HK4 : Hid (w4.heap[g]? = some (.cells #[.string S, .iface 143 (.agg BB)] 140 (0, 0))) := kept_block b4 (block_alloc HK3.out); have HV4 : Hid (w4.heap[w3.heap.size]? = some (.cells #[.bool false, .string ⟨#[]⟩, .slice none 0 0] 24 (0, 0))) := kept_block b4 (heap_alloc_new w3 _); have HB4 : Hid (Below w.heap.size w w4) := belowC (belowA HB3.out _) b4; have hgw := HB3.out.size) | (have HK4 : Hid (w4.heap[g]? = some (.cells #[.string S, .iface 143 (.agg BB)] 140 (0, 0))) := kept_block b4 HK3.out; have HB4 : Hid (Below w.heap.size w w4) := belowC HB3.out b4; (first | (have HV4 := hid (kept_block b4 HV3.out)) | skip))); obtain ⟨z1, z2, z3, z4, z5⟩ := far1 HK4.out; obtain ⟨m40, m41⟩ := pair_cells HK4.out; have HR4 := hid r4; clear r4; clear b4)
        | (go_at_call 113; refine (HLI.out _ _ _ _).mono ?_; rintro e w5 ⟨rfl, b5⟩; (first | (have HV5 : Hid (w5.heap[w4.heap.size + 1]? = some (.cells #[.bool false, .string ⟨#[]⟩, .slice none 0 0] 24 (0, 0))) := kept_block b5 (block_alloc2 w4 _ _); have HK5 : Hid (w5.heap[g]? = some (.cells #[.string S, .iface 143 (.agg BB)] 140 (0, 0))) := kept_block b5 (block_alloc (block_alloc HK4.out)); have hgw := Nat.le_succ_of_le HB4.out.size; have HB5 := hid b5; have n50 := cell_of_row _ _ 0 _ _ _ HV5.out; have n51 := cell_of_row _ _ 1 _ _ _ HV5.out; have n52 := cell_of_row _ _ 2 _ _ _ HV5.out; have o50 := frozen_of_row _ _ 0 _ _ HV5.out; have o51 := frozen_of_row _ _ 1 _ _ HV5.out; have o52 := frozen_of_row _ _ 2 _ _ HV5.out) | (have HV5 : Hid (w5.heap[w4.heap.size]? = some (.cells #[.bool false, .string ⟨#[]⟩, .slice none 0 0] 24 (0, 0))) := kept_block b5 (block_alloc (heap_alloc_new w4 _)); have HK5 : Hid (w5.heap[g]? = some (.cells #[.string S, .iface 143 (.agg BB)] 140 (0, 0))) := kept_block b5 (block_alloc (block_alloc HK4.out)); have hgw := HB4.out.size; have HB5 := hid b5; have n50 := cell_of_row _ _ 0 _ _ _ HV5.out; have n51 := cell_of_row _ _ 1 _ _ _ HV5.out; have n52 := cell_of_row _ _ 2 _ _ _ HV5.out; have o50 := frozen_of_row _ _ 0 _ _ HV5.out; have o51 := frozen_of_row _ _ 1 _ _ HV5.out; have o52 := frozen_of_row _ _ 2 _ _ HV5.out) | (have HV5 := hid (kept_block b5 (block_alloc HV4.out)); have HK5 : Hid (w5.heap[g]? = some (.cells #[.string S, .iface 143 (.agg BB)] 140 (0, 0))) := kept_block b5 (block_alloc HK4.out); have HB5 := hid b5; have n50 := cell_of_row _ _ 0 _ _ _ HV5.out; have n51 := cell_of_row _ _ 1 _ _ _ HV5.out; have n52 := cell_of_row _ _ 2 _ _ _ HV5.out; have o50 := frozen_of_row _ _ 0 _ _ HV5.out; have o51 := frozen_of_row _ _ 1 _ _ HV5.out; have o52 := frozen_of_row _ _ 2 _ _ HV5.out) | (have HK5 : Hid (w5.heap[g]? = some (.cells #[.string S, .iface 143 (.agg BB)] 140 (0, 0))) := kept_block b5 (block_alloc HK4.out); have HB5 := hid b5)); obtain ⟨q1, q2, q3, q4, q5⟩ := far1 HK5.out; obtain ⟨m50, m51⟩ := pair_cells HK5.out; clear b5)))
    all_goals go_wp2_with fail
    all_goals go_ret
    all_goals rw [← HSS.out]
    all_goals first
      | exact ext_end _ _ _ HFL.out HR4.out (belowA (belowC (belowA HB4.out _) HB5.out) _) (block_alloc (kept_block HB5.out (heap_alloc_new w4 _))) HB4.out.size
      | exact ext_end _ _ _ HFL.out HR4.out (three_below (belowC (belowA (belowA HB4.out _) _) HB5.out) hgw _ _ _) (set3_other (kept_block HB5.out (block_alloc (heap_alloc_new w4 _))) (Nat.ne_of_gt (Nat.lt_succ_self _))) HB4.out.size
      | exact ext_end _ _ _ HFL.out HR4.out (three_below (belowC (belowA (belowA HB4.out _) _) HB5.out) hgw _ _ _) (set3_other (kept_block HB5.out (block_alloc2 w4 _ _)) (Nat.ne_of_lt (Nat.lt_succ_self _))) (Nat.le_succ_of_le HB4.out.size)
      | exact ext_end _ _ _ HFL.out HR4.out (three_below (belowC (belowA HB4.out _) HB5.out) hgw _ _ _) (set3_other (kept_block HB5.out (heap_alloc_new w4 _)) (far_ne HV4.out).2.2.1) HB4.out.size
  · go_simp
    have HG2 : Hid (((w.alloc (.cells BB 143)).alloc (.cells #[.string ⟨#[]⟩, .nilIface] 140)).drew.heap[w.heap.size]? = some (.cells BB 143 (0, 0))) := (Below.heap_alloc _ _ _ (by rw [alloc_size]; omega)).trans HG.out
    have HX2 : Hid (((w.alloc (.cells BB 143)).alloc (.cells #[.string ⟨#[]⟩, .nilIface] 140)).drew.heap[w.heap.size + 1]? = some (.cells #[.string ⟨#[]⟩, .nilIface] 140 (0, 0))) := block_alloc2 w _ _
    have HW2 : Hid (Below w.heap.size w ((w.alloc (.cells BB 143)).alloc (.cells #[.string ⟨#[]⟩, .nilIface] 140)).drew) := (HWB.out.alloc HWB.out.size _).drew
    refine hK.out _ _ HG2.out ?_
    clear hK K
    try simp only [Act.put]
    refine wpAnyL_ready (rs := [2]) (by kernel_rfl) (by simp) ?_
    refine AllReadyL.cons rfl (fun K hK => ?_) AllReadyL.nil
    go_simp
    refine (HSM.out _ (rep_later HW2.out HR.out)).mono ?_
    rintro e w1 ⟨rfl, b1⟩
    have hS1 : w1.heap[w.heap.size]? = some (.cells BB 143 (0, 0)) := kept_block b1 HG2.out
    have HX1 : Hid (w1.heap[w.heap.size + 1]? = some (.cells #[.string ⟨#[]⟩, .nilIface] 140 (0, 0))) := kept_block b1 HX2.out
    have HB1 : Hid (Below w.heap.size w w1) := HW2.out.trans (b1.mono HW2.out.size)
    clear b1
    refine hK.out _ _ hS1 ?_
    clear hK K
    try simp only [Act.put]
    refine wpAnyL_take (i := 5) (v := .agg #[.string ⟨(Tr.sum (Itm.enc t)).toArray⟩, .iface 143 (.agg BB)]) rfl (by kernel_rfl) (by kernel_rfl) (by kernel_rfl) (by kernel_rfl) (by kernel_rfl) (fun _ _ _ h => h) hS1 (Or.inl ⟨by kernel_rfl, ?_⟩) ?_
    · (intro w' hSw; go_simp)
    try simp only [Act.put]
    have x0 := cell_of_row _ _ 0 _ _ _ HX1.out
    have x1 := cell_of_row _ _ 1 _ _ _ HX1.out
    have f0 := frozen_of_row _ _ 0 _ _ HX1.out
    have f1 := frozen_of_row _ _ 1 _ _ HX1.out
    refine wpAnyL_ready (rs := [7]) (by kernel_rfl) (by simp) ?_
    refine AllReadyL.last rfl (fun K hK => ?_)
    go_simp
    refine hK.out _ _ ?_
    clear hK K
    try simp only [Act.put]
    refine wpAny_done (by kernel_rfl) ?_ _
    have HKW' := hid (two_set (a := .string ⟨(Tr.sum (Itm.enc t)).toArray⟩) (b := .iface 143 (.agg BB)) HX1.out)
    have HBW' : Hid (Below w.heap.size w ((w1.setCell ⟨w.heap.size + 1, 0, none⟩ (.string ⟨(Tr.sum (Itm.enc t)).toArray⟩)).setCell ⟨w.heap.size + 1, 1, none⟩ (.iface 143 (.agg BB)))) := (HB1.out.setCell (p := ⟨w.heap.size + 1, 0, none⟩) (Nat.le_succ _) _).setCell (p := ⟨w.heap.size + 1, 1, none⟩) (Nat.le_succ _) _
    rw [← HRS.out] at HKW' HBW' ⊢
    obtain ⟨S, hSS⟩ : ∃ S, S = refSum t := ⟨_, rfl⟩
    have HSS : Hid (S = refSum t) := hSS
    rw [← hSS] at HKW' HBW' HRI ⊢
    clear hSS
    clear x0 x1 f0 f1 hS1 HB1 hS HG HWB HSM HR HRS k0 k1 k2 k3 HG2 HX2 HW2 HX1
    generalize (w1.setCell ⟨w.heap.size + 1, 0, none⟩ (.string S)).setCell ⟨w.heap.size + 1, 1, none⟩ (.iface 143 (.agg BB)) = W at *
    generalize w.heap.size + 1 = g at *
    have HKW := HKW'
    have HBW := HBW'
    clear HKW' HBW'
    have g0 := cell_of_row _ _ 0 _ _ _ HKW.out
    have g1 := cell_of_row _ _ 1 _ _ _ HKW.out
    obtain ⟨p1, p2, p3, p4, p5⟩ := far1 HKW.out
    go_wp2_with fail
    go_region_held3 (fun w' => w'.cell? ⟨g, 0, none⟩ = some (.string S) ∧ w'.cell? ⟨g, 1, none⟩ = some (.iface 143 (.agg BB))) (go_keep)
      ((first
        | (go_at_call 114; refine (HP.out _).mono ?_; rintro e w2 ⟨rfl, b2⟩; (first | (have HK2 : Hid (w2.heap[g]? = some (.cells #[.string S, .iface 143 (.agg BB)] 140 (0, 0))) := kept_block b2 (block_alloc HKW.out); have HV2 : Hid (w2.heap[W.heap.size]? = some (.cells #[.bool false, .string ⟨#[]⟩, .slice none 0 0] 24 (0, 0))) := kept_block b2 (heap_alloc_new W _); have HB2 : Hid (Below w.heap.size w w2) := belowC (belowA HBW.out.drew _) b2; have hgw := HBW.out.size) | (have HK2 : Hid (w2.heap[g]? = some (.cells #[.string S, .iface 143 (.agg BB)] 140 (0, 0))) := kept_block b2 HKW.out; have HB2 : Hid (Below w.heap.size w w2) := belowC HBW.out.drew b2)); obtain ⟨x1, x2, x3, x4, x5⟩ := far1 HK2.out; obtain ⟨m20, m21⟩ := pair_cells HK2.out; clear b2)
        | (go_at_call 112; refine (HBI.out _ _).mono ?_; rintro e w3 ⟨rfl, b3⟩; (first | (have HK3 : Hid (w3.heap[g]? = some (.cells #[.string S, .iface 143 (.agg BB)] 140 (0, 0))) := kept_block b3 (block_alloc HK2.out); have HV3 : Hid (w3.heap[w2.heap.size]? = some (.cells #[.bool false, .string ⟨#[]⟩, .slice none 0 0] 24 (0, 0))) := kept_block b3 (heap_alloc_new w2 _); have HB3 : Hid (Below w.heap.size w w3) := belowC (belowA HB2.out _) b3; have hgw := HB2.out.size) | (have HK3 : Hid (w3.heap[g]? = some (.cells #[.string S, .iface 143 (.agg BB)] 140 (0, 0))) := kept_block b3 HK2.out; have HB3 : Hid (Below w.heap.size w w3) := belowC HB2.out b3; (first | (have HV3 := hid (kept_block b3 HV2.out)) | skip))); obtain ⟨y1, y2, y3, y4, y5⟩ := far1 HK3.out; obtain ⟨m30, m31⟩ := pair_cells HK3.out; clear b3)
        | (go_at_call 117; refine (HRI.out _).mono ?_; rintro e w4 ⟨l', s', a', n', cap', rfl, r4, b4⟩; (first | (have HK4 : Hid (w4.heap[g]? = some (.cells #[.string S, .iface 143 (.agg BB)] 140 (0, 0))) := kept_block b4 (block_alloc HK3.out); have HV4 : Hid (w4.heap[w3.heap.size]? = some (.cells #[.bool false, .string ⟨#[]⟩, .slice none 0 0] 24 (0, 0))) := kept_block b4 (heap_alloc_new w3 _); have HB4 : Hid (Below w.heap.size w w4) := belowC (belowA HB3.out _) b4; have hgw := HB3.out.size) | (have HK4 : Hid (w4.heap[g]? = some (.cells #[.string S, .iface 143 (.agg BB)] 140 (0, 0))) := kept_block b4 HK3.out; have HB4 : Hid (Below w.heap.size w w4) := belowC HB3.out b4; (first | (have HV4 := hid (kept_block b4 HV3.out)) | skip))); obtain ⟨z1, z2, z3, z4, z5⟩ := far1 HK4.out; obtain ⟨m40, m41⟩ := pair_cells HK4.out; have HR4 := hid r4; clear r4; clear b4)
        | (go_at_call 113; refine (HLI.out _ _ _ _).mono ?_; rintro e w5 ⟨rfl, b5⟩; (first | (have HV5 : Hid (w5.heap[w4.heap.size + 1]? = some (.cells #[.bool false, .string ⟨#[]⟩, .slice none 0 0] 24 (0, 0))) := kept_block b5 (block_alloc2 w4 _ _); have HK5 : Hid (w5.heap[g]? = some (.cells #[.string S, .iface 143 (.agg BB)] 140 (0, 0))) := kept_block b5 (block_alloc (block_alloc HK4.out)); have hgw := Nat.le_succ_of_le HB4.out.size; have HB5 := hid b5; have n50 := cell_of_row _ _ 0 _ _ _ HV5.out; have n51 := cell_of_row _ _ 1 _ _ _ HV5.out; have n52 := cell_of_row _ _ 2 _ _ _ HV5.out; have o50 := frozen_of_row _ _ 0 _ _ HV5.out; have o51 := frozen_of_row _ _ 1 _ _ HV5.out; have o52 := frozen_of_row _ _ 2 _ _ HV5.out) | (have HV5 : Hid (w5.heap[w4.heap.size]? = some (.cells #[.bool false, .string ⟨#[]⟩, .slice none 0 0] 24 (0, 0))) := kept_block b5 (block_alloc (heap_alloc_new w4 _)); have HK5 : Hid (w5.heap[g]? = some (.cells #[.string S, .iface 143 (.agg BB)] 140 (0, 0))) := kept_block b5 (block_alloc (block_alloc HK4.out)); have hgw := HB4.out.size; have HB5 := hid b5; have n50 := cell_of_row _ _ 0 _ _ _ HV5.out; have n51 := cell_of_row _ _ 1 _ _ _ HV5.out; have n52 := cell_of_row _ _ 2 _ _ _ HV5.out; have o50 := frozen_of_row _ _ 0 _ _ HV5.out; have o51 := frozen_of_row _ _ 1 _ _ HV5.out; have o52 := frozen_of_row _ _ 2 _ _ HV5.out) | (have HV5 := hid (kept_block b5 (block_alloc HV4.out)); have HK5 : Hid (w5.heap[g]? = some (.cells #[.string S, .iface 143 (.agg BB)] 140 (0, 0))) := kept_block b5 (block_alloc HK4.out); have HB5 := hid b5; have n50 := cell_of_row _ _ 0 _ _ _ HV5.out; have n51 := cell_of_row _ _ 1 _ _ _ HV5.out; have n52 := cell_of_row _ _ 2 _ _ _ HV5.out; have o50 := frozen_of_row _ _ 0 _ _ HV5.out; have o51 := frozen_of_row _ _ 1 _ _ HV5.out; have o52 := frozen_of_row _ _ 2 _ _ HV5.out) | (have HK5 : Hid (w5.heap[g]? = some (.cells #[.string S, .iface 143 (.agg BB)] 140 (0, 0))) := kept_block b5 (block_alloc HK4.out); have HB5 := hid b5)); obtain ⟨q1, q2, q3, q4, q5⟩ := far1 HK5.out; obtain ⟨m50, m51⟩ := pair_cells HK5.out; clear b5)))
    all_goals go_wp2_with fail
    all_goals go_ret
    all_goals rw [← HSS.out]
    all_goals first
      | exact ext_end _ _ _ HFL.out HR4.out (belowA (belowC (belowA HB4.out _) HB5.out) _) (block_alloc (kept_block HB5.out (heap_alloc_new w4 _))) HB4.out.size
      | exact ext_end _ _ _ HFL.out HR4.out (three_below (belowC (belowA (belowA HB4.out _) _) HB5.out) hgw _ _ _) (set3_other (kept_block HB5.out (block_alloc (heap_alloc_new w4 _))) (Nat.ne_of_gt (Nat.lt_succ_self _))) HB4.out.size
      | exact ext_end _ _ _ HFL.out HR4.out (three_below (belowC (belowA (belowA HB4.out _) _) HB5.out) hgw _ _ _) (set3_other (kept_block HB5.out (block_alloc2 w4 _ _)) (Nat.ne_of_lt (Nat.lt_succ_self _))) (Nat.le_succ_of_le HB4.out.size)
      | exact ext_end _ _ _ HFL.out HR4.out (three_below (belowC (belowA HB4.out _) HB5.out) hgw _ _ _) (set3_other (kept_block HB5.out (heap_alloc_new w4 _)) (far_ne HV4.out).2.2.1) HB4.out.size
end Go.Proofs.Ytbmohenjphmlgaa

/- The walk of build (of the program): the tree of pairs. -/
namespace Go.Proofs.Ytbmohenjphmlgaa
open Go.RowKit
set_option maxRecDepth 100000

theorem ents_len (l : List (ByteArray × ByteArray)) : (ents l).length = l.length := by simp [ents]

theorem ents_nil {l : List (ByteArray × ByteArray)} (h : ents l = []) : l = [] := by
  have := ents_len l
  rw [h] at this
  exact List.eq_nil_of_length_eq_zero this.symm

theorem ents_two {l : List (ByteArray × ByteArray)} (h : 1 < l.length) : ∃ p q r, ents l = p :: q :: r := by
  match l, h with
  | a :: b :: r, _ => exact ⟨_, _, _, rfl⟩

/-- No pairs. -/
theorem build_none (f : Nat) (w : World) (a : Option Addr) (cap : Nat) : Calls Try.prog 73 #[.slice a 0 cap] w fun e w' => ∃ v, e = .returned v ∧ BT w.heap.size w' f v [] ∧ Below w.heap.size w w' := by
  have HE := hid (fun w => newEmpty_any w)
  go_enter Try.func73, Try.ntmps73
  go_wp2_with fail
  refine (HE.out _).mono ?_
  rintro e w1 ⟨rfl, b1⟩
  have HB := hid b1
  clear b1
  go_wp2_with fail
  go_ret
  refine ⟨_, rfl, ?_, HB.out⟩
  cases f with
  | zero => exact ⟨rfl, rfl⟩
  | succ f => exact .inl ⟨rfl, rfl⟩

set_option maxHeartbeats 1600000 in
/-- One pair. -/
theorem build_one (f : Nat) (p : ByteArray × ByteArray) (w : World) (a : Option Addr) (cap : Nat) (hr : PRd w.heap.size w a [p]) (hfit : Tr.Fits (f + 1) (ents [p])) (hf : f ≤ 50) : Calls Try.prog 73 #[.slice a 1 cap] w fun e w' => ∃ v, e = .returned v ∧ BT w.heap.size w' (f + 1) v (ents [p]) ∧ Below w.heap.size w w' := by
  obtain ⟨b, off, rfl, hb, c0, c1⟩ := hr 0 (by simp)
  obtain ⟨g1, g2, g3⟩ := hfit _ (List.mem_singleton.2 rfl)
  have hsz : p.1.size ≤ 10000000 := by
    have : p.1.data.toList.length < f + 1 := g1
    rw [ba_len] at this; omega
  have d0 : w.cell? ⟨b, off, none⟩ = some (.string p.1) := by simpa using c0
  have d1 : w.cell? ⟨b, off + 1, none⟩ = some (.string p.2) := by simpa using c1
  have HL := hid (fun w => newLeaf_any p.1 p.2 (f + 1) w hsz g2)
  clear c0 c1 g1 g2 g3 hfit hr
  go_enter Try.func73, Try.ntmps73
  go_wp2_with fail
  go_region_held3 (fun w' => w'.cell? ⟨b, off, none⟩ = some (.string p.1) ∧ w'.cell? ⟨b, off + 1, none⟩ = some (.string p.2)) (go_keep) ((go_at_call 96; refine (HL.out _).mono ?_; rintro e w3 ⟨a3, c3, rfl, r3, b3⟩; have HR3 := hid r3; have HB3 : Hid (Below w.heap.size w w3) := ⟨b3.os, b3.tape, b3.output, b3.size, b3.block⟩; have z0 := (b3.cell (p := ⟨b, off, none⟩) hb).trans d0; have z1 := (b3.cell (p := ⟨b, off + 1, none⟩) hb).trans d1; clear r3 b3))
  all_goals go_wp2_with fail
  all_goals go_ret
  all_goals exact ⟨_, rfl, .inr (.inl ⟨_, a3, c3, p.1, p.2, rfl, rfl, rfl, rfl, HR3.out⟩), HB3.out⟩

theorem branchV_inj {a a' : Option Addr} {cap cap' : Nat} {cs cs' : Array Value} {x x' : ByteArray} (h : branchV a cap cs x = branchV a' cap' cs' x') : a = a' ∧ cap = cap' ∧ cs = cs' ∧ x = x' := by
  unfold branchV branchCells at h
  simp only [Value.iface.injEq, Value.agg.injEq, true_and] at h
  have h' := congrArg Array.toList h
  simp only [Array.toList_append, List.cons_append, List.nil_append, List.cons.injEq, Value.slice.injEq, true_and] at h'
  obtain ⟨⟨h1, h2⟩, h3⟩ := h'
  have h4 := List.append_inj' h3 rfl
  refine ⟨h1, h2, Array.toList_inj.1 h4.1, ?_⟩
  have := h4.2
  simpa using this

/-- What newExtension asks of the branch below. -/
theorem ext_call {lo : Nat} {w : World} {f : Nat} {a : Option Addr} {cap : Nat} {cs : Array Value} {x : ByteArray} {l : List Tr.Ent} (h : BT lo w f (branchV a cap cs x) l) (hfit : Tr.Fits f l) (hf : f ≤ 50) : cs.size = 32 ∧ Small (Tr.node f l) ∧ ¬ (Itm.enc (Tr.node f l)).length < 8 ∧ Rep w.heap.size w (f + 1 + 1) (.agg #[.bool true, .string ⟨#[]⟩, .slice a 17 cap]) (Tr.node f l) := by
  cases f with
  | zero => obtain ⟨_, h⟩ := h; simp [branchV, emptyV] at h
  | succ f =>
    rcases h with ⟨_, h⟩ | ⟨e, _, _, _, _, _, h, _⟩ | ⟨_, _, _, _, _, _, _, _, _, _, _, _, h, _⟩ | ⟨h1, a', cap', cs', x', h2, h3, h4, h5, h6⟩
    · simp [branchV, emptyV] at h
    · simp [branchV, leafV] at h
    · simp [branchV, extV] at h
    · have e := branchV_inj h2
      obtain ⟨rfl, rfl, rfl, rfl⟩ := e
      exact ⟨h3, node_small _ _ (by omega) hfit, Tr.fork_long f h1, repW_rep _ _ _ h5⟩

set_option maxHeartbeats 3200000 in
/-- Several pairs. -/
theorem build_more (f : Nat) (hf : f ≤ 50) (hQ : BranchOk f) (hQ1 : BranchOk (f + 1)) (w : World) (a : Option Addr) (cap : Nat) (l : List (ByteArray × ByteArray)) (hr : PRd w.heap.size w a l) (hl : l.length ≤ 1000) (h1 : 1 < l.length) (hfit : Tr.Fits (f + 1) (ents l)) (hap : Tr.Apart (ents l)) :
    Calls Try.prog 73 #[.slice a l.length cap] w fun e w' => ∃ v, e = .returned v ∧ BT w.heap.size w' (f + 1) v (ents l) ∧ Below w.heap.size w w' := by
  have hz : ∀ x ∈ l, x.1.size ≤ 1000000 := fun x hx => by
    have := (hfit (toEnt x) (List.mem_map.2 ⟨x, hx, rfl⟩)).1
    have : x.1.data.toList.length < f + 1 := this
    rw [ba_len] at this; omega
  have HSS := hid (sharedStart_any a cap l w hr (by omega) (by omega) hz)
  have HBH := hid (fun p w h => behindP_any p a cap l w h (by omega))
  have HQ := hid hQ
  have HQ1 := hid hQ1
  have HR := hid hr
  have HFIT := hid hfit
  have HAP := hid hap
  have HTW := hid (ents_two h1)
  have i0 : ¬ (l.length : Int) = 0 := by omega
  have i1 : ¬ (l.length : Int) = 1 := by omega
  have HL := hid hl
  clear hz hQ hQ1 hr hfit hap h1 hl
  go_enter Try.func73, Try.ntmps73
  go_wp2_with fail
  refine HSS.out.mono ?_
  rintro e w1 ⟨t, rfl, ht, b1⟩
  have HT := hid ht
  have HB1 := hid b1
  clear ht b1
  by_cases hn : t.data.toList = []
  · have hn' : (t.toList == []) = true := by rw [ByteArray.toList_eq, hn]; rfl
    have HF : Hid (Tr.Forks (ents l)) := by
      obtain ⟨p, q, r, e⟩ := HTW.out
      exact ⟨p, q, r, e, by rw [← HT.out, hn]⟩
    clear hn
    go_wp2_with fail
    refine (HQ1.out _ _ _ _ ((HR.out.later HB1.out).wider HB1.out.size) HL.out HFIT.out HAP.out HF.out).mono ?_
    rintro e w2 ⟨a2, c2, cs, x, rfl, t2, b2⟩
    have HT2 := hid (bt_low t2 HB1.out.size)
    have HB2 : Hid (Below w.heap.size w w2) := HB1.out.trans (b2.mono HB1.out.size)
    clear t2 b2
    obtain ⟨BB, hBB⟩ : ∃ B, B = branchCells a2 c2 cs x := ⟨_, rfl⟩
    have HBB : Hid (BB = branchCells a2 c2 cs x) := hBB
    rw [← hBB]
    clear hBB
    go_wp2_with fail
    go_ret
    exact ⟨branchV a2 c2 cs x, by rw [branchV, ← HBB.out]; rfl, HT2.out, HB2.out⟩
  · have hn' : (t.toList == []) = false := by rw [ByteArray.toList_eq, beq_eq_false_iff_ne]; exact hn
    have HN : Hid (Tr.shared (ents l) ≠ []) := by rw [Hid, ← HT.out]; exact hn
    clear hn
    go_wp2_with fail
    refine (HBH.out _ _ ((HR.out.later HB1.out).wider HB1.out.size)).mono ?_
    rintro e w2 ⟨v2, rfl, o2, b2⟩
    obtain ⟨a2, c2, hv2, p2⟩ := prd_of_pown o2
    subst hv2
    have HP2 := hid p2
    have HB2 : Hid (Below w.heap.size w w2) := HB1.out.trans (b2.mono HB1.out.size)
    have HE2 : Hid (ents (behindB t l) = Tr.behind (Tr.shared (ents l)) (ents l)) := by rw [Hid, behindB_ents, HT.out]
    have HL2 : Hid ((behindB t l).length ≤ 1000) := Nat.le_trans (behindB_le _ _) HL.out
    clear b2 o2 p2
    generalize behindB t l = lk at *
    go_wp2_with fail
    refine (HQ.out _ _ _ _ HP2.out HL2.out (by rw [HE2.out]; exact HFIT.out.behind HN.out) (by rw [HE2.out]; exact HAP.out.behind) (by rw [HE2.out]; obtain ⟨p, q, r, e⟩ := HTW.out; exact Tr.forks_behind e)).mono ?_
    rintro e w3 ⟨a3, c3, cs, x, rfl, t3, b3⟩
    rw [HE2.out] at t3
    have HT3 := hid (bt_low t3 HB2.out.size)
    have HB3 : Hid (Below w.heap.size w w3) := HB2.out.trans (b3.mono HB2.out.size)
    clear t3 b3
    have HX := hid (ext_call HT3.out (HFIT.out.behind HN.out) hf)
    have HNE := hid (newExtension_any (m := f + 1) (a := a3) (cap := c3) (cs := cs) (x := x) t w3 (by
        obtain ⟨p, q, r, e⟩ := HTW.out
        have h1 := (Tr.shared_pre (ents l) p (by rw [e]; simp)).length_le
        have h2 := (HFIT.out p (by rw [e]; simp)).1
        have h3 : t.data.toList.length ≤ p.dig.length := by rw [HT.out]; exact h1
        rw [ba_len] at h3; omega) (fun c hc => by
        obtain ⟨p, q, r, e⟩ := HTW.out
        rw [HT.out] at hc
        exact (HFIT.out p (by rw [e]; simp)).2.1 c ((Tr.shared_pre (ents l) p (by rw [e]; simp)).subset hc)) HX.out.1 HX.out.2.1 HX.out.2.2.1 HX.out.2.2.2)
    obtain ⟨BB, hBB⟩ : ∃ B, B = branchCells a3 c3 cs x := ⟨_, rfl⟩
    have HBB : Hid (BB = branchCells a3 c3 cs x) := hBB
    rw [← hBB] at HNE ⊢
    clear hBB
    go_wp2_with fail
    refine HNE.out.mono ?_
    rintro e w4 ⟨a4, c4, rfl, r4, b4⟩
    have HR4 := hid r4
    have HB4 := hid b4
    clear r4 b4
    generalize hrs : refSum (Tr.node f (Tr.behind (Tr.shared (ents l)) (ents l))) = S at *
    have HRS : Hid (refSum (Tr.node f (Tr.behind (Tr.shared (ents l)) (ents l))) = S) := hrs
    clear hrs
    go_wp2_with fail
    go_ret
    obtain ⟨p, q, r, e⟩ := HTW.out
    have hnode : Tr.node (f + 1) (ents l) = Tr.itL [Tr.itB (Tr.path t.data.toList false), Tr.ref (Tr.node f (Tr.behind (Tr.shared (ents l)) (ents l)))] := by rw [Tr.node_ext f e HN.out, HT.out]
    refine ⟨extV a4 c4 t S (branchV a3 c3 cs x), by rw [extV, branchV, ← HBB.out]; rfl, .inr (.inr (.inl ⟨p, q, r, e, HN.out, a4, c4, t, a3, c3, cs, x, by rw [HRS.out], HT.out, ?_, bt_later HT3.out HB4.out⟩)), HB3.out.trans (HB4.out.mono HB3.out.size)⟩
    rw [hnode]
    exact repW_turn HB3.out.size (Nat.le_refl _) (fun _ _ _ => rfl) _ _ _ HR4.out

theorem build_ok (f : Nat) (hf : f ≤ 50) (hQ : BranchOk f) (hQ1 : BranchOk (f + 1)) : BuildOk (f + 1) := by
  intro w a cap l hr hl hfit hap
  match l, hr, hl, hfit, hap with
  | [], _, _, _, _ => exact build_none (f + 1) w a cap
  | [p], hr, _, hfit, _ => exact build_one f p w a cap hr hfit hf
  | p :: q :: r, hr, hl, hfit, hap => exact build_more f hf hQ hQ1 w a cap _ hr hl (by simp) hfit hap

/-- build and buildBranch, at every depth that a table has. -/
theorem builds_ok : ∀ f, f ≤ 50 → BuildOk f ∧ BranchOk f := by
  intro f
  induction f with
  | zero =>
    intro _
    refine ⟨fun w a cap l _ _ hfit _ => ?_, fun w a cap l _ _ hfit _ hfk => ?_⟩
    · have : l = [] := by
        match l, hfit with
        | [], _ => rfl
        | x :: r, hfit => have := (hfit (toEnt x) (by simp [ents])).1; omega
      subst this
      exact build_none 0 w a cap
    · obtain ⟨x, y, r, e, _⟩ := hfk
      have := (hfit x (by rw [e]; simp)).1
      omega
  | succ f ih =>
    intro hf
    have h := ih (by omega)
    have hb := branch_ok f (by omega) h.1
    exact ⟨build_ok f (by omega) h.2 hb, hb⟩

end Go.Proofs.Ytbmohenjphmlgaa

/- The walk of Root (of the program). -/
namespace Go.Proofs.Ytbmohenjphmlgaa
open Go.RowKit
set_option maxRecDepth 100000

theorem ba_len2 (s : ByteArray) : s.data.toList.length = s.size := ba_len s

theorem tfault_fault (l : List (ByteArray × ByteArray)) (key : ByteArray) : tfault l key = Tr.fault (lists l) key.data.toList := by
  have e1 : (lists l).length = l.length := by simp [lists]
  have e2 : (∃ p ∈ lists l, 6 < p.1.length) ↔ ∃ p ∈ l, 6 < p.1.size := by
    unfold lists
    simp only [List.mem_map]
    constructor
    · rintro ⟨p, ⟨q, hq, rfl⟩, h⟩; exact ⟨q, hq, by rw [← ba_len q.1]; exact h⟩
    · rintro ⟨q, hq, h⟩; exact ⟨_, ⟨q, hq, rfl⟩, by rw [ba_len]; exact h⟩
  have e3 : (∃ p ∈ lists l, 40 < p.2.length) ↔ ∃ p ∈ l, 40 < p.2.size := by
    unfold lists
    simp only [List.mem_map]
    constructor
    · rintro ⟨p, ⟨q, hq, rfl⟩, h⟩; exact ⟨q, hq, by rw [← ba_len q.2]; exact h⟩
    · rintro ⟨q, hq, h⟩; exact ⟨_, ⟨q, hq, rfl⟩, by rw [ba_len]; exact h⟩
  unfold tfault Tr.fault
  simp only [e1, e2, e3, ba_len]

/-- Pairs with which nothing is wrong. -/
theorem fault_none {l : List (ByteArray × ByteArray)} {key : ByteArray} (h : tfault l key = 0) : l.length ≤ 60 ∧ (∀ p ∈ l, p.1.size ≤ 6) ∧ key.size ≤ 6 ∧ (∀ p ∈ l, p.2.size ≤ 40) := by
  unfold tfault at h
  by_cases h1 : 60 < l.length
  · rw [if_pos h1] at h; omega
  · rw [if_neg h1] at h
    by_cases h2 : (∃ p ∈ l, 6 < p.1.size) ∨ 6 < key.size
    · rw [if_pos h2] at h; omega
    · rw [if_neg h2] at h
      by_cases h3 : ∃ p ∈ l, 40 < p.2.size
      · rw [if_pos h3] at h; omega
      · rw [not_or] at h2
        exact ⟨by omega, fun p hp => Classical.byContradiction fun hh => h2.1 ⟨p, hp, by omega⟩, by have := h2.2; omega, fun p hp => Classical.byContradiction fun hh => h3 ⟨p, hp, by omega⟩⟩

theorem lists_ok {l : List (ByteArray × ByteArray)} (h1 : ∀ p ∈ l, p.1.size ≤ 6) (h2 : ∀ p ∈ l, p.2.size ≤ 40) : (∀ p ∈ lists l, p.1.length ≤ 6) ∧ (∀ p ∈ lists l, p.2.length ≤ 40) := by
  unfold lists
  constructor
  · intro p hp
    obtain ⟨q, hq, rfl⟩ := List.mem_map.1 hp
    rw [ba_len]; exact h1 q hq
  · intro p hp
    obtain ⟨q, hq, rfl⟩ := List.mem_map.1 hp
    rw [ba_len]; exact h2 q hq

/-- The tree of a table. -/
theorem tree_any (a : Option Addr) (cap : Nat) (l : List (ByteArray × ByteArray)) (w : World) (hr : PRd w.heap.size w a (tabTo l l.length)) (hl : l.length ≤ 60) (h1 : ∀ p ∈ l, p.1.size ≤ 6) (h2 : ∀ p ∈ l, p.2.size ≤ 40) :
    Calls Try.prog 73 #[.slice a (tabTo l l.length).length cap] w fun e w' => ∃ v, e = .returned v ∧ BT w.heap.size w' 13 v (Tr.table (lists l)) ∧ Below w.heap.size w w' := by
  have hk := lists_ok h1 h2
  have := (builds_ok 13 (by decide)).1 w a cap (tabTo l l.length) hr (Nat.le_trans (tabTo_le l _) (by omega)) (by rw [tabTo_table]; exact Tr.table_fits _ hk.1 hk.2) (by rw [tabTo_table]; exact Tr.table_apart _)
  rw [tabTo_table] at this
  exact this

set_option maxHeartbeats 1600000 in
theorem treeRoot_ok (a : Option Addr) (cap : Nat) (l : List (ByteArray × ByteArray)) (w : World) (hr : PRd w.heap.size w a l) (hf : tfault l ⟨#[]⟩ = 0) :
    Calls Try.prog 53 #[.slice a l.length cap] w fun e w' => e = .returned (.tuple #[.string ⟨(Tr.sum (Itm.enc (Tr.node 13 (Tr.table (lists l))))).toArray⟩, .int .i64 0]) ∧ Below w.heap.size w w' := by
  have hft := tableFault_any ⟨#[]⟩ a cap l w hr
  rw [hf] at hft
  have HFT := hid hft
  obtain ⟨h1, h2, _, h4⟩ := fault_none hf
  have HTO := hid (fun w h => tableOf_any a cap l w h (by omega) (fun p hp => by have := h2 p hp; omega))
  have HTR := hid (fun a cap w h => tree_any a cap l w h h1 h2 h4)
  have hk := lists_ok h2 h4
  have HSM := hid (node_small 13 _ (by decide) (Tr.table_fits _ hk.1 hk.2))
  have HR := hid hr
  clear hft hf h2 h4 hk hr
  go_enter Try.func53, Try.ntmps53
  go_wp2_with fail
  refine HFT.out.mono ?_
  rintro e w1 ⟨rfl, b1⟩
  have HB1 := hid b1
  clear b1
  go_wp2_with fail
  refine (HTO.out _ ((HR.out.later HB1.out).wider HB1.out.size)).mono ?_
  rintro e w2 ⟨v2, rfl, o2, b2⟩
  obtain ⟨a2, c2, hv2, p2⟩ := prd_of_pown o2
  subst hv2
  have HB2 : Hid (Below w.heap.size w w2) := HB1.out.trans (b2.mono HB1.out.size)
  have HP2 := hid p2
  clear o2 b2 p2
  go_wp2_with fail
  refine (HTR.out _ _ _ HP2.out).mono ?_
  rintro e w3 ⟨v3, rfl, t3, b3⟩
  have HB3 : Hid (Below w.heap.size w w3) := HB2.out.trans (b3.mono HB2.out.size)
  obtain ⟨k, l0, s, aa, nn, cc, hnd, hrep⟩ := bt_nd t3
  have HCS := hid (commonSum_any k aa nn cc l0 s _ _ w3 HSM.out (repW_rep _ _ _ hrep))
  obtain ⟨T, A, rfl, _, _, _, hm⟩ := nd_call hnd
  clear t3 b3 hrep hnd
  go_wp2_with fail
  refine HCS.out.mono ?_
  rintro e w4 ⟨rfl, b4⟩
  have HB4 : Hid (Below w.heap.size w w4) := HB3.out.trans (b4.mono HB3.out.size)
  clear b4
  go_wp2_with fail
  go_ret2
  exact ⟨rfl, HB4.out⟩

/-- Root answers as the document says. -/
theorem root_any (a : Option Addr) (cap : Nat) (l : List (ByteArray × ByteArray)) (w : World) (hr : PRd w.heap.size w a l) :
    Calls Try.prog 24 #[.slice a l.length cap] w fun e w' => e = .returned (.tuple #[.string ⟨(Tr.root (lists l)).1.toArray⟩, .int .i64 ((Tr.root (lists l)).2 : Nat)]) ∧ Below w.heap.size w w' := by
  by_cases hf : tfault l ⟨#[]⟩ = 0
  · have e : Tr.root (lists l) = (Tr.sum (Itm.enc (Tr.node 13 (Tr.table (lists l)))), 0) := by
      unfold Tr.root
      rw [if_pos (by rw [← hf, tfault_fault])]
    rw [e]
    have H := hid (treeRoot_ok a cap l w hr hf)
    clear hr hf e
    go_enter Try.func24, Try.ntmps24
    go_wp2_with fail
    refine H.out.mono ?_
    rintro e w1 ⟨rfl, b1⟩
    have HB := hid b1
    clear b1
    go_wp2_with fail
    go_ret2
    exact ⟨rfl, HB.out⟩
  · have e : Tr.root (lists l) = ([], tfault l ⟨#[]⟩) := by
      have e2 : tfault l ⟨#[]⟩ = Tr.fault (lists l) [] := tfault_fault l ⟨#[]⟩
      unfold Tr.root
      rw [← e2, if_neg hf]
    rw [e]
    exact root_fault hf (tableFault_any ⟨#[]⟩ a cap l w hr)

end Go.Proofs.Ytbmohenjphmlgaa

/- The walk of Root (of the document's own answer). -/
namespace Go.Proofs.Ytbmohenjphmlgaa
open Go.RowKit
set_option maxRecDepth 100000

theorem table_len (l : List (ByteArray × ByteArray)) : (Tr.table (lists l)).length ≤ l.length := by
  rw [← tabTo_table]
  unfold ents
  rw [List.length_map]
  exact tabTo_len l l.length

set_option maxHeartbeats 1600000 in
theorem refRoot_any (a : Option Addr) (cap : Nat) (l : List (ByteArray × ByteArray)) (w : World) (hr : PRd w.heap.size w a l) (hl : l.length ≤ 4398046511104) :
    Calls Try.prog 26 #[.slice a l.length cap] w fun e w' => e = .returned (.tuple #[.string ⟨(Tr.root (lists l)).1.toArray⟩, .int .i64 ((Tr.root (lists l)).2 : Nat)]) ∧ Below w.heap.size w w' := by
  have HT := hid (tableR_any a cap l w hr hl)
  have hff : tfault l ⟨#[]⟩ = Tr.fault (lists l) [] := tfault_fault l ⟨#[]⟩
  by_cases hf : tfault l ⟨#[]⟩ = 0
  · have hroot : Tr.root (lists l) = (Tr.sum (Itm.enc (Tr.node 13 (Tr.table (lists l)))), 0) := by
      unfold Tr.root
      rw [if_pos (hff.symm.trans hf)]
    obtain ⟨h1, h2, _, h4⟩ := fault_none hf
    have hk := lists_ok h2 h4
    have hfit := Tr.table_fits _ hk.1 hk.2
    have HN := hid (fun a cap w h => nodeAt_all 13 (by decide) (Tr.table (lists l)) a cap w h hfit (Tr.table_apart _) (Nat.le_trans (table_len l) h1))
    have HWT := hid (node_wt 13 (Tr.table (lists l)) (by decide) hfit)
    have HLEN : Hid ((Itm.enc (Tr.node 13 (Tr.table (lists l)))).length ≤ 1000000000) := Nat.le_trans (Tr.node_len 13 _ (by decide) hfit) (by decide)
    rw [hroot]
    have HF := hid hf
    clear hroot hff hf h1 h2 h4 hk hfit hr
    generalize Tr.node 13 (Tr.table (lists l)) = t at *
    go_enter Try.func26, Try.ntmps26
    go_wp2_with fail
    refine HT.out.mono ?_
    rintro e w1 ⟨b1, _, h1⟩
    obtain ⟨a1, c1, rfl, r1⟩ := h1 HF.out
    have HR1 := hid r1
    have HB1 := hid b1
    clear h1 r1 b1
    go_wp2_with fail
    refine (HN.out _ _ _ HR1.out).mono ?_
    rintro e w2 ⟨v2, rfl, o2, b2⟩
    obtain ⟨a2, c2, rfl⟩ := ow_shape o2
    have HRP := hid (rep_of_own _ _ _ _ _ (Nat.le_refl _) o2)
    have HB2 : Hid (Below w.heap.size w w2) := HB1.out.trans (b2.mono HB1.out.size)
    have HBX : Hid (Below w2.heap.size w2 (w2.alloc (.cells #[.bool t.list, .string ⟨t.bytes.toArray⟩, .slice a2 t.items.length c2] 24))) := (Below.refl _ _).alloc (Nat.le_refl _) _
    clear o2 b2
    go_wp2_with fail
    refine (bytesR_any _ _ t _ (rep_later HBX.out HRP.out) HWT.out).mono ?_
    rintro e w3 ⟨rfl, b3⟩
    have HB3 : Hid (Below w.heap.size w w3) := (HB2.out.trans (HBX.out.mono HB2.out.size)).trans (b3.mono (Nat.le_trans HB2.out.size HBX.out.size))
    clear b3
    go_wp2_with fail
    refine (sumR_any ⟨(Itm.enc t).toArray⟩ _ (by show (Itm.enc t).toArray.size ≤ _; rw [List.size_toArray]; exact HLEN.out)).mono ?_
    rintro e w4 ⟨rfl, b4⟩
    have HB4 : Hid (Below w.heap.size w w4) := HB3.out.trans (b4.mono HB3.out.size)
    clear b4
    go_wp2_with fail
    go_ret2
    exact ⟨rfl, HB4.out⟩
  · have hroot : Tr.root (lists l) = ([], tfault l ⟨#[]⟩) := by
      unfold Tr.root
      rw [if_neg (fun h => hf (hff.trans h)), hff]
    rw [hroot]
    have HF := hid hf
    have i0 : ¬ ((tfault l ⟨#[]⟩ : Nat) : Int) = 0 := by omega
    clear hroot hff hf hr
    go_enter Try.func26, Try.ntmps26
    go_wp2_with fail
    refine HT.out.mono ?_
    rintro e w1 ⟨b1, h1, _⟩
    obtain rfl := h1 HF.out
    have HB1 := hid b1
    clear b1 h1
    go_wp2_with fail
    go_ret2
    exact ⟨rfl, HB1.out⟩
end Go.Proofs.Ytbmohenjphmlgaa
