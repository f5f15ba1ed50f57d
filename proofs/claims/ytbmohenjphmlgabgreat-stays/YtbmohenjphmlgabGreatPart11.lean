/- Part 11 of a proof: what the last text needs. -/
import Derived.Test.YtbmohenjphmlgabGreatPart9
import Derived.Test.YtbmohenjphmlgabGreatPart10
/- The walk of newExtension (of the program). -/
namespace Go.Proofs.YtbmohenjphmlgabGreat
open Go.RowKit
set_option maxRecDepth 100000

theorem exec_load_row {P : Program} {o : Oper} {ρ : Operand → Value} {w : World} (ty : TypeId) (x : Operand) (ho : o.op = .load ty x)
    (g : Nat) (hx : ρ x = .pointer (some ⟨g, 0, none⟩)) (t : TypeId) (cs : Array Value) (fr : Nat × Nat) (d : TypeDesc) (hg : w.heap[g]? = some (.cells cs t fr))
    (hu : P.underlying ty = some d) (hd : (match d with | .struct _ | .array _ _ => true | _ => false) = true) (hi : (P.info? ty).map (·.size) = some cs.size) : Sem.run P (execOp ρ o) w = .ok (.value (.agg cs)) w := by
  unfold execOp
  simp only [ho, hx, Instr.loadAt, Instr.sureAddr, Sem.run_bind, Sem.run_pure, Result.andThen_ok, run_loadVar_row w g t ty cs fr d hg hu hd hi]

/-- What a step of a region leaves: a reference in block g. -/
theorem two_set {W : World} {g : Nat} {x0 x1 a b : Value} {e : TypeId} {fz : Nat × Nat} (h : W.heap[g]? = some (.cells #[x0, x1] e fz)) : ((W.setCell ⟨g, 0, none⟩ a).setCell ⟨g, 1, none⟩ b).heap[g]? = some (.cells #[a, b] e fz) := by
  simp [World.setCell, Array.getElem?_modify, h]

theorem ext_end {w F : World} {r m : Nat} {t : Itm} {b : Bool} {s' : ByteArray} {a : Option Addr} {n cap : Nat} (p : List UInt8) (d y : Value) (hf : t.items = []) (hr : Rep w.heap.size w (m + 1) (.agg #[.bool b, .string s', .slice a n cap]) t) (hb : Below w.heap.size w F)
    (hrow : F.heap[r]? = some (.cells #[.bool false, .string ⟨p.toArray⟩, .slice none 0 0, .bool b, .string s', .slice a n cap] 50 (0, 0))) (hle : w.heap.size ≤ r) {x : Value} :
    ∃ a' cap', Ending.returned (.iface 149 (.agg #[.int .i64 2, .bool true, .string ⟨#[]⟩, .slice (some ⟨r, 0, none⟩) 2 2, d, x, y])) = .returned (.iface 149 (.agg #[.int .i64 2, .bool true, .string ⟨#[]⟩, .slice a' 2 cap', d, x, y])) ∧
      RepW w.heap.size F.heap.size F (m + 2) (.agg #[.bool true, .string ⟨#[]⟩, .slice a' 2 cap']) (Tr.itL [Tr.itB p, t]) ∧ Below w.heap.size w F :=
  ⟨_, _, rfl, repW_flat (rowR_rep (rowR_of_block hrow hle (rep_bytes _ _ _ _) (rep_frame hb _ _ _ hr)) hb.size (by simp [maxLen])) (fun u hu => by
    simp only [Tr.itL, List.mem_cons, List.not_mem_nil, or_false] at hu
    rcases hu with rfl | rfl
    · rfl
    · exact hf) (fun b off e => by cases e; exact hle), hb⟩

theorem far1 {w : World} {g : Nat} {O : Obj} (h : w.heap[g]? = some O) : (¬ g = w.heap.size) ∧ (¬ w.heap.size = g) ∧ g < w.heap.size ∧ (¬ g = w.heap.size + 1) ∧ (¬ w.heap.size + 1 = g) := by
  have := (Array.getElem?_eq_some_iff.1 h).1
  exact ⟨by omega, by omega, this, by omega, by omega⟩

set_option maxHeartbeats 6400000 in
theorem newExtension_any {a : Option Addr} {cap m : Nat} {cs : Array Value} {x : ByteArray} {t : Itm} (d : ByteArray) (w : World) (hsz : d.size ≤ 10000000) (hd : ∀ c ∈ d.data.toList, c.toNat < 16) (hcs : cs.size = 32) (hs : Small t) (h8 : ¬ (Itm.enc t).length < 8) (hr : Rep w.heap.size w (m + 1) (.agg #[.bool true, .string ⟨#[]⟩, .slice a 17 cap]) t) :
    Calls Tryz.prog 65 #[.string d, .agg (branchCells a cap cs x)] w fun e w' => ∃ a' cap', e = .returned (.iface 149 (.agg #[.int .i64 2, .bool true, .string ⟨#[]⟩, .slice a' 2 cap', .string d, .string (refSum t), .iface 112 (.agg (branchCells a cap cs x))])) ∧ RepW w.heap.size w'.heap.size w' (m + 2) (.agg #[.bool true, .string ⟨#[]⟩, .slice a' 2 cap']) (Tr.itL [Tr.itB (Tr.path d.data.toList false), Tr.ref t]) ∧ Below w.heap.size w w' := by
  have HP := hid (fun w => pathOf_any d false w hsz hd)
  have HBI := hid (fun s w => bytesItem_any s w)
  have HLI := hid (fun a n cap w => listItem_any a n cap w)
  have HRI := hid (fun w' => refItem_any w' w (nd_branch a cap cs x) hr)
  have HSM := hid (fun w h => commonSum_any 3 a 17 cap true ⟨#[]⟩ m t w hs h)
  have HR := hid hr
  have HRS := hid (refSum_some h8)
  have HFL : Hid ((Tr.ref t).items = []) := by rw [Hid, Tr.ref_long h8]; rfl
  obtain ⟨k0, k1, k2, k3⟩ := branchCells_at a cap cs x
  have hsize := branchCells_size a cap cs x hcs
  generalize branchCells a cap cs x = BB at *
  clear hr h8 hd
  go_enter Tryz.func65, Tryz.ntmps65
  go_upto_region 1 with fail
  have HG : Hid ((w.alloc (.cells BB 112)).heap[w.heap.size]? = some (.cells BB 112 (0, 0))) := heap_alloc_new w _
  refine wp_region_L (fun w' => w'.heap[w.heap.size]? = some (.cells BB 112 (0, 0))) 7 (by kernel_rfl) ?_
  have hS : (fun w' : World => w'.heap[w.heap.size]? = some (.cells BB 112 (0, 0))) (w.alloc (.cells BB 112)).drew := HG.out
  refine wpAnyL_take (i := 0) (v := .pointer (some ⟨w.heap.size, 0, none⟩)) rfl (by kernel_rfl) (by kernel_rfl) (by kernel_rfl) (by kernel_rfl) (by kernel_rfl) (fun _ _ _ h => h) hS (Or.inl ⟨by kernel_rfl, ?_⟩) ?_
  · (intro w' hSw; go_simp)
  try simp only [Act.put]
  refine wpAnyL_take (i := 1) (v := .agg #[.int .i64 3, .bool true, .string ⟨#[]⟩, .slice a 17 cap]) rfl (by kernel_rfl) (by kernel_rfl) (by kernel_rfl) (by kernel_rfl) (by kernel_rfl) (fun _ _ _ h => h) hS (Or.inl ⟨by kernel_rfl, ?_⟩) ?_
  · intro w' hSw
    have z0 := (cell_of_row w' _ 0 _ _ _ hSw).trans k0
    have z1 := (cell_of_row w' _ 1 _ _ _ hSw).trans k1
    have z2 := (cell_of_row w' _ 2 _ _ _ hSw).trans k2
    have z3 := (cell_of_row w' _ 3 _ _ _ hSw).trans k3
    go_simp
  try simp only [Act.put]
  refine wpAnyL_take (i := 3) (v := .agg BB) rfl (by kernel_rfl) (by kernel_rfl) (by kernel_rfl) (by kernel_rfl) (by kernel_rfl) (fun _ _ _ h => h) hS (Or.inl ⟨by kernel_rfl, ?_⟩) ?_
  · intro w' hSw
    exact exec_load_row 112 (.tmp 3) rfl w.heap.size rfl 112 BB (0, 0) _ hSw Tryz.underlying112 rfl (by rw [hsize]; kernel_rfl)
  try simp only [Act.put]
  refine wpAnyL_take (i := 4) (v := .iface 112 (.agg BB)) rfl (by kernel_rfl) (by kernel_rfl) (by kernel_rfl) (by kernel_rfl) (by kernel_rfl) (fun _ _ _ h => h) hS (Or.inl ⟨by kernel_rfl, ?_⟩) ?_
  · (intro w' hSw; go_simp)
  try simp only [Act.put]
  have HWB : Hid (Below w.heap.size w (w.alloc (.cells BB 112))) := (Below.refl _ _).alloc (Nat.le_refl _) _
  refine wpAnyL_ready (rs := [2, 6]) (by kernel_rfl) (by simp) ?_
  refine AllReadyL.cons rfl (fun K hK => ?_) (AllReadyL.cons rfl (fun K hK => ?_) AllReadyL.nil)
  · go_simp
    refine (HSM.out _ (rep_later HWB.out.drew HR.out)).mono ?_
    rintro e w1 ⟨rfl, b1⟩
    have hS1 : w1.heap[w.heap.size]? = some (.cells BB 112 (0, 0)) := (b1.block _ (by show w.heap.size < (w.alloc (.cells BB 112)).heap.size; rw [alloc_size]; omega)).trans HG.out
    have HB1 : Hid (Below w.heap.size w w1) := HWB.out.drew.trans (b1.mono (by show w.heap.size ≤ (w.alloc (.cells BB 112)).heap.size; rw [alloc_size]; omega))
    clear b1
    refine hK.out _ _ hS1 ?_
    clear hK K
    try simp only [Act.put]
    refine wpAnyL_take (i := 5) (v := .agg #[.string ⟨(Tr.sum (Itm.enc t)).toArray⟩, .iface 112 (.agg BB)]) rfl (by kernel_rfl) (by kernel_rfl) (by kernel_rfl) (by kernel_rfl) (by kernel_rfl) (fun _ _ _ h => h) hS1 (Or.inl ⟨by kernel_rfl, ?_⟩) ?_
    · (intro w' hSw; go_simp)
    try simp only [Act.put]
    refine wpAnyL_ready (rs := [6]) (by kernel_rfl) (by simp) ?_
    refine AllReadyL.cons rfl (fun K hK => ?_) AllReadyL.nil
    go_simp
    refine hK.out _ _ ((Below.heap_alloc _ _ _ (Array.getElem?_eq_some_iff.1 hS1).1).trans hS1) ?_
    clear hK K
    try simp only [Act.put]
    refine wpAnyL_ready (rs := [7]) (by kernel_rfl) (by simp) ?_
    refine AllReadyL.last rfl (fun K hK => ?_)
    go_simp
    refine hK.out _ _ ?_
    clear hK K
    try simp only [Act.put]
    refine wpAny_done (by kernel_rfl) ?_ _
    have HBW' : Hid (Below w.heap.size w (w1.alloc (.cells #[.string ⟨(Tr.sum (Itm.enc t)).toArray⟩, .iface 112 (.agg BB)] 109))) := HB1.out.alloc HB1.out.size _
    have HKW' := hid (heap_alloc_new w1 (.cells #[.string ⟨(Tr.sum (Itm.enc t)).toArray⟩, .iface 112 (.agg BB)] 109))
    rw [← HRS.out] at HKW' HBW' ⊢
    obtain ⟨S, hSS⟩ : ∃ S, S = refSum t := ⟨_, rfl⟩
    have HSS : Hid (S = refSum t) := hSS
    rw [← hSS] at HKW' HBW' HRI ⊢
    clear hSS
    generalize hg : w1.heap.size = g at *
    generalize w1.alloc (.cells #[.string S, .iface 112 (.agg BB)] 109) = W at *
    have HKW := HKW'
    have HBW := HBW'
    clear hg HKW' HBW' hS1 HB1 hS HG HWB HSM HR HRS k0 k1 k2 k3
    have g0 := cell_of_row _ _ 0 _ _ _ HKW.out
    have g1 := cell_of_row _ _ 1 _ _ _ HKW.out
    obtain ⟨p1, p2, p3, p4, p5⟩ := far1 HKW.out
    go_wp2_with fail
    go_region_held3 (fun w' => w'.cell? ⟨g, 0, none⟩ = some (.string S) ∧ w'.cell? ⟨g, 1, none⟩ = some (.iface 112 (.agg BB))) (go_keep)
      ((first
        | (go_at_call 90; refine (HP.out _).mono ?_; rintro e w2 ⟨rfl, b2⟩; (first | (have HK2 : Hid (w2.heap[g]? = some (.cells #[.string S, .iface 112 (.agg BB)] 109 (0, 0))) := kept_block b2 (block_alloc HKW.out); have HV2 : Hid (w2.heap[W.heap.size]? = some (.cells #[.bool false, .string ⟨#[]⟩, .slice none 0 0] 50 (0, 0))) := kept_block b2 (heap_alloc_new W _); have HB2 : Hid (Below w.heap.size w w2) := belowC (belowA HBW.out.drew _) b2; have hgw := HBW.out.size) | (have HK2 : Hid (w2.heap[g]? = some (.cells #[.string S, .iface 112 (.agg BB)] 109 (0, 0))) := kept_block b2 HKW.out; have HB2 : Hid (Below w.heap.size w w2) := belowC HBW.out.drew b2)); obtain ⟨x1, x2, x3, x4, x5⟩ := far1 HK2.out; obtain ⟨m20, m21⟩ := pair_cells HK2.out; clear b2)
        | (go_at_call 88; refine (HBI.out _ _).mono ?_; rintro e w3 ⟨rfl, b3⟩; (first | (have HK3 : Hid (w3.heap[g]? = some (.cells #[.string S, .iface 112 (.agg BB)] 109 (0, 0))) := kept_block b3 (block_alloc HK2.out); have HV3 : Hid (w3.heap[w2.heap.size]? = some (.cells #[.bool false, .string ⟨#[]⟩, .slice none 0 0] 50 (0, 0))) := kept_block b3 (heap_alloc_new w2 _); have HB3 : Hid (Below w.heap.size w w3) := belowC (belowA HB2.out _) b3; have hgw := HB2.out.size) | (have HK3 : Hid (w3.heap[g]? = some (.cells #[.string S, .iface 112 (.agg BB)] 109 (0, 0))) := kept_block b3 HK2.out; have HB3 : Hid (Below w.heap.size w w3) := belowC HB2.out b3; (first | (have HV3 := hid (kept_block b3 HV2.out)) | skip))); obtain ⟨y1, y2, y3, y4, y5⟩ := far1 HK3.out; obtain ⟨m30, m31⟩ := pair_cells HK3.out; clear b3)
        | (go_at_call 93; refine (HRI.out _).mono ?_; rintro e w4 ⟨l', s', a', n', cap', rfl, r4, b4⟩; (first | (have HK4 : Hid (w4.heap[g]? = some (.cells #[.string S, .iface 112 (.agg BB)] 109 (0, 0))) := kept_block b4 (block_alloc HK3.out); have HV4 : Hid (w4.heap[w3.heap.size]? = some (.cells #[.bool false, .string ⟨#[]⟩, .slice none 0 0] 50 (0, 0))) := kept_block b4 (heap_alloc_new w3 _); have HB4 : Hid (Below w.heap.size w w4) := belowC (belowA HB3.out _) b4; have hgw := HB3.out.size) | (have HK4 : Hid (w4.heap[g]? = some (.cells #[.string S, .iface 112 (.agg BB)] 109 (0, 0))) := kept_block b4 HK3.out; have HB4 : Hid (Below w.heap.size w w4) := belowC HB3.out b4; (first | (have HV4 := hid (kept_block b4 HV3.out)) | skip))); obtain ⟨z1, z2, z3, z4, z5⟩ := far1 HK4.out; obtain ⟨m40, m41⟩ := pair_cells HK4.out; have HR4 := hid r4; clear r4; clear b4)
        | (go_at_call 89; refine (HLI.out _ _ _ _).mono ?_; rintro e w5 ⟨rfl, b5⟩; (first | (have HV5 : Hid (w5.heap[w4.heap.size + 1]? = some (.cells #[.bool false, .string ⟨#[]⟩, .slice none 0 0] 50 (0, 0))) := kept_block b5 (block_alloc2 w4 _ _); have HK5 : Hid (w5.heap[g]? = some (.cells #[.string S, .iface 112 (.agg BB)] 109 (0, 0))) := kept_block b5 (block_alloc (block_alloc HK4.out)); have hgw := Nat.le_succ_of_le HB4.out.size; have HB5 := hid b5; have n50 := cell_of_row _ _ 0 _ _ _ HV5.out; have n51 := cell_of_row _ _ 1 _ _ _ HV5.out; have n52 := cell_of_row _ _ 2 _ _ _ HV5.out; have o50 := frozen_of_row _ _ 0 _ _ HV5.out; have o51 := frozen_of_row _ _ 1 _ _ HV5.out; have o52 := frozen_of_row _ _ 2 _ _ HV5.out) | (have HV5 : Hid (w5.heap[w4.heap.size]? = some (.cells #[.bool false, .string ⟨#[]⟩, .slice none 0 0] 50 (0, 0))) := kept_block b5 (block_alloc (heap_alloc_new w4 _)); have HK5 : Hid (w5.heap[g]? = some (.cells #[.string S, .iface 112 (.agg BB)] 109 (0, 0))) := kept_block b5 (block_alloc (block_alloc HK4.out)); have hgw := HB4.out.size; have HB5 := hid b5; have n50 := cell_of_row _ _ 0 _ _ _ HV5.out; have n51 := cell_of_row _ _ 1 _ _ _ HV5.out; have n52 := cell_of_row _ _ 2 _ _ _ HV5.out; have o50 := frozen_of_row _ _ 0 _ _ HV5.out; have o51 := frozen_of_row _ _ 1 _ _ HV5.out; have o52 := frozen_of_row _ _ 2 _ _ HV5.out) | (have HV5 := hid (kept_block b5 (block_alloc HV4.out)); have HK5 : Hid (w5.heap[g]? = some (.cells #[.string S, .iface 112 (.agg BB)] 109 (0, 0))) := kept_block b5 (block_alloc HK4.out); have HB5 := hid b5; have n50 := cell_of_row _ _ 0 _ _ _ HV5.out; have n51 := cell_of_row _ _ 1 _ _ _ HV5.out; have n52 := cell_of_row _ _ 2 _ _ _ HV5.out; have o50 := frozen_of_row _ _ 0 _ _ HV5.out; have o51 := frozen_of_row _ _ 1 _ _ HV5.out; have o52 := frozen_of_row _ _ 2 _ _ HV5.out) | (have HK5 : Hid (w5.heap[g]? = some (.cells #[.string S, .iface 112 (.agg BB)] 109 (0, 0))) := kept_block b5 (block_alloc HK4.out); have HB5 := hid b5)); obtain ⟨q1, q2, q3, q4, q5⟩ := far1 HK5.out; obtain ⟨m50, m51⟩ := pair_cells HK5.out; clear b5)))
    all_goals go_wp2_with fail
    all_goals go_ret
    all_goals rw [← HSS.out]
    all_goals first
      | exact ext_end _ _ _ HFL.out HR4.out (belowA (belowC (belowA HB4.out _) HB5.out) _) (block_alloc (kept_block HB5.out (heap_alloc_new w4 _))) HB4.out.size
      | exact ext_end _ _ _ HFL.out HR4.out (three_below (belowC (belowA (belowA HB4.out _) _) HB5.out) hgw _ _ _) (set3_other (kept_block HB5.out (block_alloc (heap_alloc_new w4 _))) (Nat.ne_of_gt (Nat.lt_succ_self _))) HB4.out.size
      | exact ext_end _ _ _ HFL.out HR4.out (three_below (belowC (belowA (belowA HB4.out _) _) HB5.out) hgw _ _ _) (set3_other (kept_block HB5.out (block_alloc2 w4 _ _)) (Nat.ne_of_lt (Nat.lt_succ_self _))) (Nat.le_succ_of_le HB4.out.size)
      | exact ext_end _ _ _ HFL.out HR4.out (three_below (belowC (belowA HB4.out _) HB5.out) hgw _ _ _) (set3_other (kept_block HB5.out (heap_alloc_new w4 _)) (far_ne HV4.out).2.2.1) HB4.out.size
  · go_simp
    have HG2 : Hid (((w.alloc (.cells BB 112)).alloc (.cells #[.string ⟨#[]⟩, .nilIface] 109)).drew.heap[w.heap.size]? = some (.cells BB 112 (0, 0))) := (Below.heap_alloc _ _ _ (by rw [alloc_size]; omega)).trans HG.out
    have HX2 : Hid (((w.alloc (.cells BB 112)).alloc (.cells #[.string ⟨#[]⟩, .nilIface] 109)).drew.heap[w.heap.size + 1]? = some (.cells #[.string ⟨#[]⟩, .nilIface] 109 (0, 0))) := block_alloc2 w _ _
    have HW2 : Hid (Below w.heap.size w ((w.alloc (.cells BB 112)).alloc (.cells #[.string ⟨#[]⟩, .nilIface] 109)).drew) := (HWB.out.alloc HWB.out.size _).drew
    refine hK.out _ _ HG2.out ?_
    clear hK K
    try simp only [Act.put]
    refine wpAnyL_ready (rs := [2]) (by kernel_rfl) (by simp) ?_
    refine AllReadyL.cons rfl (fun K hK => ?_) AllReadyL.nil
    go_simp
    refine (HSM.out _ (rep_later HW2.out HR.out)).mono ?_
    rintro e w1 ⟨rfl, b1⟩
    have hS1 : w1.heap[w.heap.size]? = some (.cells BB 112 (0, 0)) := kept_block b1 HG2.out
    have HX1 : Hid (w1.heap[w.heap.size + 1]? = some (.cells #[.string ⟨#[]⟩, .nilIface] 109 (0, 0))) := kept_block b1 HX2.out
    have HB1 : Hid (Below w.heap.size w w1) := HW2.out.trans (b1.mono HW2.out.size)
    clear b1
    refine hK.out _ _ hS1 ?_
    clear hK K
    try simp only [Act.put]
    refine wpAnyL_take (i := 5) (v := .agg #[.string ⟨(Tr.sum (Itm.enc t)).toArray⟩, .iface 112 (.agg BB)]) rfl (by kernel_rfl) (by kernel_rfl) (by kernel_rfl) (by kernel_rfl) (by kernel_rfl) (fun _ _ _ h => h) hS1 (Or.inl ⟨by kernel_rfl, ?_⟩) ?_
    · (intro w' hSw; go_simp)
    try simp only [Act.put]
    have x0 := cell_of_row _ _ 0 _ _ _ HX1.out
    have x1 := cell_of_row _ _ 1 _ _ _ HX1.out
    have f0 := frozen_of_row _ _ 0 _ _ HX1.out
    have f1 := frozen_of_row _ _ 1 _ _ HX1.out
    refine wpAnyL_ready (rs := [7]) (by kernel_rfl) (by simp) ?_
    refine AllReadyL.last rfl (fun K hK => ?_)
    go_simp
    refine hK.out _ _ ?_
    clear hK K
    try simp only [Act.put]
    refine wpAny_done (by kernel_rfl) ?_ _
    have HKW' := hid (two_set (a := .string ⟨(Tr.sum (Itm.enc t)).toArray⟩) (b := .iface 112 (.agg BB)) HX1.out)
    have HBW' : Hid (Below w.heap.size w ((w1.setCell ⟨w.heap.size + 1, 0, none⟩ (.string ⟨(Tr.sum (Itm.enc t)).toArray⟩)).setCell ⟨w.heap.size + 1, 1, none⟩ (.iface 112 (.agg BB)))) := (HB1.out.setCell (p := ⟨w.heap.size + 1, 0, none⟩) (Nat.le_succ _) _).setCell (p := ⟨w.heap.size + 1, 1, none⟩) (Nat.le_succ _) _
    rw [← HRS.out] at HKW' HBW' ⊢
    obtain ⟨S, hSS⟩ : ∃ S, S = refSum t := ⟨_, rfl⟩
    have HSS : Hid (S = refSum t) := hSS
    rw [← hSS] at HKW' HBW' HRI ⊢
    clear hSS
    clear x0 x1 f0 f1 hS1 HB1 hS HG HWB HSM HR HRS k0 k1 k2 k3 HG2 HX2 HW2 HX1
    generalize (w1.setCell ⟨w.heap.size + 1, 0, none⟩ (.string S)).setCell ⟨w.heap.size + 1, 1, none⟩ (.iface 112 (.agg BB)) = W at *
    generalize w.heap.size + 1 = g at *
    have HKW := HKW'
    have HBW := HBW'
    clear HKW' HBW'
    have g0 := cell_of_row _ _ 0 _ _ _ HKW.out
    have g1 := cell_of_row _ _ 1 _ _ _ HKW.out
    obtain ⟨p1, p2, p3, p4, p5⟩ := far1 HKW.out
    go_wp2_with fail
    go_region_held3 (fun w' => w'.cell? ⟨g, 0, none⟩ = some (.string S) ∧ w'.cell? ⟨g, 1, none⟩ = some (.iface 112 (.agg BB))) (go_keep)
      ((first
        | (go_at_call 90; refine (HP.out _).mono ?_; rintro e w2 ⟨rfl, b2⟩; (first | (have HK2 : Hid (w2.heap[g]? = some (.cells #[.string S, .iface 112 (.agg BB)] 109 (0, 0))) := kept_block b2 (block_alloc HKW.out); have HV2 : Hid (w2.heap[W.heap.size]? = some (.cells #[.bool false, .string ⟨#[]⟩, .slice none 0 0] 50 (0, 0))) := kept_block b2 (heap_alloc_new W _); have HB2 : Hid (Below w.heap.size w w2) := belowC (belowA HBW.out.drew _) b2; have hgw := HBW.out.size) | (have HK2 : Hid (w2.heap[g]? = some (.cells #[.string S, .iface 112 (.agg BB)] 109 (0, 0))) := kept_block b2 HKW.out; have HB2 : Hid (Below w.heap.size w w2) := belowC HBW.out.drew b2)); obtain ⟨x1, x2, x3, x4, x5⟩ := far1 HK2.out; obtain ⟨m20, m21⟩ := pair_cells HK2.out; clear b2)
        | (go_at_call 88; refine (HBI.out _ _).mono ?_; rintro e w3 ⟨rfl, b3⟩; (first | (have HK3 : Hid (w3.heap[g]? = some (.cells #[.string S, .iface 112 (.agg BB)] 109 (0, 0))) := kept_block b3 (block_alloc HK2.out); have HV3 : Hid (w3.heap[w2.heap.size]? = some (.cells #[.bool false, .string ⟨#[]⟩, .slice none 0 0] 50 (0, 0))) := kept_block b3 (heap_alloc_new w2 _); have HB3 : Hid (Below w.heap.size w w3) := belowC (belowA HB2.out _) b3; have hgw := HB2.out.size) | (have HK3 : Hid (w3.heap[g]? = some (.cells #[.string S, .iface 112 (.agg BB)] 109 (0, 0))) := kept_block b3 HK2.out; have HB3 : Hid (Below w.heap.size w w3) := belowC HB2.out b3; (first | (have HV3 := hid (kept_block b3 HV2.out)) | skip))); obtain ⟨y1, y2, y3, y4, y5⟩ := far1 HK3.out; obtain ⟨m30, m31⟩ := pair_cells HK3.out; clear b3)
        | (go_at_call 93; refine (HRI.out _).mono ?_; rintro e w4 ⟨l', s', a', n', cap', rfl, r4, b4⟩; (first | (have HK4 : Hid (w4.heap[g]? = some (.cells #[.string S, .iface 112 (.agg BB)] 109 (0, 0))) := kept_block b4 (block_alloc HK3.out); have HV4 : Hid (w4.heap[w3.heap.size]? = some (.cells #[.bool false, .string ⟨#[]⟩, .slice none 0 0] 50 (0, 0))) := kept_block b4 (heap_alloc_new w3 _); have HB4 : Hid (Below w.heap.size w w4) := belowC (belowA HB3.out _) b4; have hgw := HB3.out.size) | (have HK4 : Hid (w4.heap[g]? = some (.cells #[.string S, .iface 112 (.agg BB)] 109 (0, 0))) := kept_block b4 HK3.out; have HB4 : Hid (Below w.heap.size w w4) := belowC HB3.out b4; (first | (have HV4 := hid (kept_block b4 HV3.out)) | skip))); obtain ⟨z1, z2, z3, z4, z5⟩ := far1 HK4.out; obtain ⟨m40, m41⟩ := pair_cells HK4.out; have HR4 := hid r4; clear r4; clear b4)
        | (go_at_call 89; refine (HLI.out _ _ _ _).mono ?_; rintro e w5 ⟨rfl, b5⟩; (first | (have HV5 : Hid (w5.heap[w4.heap.size + 1]? = some (.cells #[.bool false, .string ⟨#[]⟩, .slice none 0 0] 50 (0, 0))) := kept_block b5 (block_alloc2 w4 _ _); have HK5 : Hid (w5.heap[g]? = some (.cells #[.string S, .iface 112 (.agg BB)] 109 (0, 0))) := kept_block b5 (block_alloc (block_alloc HK4.out)); have hgw := Nat.le_succ_of_le HB4.out.size; have HB5 := hid b5; have n50 := cell_of_row _ _ 0 _ _ _ HV5.out; have n51 := cell_of_row _ _ 1 _ _ _ HV5.out; have n52 := cell_of_row _ _ 2 _ _ _ HV5.out; have o50 := frozen_of_row _ _ 0 _ _ HV5.out; have o51 := frozen_of_row _ _ 1 _ _ HV5.out; have o52 := frozen_of_row _ _ 2 _ _ HV5.out) | (have HV5 : Hid (w5.heap[w4.heap.size]? = some (.cells #[.bool false, .string ⟨#[]⟩, .slice none 0 0] 50 (0, 0))) := kept_block b5 (block_alloc (heap_alloc_new w4 _)); have HK5 : Hid (w5.heap[g]? = some (.cells #[.string S, .iface 112 (.agg BB)] 109 (0, 0))) := kept_block b5 (block_alloc (block_alloc HK4.out)); have hgw := HB4.out.size; have HB5 := hid b5; have n50 := cell_of_row _ _ 0 _ _ _ HV5.out; have n51 := cell_of_row _ _ 1 _ _ _ HV5.out; have n52 := cell_of_row _ _ 2 _ _ _ HV5.out; have o50 := frozen_of_row _ _ 0 _ _ HV5.out; have o51 := frozen_of_row _ _ 1 _ _ HV5.out; have o52 := frozen_of_row _ _ 2 _ _ HV5.out) | (have HV5 := hid (kept_block b5 (block_alloc HV4.out)); have HK5 : Hid (w5.heap[g]? = some (.cells #[.string S, .iface 112 (.agg BB)] 109 (0, 0))) := kept_block b5 (block_alloc HK4.out); have HB5 := hid b5; have n50 := cell_of_row _ _ 0 _ _ _ HV5.out; have n51 := cell_of_row _ _ 1 _ _ _ HV5.out; have n52 := cell_of_row _ _ 2 _ _ _ HV5.out; have o50 := frozen_of_row _ _ 0 _ _ HV5.out; have o51 := frozen_of_row _ _ 1 _ _ HV5.out; have o52 := frozen_of_row _ _ 2 _ _ HV5.out) | (have HK5 : Hid (w5.heap[g]? = some (.cells #[.string S, .iface 112 (.agg BB)] 109 (0, 0))) := kept_block b5 (block_alloc HK4.out); have HB5 := hid b5)); obtain ⟨q1, q2, q3, q4, q5⟩ := far1 HK5.out; obtain ⟨m50, m51⟩ := pair_cells HK5.out; clear b5)))
    all_goals go_wp2_with fail
    all_goals go_ret
    all_goals rw [← HSS.out]
    all_goals first
      | exact ext_end _ _ _ HFL.out HR4.out (belowA (belowC (belowA HB4.out _) HB5.out) _) (block_alloc (kept_block HB5.out (heap_alloc_new w4 _))) HB4.out.size
      | exact ext_end _ _ _ HFL.out HR4.out (three_below (belowC (belowA (belowA HB4.out _) _) HB5.out) hgw _ _ _) (set3_other (kept_block HB5.out (block_alloc (heap_alloc_new w4 _))) (Nat.ne_of_gt (Nat.lt_succ_self _))) HB4.out.size
      | exact ext_end _ _ _ HFL.out HR4.out (three_below (belowC (belowA (belowA HB4.out _) _) HB5.out) hgw _ _ _) (set3_other (kept_block HB5.out (block_alloc2 w4 _ _)) (Nat.ne_of_lt (Nat.lt_succ_self _))) (Nat.le_succ_of_le HB4.out.size)
      | exact ext_end _ _ _ HFL.out HR4.out (three_below (belowC (belowA HB4.out _) HB5.out) hgw _ _ _) (set3_other (kept_block HB5.out (heap_alloc_new w4 _)) (far_ne HV4.out).2.2.1) HB4.out.size
end Go.Proofs.YtbmohenjphmlgabGreat

/- The walks of readLeaf and readExtension (of the program). -/
namespace Go.Proofs.YtbmohenjphmlgabGreat
open Go.RowKit
set_option maxRecDepth 100000

theorem beqE (s : ByteArray) : s.toList.isEmpty = decide (s.size = 0) := by
  rw [ByteArray.toList_eq, Bool.eq_iff_iff, List.isEmpty_iff, decide_eq_true_eq, ← ba_len]
  exact List.length_eq_zero_iff.symm

set_option maxHeartbeats 1600000 in
theorem readLeaf_any (b off cap : Nat) (l1 : Bool) (s1 : ByteArray) (x1 : Option Addr) (n1 c1 : Nat) (d : ByteArray) (w : World) (hb : b < w.heap.size)
    (h0 : w.cell? ⟨b, off + 3, none⟩ = some (.bool l1)) (h1 : w.cell? ⟨b, off + 4, none⟩ = some (.string s1)) (h2 : w.cell? ⟨b, off + 5, none⟩ = some (.slice x1 n1 c1)) :
    Calls Tryz.prog 117 #[.agg #[.bool true, .string ⟨#[]⟩, .slice (some ⟨b, off, none⟩) 2 cap], .string d] w fun e w' => e = .returned (.tuple #[leafV (some ⟨b, off, none⟩) cap d s1, .bool ((!l1 && decide (s1.size ≤ 40)) && decide (0 < s1.size))]) ∧ Below w.heap.size w w' := by
  have HV := hid (fun w => readValue_any l1 s1 x1 n1 c1 w)
  have HBA : Hid (Below w.heap.size w (w.alloc (.cells #[.bool true, .string ⟨#[]⟩, .slice (some ⟨b, off, none⟩) 2 cap] 50))) := (Below.refl _ _).alloc (Nat.le_refl _) _
  have g0 := (HBA.out.cell (p := ⟨b, off + 3, none⟩) hb).trans h0
  have g1 := (HBA.out.cell (p := ⟨b, off + 4, none⟩) hb).trans h1
  have g2 := (HBA.out.cell (p := ⟨b, off + 5, none⟩) hb).trans h2
  have HE : Hid (decide (0 < s1.size) = !s1.toList.isEmpty) := by
    rw [Hid, beqE]
    by_cases h : s1.size = 0
    · simp [h]
    · simp [h]; omega
  clear h0 h1 h2
  go_enter Tryz.func117, Tryz.ntmps117
  go_wp2_with fail
  refine (HV.out _).mono ?_
  rintro e w1 ⟨rfl, b1⟩
  have HB1 : Hid (Below w.heap.size w w1) := HBA.out.trans (b1.mono HBA.out.size)
  have hb0 := old_block b1
  have q0 := cell_of_row _ _ 0 _ _ _ hb0
  have q1 := cell_of_row _ _ 1 _ _ _ hb0
  have q2 := cell_of_row _ _ 2 _ _ _ hb0
  clear b1 hb0 g0 g1 g2
  obtain ⟨ok, hok⟩ : ∃ ok, ok = (!l1 && decide (s1.size ≤ 40)) := ⟨_, rfl⟩
  have HOK := hid hok
  rw [← hok]
  clear hok
  cases ok with
  | true =>
    go_wp2_with fail
    exact bodyPost_ret (v := .tuple #[leafV (some ⟨b, off, none⟩) cap d s1, .bool (!s1.toList.isEmpty)]) (by simp [results, Tryz.results117, go_sem, leafV]) rfl ⟨by rw [← HOK.out, HE.out]; rfl, HB1.out⟩
  | false =>
    go_wp2_with fail
    exact bodyPost_ret (v := .tuple #[leafV (some ⟨b, off, none⟩) cap d s1, .bool false]) (by simp [results, Tryz.results117, go_sem, leafV]) rfl ⟨by rw [← HOK.out]; rfl, HB1.out⟩

set_option maxHeartbeats 1600000 in
theorem readExtension_any (b off cap : Nat) (l1 : Bool) (s1 : ByteArray) (x1 : Option Addr) (n1 c1 : Nat) (d : ByteArray) (w : World) (hb : b < w.heap.size)
    (h0 : w.cell? ⟨b, off + 3, none⟩ = some (.bool l1)) (h1 : w.cell? ⟨b, off + 4, none⟩ = some (.string s1)) (h2 : w.cell? ⟨b, off + 5, none⟩ = some (.slice x1 n1 c1)) :
    Calls Tryz.prog 118 #[.agg #[.bool true, .string ⟨#[]⟩, .slice (some ⟨b, off, none⟩) 2 cap], .string d] w fun e w' => e = .returned (.tuple #[extV (some ⟨b, off, none⟩) cap d s1 .nilIface, .bool (decide (0 < d.size) && (!l1 && decide (s1.size = 8)))]) ∧ Below w.heap.size w w' := by
  have HV := hid (fun w => isSumP_any l1 s1 x1 n1 c1 w)
  have HBA : Hid (Below w.heap.size w (w.alloc (.cells #[.bool true, .string ⟨#[]⟩, .slice (some ⟨b, off, none⟩) 2 cap] 50))) := (Below.refl _ _).alloc (Nat.le_refl _) _
  have g0 := (HBA.out.cell (p := ⟨b, off + 3, none⟩) hb).trans h0
  have g1 := (HBA.out.cell (p := ⟨b, off + 4, none⟩) hb).trans h1
  have g2 := (HBA.out.cell (p := ⟨b, off + 5, none⟩) hb).trans h2
  have HE : Hid (decide (0 < d.size) = !d.toList.isEmpty) := by
    rw [Hid, beqE]
    by_cases h : d.size = 0
    · simp [h]
    · simp [h]; omega
  clear h0 h1 h2
  cases he : d.toList.isEmpty with
  | true =>
    rw [he] at HE
    go_enter Tryz.func118, Tryz.ntmps118
    go_wp2_with fail
    go_quiet (fail)
    go_wp2_with fail
    exact bodyPost_ret (v := .tuple #[extV (some ⟨b, off, none⟩) cap d s1 .nilIface, .bool false]) (by simp [results, Tryz.results118, go_sem, extV]) rfl ⟨by rw [HE.out]; rfl, below_drewN (belowA (belowA HBA.out _) _) _⟩
  | false =>
    rw [he] at HE
    go_enter Tryz.func118, Tryz.ntmps118
    go_wp2_with fail
    have HB3 : Hid (Below w.heap.size w (((w.alloc (.cells #[.bool true, .string ⟨#[]⟩, .slice (some ⟨b, off, none⟩) 2 cap] 50)).alloc (.cells #[.bool l1, .string s1, .slice x1 n1 c1] 50)).alloc (.cells #[.int .i64 2, .bool true, .string ⟨#[]⟩, .slice (some ⟨b, off, none⟩) 2 cap, .string d, .string s1, .nilIface] 149))) := belowA (belowA HBA.out _) _
    have hS : (fun w' : World => w'.heap[w.heap.size + 1]? = some (.cells #[.bool l1, .string s1, .slice x1 n1 c1] 50 (0, 0)) ∧ w'.heap[w.heap.size + 1 + 1]? = some (.cells #[.int .i64 2, .bool true, .string ⟨#[]⟩, .slice (some ⟨b, off, none⟩) 2 cap, .string d, .string s1, .nilIface] 149 (0, 0))) (((w.alloc (.cells #[.bool true, .string ⟨#[]⟩, .slice (some ⟨b, off, none⟩) 2 cap] 50)).alloc (.cells #[.bool l1, .string s1, .slice x1 n1 c1] 50)).alloc (.cells #[.int .i64 2, .bool true, .string ⟨#[]⟩, .slice (some ⟨b, off, none⟩) 2 cap, .string d, .string s1, .nilIface] 149)).drew := ⟨(Below.heap_alloc _ _ _ (by rw [alloc_size, alloc_size]; omega)).trans (block_alloc2 w _ _), by
      have := heap_alloc_new ((w.alloc (.cells #[.bool true, .string ⟨#[]⟩, .slice (some ⟨b, off, none⟩) 2 cap] 50)).alloc (.cells #[.bool l1, .string s1, .slice x1 n1 c1] 50)) (.cells #[.int .i64 2, .bool true, .string ⟨#[]⟩, .slice (some ⟨b, off, none⟩) 2 cap, .string d, .string s1, .nilIface] 149)
      rw [alloc_size, alloc_size] at this
      exact this⟩
    refine wp_region_L (fun w' => w'.heap[w.heap.size + 1]? = some (.cells #[.bool l1, .string s1, .slice x1 n1 c1] 50 (0, 0)) ∧ w'.heap[w.heap.size + 1 + 1]? = some (.cells #[.int .i64 2, .bool true, .string ⟨#[]⟩, .slice (some ⟨b, off, none⟩) 2 cap, .string d, .string s1, .nilIface] 149 (0, 0))) 9 (by kernel_rfl) ?_
    generalize ((w.alloc (.cells #[.bool true, .string ⟨#[]⟩, .slice (some ⟨b, off, none⟩) 2 cap] 50)).alloc (.cells #[.bool l1, .string s1, .slice x1 n1 c1] 50)).alloc (.cells #[.int .i64 2, .bool true, .string ⟨#[]⟩, .slice (some ⟨b, off, none⟩) 2 cap, .string d, .string s1, .nilIface] 149) = W3 at *
    refine wpAnyL_take (i := 0) (v := .agg #[.int .i64 2, .bool true, .string ⟨#[]⟩, .slice (some ⟨b, off, none⟩) 2 cap, .string d, .string s1, .nilIface]) rfl (by kernel_rfl) (by kernel_rfl) (by kernel_rfl) (by kernel_rfl) (by kernel_rfl) (fun _ _ _ h => h) hS (Or.inl ⟨by kernel_rfl, ?_⟩) ?_
    · intro w' hSw
      exact exec_load_row 149 (.tmp 7) rfl _ rfl _ _ (0, 0) _ hSw.2 Tryz.underlying149 rfl (by kernel_rfl)
    try simp only [Act.put]
    refine wpAnyL_take (i := 1) (v := .iface 149 (.agg #[.int .i64 2, .bool true, .string ⟨#[]⟩, .slice (some ⟨b, off, none⟩) 2 cap, .string d, .string s1, .nilIface])) rfl (by kernel_rfl) (by kernel_rfl) (by kernel_rfl) (by kernel_rfl) (by kernel_rfl) (fun _ _ _ h => h) hS (Or.inl ⟨by kernel_rfl, ?_⟩) ?_
    · (intro w' hSw; go_simp)
    try simp only [Act.put]
    refine wpAnyL_take (i := 2) (v := .string d) rfl (by kernel_rfl) (by kernel_rfl) (by kernel_rfl) (by kernel_rfl) (by kernel_rfl) (fun _ _ _ h => h) hS (Or.inl ⟨by kernel_rfl, ?_⟩) ?_
    · (intro w' hSw; go_simp)
    try simp only [Act.put]
    refine wpAnyL_take (i := 3) (v := .bool true) rfl (by kernel_rfl) (by kernel_rfl) (by kernel_rfl) (by kernel_rfl) (by kernel_rfl) (fun _ _ _ h => h) hS (Or.inl ⟨by kernel_rfl, ?_⟩) ?_
    · (intro w' hSw; go_simp)
    try simp only [Act.put]
    refine wpAnyL_take (i := 4) (v := .bool true) rfl (by kernel_rfl) (by kernel_rfl) (by kernel_rfl) (by kernel_rfl) (by kernel_rfl) (fun _ _ _ h => h) hS (Or.inl ⟨by kernel_rfl, ?_⟩) ?_
    · (intro w' hSw; go_simp)
    try simp only [Act.put]
    refine wpAnyL_take (i := 5) (v := .agg #[.bool l1, .string s1, .slice x1 n1 c1]) rfl (by kernel_rfl) (by kernel_rfl) (by kernel_rfl) (by kernel_rfl) (by kernel_rfl) (fun _ _ _ h => h) hS (Or.inl ⟨by kernel_rfl, ?_⟩) ?_
    · intro w' hSw
      exact exec_load_row 50 (.tmp 6) rfl _ rfl _ _ (0, 0) _ hSw.1 Tryz.underlying50 rfl (by kernel_rfl)
    try simp only [Act.put]
    refine wpAnyL_ready (rs := [6]) (by kernel_rfl) (by simp) ?_
    refine AllReadyL.cons rfl (fun K hK => ?_) AllReadyL.nil
    go_simp
    refine (HV.out _).mono ?_
    rintro e w1 ⟨rfl, b1⟩
    have hS1 : (fun w' : World => w'.heap[w.heap.size + 1]? = some (.cells #[.bool l1, .string s1, .slice x1 n1 c1] 50 (0, 0)) ∧ w'.heap[w.heap.size + 1 + 1]? = some (.cells #[.int .i64 2, .bool true, .string ⟨#[]⟩, .slice (some ⟨b, off, none⟩) 2 cap, .string d, .string s1, .nilIface] 149 (0, 0))) w1 := ⟨kept_block b1 hS.1, kept_block b1 hS.2⟩
    have HB1 : Hid (Below w.heap.size w w1) := HB3.out.drew.trans (b1.mono HB3.out.size)
    clear b1
    refine hK.out _ _ hS1 ?_
    clear hK K
    try simp only [Act.put]
    obtain ⟨ok, hok⟩ : ∃ ok, ok = (!l1 && decide (s1.size = 8)) := ⟨_, rfl⟩
    have HOK := hid hok
    rw [← hok]
    clear hok
    refine wpAnyL_take (i := 7) (v := .bool ok) rfl (by kernel_rfl) (by kernel_rfl) (by kernel_rfl) (by kernel_rfl) (by kernel_rfl) (fun _ _ _ h => h) hS1 (Or.inl ⟨by kernel_rfl, ?_⟩) ?_
    · (intro w' hSw; go_simp)
    try simp only [Act.put]
    refine wpAnyL_ready (rs := [8]) (by kernel_rfl) (by simp) ?_
    refine AllReadyL.cons rfl (fun K hK => ?_) AllReadyL.nil
    go_simp
    refine hK.out _ _ hS1 ?_
    clear hK K
    try simp only [Act.put]
    refine wpAnyL_ready (rs := [9]) (by kernel_rfl) (by simp) ?_
    refine AllReadyL.last rfl (fun K hK => ?_)
    go_simp
    refine hK.out _ _ ?_
    clear hK K
    try simp only [Act.put]
    refine wpAny_done (by kernel_rfl) ?_ _
    go_wp2_with fail
    exact bodyPost_ret (v := .tuple #[extV (some ⟨b, off, none⟩) cap d s1 .nilIface, .bool ok]) (by simp [results, Tryz.results118, go_sem, extV]) rfl ⟨by rw [HE.out, ← HOK.out]; rfl, HB1.out⟩
end Go.Proofs.YtbmohenjphmlgabGreat
