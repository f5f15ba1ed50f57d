/- Part 27 of a proof: what the last text needs. -/
import Derived.Test.YtbmohenjphmlgaaGreatPart26
import Derived.Test.YtbmohenjphmlgaaGreatPart9
import Derived.Deep.CutRange
/- The walk of Verify (of the document's own answer): the loops. -/
namespace Go.Proofs.YtbmohenjphmlgaaGreat
open Go.RowKit
set_option maxRecDepth 100000

/-- What the first test of an element reads. -/
def VfS (X b o : Nat) (nd s : ByteArray) (w : World) : Prop := w.cell? ⟨X, 4, none⟩ = some (.string nd) ∧ w.cell? ⟨b, o, none⟩ = some (.string s)

theorem vfS_later {X b o : Nat} {nd s : ByteArray} {w w' : World} (h : VfS X b o nd s w) (hb : Below w.heap.size w w') : VfS X b o nd s w' :=
  ⟨(hb.cell (p := ⟨X, 4, none⟩) (World.block_lt_of_cell? w _ h.1)).trans h.1, (hb.cell (p := ⟨b, o, none⟩) (World.block_lt_of_cell? w _ h.2)).trans h.2⟩

theorem takeH {P : Program} {ops : Array Oper} {Q : Exit → Act → World → Prop} {S : World → Prop} {md : Region.Mode} {i : Nat} {oi : Oper} {v : Value} {fuel : Nat} {listed : Array Bool} {a : Act} {w : World} (L : Array Bool) (d : Nat) (hi : ops[i]? = some oi)
    (hs : Region.noSelect ops = true) (hf : Region.free md ops listed i = true) (hr : (Region.ready md ops listed).contains i = true)
    (hQ : ∀ c a w, Q (.panic c) (a.put oi.dst v) w → Q (.panic c) a w) (hy : YieldsIf P ops S oi v a) (hS : S w) (hL : listed.setIfInBounds i true = L) (hd : oi.dst = some d)
    (h : wpAnyH P md ops Q S fuel L (a.put (some d) v) w) : wpAnyH P md ops Q S (fuel + 1) listed a w := by
  refine wpAnyH_take hi hs hf hr hQ hy hS ?_
  rw [hL, hd]
  exact h

theorem bytes_list_ne {a b : ByteArray} (h : a.data.toList ≠ b.data.toList) : (a.toList == b.toList) = false := by
  rw [beq_eq_false_iff_ne, ByteArray.toList_eq, ByteArray.toList_eq]
  exact h

section
variable (W : World) (rt key : ByteArray) (a : Option Addr) (cap : Nat) (ss : List ByteArray)

set_option maxHeartbeats 3200000 in
theorem verify_rest (hr : TxtRow W a ss) (hn : ss.length ≤ 8796093022208) (h : rt.size = 8) (h2 : ¬ 6 < key.size) : Calls Tryz.prog 69 #[.string rt, .string key, .slice a ss.length cap] W (VerPost rt key ss W) := by
  have HR := hid hr
  have HN := hid hn
  have H8 := hid h
  have H6 := hid h2
  have h' : ((rt.size : Int) == 8) = true := by simp; omega
  have h2' : ¬ (6 : Int) < (key.size : Int) := by omega
  have HBG := hid (bigTo_all ss)
  have HB0 : Hid (decide ((20 : Int) < (ss.length : Int)) = bigTo ss 0) := by
    rw [Hid]; unfold bigTo; rw [List.take_zero, List.any_nil, Bool.or_false]; exact decide_eq_decide.2 (by omega)
  clear hr hn h h2
  go_enter Tryz.func69, Tryz.ntmps69
  go_wp2_with fail
  go_loopw [9, 10] (fun g i wr => ∃ k : Nat, g = .bool (bigTo ss k) ∧ i = .int .i64 k ∧ k ≤ ss.length ∧ W = wr) (fun _ i _ => ss.length - (intOf i).toNat)
  case atStart => exact ⟨0, congrArg Value.bool HB0.out, rfl, Nat.zero_le _, rfl⟩
  case round =>
    obtain ⟨k, rfl, rfl, hk, rfl⟩ := hrel
    by_cases hlt : k < ss.length
    · obtain ⟨b, off, rfl, hb, hcell⟩ := HR.out k hlt
      have i1 : (0 : Int) ≤ (k : Int) := by omega
      have i2 : (k : Int) < (ss.length : Int) := by omega
      have HSU := hid (bigTo_succ ss k hlt)
      have hbz : ss.length ≤ 8796093022208 := HN.out
      generalize bigTo ss k = bg at *
      cases bg
      · by_cases hz : 1000 < ss[k].size
        · have hz' : (1000 : Int) < (ss[k].size : Int) := by omega
          have HT : Hid (bigTo ss (k + 1) = true) := by rw [Hid, HSU.out]; simp [hz]
          go_wp2_with fail
          exact ⟨⟨k + 1, by rw [HT.out], by go_num, by omega, trivial⟩, by simp [intOf]; omega⟩
        · have hz' : ¬ (1000 : Int) < (ss[k].size : Int) := by omega
          have HT : Hid (bigTo ss (k + 1) = false) := by rw [Hid, HSU.out]; simp [hz]
          go_wp2_with fail
          exact ⟨⟨k + 1, by rw [HT.out], by go_num, by omega, trivial⟩, by simp [intOf]; omega⟩
      · have HT : Hid (bigTo ss (k + 1) = true) := by rw [Hid, HSU.out]; simp
        go_wp2_with fail
        exact ⟨⟨k + 1, by rw [HT.out], by go_num, by omega, trivial⟩, by simp [intOf]; omega⟩
    · have i2 : ¬ (k : Int) < (ss.length : Int) := by omega
      have hke : k = ss.length := by omega
      cases hbig : bigTo ss k
      · have hnb : ¬ (20 < (ss.map fun s => s.data.toList).length ∨ ∃ s ∈ (ss.map fun s => s.data.toList), 1000 < s.length) := fun h => by
          have := HBG.out.2 h
          rw [← hke, hbig] at this
          cases this
        have HSZ : Hid (∀ i (h : i < ss.length), ss[i].size ≤ 1000) := by
          intro i hi
          by_cases hz : 1000 < ss[i].size
          · exact absurd (.inr ⟨_, List.mem_map.2 ⟨ss[i], List.getElem_mem hi, rfl⟩, by rw [ba_len]; exact hz⟩) hnb
          · omega
        have HV0 : Hid (Tr.verify rt.data.toList key.data.toList (ss.map fun s => s.data.toList) = Tr.verEnd (Tr.vloop 0 ⟨Tr.digits key.data.toList, false, [], false, rt.data.toList⟩ (ss.map fun s => s.data.toList))) := by
          rw [Hid]; unfold Tr.verify
          rw [if_neg (by rw [ba_len]; have := H8.out; omega), if_neg (by rw [ba_len]; exact H6.out), if_neg hnb]
        have HDG := hid (fun w => digits_any key w (by have := H6.out; omega))
        have HLT := hid (Tr.digits_lt key.data.toList)
        have hdl : (Tr.digits key.data.toList).length ≤ 1000000 := by rw [Tr.digits_len, ba_len]; have := H6.out; omega
        have hrt : (⟨rt.data.toList.toArray⟩ : ByteArray) = rt := by cases rt; simp
        have HRT := hid hrt
        clear hbig hnb hrt
        --LOOP2
        go_wp2_with fail
        refine (HDG.out _).mono ?_
        rintro e w1 ⟨ad, cd, rfl, hown, b1⟩
        have HST0 : Hid (VerSt W w1.heap.size (ss.map fun s => s.data.toList) (⟨Tr.digits key.data.toList, false, [], false, rt.data.toList⟩ : Tr.Way) 0 (w1.alloc (.cells #[.slice ad (Tr.digits key.data.toList).length cd, .bool false, .string ⟨#[]⟩, .bool false, .string rt] 117)) (⟨Tr.digits key.data.toList, false, [], false, rt.data.toList⟩ : Tr.Way) ad cd) := by
          refine ⟨?_, (brdC_of_bown hown).frame ((Below.refl _ _).alloc (Nat.le_refl _) _), rfl, HLT.out, hdl, b1.alloc b1.size _, b1.size⟩
          rw [heap_alloc_new]
        clear hown b1 HDG HLT
        go_wp2_with fail
        go_loopw [12] (fun i wx => ∃ (k2 : Nat) (y : Tr.Way) (a5 : Option Addr) (c5 : Nat), i = .int .i64 k2 ∧ k2 ≤ ss.length ∧ Hid (VerSt W w1.heap.size (ss.map fun s => s.data.toList) (⟨Tr.digits key.data.toList, false, [], false, rt.data.toList⟩ : Tr.Way) k2 wx y a5 c5)) (fun i _ => ss.length - (intOf i).toNat)
        case atStart => exact ⟨0, _, ad, cd, rfl, Nat.zero_le _, HST0.out⟩
        case round =>
          obtain ⟨k2, y, a5, c5, rfl, hk2, HST⟩ := hrel
          obtain ⟨X, hX⟩ : ∃ X, X = w1.heap.size := ⟨_, rfl⟩
          rw [← hX] at HST ⊢
          by_cases hlt2 : k2 < ss.length
          · obtain ⟨b, off, rfl, hb, hcell⟩ := HR.out k2 hlt2
            have HINV : Hid (Tr.vloop 0 (⟨Tr.digits key.data.toList, false, [], false, rt.data.toList⟩ : Tr.Way) (ss.map fun s => s.data.toList) = Tr.vloop k2 y (ss[k2].data.toList :: (ss.map fun s => s.data.toList).drop (k2 + 1))) := by rw [Hid, HST.out.inv, drop_map ss k2 hlt2]
            have hc := (HST.out.old.cell (p := ⟨b, off + k2, none⟩) hb).trans hcell
            have hsz := HSZ.out k2 hlt2
            have HSUM := hid (fun w => sumR_any ss[k2] w (by omega))
            have HEL := hid (fun w => element_any ss[k2] w hsz)
            have j1 : (0 : Int) ≤ (k2 : Int) := by omega
            have j2 : (k2 : Int) < (ss.length : Int) := by omega
            generalize ss[k2] = s at *
            obtain ⟨yd, ybr, yv, yf, yn⟩ := y
            obtain ⟨E, hE⟩ : ∃ E : ByteArray, E = ⟨(Tr.sum s.data.toList).toArray⟩ := ⟨_, rfl⟩
            have HE := hid hE
            obtain ⟨nd, hnd⟩ : ∃ nd : ByteArray, nd = ⟨yn.toArray⟩ := ⟨_, rfl⟩
            have hS : VfS X b (off + k2) nd s wr := ⟨by rw [hnd]; exact (way_facts HST.out.row).2.2.2.2.1, hc⟩
            have hEd : E.data.toList = Tr.sum s.data.toList := by rw [hE]
            have hNd : nd.data.toList = yn := by rw [hnd]
            have hbz : ss.length ≤ 8796093022208 := HN.out
            clear hcell hc hE hb hX HBG HB0 HSZ HST0 hsz
            by_cases hyn : yn = []
            · have he1 : nd.toList.isEmpty = true := by
                rw [ByteArray.toList_eq, hNd, hyn]
                rfl
              have HV6 : Hid (Tr.verify rt.data.toList key.data.toList (ss.map fun s => s.data.toList) = ([], false, 6)) := by rw [Hid, HV0.out, HINV.out, Tr.vloop_stop (Tr.vstep_a hyn)]; rfl
              clear HINV hyn hnd hEd hNd
              go_upto_region 16 with fail
              refine wp_region_held_drew (S := VfS X b (off + k2) nd s) (by kernel_rfl) hS (fun hHeld => ?_)
              refine takeH (i := 0) (v := .pointer (some ⟨X, 4, none⟩)) #[true, false, false, false, false, false, false, false, false, false, false, false, false, false, false, false, false, false, false, false, false, false, false, false, false] 50 rfl (by kernel_rfl) (by kernel_rfl) (by kernel_rfl) (fun _ _ _ h => h) (Or.inl ⟨by kernel_rfl, ?_⟩) hHeld (by kernel_rfl) rfl ?_
              · (intro w' hSw; go_simp)
              try simp only [Act.put, List.setIfInBounds_toArray, List.set_cons_zero, List.set_cons_succ]
              refine takeH (i := 1) (v := .string nd) #[true, true, false, false, false, false, false, false, false, false, false, false, false, false, false, false, false, false, false, false, false, false, false, false, false] 51 rfl (by kernel_rfl) (by kernel_rfl) (by kernel_rfl) (fun _ _ _ h => h) (Or.inl ⟨by kernel_rfl, ?_⟩) hHeld (by kernel_rfl) rfl ?_
              · (intro w' hSw; have q0 := hSw.1; go_simp)
              try simp only [Act.put, List.setIfInBounds_toArray, List.set_cons_zero, List.set_cons_succ]
              refine takeH (i := 2) (v := .bool true) #[true, true, true, false, false, false, false, false, false, false, false, false, false, false, false, false, false, false, false, false, false, false, false, false, false] 52 rfl (by kernel_rfl) (by kernel_rfl) (by kernel_rfl) (fun _ _ _ h => h) (Or.inl ⟨by kernel_rfl, ?_⟩) hHeld (by kernel_rfl) rfl ?_
              · (intro w' hSw; go_simp)
              try simp only [Act.put, List.setIfInBounds_toArray, List.set_cons_zero, List.set_cons_succ]
              refine takeH (i := 3) (v := .bool true) #[true, true, true, true, false, false, false, false, false, false, false, false, false, false, false, false, false, false, false, false, false, false, false, false, false] 53 rfl (by kernel_rfl) (by kernel_rfl) (by kernel_rfl) (fun _ _ _ h => h) (Or.inl ⟨by kernel_rfl, ?_⟩) hHeld (by kernel_rfl) rfl ?_
              · (intro w' hSw; go_simp)
              try simp only [Act.put, List.setIfInBounds_toArray, List.set_cons_zero, List.set_cons_succ]
              refine takeH (i := 4) (v := undef) #[true, true, true, true, true, false, false, false, false, false, false, false, false, false, false, false, false, false, false, false, false, false, false, false, false] 54 rfl (by kernel_rfl) (by kernel_rfl) (by kernel_rfl) (fun _ _ _ h => h) (Or.inr ⟨by kernel_rfl, rfl⟩) hHeld (by kernel_rfl) rfl ?_
              try simp only [Act.put, List.setIfInBounds_toArray, List.set_cons_zero, List.set_cons_succ]
              refine takeH (i := 5) (v := undef) #[true, true, true, true, true, true, false, false, false, false, false, false, false, false, false, false, false, false, false, false, false, false, false, false, false] 55 rfl (by kernel_rfl) (by kernel_rfl) (by kernel_rfl) (fun _ _ _ h => h) (Or.inr ⟨by kernel_rfl, rfl⟩) hHeld (by kernel_rfl) rfl ?_
              try simp only [Act.put, List.setIfInBounds_toArray, List.set_cons_zero, List.set_cons_succ]
              refine takeH (i := 6) (v := undef) #[true, true, true, true, true, true, true, false, false, false, false, false, false, false, false, false, false, false, false, false, false, false, false, false, false] 56 rfl (by kernel_rfl) (by kernel_rfl) (by kernel_rfl) (fun _ _ _ h => h) (Or.inr ⟨by kernel_rfl, rfl⟩) hHeld (by kernel_rfl) rfl ?_
              try simp only [Act.put, List.setIfInBounds_toArray, List.set_cons_zero, List.set_cons_succ]
              refine takeH (i := 7) (v := undef) #[true, true, true, true, true, true, true, true, false, false, false, false, false, false, false, false, false, false, false, false, false, false, false, false, false] 57 rfl (by kernel_rfl) (by kernel_rfl) (by kernel_rfl) (fun _ _ _ h => h) (Or.inr ⟨by kernel_rfl, rfl⟩) hHeld (by kernel_rfl) rfl ?_
              try simp only [Act.put, List.setIfInBounds_toArray, List.set_cons_zero, List.set_cons_succ]
              refine takeH (i := 8) (v := undef) #[true, true, true, true, true, true, true, true, true, false, false, false, false, false, false, false, false, false, false, false, false, false, false, false, false] 58 rfl (by kernel_rfl) (by kernel_rfl) (by kernel_rfl) (fun _ _ _ h => h) (Or.inr ⟨by kernel_rfl, rfl⟩) hHeld (by kernel_rfl) rfl ?_
              try simp only [Act.put, List.setIfInBounds_toArray, List.set_cons_zero, List.set_cons_succ]
              refine takeH (i := 9) (v := undef) #[true, true, true, true, true, true, true, true, true, true, false, false, false, false, false, false, false, false, false, false, false, false, false, false, false] 59 rfl (by kernel_rfl) (by kernel_rfl) (by kernel_rfl) (fun _ _ _ h => h) (Or.inr ⟨by kernel_rfl, rfl⟩) hHeld (by kernel_rfl) rfl ?_
              try simp only [Act.put, List.setIfInBounds_toArray, List.set_cons_zero, List.set_cons_succ]
              refine takeH (i := 10) (v := undef) #[true, true, true, true, true, true, true, true, true, true, true, false, false, false, false, false, false, false, false, false, false, false, false, false, false] 60 rfl (by kernel_rfl) (by kernel_rfl) (by kernel_rfl) (fun _ _ _ h => h) (Or.inr ⟨by kernel_rfl, rfl⟩) hHeld (by kernel_rfl) rfl ?_
              try simp only [Act.put, List.setIfInBounds_toArray, List.set_cons_zero, List.set_cons_succ]
              refine takeH (i := 11) (v := undef) #[true, true, true, true, true, true, true, true, true, true, true, true, false, false, false, false, false, false, false, false, false, false, false, false, false] 61 rfl (by kernel_rfl) (by kernel_rfl) (by kernel_rfl) (fun _ _ _ h => h) (Or.inr ⟨by kernel_rfl, rfl⟩) hHeld (by kernel_rfl) rfl ?_
              try simp only [Act.put, List.setIfInBounds_toArray, List.set_cons_zero, List.set_cons_succ]
              refine takeH (i := 12) (v := .bool true) #[true, true, true, true, true, true, true, true, true, true, true, true, true, false, false, false, false, false, false, false, false, false, false, false, false] 62 rfl (by kernel_rfl) (by kernel_rfl) (by kernel_rfl) (fun _ _ _ h => h) (Or.inl ⟨by kernel_rfl, ?_⟩) hHeld (by kernel_rfl) rfl ?_
              · (intro w' hSw; go_simp)
              try simp only [Act.put, List.setIfInBounds_toArray, List.set_cons_zero, List.set_cons_succ]
              refine takeH (i := 13) (v := .bool true) #[true, true, true, true, true, true, true, true, true, true, true, true, true, true, false, false, false, false, false, false, false, false, false, false, false] 63 rfl (by kernel_rfl) (by kernel_rfl) (by kernel_rfl) (fun _ _ _ h => h) (Or.inl ⟨by kernel_rfl, ?_⟩) hHeld (by kernel_rfl) rfl ?_
              · (intro w' hSw; go_simp)
              try simp only [Act.put, List.setIfInBounds_toArray, List.set_cons_zero, List.set_cons_succ]
              refine takeH (i := 14) (v := undef) #[true, true, true, true, true, true, true, true, true, true, true, true, true, true, true, false, false, false, false, false, false, false, false, false, false] 64 rfl (by kernel_rfl) (by kernel_rfl) (by kernel_rfl) (fun _ _ _ h => h) (Or.inr ⟨by kernel_rfl, rfl⟩) hHeld (by kernel_rfl) rfl ?_
              try simp only [Act.put, List.setIfInBounds_toArray, List.set_cons_zero, List.set_cons_succ]
              refine takeH (i := 15) (v := undef) #[true, true, true, true, true, true, true, true, true, true, true, true, true, true, true, true, false, false, false, false, false, false, false, false, false] 65 rfl (by kernel_rfl) (by kernel_rfl) (by kernel_rfl) (fun _ _ _ h => h) (Or.inr ⟨by kernel_rfl, rfl⟩) hHeld (by kernel_rfl) rfl ?_
              try simp only [Act.put, List.setIfInBounds_toArray, List.set_cons_zero, List.set_cons_succ]
              refine takeH (i := 16) (v := undef) #[true, true, true, true, true, true, true, true, true, true, true, true, true, true, true, true, true, false, false, false, false, false, false, false, false] 66 rfl (by kernel_rfl) (by kernel_rfl) (by kernel_rfl) (fun _ _ _ h => h) (Or.inr ⟨by kernel_rfl, rfl⟩) hHeld (by kernel_rfl) rfl ?_
              try simp only [Act.put, List.setIfInBounds_toArray, List.set_cons_zero, List.set_cons_succ]
              refine takeH (i := 17) (v := undef) #[true, true, true, true, true, true, true, true, true, true, true, true, true, true, true, true, true, true, false, false, false, false, false, false, false] 67 rfl (by kernel_rfl) (by kernel_rfl) (by kernel_rfl) (fun _ _ _ h => h) (Or.inr ⟨by kernel_rfl, rfl⟩) hHeld (by kernel_rfl) rfl ?_
              try simp only [Act.put, List.setIfInBounds_toArray, List.set_cons_zero, List.set_cons_succ]
              refine takeH (i := 18) (v := undef) #[true, true, true, true, true, true, true, true, true, true, true, true, true, true, true, true, true, true, true, false, false, false, false, false, false] 68 rfl (by kernel_rfl) (by kernel_rfl) (by kernel_rfl) (fun _ _ _ h => h) (Or.inr ⟨by kernel_rfl, rfl⟩) hHeld (by kernel_rfl) rfl ?_
              try simp only [Act.put, List.setIfInBounds_toArray, List.set_cons_zero, List.set_cons_succ]
              refine takeH (i := 19) (v := undef) #[true, true, true, true, true, true, true, true, true, true, true, true, true, true, true, true, true, true, true, true, false, false, false, false, false] 69 rfl (by kernel_rfl) (by kernel_rfl) (by kernel_rfl) (fun _ _ _ h => h) (Or.inr ⟨by kernel_rfl, rfl⟩) hHeld (by kernel_rfl) rfl ?_
              try simp only [Act.put, List.setIfInBounds_toArray, List.set_cons_zero, List.set_cons_succ]
              refine takeH (i := 20) (v := undef) #[true, true, true, true, true, true, true, true, true, true, true, true, true, true, true, true, true, true, true, true, true, false, false, false, false] 70 rfl (by kernel_rfl) (by kernel_rfl) (by kernel_rfl) (fun _ _ _ h => h) (Or.inr ⟨by kernel_rfl, rfl⟩) hHeld (by kernel_rfl) rfl ?_
              try simp only [Act.put, List.setIfInBounds_toArray, List.set_cons_zero, List.set_cons_succ]
              refine takeH (i := 21) (v := undef) #[true, true, true, true, true, true, true, true, true, true, true, true, true, true, true, true, true, true, true, true, true, true, false, false, false] 71 rfl (by kernel_rfl) (by kernel_rfl) (by kernel_rfl) (fun _ _ _ h => h) (Or.inr ⟨by kernel_rfl, rfl⟩) hHeld (by kernel_rfl) rfl ?_
              try simp only [Act.put, List.setIfInBounds_toArray, List.set_cons_zero, List.set_cons_succ]
              refine takeH (i := 22) (v := undef) #[true, true, true, true, true, true, true, true, true, true, true, true, true, true, true, true, true, true, true, true, true, true, true, false, false] 72 rfl (by kernel_rfl) (by kernel_rfl) (by kernel_rfl) (fun _ _ _ h => h) (Or.inr ⟨by kernel_rfl, rfl⟩) hHeld (by kernel_rfl) rfl ?_
              try simp only [Act.put, List.setIfInBounds_toArray, List.set_cons_zero, List.set_cons_succ]
              refine takeH (i := 23) (v := undef) #[true, true, true, true, true, true, true, true, true, true, true, true, true, true, true, true, true, true, true, true, true, true, true, true, false] 73 rfl (by kernel_rfl) (by kernel_rfl) (by kernel_rfl) (fun _ _ _ h => h) (Or.inr ⟨by kernel_rfl, rfl⟩) hHeld (by kernel_rfl) rfl ?_
              try simp only [Act.put, List.setIfInBounds_toArray, List.set_cons_zero, List.set_cons_succ]
              refine takeH (i := 24) (v := .bool true) #[true, true, true, true, true, true, true, true, true, true, true, true, true, true, true, true, true, true, true, true, true, true, true, true, true] 74 rfl (by kernel_rfl) (by kernel_rfl) (by kernel_rfl) (fun _ _ _ h => h) (Or.inl ⟨by kernel_rfl, ?_⟩) hHeld (by kernel_rfl) rfl ?_
              · (intro w' hSw; go_simp)
              try simp only [Act.put, List.setIfInBounds_toArray, List.set_cons_zero, List.set_cons_succ]
              have HBF : Hid (Below W.heap.size W wr.drew) := HST.out.old.drew
              refine wpAnyH_done (by kernel_rfl) ?_ _
              clear HST hS
              go_wp2_with fail
              refine bodyPost_ret (v := .tuple #[.string ⟨#[]⟩, .bool false, .int .i64 6]) (by simp [results, Tryz.results69, go_sem]) rfl ?_
              exact verPost_of (v := []) (n := 6) HV6.out (HBF.out)
            · have he1 : nd.toList.isEmpty = false := by
                rw [ByteArray.toList_eq, hNd]
                cases yn with
                | nil => exact absurd rfl hyn
                | cons c r => rfl
              by_cases hsm : Tr.sum s.data.toList = yn
              · have heq : E = nd := by
                  cases E; cases nd
                  simp only [ByteArray.mk.injEq]
                  exact Array.toList_inj.1 (hEd.trans (hsm.trans hNd.symm))
                have he2 : (E.toList == nd.toList) = true := by rw [heq]; exact beq_self_eq_true _
                clear heq hEd hNd hnd
                by_cases hk0 : 0 < k2
                · have hk0' : (0 : Int) < (k2 : Int) := by omega
                  by_cases hs8 : s.size < 8
                  · have hs8' : (s.size : Int) < 8 := by omega
                    have HV6 : Hid (Tr.verify rt.data.toList key.data.toList (ss.map fun s => s.data.toList) = ([], false, 6)) := by rw [Hid, HV0.out, HINV.out, Tr.vloop_stop (Tr.vstep_c hk0 (by rw [ba_len]; exact hs8))]; rfl
                    clear HINV hyn hsm
                    go_upto_region 16 with fail
                    refine wp_region_held_drew (S := VfS X b (off + k2) nd s) (by kernel_rfl) hS (fun hHeld => ?_)
                    refine takeH (i := 0) (v := .pointer (some ⟨X, 4, none⟩)) #[true, false, false, false, false, false, false, false, false, false, false, false, false, false, false, false, false, false, false, false, false, false, false, false, false] 50 rfl (by kernel_rfl) (by kernel_rfl) (by kernel_rfl) (fun _ _ _ h => h) (Or.inl ⟨by kernel_rfl, ?_⟩) hHeld (by kernel_rfl) rfl ?_
                    · (intro w' hSw; go_simp)
                    try simp only [Act.put, List.setIfInBounds_toArray, List.set_cons_zero, List.set_cons_succ]
                    refine takeH (i := 1) (v := .string nd) #[true, true, false, false, false, false, false, false, false, false, false, false, false, false, false, false, false, false, false, false, false, false, false, false, false] 51 rfl (by kernel_rfl) (by kernel_rfl) (by kernel_rfl) (fun _ _ _ h => h) (Or.inl ⟨by kernel_rfl, ?_⟩) hHeld (by kernel_rfl) rfl ?_
                    · (intro w' hSw; have q0 := hSw.1; go_simp)
                    try simp only [Act.put, List.setIfInBounds_toArray, List.set_cons_zero, List.set_cons_succ]
                    refine takeH (i := 2) (v := .bool false) #[true, true, true, false, false, false, false, false, false, false, false, false, false, false, false, false, false, false, false, false, false, false, false, false, false] 52 rfl (by kernel_rfl) (by kernel_rfl) (by kernel_rfl) (fun _ _ _ h => h) (Or.inl ⟨by kernel_rfl, ?_⟩) hHeld (by kernel_rfl) rfl ?_
                    · (intro w' hSw; go_simp)
                    try simp only [Act.put, List.setIfInBounds_toArray, List.set_cons_zero, List.set_cons_succ]
                    refine takeH (i := 3) (v := .bool false) #[true, true, true, true, false, false, false, false, false, false, false, false, false, false, false, false, false, false, false, false, false, false, false, false, false] 53 rfl (by kernel_rfl) (by kernel_rfl) (by kernel_rfl) (fun _ _ _ h => h) (Or.inl ⟨by kernel_rfl, ?_⟩) hHeld (by kernel_rfl) rfl ?_
                    · (intro w' hSw; go_simp)
                    try simp only [Act.put, List.setIfInBounds_toArray, List.set_cons_zero, List.set_cons_succ]
                    refine takeH (i := 4) (v := .slice (some ⟨b, off, none⟩) ss.length cap) #[true, true, true, true, true, false, false, false, false, false, false, false, false, false, false, false, false, false, false, false, false, false, false, false, false] 54 rfl (by kernel_rfl) (by kernel_rfl) (by kernel_rfl) (fun _ _ _ h => h) (Or.inl ⟨by kernel_rfl, ?_⟩) hHeld (by kernel_rfl) rfl ?_
                    · (intro w' hSw; go_simp)
                    try simp only [Act.put, List.setIfInBounds_toArray, List.set_cons_zero, List.set_cons_succ]
                    refine takeH (i := 5) (v := .int .i64 k2) #[true, true, true, true, true, true, false, false, false, false, false, false, false, false, false, false, false, false, false, false, false, false, false, false, false] 55 rfl (by kernel_rfl) (by kernel_rfl) (by kernel_rfl) (fun _ _ _ h => h) (Or.inl ⟨by kernel_rfl, ?_⟩) hHeld (by kernel_rfl) rfl ?_
                    · (intro w' hSw; go_simp)
                    try simp only [Act.put, List.setIfInBounds_toArray, List.set_cons_zero, List.set_cons_succ]
                    refine takeH (i := 6) (v := .pointer (some ⟨b, off + k2, none⟩)) #[true, true, true, true, true, true, true, false, false, false, false, false, false, false, false, false, false, false, false, false, false, false, false, false, false] 56 rfl (by kernel_rfl) (by kernel_rfl) (by kernel_rfl) (fun _ _ _ h => h) (Or.inl ⟨by kernel_rfl, ?_⟩) hHeld (by kernel_rfl) rfl ?_
                    · (intro w' hSw; go_simp)
                    try simp only [Act.put, List.setIfInBounds_toArray, List.set_cons_zero, List.set_cons_succ]
                    refine takeH (i := 7) (v := .string s) #[true, true, true, true, true, true, true, true, false, false, false, false, false, false, false, false, false, false, false, false, false, false, false, false, false] 57 rfl (by kernel_rfl) (by kernel_rfl) (by kernel_rfl) (fun _ _ _ h => h) (Or.inl ⟨by kernel_rfl, ?_⟩) hHeld (by kernel_rfl) rfl ?_
                    · (intro w' hSw; have q0 := hSw.2; go_simp)
                    try simp only [Act.put, List.setIfInBounds_toArray, List.set_cons_zero, List.set_cons_succ]
                    refine takeH (i := 9) (v := .pointer (some ⟨X, 4, none⟩)) #[true, true, true, true, true, true, true, true, false, true, false, false, false, false, false, false, false, false, false, false, false, false, false, false, false] 59 rfl (by kernel_rfl) (by kernel_rfl) (by kernel_rfl) (fun _ _ _ h => h) (Or.inl ⟨by kernel_rfl, ?_⟩) hHeld (by kernel_rfl) rfl ?_
                    · (intro w' hSw; go_simp)
                    try simp only [Act.put, List.setIfInBounds_toArray, List.set_cons_zero, List.set_cons_succ]
                    refine takeH (i := 10) (v := .string nd) #[true, true, true, true, true, true, true, true, false, true, true, false, false, false, false, false, false, false, false, false, false, false, false, false, false] 60 rfl (by kernel_rfl) (by kernel_rfl) (by kernel_rfl) (fun _ _ _ h => h) (Or.inl ⟨by kernel_rfl, ?_⟩) hHeld (by kernel_rfl) rfl ?_
                    · (intro w' hSw; have q0 := hSw.1; go_simp)
                    try simp only [Act.put, List.setIfInBounds_toArray, List.set_cons_zero, List.set_cons_succ]
                    refine wpAnyH_ready (rs := [8]) (by kernel_rfl) (by simp) ?_
                    refine AllReadyH.cons rfl (fun K hK => ?_) AllReadyH.nil
                    go_simp
                    refine (HSUM.out _).mono ?_
                    rintro e w2 ⟨rfl, b2⟩
                    rw [← HE.out]
                    have B2 : Hid (Below wr.heap.size wr w2) := below_undrew b2
                    have hS2 := vfS_later hS B2.out
                    have HST2 := hid (HST.out.later B2.out)
                    clear b2 hHeld
                    refine hK.out _ _ hS2 (fun _ => ?_)
                    clear hK K
                    try simp only [List.setIfInBounds_toArray, List.set_cons_zero, List.set_cons_succ]
                    refine takeH (i := 11) (v := .bool false) #[true, true, true, true, true, true, true, true, true, true, true, true, false, false, false, false, false, false, false, false, false, false, false, false, false] 61 rfl (by kernel_rfl) (by kernel_rfl) (by kernel_rfl) (fun _ _ _ h => h) (Or.inl ⟨by kernel_rfl, ?_⟩) hS2 (by kernel_rfl) rfl ?_
                    · (intro w' hSw; go_simp)
                    try simp only [Act.put, List.setIfInBounds_toArray, List.set_cons_zero, List.set_cons_succ]
                    refine takeH (i := 12) (v := .bool false) #[true, true, true, true, true, true, true, true, true, true, true, true, true, false, false, false, false, false, false, false, false, false, false, false, false] 62 rfl (by kernel_rfl) (by kernel_rfl) (by kernel_rfl) (fun _ _ _ h => h) (Or.inl ⟨by kernel_rfl, ?_⟩) hS2 (by kernel_rfl) rfl ?_
                    · (intro w' hSw; go_simp)
                    try simp only [Act.put, List.setIfInBounds_toArray, List.set_cons_zero, List.set_cons_succ]
                    refine takeH (i := 13) (v := .bool false) #[true, true, true, true, true, true, true, true, true, true, true, true, true, true, false, false, false, false, false, false, false, false, false, false, false] 63 rfl (by kernel_rfl) (by kernel_rfl) (by kernel_rfl) (fun _ _ _ h => h) (Or.inl ⟨by kernel_rfl, ?_⟩) hS2 (by kernel_rfl) rfl ?_
                    · (intro w' hSw; go_simp)
                    try simp only [Act.put, List.setIfInBounds_toArray, List.set_cons_zero, List.set_cons_succ]
                    refine takeH (i := 14) (v := .int .i64 k2) #[true, true, true, true, true, true, true, true, true, true, true, true, true, true, true, false, false, false, false, false, false, false, false, false, false] 64 rfl (by kernel_rfl) (by kernel_rfl) (by kernel_rfl) (fun _ _ _ h => h) (Or.inl ⟨by kernel_rfl, ?_⟩) hS2 (by kernel_rfl) rfl ?_
                    · (intro w' hSw; go_simp)
                    try simp only [Act.put, List.setIfInBounds_toArray, List.set_cons_zero, List.set_cons_succ]
                    refine takeH (i := 15) (v := .bool true) #[true, true, true, true, true, true, true, true, true, true, true, true, true, true, true, true, false, false, false, false, false, false, false, false, false] 65 rfl (by kernel_rfl) (by kernel_rfl) (by kernel_rfl) (fun _ _ _ h => h) (Or.inl ⟨by kernel_rfl, ?_⟩) hS2 (by kernel_rfl) rfl ?_
                    · (intro w' hSw; go_simp)
                    try simp only [Act.put, List.setIfInBounds_toArray, List.set_cons_zero, List.set_cons_succ]
                    refine takeH (i := 16) (v := .bool true) #[true, true, true, true, true, true, true, true, true, true, true, true, true, true, true, true, true, false, false, false, false, false, false, false, false] 66 rfl (by kernel_rfl) (by kernel_rfl) (by kernel_rfl) (fun _ _ _ h => h) (Or.inl ⟨by kernel_rfl, ?_⟩) hS2 (by kernel_rfl) rfl ?_
                    · (intro w' hSw; go_simp)
                    try simp only [Act.put, List.setIfInBounds_toArray, List.set_cons_zero, List.set_cons_succ]
                    refine takeH (i := 17) (v := .slice (some ⟨b, off, none⟩) ss.length cap) #[true, true, true, true, true, true, true, true, true, true, true, true, true, true, true, true, true, true, false, false, false, false, false, false, false] 67 rfl (by kernel_rfl) (by kernel_rfl) (by kernel_rfl) (fun _ _ _ h => h) (Or.inl ⟨by kernel_rfl, ?_⟩) hS2 (by kernel_rfl) rfl ?_
                    · (intro w' hSw; go_simp)
                    try simp only [Act.put, List.setIfInBounds_toArray, List.set_cons_zero, List.set_cons_succ]
                    refine takeH (i := 18) (v := .int .i64 k2) #[true, true, true, true, true, true, true, true, true, true, true, true, true, true, true, true, true, true, true, false, false, false, false, false, false] 68 rfl (by kernel_rfl) (by kernel_rfl) (by kernel_rfl) (fun _ _ _ h => h) (Or.inl ⟨by kernel_rfl, ?_⟩) hS2 (by kernel_rfl) rfl ?_
                    · (intro w' hSw; go_simp)
                    try simp only [Act.put, List.setIfInBounds_toArray, List.set_cons_zero, List.set_cons_succ]
                    refine takeH (i := 19) (v := .pointer (some ⟨b, off + k2, none⟩)) #[true, true, true, true, true, true, true, true, true, true, true, true, true, true, true, true, true, true, true, true, false, false, false, false, false] 69 rfl (by kernel_rfl) (by kernel_rfl) (by kernel_rfl) (fun _ _ _ h => h) (Or.inl ⟨by kernel_rfl, ?_⟩) hS2 (by kernel_rfl) rfl ?_
                    · (intro w' hSw; go_simp)
                    try simp only [Act.put, List.setIfInBounds_toArray, List.set_cons_zero, List.set_cons_succ]
                    refine takeH (i := 20) (v := .string s) #[true, true, true, true, true, true, true, true, true, true, true, true, true, true, true, true, true, true, true, true, true, false, false, false, false] 70 rfl (by kernel_rfl) (by kernel_rfl) (by kernel_rfl) (fun _ _ _ h => h) (Or.inl ⟨by kernel_rfl, ?_⟩) hS2 (by kernel_rfl) rfl ?_
                    · (intro w' hSw; have q0 := hSw.2; go_simp)
                    try simp only [Act.put, List.setIfInBounds_toArray, List.set_cons_zero, List.set_cons_succ]
                    refine takeH (i := 21) (v := .int .i64 (s.size : Int)) #[true, true, true, true, true, true, true, true, true, true, true, true, true, true, true, true, true, true, true, true, true, true, false, false, false] 71 rfl (by kernel_rfl) (by kernel_rfl) (by kernel_rfl) (fun _ _ _ h => h) (Or.inl ⟨by kernel_rfl, ?_⟩) hS2 (by kernel_rfl) rfl ?_
                    · (intro w' hSw; go_simp)
                    try simp only [Act.put, List.setIfInBounds_toArray, List.set_cons_zero, List.set_cons_succ]
                    refine takeH (i := 22) (v := .bool true) #[true, true, true, true, true, true, true, true, true, true, true, true, true, true, true, true, true, true, true, true, true, true, true, false, false] 72 rfl (by kernel_rfl) (by kernel_rfl) (by kernel_rfl) (fun _ _ _ h => h) (Or.inl ⟨by kernel_rfl, ?_⟩) hS2 (by kernel_rfl) rfl ?_
                    · (intro w' hSw; go_simp)
                    try simp only [Act.put, List.setIfInBounds_toArray, List.set_cons_zero, List.set_cons_succ]
                    refine takeH (i := 23) (v := .bool true) #[true, true, true, true, true, true, true, true, true, true, true, true, true, true, true, true, true, true, true, true, true, true, true, true, false] 73 rfl (by kernel_rfl) (by kernel_rfl) (by kernel_rfl) (fun _ _ _ h => h) (Or.inl ⟨by kernel_rfl, ?_⟩) hS2 (by kernel_rfl) rfl ?_
                    · (intro w' hSw; go_simp)
                    try simp only [Act.put, List.setIfInBounds_toArray, List.set_cons_zero, List.set_cons_succ]
                    refine takeH (i := 24) (v := .bool true) #[true, true, true, true, true, true, true, true, true, true, true, true, true, true, true, true, true, true, true, true, true, true, true, true, true] 74 rfl (by kernel_rfl) (by kernel_rfl) (by kernel_rfl) (fun _ _ _ h => h) (Or.inl ⟨by kernel_rfl, ?_⟩) hS2 (by kernel_rfl) rfl ?_
                    · (intro w' hSw; go_simp)
                    try simp only [Act.put, List.setIfInBounds_toArray, List.set_cons_zero, List.set_cons_succ]
                    have HBF : Hid (Below W.heap.size W w2) := HST2.out.old
                    refine wpAnyH_done (by kernel_rfl) ?_ _
                    clear HST hS
                    clear HST2 hS2
                    go_wp2_with fail
                    refine bodyPost_ret (v := .tuple #[.string ⟨#[]⟩, .bool false, .int .i64 6]) (by simp [results, Tryz.results69, go_sem]) rfl ?_
                    exact verPost_of (v := []) (n := 6) HV6.out (HBF.out)
                  · have hs8' : ¬ (s.size : Int) < 8 := by omega
                    have HVD := hid (Tr.vstep_d (i := k2) (w := (⟨yd, ybr, yv, yf, yn⟩ : Tr.Way)) (s := s.data.toList) hyn hsm (fun h => hs8 (by rw [ba_len] at h; exact h.2)))
                    clear hyn hsm
                    go_upto_region 16 with fail
                    refine wp_region_held_drew (S := VfS X b (off + k2) nd s) (by kernel_rfl) hS (fun hHeld => ?_)
                    refine takeH (i := 0) (v := .pointer (some ⟨X, 4, none⟩)) #[true, false, false, false, false, false, false, false, false, false, false, false, false, false, false, false, false, false, false, false, false, false, false, false, false] 50 rfl (by kernel_rfl) (by kernel_rfl) (by kernel_rfl) (fun _ _ _ h => h) (Or.inl ⟨by kernel_rfl, ?_⟩) hHeld (by kernel_rfl) rfl ?_
                    · (intro w' hSw; go_simp)
                    try simp only [Act.put, List.setIfInBounds_toArray, List.set_cons_zero, List.set_cons_succ]
                    refine takeH (i := 1) (v := .string nd) #[true, true, false, false, false, false, false, false, false, false, false, false, false, false, false, false, false, false, false, false, false, false, false, false, false] 51 rfl (by kernel_rfl) (by kernel_rfl) (by kernel_rfl) (fun _ _ _ h => h) (Or.inl ⟨by kernel_rfl, ?_⟩) hHeld (by kernel_rfl) rfl ?_
                    · (intro w' hSw; have q0 := hSw.1; go_simp)
                    try simp only [Act.put, List.setIfInBounds_toArray, List.set_cons_zero, List.set_cons_succ]
                    refine takeH (i := 2) (v := .bool false) #[true, true, true, false, false, false, false, false, false, false, false, false, false, false, false, false, false, false, false, false, false, false, false, false, false] 52 rfl (by kernel_rfl) (by kernel_rfl) (by kernel_rfl) (fun _ _ _ h => h) (Or.inl ⟨by kernel_rfl, ?_⟩) hHeld (by kernel_rfl) rfl ?_
                    · (intro w' hSw; go_simp)
                    try simp only [Act.put, List.setIfInBounds_toArray, List.set_cons_zero, List.set_cons_succ]
                    refine takeH (i := 3) (v := .bool false) #[true, true, true, true, false, false, false, false, false, false, false, false, false, false, false, false, false, false, false, false, false, false, false, false, false] 53 rfl (by kernel_rfl) (by kernel_rfl) (by kernel_rfl) (fun _ _ _ h => h) (Or.inl ⟨by kernel_rfl, ?_⟩) hHeld (by kernel_rfl) rfl ?_
                    · (intro w' hSw; go_simp)
                    try simp only [Act.put, List.setIfInBounds_toArray, List.set_cons_zero, List.set_cons_succ]
                    refine takeH (i := 4) (v := .slice (some ⟨b, off, none⟩) ss.length cap) #[true, true, true, true, true, false, false, false, false, false, false, false, false, false, false, false, false, false, false, false, false, false, false, false, false] 54 rfl (by kernel_rfl) (by kernel_rfl) (by kernel_rfl) (fun _ _ _ h => h) (Or.inl ⟨by kernel_rfl, ?_⟩) hHeld (by kernel_rfl) rfl ?_
                    · (intro w' hSw; go_simp)
                    try simp only [Act.put, List.setIfInBounds_toArray, List.set_cons_zero, List.set_cons_succ]
                    refine takeH (i := 5) (v := .int .i64 k2) #[true, true, true, true, true, true, false, false, false, false, false, false, false, false, false, false, false, false, false, false, false, false, false, false, false] 55 rfl (by kernel_rfl) (by kernel_rfl) (by kernel_rfl) (fun _ _ _ h => h) (Or.inl ⟨by kernel_rfl, ?_⟩) hHeld (by kernel_rfl) rfl ?_
                    · (intro w' hSw; go_simp)
                    try simp only [Act.put, List.setIfInBounds_toArray, List.set_cons_zero, List.set_cons_succ]
                    refine takeH (i := 6) (v := .pointer (some ⟨b, off + k2, none⟩)) #[true, true, true, true, true, true, true, false, false, false, false, false, false, false, false, false, false, false, false, false, false, false, false, false, false] 56 rfl (by kernel_rfl) (by kernel_rfl) (by kernel_rfl) (fun _ _ _ h => h) (Or.inl ⟨by kernel_rfl, ?_⟩) hHeld (by kernel_rfl) rfl ?_
                    · (intro w' hSw; go_simp)
                    try simp only [Act.put, List.setIfInBounds_toArray, List.set_cons_zero, List.set_cons_succ]
                    refine takeH (i := 7) (v := .string s) #[true, true, true, true, true, true, true, true, false, false, false, false, false, false, false, false, false, false, false, false, false, false, false, false, false] 57 rfl (by kernel_rfl) (by kernel_rfl) (by kernel_rfl) (fun _ _ _ h => h) (Or.inl ⟨by kernel_rfl, ?_⟩) hHeld (by kernel_rfl) rfl ?_
                    · (intro w' hSw; have q0 := hSw.2; go_simp)
                    try simp only [Act.put, List.setIfInBounds_toArray, List.set_cons_zero, List.set_cons_succ]
                    refine takeH (i := 9) (v := .pointer (some ⟨X, 4, none⟩)) #[true, true, true, true, true, true, true, true, false, true, false, false, false, false, false, false, false, false, false, false, false, false, false, false, false] 59 rfl (by kernel_rfl) (by kernel_rfl) (by kernel_rfl) (fun _ _ _ h => h) (Or.inl ⟨by kernel_rfl, ?_⟩) hHeld (by kernel_rfl) rfl ?_
                    · (intro w' hSw; go_simp)
                    try simp only [Act.put, List.setIfInBounds_toArray, List.set_cons_zero, List.set_cons_succ]
                    refine takeH (i := 10) (v := .string nd) #[true, true, true, true, true, true, true, true, false, true, true, false, false, false, false, false, false, false, false, false, false, false, false, false, false] 60 rfl (by kernel_rfl) (by kernel_rfl) (by kernel_rfl) (fun _ _ _ h => h) (Or.inl ⟨by kernel_rfl, ?_⟩) hHeld (by kernel_rfl) rfl ?_
                    · (intro w' hSw; have q0 := hSw.1; go_simp)
                    try simp only [Act.put, List.setIfInBounds_toArray, List.set_cons_zero, List.set_cons_succ]
                    refine wpAnyH_ready (rs := [8]) (by kernel_rfl) (by simp) ?_
                    refine AllReadyH.cons rfl (fun K hK => ?_) AllReadyH.nil
                    go_simp
                    refine (HSUM.out _).mono ?_
                    rintro e w2 ⟨rfl, b2⟩
                    rw [← HE.out]
                    have B2 : Hid (Below wr.heap.size wr w2) := below_undrew b2
                    have hS2 := vfS_later hS B2.out
                    have HST2 := hid (HST.out.later B2.out)
                    clear b2 hHeld
                    refine hK.out _ _ hS2 (fun _ => ?_)
                    clear hK K
                    try simp only [List.setIfInBounds_toArray, List.set_cons_zero, List.set_cons_succ]
                    refine takeH (i := 11) (v := .bool false) #[true, true, true, true, true, true, true, true, true, true, true, true, false, false, false, false, false, false, false, false, false, false, false, false, false] 61 rfl (by kernel_rfl) (by kernel_rfl) (by kernel_rfl) (fun _ _ _ h => h) (Or.inl ⟨by kernel_rfl, ?_⟩) hS2 (by kernel_rfl) rfl ?_
                    · (intro w' hSw; go_simp)
                    try simp only [Act.put, List.setIfInBounds_toArray, List.set_cons_zero, List.set_cons_succ]
                    refine takeH (i := 12) (v := .bool false) #[true, true, true, true, true, true, true, true, true, true, true, true, true, false, false, false, false, false, false, false, false, false, false, false, false] 62 rfl (by kernel_rfl) (by kernel_rfl) (by kernel_rfl) (fun _ _ _ h => h) (Or.inl ⟨by kernel_rfl, ?_⟩) hS2 (by kernel_rfl) rfl ?_
                    · (intro w' hSw; go_simp)
                    try simp only [Act.put, List.setIfInBounds_toArray, List.set_cons_zero, List.set_cons_succ]
                    refine takeH (i := 13) (v := .bool false) #[true, true, true, true, true, true, true, true, true, true, true, true, true, true, false, false, false, false, false, false, false, false, false, false, false] 63 rfl (by kernel_rfl) (by kernel_rfl) (by kernel_rfl) (fun _ _ _ h => h) (Or.inl ⟨by kernel_rfl, ?_⟩) hS2 (by kernel_rfl) rfl ?_
                    · (intro w' hSw; go_simp)
                    try simp only [Act.put, List.setIfInBounds_toArray, List.set_cons_zero, List.set_cons_succ]
                    refine takeH (i := 14) (v := .int .i64 k2) #[true, true, true, true, true, true, true, true, true, true, true, true, true, true, true, false, false, false, false, false, false, false, false, false, false] 64 rfl (by kernel_rfl) (by kernel_rfl) (by kernel_rfl) (fun _ _ _ h => h) (Or.inl ⟨by kernel_rfl, ?_⟩) hS2 (by kernel_rfl) rfl ?_
                    · (intro w' hSw; go_simp)
                    try simp only [Act.put, List.setIfInBounds_toArray, List.set_cons_zero, List.set_cons_succ]
                    refine takeH (i := 15) (v := .bool true) #[true, true, true, true, true, true, true, true, true, true, true, true, true, true, true, true, false, false, false, false, false, false, false, false, false] 65 rfl (by kernel_rfl) (by kernel_rfl) (by kernel_rfl) (fun _ _ _ h => h) (Or.inl ⟨by kernel_rfl, ?_⟩) hS2 (by kernel_rfl) rfl ?_
                    · (intro w' hSw; go_simp)
                    try simp only [Act.put, List.setIfInBounds_toArray, List.set_cons_zero, List.set_cons_succ]
                    refine takeH (i := 16) (v := .bool true) #[true, true, true, true, true, true, true, true, true, true, true, true, true, true, true, true, true, false, false, false, false, false, false, false, false] 66 rfl (by kernel_rfl) (by kernel_rfl) (by kernel_rfl) (fun _ _ _ h => h) (Or.inl ⟨by kernel_rfl, ?_⟩) hS2 (by kernel_rfl) rfl ?_
                    · (intro w' hSw; go_simp)
                    try simp only [Act.put, List.setIfInBounds_toArray, List.set_cons_zero, List.set_cons_succ]
                    refine takeH (i := 17) (v := .slice (some ⟨b, off, none⟩) ss.length cap) #[true, true, true, true, true, true, true, true, true, true, true, true, true, true, true, true, true, true, false, false, false, false, false, false, false] 67 rfl (by kernel_rfl) (by kernel_rfl) (by kernel_rfl) (fun _ _ _ h => h) (Or.inl ⟨by kernel_rfl, ?_⟩) hS2 (by kernel_rfl) rfl ?_
                    · (intro w' hSw; go_simp)
                    try simp only [Act.put, List.setIfInBounds_toArray, List.set_cons_zero, List.set_cons_succ]
                    refine takeH (i := 18) (v := .int .i64 k2) #[true, true, true, true, true, true, true, true, true, true, true, true, true, true, true, true, true, true, true, false, false, false, false, false, false] 68 rfl (by kernel_rfl) (by kernel_rfl) (by kernel_rfl) (fun _ _ _ h => h) (Or.inl ⟨by kernel_rfl, ?_⟩) hS2 (by kernel_rfl) rfl ?_
                    · (intro w' hSw; go_simp)
                    try simp only [Act.put, List.setIfInBounds_toArray, List.set_cons_zero, List.set_cons_succ]
                    refine takeH (i := 19) (v := .pointer (some ⟨b, off + k2, none⟩)) #[true, true, true, true, true, true, true, true, true, true, true, true, true, true, true, true, true, true, true, true, false, false, false, false, false] 69 rfl (by kernel_rfl) (by kernel_rfl) (by kernel_rfl) (fun _ _ _ h => h) (Or.inl ⟨by kernel_rfl, ?_⟩) hS2 (by kernel_rfl) rfl ?_
                    · (intro w' hSw; go_simp)
                    try simp only [Act.put, List.setIfInBounds_toArray, List.set_cons_zero, List.set_cons_succ]
                    refine takeH (i := 20) (v := .string s) #[true, true, true, true, true, true, true, true, true, true, true, true, true, true, true, true, true, true, true, true, true, false, false, false, false] 70 rfl (by kernel_rfl) (by kernel_rfl) (by kernel_rfl) (fun _ _ _ h => h) (Or.inl ⟨by kernel_rfl, ?_⟩) hS2 (by kernel_rfl) rfl ?_
                    · (intro w' hSw; have q0 := hSw.2; go_simp)
                    try simp only [Act.put, List.setIfInBounds_toArray, List.set_cons_zero, List.set_cons_succ]
                    refine takeH (i := 21) (v := .int .i64 (s.size : Int)) #[true, true, true, true, true, true, true, true, true, true, true, true, true, true, true, true, true, true, true, true, true, true, false, false, false] 71 rfl (by kernel_rfl) (by kernel_rfl) (by kernel_rfl) (fun _ _ _ h => h) (Or.inl ⟨by kernel_rfl, ?_⟩) hS2 (by kernel_rfl) rfl ?_
                    · (intro w' hSw; go_simp)
                    try simp only [Act.put, List.setIfInBounds_toArray, List.set_cons_zero, List.set_cons_succ]
                    refine takeH (i := 22) (v := .bool false) #[true, true, true, true, true, true, true, true, true, true, true, true, true, true, true, true, true, true, true, true, true, true, true, false, false] 72 rfl (by kernel_rfl) (by kernel_rfl) (by kernel_rfl) (fun _ _ _ h => h) (Or.inl ⟨by kernel_rfl, ?_⟩) hS2 (by kernel_rfl) rfl ?_
                    · (intro w' hSw; go_simp)
                    try simp only [Act.put, List.setIfInBounds_toArray, List.set_cons_zero, List.set_cons_succ]
                    refine takeH (i := 23) (v := .bool false) #[true, true, true, true, true, true, true, true, true, true, true, true, true, true, true, true, true, true, true, true, true, true, true, true, false] 73 rfl (by kernel_rfl) (by kernel_rfl) (by kernel_rfl) (fun _ _ _ h => h) (Or.inl ⟨by kernel_rfl, ?_⟩) hS2 (by kernel_rfl) rfl ?_
                    · (intro w' hSw; go_simp)
                    try simp only [Act.put, List.setIfInBounds_toArray, List.set_cons_zero, List.set_cons_succ]
                    refine takeH (i := 24) (v := .bool false) #[true, true, true, true, true, true, true, true, true, true, true, true, true, true, true, true, true, true, true, true, true, true, true, true, true] 74 rfl (by kernel_rfl) (by kernel_rfl) (by kernel_rfl) (fun _ _ _ h => h) (Or.inl ⟨by kernel_rfl, ?_⟩) hS2 (by kernel_rfl) rfl ?_
                    · (intro w' hSw; go_simp)
                    try simp only [Act.put, List.setIfInBounds_toArray, List.set_cons_zero, List.set_cons_succ]
                    have HBF : Hid (Below W.heap.size W w2) := HST2.out.old
                    refine wpAnyH_done (by kernel_rfl) ?_ _
                    obtain ⟨v0, v1, v2, v3, v4, z0, z1, z2, z3, z4⟩ := way_facts HST2.out.row
                    have hX2 : X < w2.heap.size := (Array.getElem?_eq_some_iff.1 HST2.out.row).1
                    have hcs := hS2.2
                    have hb2 : b < w2.heap.size := World.block_lt_of_cell? w2 _ hcs
                    clear HST hS hS2 B2
                    go_wp2_with fail
                    refine (HEL.out _).mono ?_
                    rintro e w3 ⟨e1, e2, b3⟩
                    have HST3 := hid (HST2.out.later b3)
                    cases hwh : Tr.whole s.data.toList with
                    | none =>
                      obtain rfl := e1 hwh
                      have hvs : Tr.vstep k2 (⟨yd, ybr, yv, yf, yn⟩ : Tr.Way) s.data.toList = none := by rw [HVD.out, hwh]
                      have HV6 : Hid (Tr.verify rt.data.toList key.data.toList (ss.map fun s => s.data.toList) = ([], false, 6)) := by rw [Hid, HV0.out, HINV.out, Tr.vloop_stop (hvs)]; rfl
                      clear e1 e2 b3 HST2 v0 v1 v2 v3 v4 z0 z1 z2 z3 z4 hwh hvs
                      go_wp2_with fail
                      refine bodyPost_ret (v := .tuple #[.string ⟨#[]⟩, .bool false, .int .i64 6]) (by simp [results, Tryz.results69, go_sem]) rfl ?_
                      exact verPost_of (v := []) (n := 6) HV6.out (HST3.out.old.alloc HST3.out.old.size _)
                    | some t =>
                      obtain ⟨ax, cx, rfl, hwt, hrep⟩ := e2 t hwh
                      cases hsd : Tr.sound t with
                      | false =>
                        have hvs : Tr.vstep k2 (⟨yd, ybr, yv, yf, yn⟩ : Tr.Way) s.data.toList = none := by rw [HVD.out, hwh]; simp [hsd]
                        have HV6 : Hid (Tr.verify rt.data.toList key.data.toList (ss.map fun s => s.data.toList) = ([], false, 6)) := by rw [Hid, HV0.out, HINV.out, Tr.vloop_stop (hvs)]; rfl
                        clear e1 e2 b3 HST2 v0 v1 v2 v3 v4 z0 z1 z2 z3 z4 hwh hvs hrep hwt
                        go_wp2_with fail
                        refine bodyPost_ret (v := .tuple #[.string ⟨#[]⟩, .bool false, .int .i64 6]) (by simp [results, Tryz.results69, go_sem]) rfl ?_
                        exact verPost_of (v := []) (n := 6) HV6.out (HST3.out.old.alloc HST3.out.old.size _)
                      | true =>
                        have hvs : Tr.vstep k2 (⟨yd, ybr, yv, yf, yn⟩ : Tr.Way) s.data.toList = Tr.goes t yd ybr := by rw [HVD.out, hwh]; simp [hsd]
                        have HVS := hid hvs
                        have HBA : Hid (Below w3.heap.size w3 (w3.alloc (.cells #[.bool t.list, .string ⟨t.bytes.toArray⟩, .slice ax t.items.length cx] 119))) := (Below.refl _ _).alloc (Nat.le_refl _) _
                        have HST4 := hid (HST3.out.later HBA.out)
                        have HGO := hid (goesR_any 1001 _ t _ X _ yd ybr (rep_later HBA.out hrep) hsd hwt (Nat.le_of_lt (Array.getElem?_eq_some_iff.1 HST4.out.row).1) HST4.out.dig HST4.out.lt HST4.out.len)
                        clear v0 v1 v2 v3 v4 z0 z1 z2 z3 z4
                        obtain ⟨v0, v1, v2, v3, v4, z0, z1, z2, z3, z4⟩ := way_facts HST3.out.row
                        have hX3 : X < w3.heap.size := (Array.getElem?_eq_some_iff.1 HST3.out.row).1
                        have hX3' : ¬ X = w3.heap.size := by omega
                        clear e1 e2 b3 HST2 hrep hwt hwh hvs hsd
                        go_wp2_with fail
                        refine HGO.out.mono ?_
                        rintro e w5 ⟨g1, g2, b5⟩
                        have HST5 := hid (HST4.out.later b5)
                        clear v0 v1 v2 v3 v4 z0 z1 z2 z3 z4
                        obtain ⟨v0, v1, v2, v3, v4, z0, z1, z2, z3, z4⟩ := way_facts HST5.out.row
                        cases hgo : Tr.goes t yd ybr with
                        | none =>
                          obtain rfl := g1 hgo
                          rw [hgo] at HVS
                          have HV6 : Hid (Tr.verify rt.data.toList key.data.toList (ss.map fun s => s.data.toList) = ([], false, 6)) := by rw [Hid, HV0.out, HINV.out, Tr.vloop_stop (HVS.out)]; rfl
                          clear g1 g2 b5 hgo HVS HGO HST4 HST3 HBA
                          go_wp2_with fail
                          refine bodyPost_ret (v := .tuple #[.string ⟨#[]⟩, .bool false, .int .i64 6]) (by simp [results, Tryz.results69, go_sem]) rfl ?_
                          exact verPost_of (v := []) (n := 6) HV6.out (set5_below HST5.out.old HST5.out.hX _ _ _ _ _)
                        | some y' =>
                          obtain ⟨ay, cy, rfl, hdy⟩ := g2 y' hgo
                          rw [hgo] at HVS
                          have hsub := Tr.goes_sub t yd ybr y' hgo
                          have HSTN : Hid (VerSt W X (ss.map fun s => s.data.toList) (⟨Tr.digits key.data.toList, false, [], false, rt.data.toList⟩ : Tr.Way) (k2 + 1) (set5 w5 X (.slice ay y'.digits.length cy) (.bool y'.branch) (.string ⟨y'.value.toArray⟩) (.bool y'.found) (.string ⟨y'.need.toArray⟩)) y' ay cy) := by
                            refine ⟨set5_row HST5.out.row _ _ _ _ _, hdy.frame (set5_below (Below.refl _ _) (Nat.le_refl _) _ _ _ _ _), ?_, fun c hc => HST5.out.lt c (hsub.1 c hc), Nat.le_trans hsub.2 HST5.out.len, set5_below HST5.out.old HST5.out.hX _ _ _ _ _, HST5.out.hX⟩
                            rw [HINV.out, Tr.vloop_go HVS.out]
                          clear g1 g2 b5 hgo HVS HGO HST4 HST3 HBA hdy hsub
                          go_wp2_with fail
                          exact ⟨⟨k2 + 1, y', ay, cy, by go_num, by omega, HSTN.out⟩, by simp [intOf]; omega⟩
                · have hk0' : ¬ (0 : Int) < (k2 : Int) := by omega
                  have HVD := hid (Tr.vstep_d (i := k2) (w := (⟨yd, ybr, yv, yf, yn⟩ : Tr.Way)) (s := s.data.toList) hyn hsm (fun h => hk0 h.1))
                  clear hyn hsm
                  go_upto_region 16 with fail
                  refine wp_region_held_drew (S := VfS X b (off + k2) nd s) (by kernel_rfl) hS (fun hHeld => ?_)
                  refine takeH (i := 0) (v := .pointer (some ⟨X, 4, none⟩)) #[true, false, false, false, false, false, false, false, false, false, false, false, false, false, false, false, false, false, false, false, false, false, false, false, false] 50 rfl (by kernel_rfl) (by kernel_rfl) (by kernel_rfl) (fun _ _ _ h => h) (Or.inl ⟨by kernel_rfl, ?_⟩) hHeld (by kernel_rfl) rfl ?_
                  · (intro w' hSw; go_simp)
                  try simp only [Act.put, List.setIfInBounds_toArray, List.set_cons_zero, List.set_cons_succ]
                  refine takeH (i := 1) (v := .string nd) #[true, true, false, false, false, false, false, false, false, false, false, false, false, false, false, false, false, false, false, false, false, false, false, false, false] 51 rfl (by kernel_rfl) (by kernel_rfl) (by kernel_rfl) (fun _ _ _ h => h) (Or.inl ⟨by kernel_rfl, ?_⟩) hHeld (by kernel_rfl) rfl ?_
                  · (intro w' hSw; have q0 := hSw.1; go_simp)
                  try simp only [Act.put, List.setIfInBounds_toArray, List.set_cons_zero, List.set_cons_succ]
                  refine takeH (i := 2) (v := .bool false) #[true, true, true, false, false, false, false, false, false, false, false, false, false, false, false, false, false, false, false, false, false, false, false, false, false] 52 rfl (by kernel_rfl) (by kernel_rfl) (by kernel_rfl) (fun _ _ _ h => h) (Or.inl ⟨by kernel_rfl, ?_⟩) hHeld (by kernel_rfl) rfl ?_
                  · (intro w' hSw; go_simp)
                  try simp only [Act.put, List.setIfInBounds_toArray, List.set_cons_zero, List.set_cons_succ]
                  refine takeH (i := 3) (v := .bool false) #[true, true, true, true, false, false, false, false, false, false, false, false, false, false, false, false, false, false, false, false, false, false, false, false, false] 53 rfl (by kernel_rfl) (by kernel_rfl) (by kernel_rfl) (fun _ _ _ h => h) (Or.inl ⟨by kernel_rfl, ?_⟩) hHeld (by kernel_rfl) rfl ?_
                  · (intro w' hSw; go_simp)
                  try simp only [Act.put, List.setIfInBounds_toArray, List.set_cons_zero, List.set_cons_succ]
                  refine takeH (i := 4) (v := .slice (some ⟨b, off, none⟩) ss.length cap) #[true, true, true, true, true, false, false, false, false, false, false, false, false, false, false, false, false, false, false, false, false, false, false, false, false] 54 rfl (by kernel_rfl) (by kernel_rfl) (by kernel_rfl) (fun _ _ _ h => h) (Or.inl ⟨by kernel_rfl, ?_⟩) hHeld (by kernel_rfl) rfl ?_
                  · (intro w' hSw; go_simp)
                  try simp only [Act.put, List.setIfInBounds_toArray, List.set_cons_zero, List.set_cons_succ]
                  refine takeH (i := 5) (v := .int .i64 k2) #[true, true, true, true, true, true, false, false, false, false, false, false, false, false, false, false, false, false, false, false, false, false, false, false, false] 55 rfl (by kernel_rfl) (by kernel_rfl) (by kernel_rfl) (fun _ _ _ h => h) (Or.inl ⟨by kernel_rfl, ?_⟩) hHeld (by kernel_rfl) rfl ?_
                  · (intro w' hSw; go_simp)
                  try simp only [Act.put, List.setIfInBounds_toArray, List.set_cons_zero, List.set_cons_succ]
                  refine takeH (i := 6) (v := .pointer (some ⟨b, off + k2, none⟩)) #[true, true, true, true, true, true, true, false, false, false, false, false, false, false, false, false, false, false, false, false, false, false, false, false, false] 56 rfl (by kernel_rfl) (by kernel_rfl) (by kernel_rfl) (fun _ _ _ h => h) (Or.inl ⟨by kernel_rfl, ?_⟩) hHeld (by kernel_rfl) rfl ?_
                  · (intro w' hSw; go_simp)
                  try simp only [Act.put, List.setIfInBounds_toArray, List.set_cons_zero, List.set_cons_succ]
                  refine takeH (i := 7) (v := .string s) #[true, true, true, true, true, true, true, true, false, false, false, false, false, false, false, false, false, false, false, false, false, false, false, false, false] 57 rfl (by kernel_rfl) (by kernel_rfl) (by kernel_rfl) (fun _ _ _ h => h) (Or.inl ⟨by kernel_rfl, ?_⟩) hHeld (by kernel_rfl) rfl ?_
                  · (intro w' hSw; have q0 := hSw.2; go_simp)
                  try simp only [Act.put, List.setIfInBounds_toArray, List.set_cons_zero, List.set_cons_succ]
                  refine takeH (i := 9) (v := .pointer (some ⟨X, 4, none⟩)) #[true, true, true, true, true, true, true, true, false, true, false, false, false, false, false, false, false, false, false, false, false, false, false, false, false] 59 rfl (by kernel_rfl) (by kernel_rfl) (by kernel_rfl) (fun _ _ _ h => h) (Or.inl ⟨by kernel_rfl, ?_⟩) hHeld (by kernel_rfl) rfl ?_
                  · (intro w' hSw; go_simp)
                  try simp only [Act.put, List.setIfInBounds_toArray, List.set_cons_zero, List.set_cons_succ]
                  refine takeH (i := 10) (v := .string nd) #[true, true, true, true, true, true, true, true, false, true, true, false, false, false, false, false, false, false, false, false, false, false, false, false, false] 60 rfl (by kernel_rfl) (by kernel_rfl) (by kernel_rfl) (fun _ _ _ h => h) (Or.inl ⟨by kernel_rfl, ?_⟩) hHeld (by kernel_rfl) rfl ?_
                  · (intro w' hSw; have q0 := hSw.1; go_simp)
                  try simp only [Act.put, List.setIfInBounds_toArray, List.set_cons_zero, List.set_cons_succ]
                  refine wpAnyH_ready (rs := [8]) (by kernel_rfl) (by simp) ?_
                  refine AllReadyH.cons rfl (fun K hK => ?_) AllReadyH.nil
                  go_simp
                  refine (HSUM.out _).mono ?_
                  rintro e w2 ⟨rfl, b2⟩
                  rw [← HE.out]
                  have B2 : Hid (Below wr.heap.size wr w2) := below_undrew b2
                  have hS2 := vfS_later hS B2.out
                  have HST2 := hid (HST.out.later B2.out)
                  clear b2 hHeld
                  refine hK.out _ _ hS2 (fun _ => ?_)
                  clear hK K
                  try simp only [List.setIfInBounds_toArray, List.set_cons_zero, List.set_cons_succ]
                  refine takeH (i := 11) (v := .bool false) #[true, true, true, true, true, true, true, true, true, true, true, true, false, false, false, false, false, false, false, false, false, false, false, false, false] 61 rfl (by kernel_rfl) (by kernel_rfl) (by kernel_rfl) (fun _ _ _ h => h) (Or.inl ⟨by kernel_rfl, ?_⟩) hS2 (by kernel_rfl) rfl ?_
                  · (intro w' hSw; go_simp)
                  try simp only [Act.put, List.setIfInBounds_toArray, List.set_cons_zero, List.set_cons_succ]
                  refine takeH (i := 12) (v := .bool false) #[true, true, true, true, true, true, true, true, true, true, true, true, true, false, false, false, false, false, false, false, false, false, false, false, false] 62 rfl (by kernel_rfl) (by kernel_rfl) (by kernel_rfl) (fun _ _ _ h => h) (Or.inl ⟨by kernel_rfl, ?_⟩) hS2 (by kernel_rfl) rfl ?_
                  · (intro w' hSw; go_simp)
                  try simp only [Act.put, List.setIfInBounds_toArray, List.set_cons_zero, List.set_cons_succ]
                  refine takeH (i := 13) (v := .bool false) #[true, true, true, true, true, true, true, true, true, true, true, true, true, true, false, false, false, false, false, false, false, false, false, false, false] 63 rfl (by kernel_rfl) (by kernel_rfl) (by kernel_rfl) (fun _ _ _ h => h) (Or.inl ⟨by kernel_rfl, ?_⟩) hS2 (by kernel_rfl) rfl ?_
                  · (intro w' hSw; go_simp)
                  try simp only [Act.put, List.setIfInBounds_toArray, List.set_cons_zero, List.set_cons_succ]
                  refine takeH (i := 14) (v := .int .i64 k2) #[true, true, true, true, true, true, true, true, true, true, true, true, true, true, true, false, false, false, false, false, false, false, false, false, false] 64 rfl (by kernel_rfl) (by kernel_rfl) (by kernel_rfl) (fun _ _ _ h => h) (Or.inl ⟨by kernel_rfl, ?_⟩) hS2 (by kernel_rfl) rfl ?_
                  · (intro w' hSw; go_simp)
                  try simp only [Act.put, List.setIfInBounds_toArray, List.set_cons_zero, List.set_cons_succ]
                  refine takeH (i := 15) (v := .bool false) #[true, true, true, true, true, true, true, true, true, true, true, true, true, true, true, true, false, false, false, false, false, false, false, false, false] 65 rfl (by kernel_rfl) (by kernel_rfl) (by kernel_rfl) (fun _ _ _ h => h) (Or.inl ⟨by kernel_rfl, ?_⟩) hS2 (by kernel_rfl) rfl ?_
                  · (intro w' hSw; go_simp)
                  try simp only [Act.put, List.setIfInBounds_toArray, List.set_cons_zero, List.set_cons_succ]
                  refine takeH (i := 16) (v := .bool false) #[true, true, true, true, true, true, true, true, true, true, true, true, true, true, true, true, true, false, false, false, false, false, false, false, false] 66 rfl (by kernel_rfl) (by kernel_rfl) (by kernel_rfl) (fun _ _ _ h => h) (Or.inl ⟨by kernel_rfl, ?_⟩) hS2 (by kernel_rfl) rfl ?_
                  · (intro w' hSw; go_simp)
                  try simp only [Act.put, List.setIfInBounds_toArray, List.set_cons_zero, List.set_cons_succ]
                  refine takeH (i := 17) (v := undef) #[true, true, true, true, true, true, true, true, true, true, true, true, true, true, true, true, true, true, false, false, false, false, false, false, false] 67 rfl (by kernel_rfl) (by kernel_rfl) (by kernel_rfl) (fun _ _ _ h => h) (Or.inr ⟨by kernel_rfl, rfl⟩) hS2 (by kernel_rfl) rfl ?_
                  try simp only [Act.put, List.setIfInBounds_toArray, List.set_cons_zero, List.set_cons_succ]
                  refine takeH (i := 18) (v := undef) #[true, true, true, true, true, true, true, true, true, true, true, true, true, true, true, true, true, true, true, false, false, false, false, false, false] 68 rfl (by kernel_rfl) (by kernel_rfl) (by kernel_rfl) (fun _ _ _ h => h) (Or.inr ⟨by kernel_rfl, rfl⟩) hS2 (by kernel_rfl) rfl ?_
                  try simp only [Act.put, List.setIfInBounds_toArray, List.set_cons_zero, List.set_cons_succ]
                  refine takeH (i := 19) (v := undef) #[true, true, true, true, true, true, true, true, true, true, true, true, true, true, true, true, true, true, true, true, false, false, false, false, false] 69 rfl (by kernel_rfl) (by kernel_rfl) (by kernel_rfl) (fun _ _ _ h => h) (Or.inr ⟨by kernel_rfl, rfl⟩) hS2 (by kernel_rfl) rfl ?_
                  try simp only [Act.put, List.setIfInBounds_toArray, List.set_cons_zero, List.set_cons_succ]
                  refine takeH (i := 20) (v := undef) #[true, true, true, true, true, true, true, true, true, true, true, true, true, true, true, true, true, true, true, true, true, false, false, false, false] 70 rfl (by kernel_rfl) (by kernel_rfl) (by kernel_rfl) (fun _ _ _ h => h) (Or.inr ⟨by kernel_rfl, rfl⟩) hS2 (by kernel_rfl) rfl ?_
                  try simp only [Act.put, List.setIfInBounds_toArray, List.set_cons_zero, List.set_cons_succ]
                  refine takeH (i := 21) (v := undef) #[true, true, true, true, true, true, true, true, true, true, true, true, true, true, true, true, true, true, true, true, true, true, false, false, false] 71 rfl (by kernel_rfl) (by kernel_rfl) (by kernel_rfl) (fun _ _ _ h => h) (Or.inr ⟨by kernel_rfl, rfl⟩) hS2 (by kernel_rfl) rfl ?_
                  try simp only [Act.put, List.setIfInBounds_toArray, List.set_cons_zero, List.set_cons_succ]
                  refine takeH (i := 22) (v := undef) #[true, true, true, true, true, true, true, true, true, true, true, true, true, true, true, true, true, true, true, true, true, true, true, false, false] 72 rfl (by kernel_rfl) (by kernel_rfl) (by kernel_rfl) (fun _ _ _ h => h) (Or.inr ⟨by kernel_rfl, rfl⟩) hS2 (by kernel_rfl) rfl ?_
                  try simp only [Act.put, List.setIfInBounds_toArray, List.set_cons_zero, List.set_cons_succ]
                  refine takeH (i := 23) (v := .bool false) #[true, true, true, true, true, true, true, true, true, true, true, true, true, true, true, true, true, true, true, true, true, true, true, true, false] 73 rfl (by kernel_rfl) (by kernel_rfl) (by kernel_rfl) (fun _ _ _ h => h) (Or.inl ⟨by kernel_rfl, ?_⟩) hS2 (by kernel_rfl) rfl ?_
                  · (intro w' hSw; go_simp)
                  try simp only [Act.put, List.setIfInBounds_toArray, List.set_cons_zero, List.set_cons_succ]
                  refine takeH (i := 24) (v := .bool false) #[true, true, true, true, true, true, true, true, true, true, true, true, true, true, true, true, true, true, true, true, true, true, true, true, true] 74 rfl (by kernel_rfl) (by kernel_rfl) (by kernel_rfl) (fun _ _ _ h => h) (Or.inl ⟨by kernel_rfl, ?_⟩) hS2 (by kernel_rfl) rfl ?_
                  · (intro w' hSw; go_simp)
                  try simp only [Act.put, List.setIfInBounds_toArray, List.set_cons_zero, List.set_cons_succ]
                  have HBF : Hid (Below W.heap.size W w2) := HST2.out.old
                  refine wpAnyH_done (by kernel_rfl) ?_ _
                  obtain ⟨v0, v1, v2, v3, v4, z0, z1, z2, z3, z4⟩ := way_facts HST2.out.row
                  have hX2 : X < w2.heap.size := (Array.getElem?_eq_some_iff.1 HST2.out.row).1
                  have hcs := hS2.2
                  have hb2 : b < w2.heap.size := World.block_lt_of_cell? w2 _ hcs
                  clear HST hS hS2 B2
                  go_wp2_with fail
                  refine (HEL.out _).mono ?_
                  rintro e w3 ⟨e1, e2, b3⟩
                  have HST3 := hid (HST2.out.later b3)
                  cases hwh : Tr.whole s.data.toList with
                  | none =>
                    obtain rfl := e1 hwh
                    have hvs : Tr.vstep k2 (⟨yd, ybr, yv, yf, yn⟩ : Tr.Way) s.data.toList = none := by rw [HVD.out, hwh]
                    have HV6 : Hid (Tr.verify rt.data.toList key.data.toList (ss.map fun s => s.data.toList) = ([], false, 6)) := by rw [Hid, HV0.out, HINV.out, Tr.vloop_stop (hvs)]; rfl
                    clear e1 e2 b3 HST2 v0 v1 v2 v3 v4 z0 z1 z2 z3 z4 hwh hvs
                    go_wp2_with fail
                    refine bodyPost_ret (v := .tuple #[.string ⟨#[]⟩, .bool false, .int .i64 6]) (by simp [results, Tryz.results69, go_sem]) rfl ?_
                    exact verPost_of (v := []) (n := 6) HV6.out (HST3.out.old.alloc HST3.out.old.size _)
                  | some t =>
                    obtain ⟨ax, cx, rfl, hwt, hrep⟩ := e2 t hwh
                    cases hsd : Tr.sound t with
                    | false =>
                      have hvs : Tr.vstep k2 (⟨yd, ybr, yv, yf, yn⟩ : Tr.Way) s.data.toList = none := by rw [HVD.out, hwh]; simp [hsd]
                      have HV6 : Hid (Tr.verify rt.data.toList key.data.toList (ss.map fun s => s.data.toList) = ([], false, 6)) := by rw [Hid, HV0.out, HINV.out, Tr.vloop_stop (hvs)]; rfl
                      clear e1 e2 b3 HST2 v0 v1 v2 v3 v4 z0 z1 z2 z3 z4 hwh hvs hrep hwt
                      go_wp2_with fail
                      refine bodyPost_ret (v := .tuple #[.string ⟨#[]⟩, .bool false, .int .i64 6]) (by simp [results, Tryz.results69, go_sem]) rfl ?_
                      exact verPost_of (v := []) (n := 6) HV6.out (HST3.out.old.alloc HST3.out.old.size _)
                    | true =>
                      have hvs : Tr.vstep k2 (⟨yd, ybr, yv, yf, yn⟩ : Tr.Way) s.data.toList = Tr.goes t yd ybr := by rw [HVD.out, hwh]; simp [hsd]
                      have HVS := hid hvs
                      have HBA : Hid (Below w3.heap.size w3 (w3.alloc (.cells #[.bool t.list, .string ⟨t.bytes.toArray⟩, .slice ax t.items.length cx] 119))) := (Below.refl _ _).alloc (Nat.le_refl _) _
                      have HST4 := hid (HST3.out.later HBA.out)
                      have HGO := hid (goesR_any 1001 _ t _ X _ yd ybr (rep_later HBA.out hrep) hsd hwt (Nat.le_of_lt (Array.getElem?_eq_some_iff.1 HST4.out.row).1) HST4.out.dig HST4.out.lt HST4.out.len)
                      clear v0 v1 v2 v3 v4 z0 z1 z2 z3 z4
                      obtain ⟨v0, v1, v2, v3, v4, z0, z1, z2, z3, z4⟩ := way_facts HST3.out.row
                      have hX3 : X < w3.heap.size := (Array.getElem?_eq_some_iff.1 HST3.out.row).1
                      have hX3' : ¬ X = w3.heap.size := by omega
                      clear e1 e2 b3 HST2 hrep hwt hwh hvs hsd
                      go_wp2_with fail
                      refine HGO.out.mono ?_
                      rintro e w5 ⟨g1, g2, b5⟩
                      have HST5 := hid (HST4.out.later b5)
                      clear v0 v1 v2 v3 v4 z0 z1 z2 z3 z4
                      obtain ⟨v0, v1, v2, v3, v4, z0, z1, z2, z3, z4⟩ := way_facts HST5.out.row
                      cases hgo : Tr.goes t yd ybr with
                      | none =>
                        obtain rfl := g1 hgo
                        rw [hgo] at HVS
                        have HV6 : Hid (Tr.verify rt.data.toList key.data.toList (ss.map fun s => s.data.toList) = ([], false, 6)) := by rw [Hid, HV0.out, HINV.out, Tr.vloop_stop (HVS.out)]; rfl
                        clear g1 g2 b5 hgo HVS HGO HST4 HST3 HBA
                        go_wp2_with fail
                        refine bodyPost_ret (v := .tuple #[.string ⟨#[]⟩, .bool false, .int .i64 6]) (by simp [results, Tryz.results69, go_sem]) rfl ?_
                        exact verPost_of (v := []) (n := 6) HV6.out (set5_below HST5.out.old HST5.out.hX _ _ _ _ _)
                      | some y' =>
                        obtain ⟨ay, cy, rfl, hdy⟩ := g2 y' hgo
                        rw [hgo] at HVS
                        have hsub := Tr.goes_sub t yd ybr y' hgo
                        have HSTN : Hid (VerSt W X (ss.map fun s => s.data.toList) (⟨Tr.digits key.data.toList, false, [], false, rt.data.toList⟩ : Tr.Way) (k2 + 1) (set5 w5 X (.slice ay y'.digits.length cy) (.bool y'.branch) (.string ⟨y'.value.toArray⟩) (.bool y'.found) (.string ⟨y'.need.toArray⟩)) y' ay cy) := by
                          refine ⟨set5_row HST5.out.row _ _ _ _ _, hdy.frame (set5_below (Below.refl _ _) (Nat.le_refl _) _ _ _ _ _), ?_, fun c hc => HST5.out.lt c (hsub.1 c hc), Nat.le_trans hsub.2 HST5.out.len, set5_below HST5.out.old HST5.out.hX _ _ _ _ _, HST5.out.hX⟩
                          rw [HINV.out, Tr.vloop_go HVS.out]
                        clear g1 g2 b5 hgo HVS HGO HST4 HST3 HBA hdy hsub
                        go_wp2_with fail
                        exact ⟨⟨k2 + 1, y', ay, cy, by go_num, by omega, HSTN.out⟩, by simp [intOf]; omega⟩
              · have he2 : (E.toList == nd.toList) = false := bytes_list_ne (by rw [hEd, hNd]; exact hsm)
                have HV6 : Hid (Tr.verify rt.data.toList key.data.toList (ss.map fun s => s.data.toList) = ([], false, 6)) := by rw [Hid, HV0.out, HINV.out, Tr.vloop_stop (Tr.vstep_b hsm)]; rfl
                clear HINV hyn hsm hEd hNd hnd
                go_upto_region 16 with fail
                refine wp_region_held_drew (S := VfS X b (off + k2) nd s) (by kernel_rfl) hS (fun hHeld => ?_)
                refine takeH (i := 0) (v := .pointer (some ⟨X, 4, none⟩)) #[true, false, false, false, false, false, false, false, false, false, false, false, false, false, false, false, false, false, false, false, false, false, false, false, false] 50 rfl (by kernel_rfl) (by kernel_rfl) (by kernel_rfl) (fun _ _ _ h => h) (Or.inl ⟨by kernel_rfl, ?_⟩) hHeld (by kernel_rfl) rfl ?_
                · (intro w' hSw; go_simp)
                try simp only [Act.put, List.setIfInBounds_toArray, List.set_cons_zero, List.set_cons_succ]
                refine takeH (i := 1) (v := .string nd) #[true, true, false, false, false, false, false, false, false, false, false, false, false, false, false, false, false, false, false, false, false, false, false, false, false] 51 rfl (by kernel_rfl) (by kernel_rfl) (by kernel_rfl) (fun _ _ _ h => h) (Or.inl ⟨by kernel_rfl, ?_⟩) hHeld (by kernel_rfl) rfl ?_
                · (intro w' hSw; have q0 := hSw.1; go_simp)
                try simp only [Act.put, List.setIfInBounds_toArray, List.set_cons_zero, List.set_cons_succ]
                refine takeH (i := 2) (v := .bool false) #[true, true, true, false, false, false, false, false, false, false, false, false, false, false, false, false, false, false, false, false, false, false, false, false, false] 52 rfl (by kernel_rfl) (by kernel_rfl) (by kernel_rfl) (fun _ _ _ h => h) (Or.inl ⟨by kernel_rfl, ?_⟩) hHeld (by kernel_rfl) rfl ?_
                · (intro w' hSw; go_simp)
                try simp only [Act.put, List.setIfInBounds_toArray, List.set_cons_zero, List.set_cons_succ]
                refine takeH (i := 3) (v := .bool false) #[true, true, true, true, false, false, false, false, false, false, false, false, false, false, false, false, false, false, false, false, false, false, false, false, false] 53 rfl (by kernel_rfl) (by kernel_rfl) (by kernel_rfl) (fun _ _ _ h => h) (Or.inl ⟨by kernel_rfl, ?_⟩) hHeld (by kernel_rfl) rfl ?_
                · (intro w' hSw; go_simp)
                try simp only [Act.put, List.setIfInBounds_toArray, List.set_cons_zero, List.set_cons_succ]
                refine takeH (i := 4) (v := .slice (some ⟨b, off, none⟩) ss.length cap) #[true, true, true, true, true, false, false, false, false, false, false, false, false, false, false, false, false, false, false, false, false, false, false, false, false] 54 rfl (by kernel_rfl) (by kernel_rfl) (by kernel_rfl) (fun _ _ _ h => h) (Or.inl ⟨by kernel_rfl, ?_⟩) hHeld (by kernel_rfl) rfl ?_
                · (intro w' hSw; go_simp)
                try simp only [Act.put, List.setIfInBounds_toArray, List.set_cons_zero, List.set_cons_succ]
                refine takeH (i := 5) (v := .int .i64 k2) #[true, true, true, true, true, true, false, false, false, false, false, false, false, false, false, false, false, false, false, false, false, false, false, false, false] 55 rfl (by kernel_rfl) (by kernel_rfl) (by kernel_rfl) (fun _ _ _ h => h) (Or.inl ⟨by kernel_rfl, ?_⟩) hHeld (by kernel_rfl) rfl ?_
                · (intro w' hSw; go_simp)
                try simp only [Act.put, List.setIfInBounds_toArray, List.set_cons_zero, List.set_cons_succ]
                refine takeH (i := 6) (v := .pointer (some ⟨b, off + k2, none⟩)) #[true, true, true, true, true, true, true, false, false, false, false, false, false, false, false, false, false, false, false, false, false, false, false, false, false] 56 rfl (by kernel_rfl) (by kernel_rfl) (by kernel_rfl) (fun _ _ _ h => h) (Or.inl ⟨by kernel_rfl, ?_⟩) hHeld (by kernel_rfl) rfl ?_
                · (intro w' hSw; go_simp)
                try simp only [Act.put, List.setIfInBounds_toArray, List.set_cons_zero, List.set_cons_succ]
                refine takeH (i := 7) (v := .string s) #[true, true, true, true, true, true, true, true, false, false, false, false, false, false, false, false, false, false, false, false, false, false, false, false, false] 57 rfl (by kernel_rfl) (by kernel_rfl) (by kernel_rfl) (fun _ _ _ h => h) (Or.inl ⟨by kernel_rfl, ?_⟩) hHeld (by kernel_rfl) rfl ?_
                · (intro w' hSw; have q0 := hSw.2; go_simp)
                try simp only [Act.put, List.setIfInBounds_toArray, List.set_cons_zero, List.set_cons_succ]
                refine takeH (i := 9) (v := .pointer (some ⟨X, 4, none⟩)) #[true, true, true, true, true, true, true, true, false, true, false, false, false, false, false, false, false, false, false, false, false, false, false, false, false] 59 rfl (by kernel_rfl) (by kernel_rfl) (by kernel_rfl) (fun _ _ _ h => h) (Or.inl ⟨by kernel_rfl, ?_⟩) hHeld (by kernel_rfl) rfl ?_
                · (intro w' hSw; go_simp)
                try simp only [Act.put, List.setIfInBounds_toArray, List.set_cons_zero, List.set_cons_succ]
                refine takeH (i := 10) (v := .string nd) #[true, true, true, true, true, true, true, true, false, true, true, false, false, false, false, false, false, false, false, false, false, false, false, false, false] 60 rfl (by kernel_rfl) (by kernel_rfl) (by kernel_rfl) (fun _ _ _ h => h) (Or.inl ⟨by kernel_rfl, ?_⟩) hHeld (by kernel_rfl) rfl ?_
                · (intro w' hSw; have q0 := hSw.1; go_simp)
                try simp only [Act.put, List.setIfInBounds_toArray, List.set_cons_zero, List.set_cons_succ]
                refine wpAnyH_ready (rs := [8]) (by kernel_rfl) (by simp) ?_
                refine AllReadyH.cons rfl (fun K hK => ?_) AllReadyH.nil
                go_simp
                refine (HSUM.out _).mono ?_
                rintro e w2 ⟨rfl, b2⟩
                rw [← HE.out]
                have B2 : Hid (Below wr.heap.size wr w2) := below_undrew b2
                have hS2 := vfS_later hS B2.out
                have HST2 := hid (HST.out.later B2.out)
                clear b2 hHeld
                refine hK.out _ _ hS2 (fun _ => ?_)
                clear hK K
                try simp only [List.setIfInBounds_toArray, List.set_cons_zero, List.set_cons_succ]
                refine takeH (i := 11) (v := .bool true) #[true, true, true, true, true, true, true, true, true, true, true, true, false, false, false, false, false, false, false, false, false, false, false, false, false] 61 rfl (by kernel_rfl) (by kernel_rfl) (by kernel_rfl) (fun _ _ _ h => h) (Or.inl ⟨by kernel_rfl, ?_⟩) hS2 (by kernel_rfl) rfl ?_
                · (intro w' hSw; go_simp)
                try simp only [Act.put, List.setIfInBounds_toArray, List.set_cons_zero, List.set_cons_succ]
                refine takeH (i := 12) (v := .bool true) #[true, true, true, true, true, true, true, true, true, true, true, true, true, false, false, false, false, false, false, false, false, false, false, false, false] 62 rfl (by kernel_rfl) (by kernel_rfl) (by kernel_rfl) (fun _ _ _ h => h) (Or.inl ⟨by kernel_rfl, ?_⟩) hS2 (by kernel_rfl) rfl ?_
                · (intro w' hSw; go_simp)
                try simp only [Act.put, List.setIfInBounds_toArray, List.set_cons_zero, List.set_cons_succ]
                refine takeH (i := 13) (v := .bool true) #[true, true, true, true, true, true, true, true, true, true, true, true, true, true, false, false, false, false, false, false, false, false, false, false, false] 63 rfl (by kernel_rfl) (by kernel_rfl) (by kernel_rfl) (fun _ _ _ h => h) (Or.inl ⟨by kernel_rfl, ?_⟩) hS2 (by kernel_rfl) rfl ?_
                · (intro w' hSw; go_simp)
                try simp only [Act.put, List.setIfInBounds_toArray, List.set_cons_zero, List.set_cons_succ]
                refine takeH (i := 14) (v := undef) #[true, true, true, true, true, true, true, true, true, true, true, true, true, true, true, false, false, false, false, false, false, false, false, false, false] 64 rfl (by kernel_rfl) (by kernel_rfl) (by kernel_rfl) (fun _ _ _ h => h) (Or.inr ⟨by kernel_rfl, rfl⟩) hS2 (by kernel_rfl) rfl ?_
                try simp only [Act.put, List.setIfInBounds_toArray, List.set_cons_zero, List.set_cons_succ]
                refine takeH (i := 15) (v := undef) #[true, true, true, true, true, true, true, true, true, true, true, true, true, true, true, true, false, false, false, false, false, false, false, false, false] 65 rfl (by kernel_rfl) (by kernel_rfl) (by kernel_rfl) (fun _ _ _ h => h) (Or.inr ⟨by kernel_rfl, rfl⟩) hS2 (by kernel_rfl) rfl ?_
                try simp only [Act.put, List.setIfInBounds_toArray, List.set_cons_zero, List.set_cons_succ]
                refine takeH (i := 16) (v := undef) #[true, true, true, true, true, true, true, true, true, true, true, true, true, true, true, true, true, false, false, false, false, false, false, false, false] 66 rfl (by kernel_rfl) (by kernel_rfl) (by kernel_rfl) (fun _ _ _ h => h) (Or.inr ⟨by kernel_rfl, rfl⟩) hS2 (by kernel_rfl) rfl ?_
                try simp only [Act.put, List.setIfInBounds_toArray, List.set_cons_zero, List.set_cons_succ]
                refine takeH (i := 17) (v := undef) #[true, true, true, true, true, true, true, true, true, true, true, true, true, true, true, true, true, true, false, false, false, false, false, false, false] 67 rfl (by kernel_rfl) (by kernel_rfl) (by kernel_rfl) (fun _ _ _ h => h) (Or.inr ⟨by kernel_rfl, rfl⟩) hS2 (by kernel_rfl) rfl ?_
                try simp only [Act.put, List.setIfInBounds_toArray, List.set_cons_zero, List.set_cons_succ]
                refine takeH (i := 18) (v := undef) #[true, true, true, true, true, true, true, true, true, true, true, true, true, true, true, true, true, true, true, false, false, false, false, false, false] 68 rfl (by kernel_rfl) (by kernel_rfl) (by kernel_rfl) (fun _ _ _ h => h) (Or.inr ⟨by kernel_rfl, rfl⟩) hS2 (by kernel_rfl) rfl ?_
                try simp only [Act.put, List.setIfInBounds_toArray, List.set_cons_zero, List.set_cons_succ]
                refine takeH (i := 19) (v := undef) #[true, true, true, true, true, true, true, true, true, true, true, true, true, true, true, true, true, true, true, true, false, false, false, false, false] 69 rfl (by kernel_rfl) (by kernel_rfl) (by kernel_rfl) (fun _ _ _ h => h) (Or.inr ⟨by kernel_rfl, rfl⟩) hS2 (by kernel_rfl) rfl ?_
                try simp only [Act.put, List.setIfInBounds_toArray, List.set_cons_zero, List.set_cons_succ]
                refine takeH (i := 20) (v := undef) #[true, true, true, true, true, true, true, true, true, true, true, true, true, true, true, true, true, true, true, true, true, false, false, false, false] 70 rfl (by kernel_rfl) (by kernel_rfl) (by kernel_rfl) (fun _ _ _ h => h) (Or.inr ⟨by kernel_rfl, rfl⟩) hS2 (by kernel_rfl) rfl ?_
                try simp only [Act.put, List.setIfInBounds_toArray, List.set_cons_zero, List.set_cons_succ]
                refine takeH (i := 21) (v := undef) #[true, true, true, true, true, true, true, true, true, true, true, true, true, true, true, true, true, true, true, true, true, true, false, false, false] 71 rfl (by kernel_rfl) (by kernel_rfl) (by kernel_rfl) (fun _ _ _ h => h) (Or.inr ⟨by kernel_rfl, rfl⟩) hS2 (by kernel_rfl) rfl ?_
                try simp only [Act.put, List.setIfInBounds_toArray, List.set_cons_zero, List.set_cons_succ]
                refine takeH (i := 22) (v := undef) #[true, true, true, true, true, true, true, true, true, true, true, true, true, true, true, true, true, true, true, true, true, true, true, false, false] 72 rfl (by kernel_rfl) (by kernel_rfl) (by kernel_rfl) (fun _ _ _ h => h) (Or.inr ⟨by kernel_rfl, rfl⟩) hS2 (by kernel_rfl) rfl ?_
                try simp only [Act.put, List.setIfInBounds_toArray, List.set_cons_zero, List.set_cons_succ]
                refine takeH (i := 23) (v := undef) #[true, true, true, true, true, true, true, true, true, true, true, true, true, true, true, true, true, true, true, true, true, true, true, true, false] 73 rfl (by kernel_rfl) (by kernel_rfl) (by kernel_rfl) (fun _ _ _ h => h) (Or.inr ⟨by kernel_rfl, rfl⟩) hS2 (by kernel_rfl) rfl ?_
                try simp only [Act.put, List.setIfInBounds_toArray, List.set_cons_zero, List.set_cons_succ]
                refine takeH (i := 24) (v := .bool true) #[true, true, true, true, true, true, true, true, true, true, true, true, true, true, true, true, true, true, true, true, true, true, true, true, true] 74 rfl (by kernel_rfl) (by kernel_rfl) (by kernel_rfl) (fun _ _ _ h => h) (Or.inl ⟨by kernel_rfl, ?_⟩) hS2 (by kernel_rfl) rfl ?_
                · (intro w' hSw; go_simp)
                try simp only [Act.put, List.setIfInBounds_toArray, List.set_cons_zero, List.set_cons_succ]
                have HBF : Hid (Below W.heap.size W w2) := HST2.out.old
                refine wpAnyH_done (by kernel_rfl) ?_ _
                clear HST hS
                clear HST2 hS2
                go_wp2_with fail
                refine bodyPost_ret (v := .tuple #[.string ⟨#[]⟩, .bool false, .int .i64 6]) (by simp [results, Tryz.results69, go_sem]) rfl ?_
                exact verPost_of (v := []) (n := 6) HV6.out (HBF.out)
          · obtain ⟨yd, ybr, yv, yf, yn⟩ := y
            have j2 : ¬ (k2 : Int) < (ss.length : Int) := by omega
            have HVE : Hid (Tr.verify rt.data.toList key.data.toList (ss.map fun s => s.data.toList) = Tr.verEnd (some (⟨yd, ybr, yv, yf, yn⟩ : Tr.Way))) := by rw [Hid, HV0.out, HST.out.inv, List.drop_eq_nil_of_le (by rw [List.length_map]; omega)]; rfl
            have hbz : ss.length ≤ 8796093022208 := HN.out
            obtain ⟨nd, hnd⟩ : ∃ nd : ByteArray, nd = ⟨yn.toArray⟩ := ⟨_, rfl⟩
            obtain ⟨vd, hvd⟩ : ∃ vd : ByteArray, vd = ⟨yv.toArray⟩ := ⟨_, rfl⟩
            obtain ⟨v0, v1, v2, v3, v4, _⟩ := way_facts HST.out.row
            dsimp only at v0 v1 v2 v3 v4
            rw [← hnd] at v4
            rw [← hvd] at v2
            have HVDD := hid hvd
            have HB := hid HST.out.old
            clear hX HBG HB0 HSZ HST0 HST hvd
            by_cases hyn : yn = []
            · have he1 : nd.toList.isEmpty = true := by
                rw [ByteArray.toList_eq, hnd, hyn]
                rfl
              have HV : Hid (Tr.verify rt.data.toList key.data.toList (ss.map fun s => s.data.toList) = (yv, yf, 0)) := HVE.out.trans (if_pos hyn)
              clear hyn hnd HVE
              go_wp2_with fail
              go_quiet (fail)
              go_wp2_with fail
              refine bodyPost_ret (v := .tuple #[.string vd, .bool yf, .int .i64 0]) (by simp [results, Tryz.results69, go_sem]) rfl ?_
              rw [HVDD.out]
              exact verPost_of HV.out (below_drewN _ HB.out)
            · have he1 : nd.toList.isEmpty = false := by
                rw [ByteArray.toList_eq, hnd]
                cases yn with
                | nil => exact absurd rfl hyn
                | cons c r => rfl
              have HV6 : Hid (Tr.verify rt.data.toList key.data.toList (ss.map fun s => s.data.toList) = ([], false, 6)) := HVE.out.trans (if_neg hyn)
              clear hyn hnd HVE
              go_wp2_with fail
              refine bodyPost_ret (v := .tuple #[.string ⟨#[]⟩, .bool false, .int .i64 6]) (by simp [results, Tryz.results69, go_sem]) rfl ?_
              exact verPost_of (v := []) (n := 6) HV6.out HB.out
      · have HV2 : Hid (Tr.verify rt.data.toList key.data.toList (ss.map fun s => s.data.toList) = ([], false, 2)) := by
          rw [Hid]; unfold Tr.verify
          rw [if_neg (by rw [ba_len]; have := H8.out; omega), if_neg (by rw [ba_len]; exact H6.out), if_pos (HBG.out.1 (by rw [← hke]; exact hbig))]
        clear HBG HB0 hbig
        go_wp2_with fail
        refine bodyPost_ret (v := .tuple #[.string ⟨#[]⟩, .bool false, .int .i64 2]) (by simp [results, Tryz.results69, go_sem]) rfl ?_
        exact verPost_of (v := []) (n := 2) HV2.out (Below.refl _ _)

theorem refVerify_any (hr : SRd W.heap.size W a ss) (hn : ss.length ≤ 8796093022208) : Calls Tryz.prog 69 #[.string rt, .string key, .slice a ss.length cap] W (VerPost rt key ss W) := by
  by_cases h : rt.size = 8
  · by_cases h2 : 6 < key.size
    · exact verify_key W rt key a cap ss h h2
    · exact verify_rest W rt key a cap ss hr hn h h2
  · exact verify_root W rt key a cap ss h
end
end Go.Proofs.YtbmohenjphmlgaaGreat
