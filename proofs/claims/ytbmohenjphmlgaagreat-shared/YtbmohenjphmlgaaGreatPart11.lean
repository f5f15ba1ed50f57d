/- Part 11 of a proof: what the last text needs. -/
import Derived.Test.YtbmohenjphmlgaaGreatPart10
import Derived.Test.YtbmohenjphmlgaaGreatPart4
import Derived.BigQuiet
/- The walks of isSum, readValue, leadsNowhere, readPath (of the program). -/
namespace Go.Proofs.YtbmohenjphmlgaaGreat
open Go.RowKit
set_option maxRecDepth 100000

theorem isSumP_any (l : Bool) (s : ByteArray) (x : Option Addr) (n cap : Nat) (w : World) : Calls Tryz.prog 163 #[.agg #[.bool l, .string s, .slice x n cap]] w fun e w' => e = .returned (.bool (!l && decide (s.size = 8))) ∧ Below w.heap.size w w' := by
  cases l with
  | true =>
    go_enter Tryz.func163, Tryz.ntmps163
    go_wp2_with fail
    go_ret
    exact ⟨rfl, (Below.refl _ _).alloc (Nat.le_refl _) _⟩
  | false =>
    have e : ((s.size : Int) == 8) = decide (s.size = 8) := by
      rw [Bool.eq_iff_iff, beq_iff_eq, decide_eq_true_eq]; omega
    go_enter Tryz.func163, Tryz.ntmps163
    go_wp2_with fail
    go_ret
    exact ⟨by first | rfl | (rw [← e]; rfl), (Below.refl _ _).alloc (Nat.le_refl _) _⟩

theorem readValue_any (l : Bool) (s : ByteArray) (x : Option Addr) (n cap : Nat) (w : World) : Calls Tryz.prog 162 #[.agg #[.bool l, .string s, .slice x n cap]] w fun e w' => e = .returned (.tuple #[.string s, .bool (!l && decide (s.size ≤ 40))]) ∧ Below w.heap.size w w' := by
  cases l with
  | true =>
    go_enter Tryz.func162, Tryz.ntmps162
    go_wp2_with fail
    go_quiet (fail)
    go_wp2_with fail
    go_ret2
    exact ⟨rfl, below_drewN ((Below.refl _ _).alloc (Nat.le_refl _) _) _⟩
  | false =>
    have e : decide ((s.size : Int) ≤ 40) = decide (s.size ≤ 40) := by
      rw [Bool.eq_iff_iff, decide_eq_true_eq, decide_eq_true_eq]; omega
    go_enter Tryz.func162, Tryz.ntmps162
    go_wp2_with fail
    go_quiet (fail)
    go_wp2_with fail
    go_ret2
    exact ⟨by first | rfl | (rw [← e]; rfl), below_drewN ((Below.refl _ _).alloc (Nat.le_refl _) _) _⟩

/-- A reference by a sum leads somewhere. -/
theorem leads_sum (s : ByteArray) (n : Value) (hn : IsNode n) (w : World) (hs : 0 < s.size) : Calls Tryz.prog 161 #[.agg #[.string s, n]] w fun e w' => e = .returned (.bool false) ∧ Below w.heap.size w w' := by
  have he : s.toList.isEmpty = false := by
    rw [ByteArray.toList_eq, List.isEmpty_eq_false_iff]
    intro e
    have := ba_len s
    rw [e] at this
    simp at this
    omega
  clear hs
  rcases hn with rfl | ⟨T, y, rfl⟩
  all_goals
    go_enter Tryz.func161, Tryz.ntmps161
    go_wp2_with fail
    go_ret
    exact ⟨rfl, (Below.refl _ _).alloc (Nat.le_refl _) _⟩

/-- A node that stands here itself leads nowhere if it is empty. -/
theorem leads_node {v : Value} {k : Nat} {l : Bool} {s : ByteArray} {a : Option Addr} {n cap : Nat} (w : World) (h : Nd v k l s a n cap) : Calls Tryz.prog 161 #[.agg #[.string ⟨#[]⟩, v]] w fun e w' => e = .returned (.bool (decide (k = 0))) ∧ Below w.heap.size w w' := by
  have HK := hid (fun k a n cap l s w => commonKind_any k a n cap l s w)
  obtain ⟨T, A, rfl, _, _, hm, _⟩ := nd_call h
  clear h
  have e : ((k : Int) == 0) = decide (k = 0) := by
    rw [Bool.eq_iff_iff, beq_iff_eq, decide_eq_true_eq]; omega
  go_enter Tryz.func161, Tryz.ntmps161
  go_wp2_with fail
  refine (HK.out _ _ _ _ _ _ _).mono ?_
  rintro e w2 ⟨rfl, b2⟩
  have HB : Hid (Below w.heap.size w w2) := ((Below.refl _ _).alloc (Nat.le_refl _) _).trans (b2.mono (by simp))
  clear b2
  go_wp2_with fail
  go_ret
  exact ⟨by first | rfl | (rw [← e]; rfl), HB.out⟩

theorem readPath_nil (w : World) : Calls Tryz.prog 150 #[.string ⟨#[]⟩] w fun e w' => e = .returned (.tuple #[.string ⟨#[]⟩, .bool false, .bool false]) ∧ Below w.heap.size w w' := by
  have HD := hid (fun w => digitsOf_any ⟨#[]⟩ w (by decide))
  have HE : Hid ((⟨(Tr.digits (⟨#[]⟩ : ByteArray).data.toList).toArray⟩ : ByteArray) = ⟨#[]⟩) := rfl
  go_enter Tryz.func150, Tryz.ntmps150
  go_wp2_with fail
  refine (HD.out _).mono ?_
  rintro e w1 ⟨rfl, b1⟩
  rw [HE.out]
  have HB := hid b1
  clear b1
  go_wp2_with fail
  exact bodyPost_ret (v := .tuple #[.string ⟨#[]⟩, .bool false, .bool false]) (by simp [results, Tryz.results150, go_sem]) rfl ⟨rfl, HB.out⟩

/-- What of digits is looked at. -/
theorem readPath_big (s D : ByteArray) (hi : UInt8) (h : D = ⟨(Tr.digits s.data.toList).toArray⟩) (hs : s.size ≤ 100000000) (hd : 1 < D.size) (h0 : ∀ h : 0 < D.size, D[0] = hi) (hb : 3 < hi.toNat) (w : World) :
    Calls Tryz.prog 150 #[.string s] w fun e w' => e = .returned (.tuple #[.string ⟨#[]⟩, .bool false, .bool false]) ∧ Below w.heap.size w w' := by
  have HD := hid (fun w => digitsOf_any s w hs)
  rw [← h] at HD
  have he : D.toList.isEmpty = false := by
    rw [ByteArray.toList_eq, List.isEmpty_eq_false_iff]
    intro e
    have := ba_len D
    rw [e] at this
    simp at this
    omega
  have i0 : 0 < D.size := by omega
  have i3 : (3 : Int) < (hi.toNat : Int) := by omega
  clear h hs hd hb
  go_enter Tryz.func150, Tryz.ntmps150
  go_wp2_with fail
  refine (HD.out _).mono ?_
  rintro e w1 ⟨rfl, b1⟩
  have HB := hid b1
  clear b1
  go_wp2_with fail
  exact bodyPost_ret (v := .tuple #[.string ⟨#[]⟩, .bool false, .bool false]) (by simp [results, Tryz.results150, go_sem]) rfl ⟨rfl, HB.out⟩

theorem readPath_odd (s D : ByteArray) (hi : UInt8) (h : D = ⟨(Tr.digits s.data.toList).toArray⟩) (hs : s.size ≤ 100000000) (hd : 1 < D.size) (h0 : ∀ h : 0 < D.size, D[0] = hi) (hb : hi = 1 ∨ hi = 3) (w : World) :
    Calls Tryz.prog 150 #[.string s] w fun e w' => e = .returned (.tuple #[.string (D.extract 1 D.size), .bool (decide (hi = 3)), .bool true]) ∧ Below w.heap.size w w' := by
  have HD := hid (fun w => digitsOf_any s w hs)
  rw [← h] at HD
  have he : D.toList.isEmpty = false := by
    rw [ByteArray.toList_eq, List.isEmpty_eq_false_iff]
    intro e
    have := ba_len D
    rw [e] at this
    simp at this
    omega
  have i0 : 0 < D.size := by omega
  have i1 : (1 : Int) ≤ (D.size : Int) := by omega
  clear h hs hd
  have q1 : bits .and .u8 1 2 = 0 := by decide
  have q2 : bits .and .u8 3 2 = 2 := by decide
  have q3 : bits .and .u8 1 1 = 1 := by decide
  have q4 : bits .and .u8 3 1 = 1 := by decide
  rcases hb with rfl | rfl
  all_goals
    go_enter Tryz.func150, Tryz.ntmps150
    go_wp2_with fail
    refine (HD.out _).mono ?_
    rintro e w1 ⟨rfl, b1⟩
    have HB := hid b1
    clear b1
    go_wp2_with fail
  · exact bodyPost_ret (v := .tuple #[.string (D.extract 1 D.size), .bool false, .bool true]) (by simp [results, Tryz.results150, go_sem]) rfl ⟨rfl, HB.out⟩
  · exact bodyPost_ret (v := .tuple #[.string (D.extract 1 D.size), .bool true, .bool true]) (by simp [results, Tryz.results150, go_sem]) rfl ⟨rfl, HB.out⟩

theorem readPath_even (s D : ByteArray) (hi lo : UInt8) (h : D = ⟨(Tr.digits s.data.toList).toArray⟩) (hs : s.size ≤ 100000000) (hd : 1 < D.size) (h0 : ∀ h : 0 < D.size, D[0] = hi) (h1 : ∀ h : 1 < D.size, D[1] = lo) (hb : hi = 0 ∨ hi = 2) (w : World) :
    Calls Tryz.prog 150 #[.string s] w fun e w' => e = .returned (.tuple #[.string (D.extract 2 D.size), .bool (decide (hi = 2)), .bool (decide (lo.toNat = 0))]) ∧ Below w.heap.size w w' := by
  have HD := hid (fun w => digitsOf_any s w hs)
  rw [← h] at HD
  have he : D.toList.isEmpty = false := by
    rw [ByteArray.toList_eq, List.isEmpty_eq_false_iff]
    intro e
    have := ba_len D
    rw [e] at this
    simp at this
    omega
  have i0 : 0 < D.size := by omega
  have i1 : 1 < D.size := by omega
  have i2 : (2 : Int) ≤ (D.size : Int) := by omega
  have HLO : Hid (((lo.toNat : Int) == 0) = decide (lo.toNat = 0)) := by
    rw [Hid, Bool.eq_iff_iff, beq_iff_eq, decide_eq_true_eq]; omega
  clear h hs hd
  have q1 : bits .and .u8 0 2 = 0 := by decide
  have q2 : bits .and .u8 2 2 = 2 := by decide
  have q3 : bits .and .u8 0 1 = 0 := by decide
  have q4 : bits .and .u8 2 1 = 0 := by decide
  rcases hb with rfl | rfl
  all_goals
    go_enter Tryz.func150, Tryz.ntmps150
    go_wp2_with fail
    refine (HD.out _).mono ?_
    rintro e w1 ⟨rfl, b1⟩
    have HB := hid b1
    clear b1
    go_wp2_with fail
    go_quiet (fail)
    go_wp2_with fail
  · exact bodyPost_ret (v := .tuple #[.string (D.extract 2 D.size), .bool false, .bool ((lo.toNat : Int) == 0)]) (by simp [results, Tryz.results150, go_sem]) rfl ⟨by rw [HLO.out]; rfl, below_drewN HB.out _⟩
  · exact bodyPost_ret (v := .tuple #[.string (D.extract 2 D.size), .bool true, .bool ((lo.toNat : Int) == 0)]) (by simp [results, Tryz.results150, go_sem]) rfl ⟨by rw [HLO.out]; rfl, below_drewN HB.out _⟩
end Go.Proofs.YtbmohenjphmlgaaGreat

/- The walk of readPath (of the program), by the document's words; of readLeaf and readExtension. -/
namespace Go.Proofs.YtbmohenjphmlgaaGreat
open Go.RowKit
set_option maxRecDepth 100000

theorem ba_mk {s : ByteArray} {l : List UInt8} (h : s.data.toList = l) : s = ⟨l.toArray⟩ := by
  cases s
  rw [← h]

theorem ba_drop (D : ByteArray) (k : Nat) : D.extract k D.size = ⟨(D.data.toList.drop k).toArray⟩ := ba_mk (Lib.extract_to_end ..)

/-- What readPath tells, in the document's words. -/
def PathPost (s : ByteArray) (w : World) (e : Ending) (w' : World) : Prop :=
  ((Tr.unpath (Tr.itB s.data.toList) = none ∧ ∃ d m, e = .returned (.tuple #[.string d, .bool m, .bool false])) ∨ ∃ p leaf, Tr.unpath (Tr.itB s.data.toList) = some (p, leaf) ∧ e = .returned (.tuple #[.string ⟨p.toArray⟩, .bool leaf, .bool true])) ∧ Below w.heap.size w w'

theorem readPath_any (s : ByteArray) (hs : s.size ≤ 100000000) (w : World) : Calls Tryz.prog 150 #[.string s] w (PathPost s w) := by
  cases hl : s.data.toList with
  | nil =>
    have : s = ⟨#[]⟩ := ba_mk hl
    subst this
    refine (readPath_nil w).mono ?_
    rintro e w' ⟨rfl, b⟩
    exact ⟨.inl ⟨rfl, _, _, rfl⟩, b⟩
  | cons b r =>
    obtain ⟨D, hD⟩ : ∃ D : ByteArray, D = ⟨(Tr.digits s.data.toList).toArray⟩ := ⟨_, rfl⟩
    have hDl : D.data.toList = UInt8.ofNat (b.toNat / 16) :: UInt8.ofNat (b.toNat % 16) :: Tr.digits r := by rw [hD, hl, Tr.digits_cons]
    have hb := b.toNat_lt
    have hsz : 1 < D.size := by rw [← ba_len, hDl]; simp
    have n0 : (UInt8.ofNat (b.toNat / 16)).toNat = b.toNat / 16 := by rw [UInt8.toNat_ofNat']; omega
    have n1 : (UInt8.ofNat (b.toNat % 16)).toNat = b.toNat % 16 := by rw [UInt8.toNat_ofNat']; omega
    have g0 : ∀ h : 0 < D.size, D[0] = UInt8.ofNat (b.toNat / 16) := fun h => by
      have e : D.data.toList[0]? = some (UInt8.ofNat (b.toNat / 16)) := by rw [hDl]; rfl
      rw [Array.getElem?_toList] at e
      exact (Array.getElem?_eq_some_iff.1 e).2
    have g1 : ∀ h : 1 < D.size, D[1] = UInt8.ofNat (b.toNat % 16) := fun h => by
      have e : D.data.toList[1]? = some (UInt8.ofNat (b.toNat % 16)) := by rw [hDl]; rfl
      rw [Array.getElem?_toList] at e
      exact (Array.getElem?_eq_some_iff.1 e).2
    have un : Tr.unpath (Tr.itB (b :: r)) = if decide (64 ≤ b.toNat) then none else if decide (b.toNat / 16 % 2 ≠ 1) && decide (b.toNat % 16 ≠ 0) then none else some ((if b.toNat / 16 % 2 = 1 then [UInt8.ofNat (b.toNat % 16)] else []) ++ Tr.digits r, decide (32 ≤ b.toNat)) := by
      unfold Tr.unpath Tr.itB
      simp
    by_cases h64 : 64 ≤ b.toNat
    · refine (readPath_big s D _ hD hs hsz g0 (by rw [n0]; omega) w).mono ?_
      rintro e w' ⟨rfl, bb⟩
      refine ⟨.inl ⟨?_, _, _, rfl⟩, bb⟩
      rw [hl, un, decide_eq_true h64, if_pos rfl]
    · rw [decide_eq_false h64, if_neg (by simp)] at un
      by_cases hodd : b.toNat / 16 % 2 = 1
      · rw [if_neg (by simp [hodd]), if_pos hodd] at un
        have hcase : UInt8.ofNat (b.toNat / 16) = 1 ∨ UInt8.ofNat (b.toNat / 16) = 3 := by
          have : b.toNat / 16 = 1 ∨ b.toNat / 16 = 3 := by omega
          rcases this with h | h <;> rw [h]
          · left; rfl
          · right; rfl
        refine (readPath_odd s D _ hD hs hsz g0 hcase w).mono ?_
        rintro e w' ⟨rfl, bb⟩
        refine ⟨.inr ⟨_, _, by rw [hl]; exact un, ?_⟩, bb⟩
        rw [ba_drop, hDl]
        have : decide (UInt8.ofNat (b.toNat / 16) = 3) = decide (32 ≤ b.toNat) := by
          rw [Bool.eq_iff_iff, decide_eq_true_eq, decide_eq_true_eq]
          constructor
          · intro h
            have := congrArg UInt8.toNat h
            rw [n0] at this
            have h3 : (3 : UInt8).toNat = 3 := rfl
            omega
          · intro h
            rcases hcase with h' | h'
            · have := congrArg UInt8.toNat h'
              rw [n0] at this
              have h1 : (1 : UInt8).toNat = 1 := rfl
              omega
            · exact h'
        rw [this]
        rfl
      · rw [if_neg hodd] at un
        have hcase : UInt8.ofNat (b.toNat / 16) = 0 ∨ UInt8.ofNat (b.toNat / 16) = 2 := by
          have : b.toNat / 16 = 0 ∨ b.toNat / 16 = 2 := by omega
          rcases this with h | h <;> rw [h]
          · left; rfl
          · right; rfl
        refine (readPath_even s D _ _ hD hs hsz g0 g1 hcase w).mono ?_
        rintro e w' ⟨rfl, bb⟩
        rw [n1]
        by_cases hz : b.toNat % 16 = 0
        · rw [decide_eq_true hz]
          rw [if_neg (by simp [hz])] at un
          refine ⟨.inr ⟨_, _, by rw [hl]; exact un, ?_⟩, bb⟩
          rw [ba_drop, hDl]
          have : decide (UInt8.ofNat (b.toNat / 16) = 2) = decide (32 ≤ b.toNat) := by
            rw [Bool.eq_iff_iff, decide_eq_true_eq, decide_eq_true_eq]
            constructor
            · intro h
              have := congrArg UInt8.toNat h
              rw [n0] at this
              have h3 : (2 : UInt8).toNat = 2 := rfl
              omega
            · intro h
              rcases hcase with h' | h'
              · have := congrArg UInt8.toNat h'
                rw [n0] at this
                have h1 : (0 : UInt8).toNat = 0 := rfl
                omega
              · exact h'
          rw [this]
          rfl
        · rw [decide_eq_false hz]
          rw [if_pos (by simp [hz, hodd])] at un
          exact ⟨.inl ⟨by rw [hl]; exact un, _, _, rfl⟩, bb⟩
end Go.Proofs.YtbmohenjphmlgaaGreat

/- The walk of newExtension (of the program). -/
namespace Go.Proofs.YtbmohenjphmlgaaGreat
open Go.RowKit
set_option maxRecDepth 100000

theorem exec_load_row {P : Program} {o : Oper} {ρ : Operand → Value} {w : World} (ty : TypeId) (x : Operand) (ho : o.op = .load ty x)
    (g : Nat) (hx : ρ x = .pointer (some ⟨g, 0, none⟩)) (t : TypeId) (cs : Array Value) (fr : Nat × Nat) (d : TypeDesc) (hg : w.heap[g]? = some (.cells cs t fr))
    (hu : P.underlying ty = some d) (hd : (match d with | .struct _ | .array _ _ => true | _ => false) = true) (hi : (P.info? ty).map (·.size) = some cs.size) : Sem.run P (execOp ρ o) w = .ok (.value (.agg cs)) w := by
  unfold execOp
  simp only [ho, hx, Instr.loadAt, Instr.sureAddr, Sem.run_bind, Sem.run_pure, Result.andThen_ok, run_loadVar_row w g t ty cs fr d hg hu hd hi]

/-- What a step of a region leaves: a reference in block g. -/
theorem two_set {W : World} {g : Nat} {x0 x1 a b : Value} {e : TypeId} {fz : Nat × Nat} (h : W.heap[g]? = some (.cells #[x0, x1] e fz)) : ((W.setCell ⟨g, 0, none⟩ a).setCell ⟨g, 1, none⟩ b).heap[g]? = some (.cells #[a, b] e fz) := by
  simp [World.setCell, Array.getElem?_modify, h]

theorem ext_end {w F : World} {r m : Nat} {t : Itm} {b : Bool} {s' : ByteArray} {a : Option Addr} {n cap : Nat} (p : List UInt8) (d y : Value) (hf : t.items = []) (hr : Rep w.heap.size w (m + 1) (.agg #[.bool b, .string s', .slice a n cap]) t) (hb : Below w.heap.size w F)
    (hrow : F.heap[r]? = some (.cells #[.bool false, .string ⟨p.toArray⟩, .slice none 0 0, .bool b, .string s', .slice a n cap] 119 (0, 0))) (hle : w.heap.size ≤ r) {x : Value} :
    ∃ a' cap', Ending.returned (.iface 176 (.agg #[.int .i64 2, .bool true, .string ⟨#[]⟩, .slice (some ⟨r, 0, none⟩) 2 2, d, x, y])) = .returned (.iface 176 (.agg #[.int .i64 2, .bool true, .string ⟨#[]⟩, .slice a' 2 cap', d, x, y])) ∧
      RepW w.heap.size F.heap.size F (m + 2) (.agg #[.bool true, .string ⟨#[]⟩, .slice a' 2 cap']) (Tr.itL [Tr.itB p, t]) ∧ Below w.heap.size w F :=
  ⟨_, _, rfl, repW_flat (rowR_rep (rowR_of_block hrow hle (rep_bytes _ _ _ _) (rep_frame hb _ _ _ hr)) hb.size (by simp [maxLen])) (fun u hu => by
    simp only [Tr.itL, List.mem_cons, List.not_mem_nil, or_false] at hu
    rcases hu with rfl | rfl
    · rfl
    · exact hf) (fun b off e => by cases e; exact hle), hb⟩

theorem far1 {w : World} {g : Nat} {O : Obj} (h : w.heap[g]? = some O) : (¬ g = w.heap.size) ∧ (¬ w.heap.size = g) ∧ g < w.heap.size ∧ (¬ g = w.heap.size + 1) ∧ (¬ w.heap.size + 1 = g) := by
  have := (Array.getElem?_eq_some_iff.1 h).1
  exact ⟨by omega, by omega, this, by omega, by omega⟩

set_option maxHeartbeats 6400000 in
theorem newExtension_any {a : Option Addr} {cap m : Nat} {cs : Array Value} {x : ByteArray} {t : Itm} (d : ByteArray) (w : World) (hsz : d.size ≤ 10000000) (hd : ∀ c ∈ d.data.toList, c.toNat < 16) (hcs : cs.size = 32) (hs : Small t) (h8 : ¬ (Itm.enc t).length < 8) (hr : Rep w.heap.size w (m + 1) (.agg #[.bool true, .string ⟨#[]⟩, .slice a 17 cap]) t) :
    Calls Tryz.prog 87 #[.string d, .agg (branchCells a cap cs x)] w fun e w' => ∃ a' cap', e = .returned (.iface 176 (.agg #[.int .i64 2, .bool true, .string ⟨#[]⟩, .slice a' 2 cap', .string d, .string (refSum t), .iface 142 (.agg (branchCells a cap cs x))])) ∧ RepW w.heap.size w'.heap.size w' (m + 2) (.agg #[.bool true, .string ⟨#[]⟩, .slice a' 2 cap']) (Tr.itL [Tr.itB (Tr.path d.data.toList false), Tr.ref t]) ∧ Below w.heap.size w w' := by
  have HP := hid (fun w => pathOf_any d false w hsz hd)
  have HBI := hid (fun s w => bytesItem_any s w)
  have HLI := hid (fun a n cap w => listItem_any a n cap w)
  have HRI := hid (fun w' => refItem_any w' w (nd_branch a cap cs x) hr)
  have HSM := hid (fun w h => commonSum_any 3 a 17 cap true ⟨#[]⟩ m t w hs h)
  have HR := hid hr
  have HRS := hid (refSum_some h8)
  have HFL : Hid ((Tr.ref t).items = []) := by rw [Hid, Tr.ref_long h8]; rfl
  obtain ⟨k0, k1, k2, k3⟩ := branchCells_at a cap cs x
  have hsize := branchCells_size a cap cs x hcs
  generalize branchCells a cap cs x = BB at *
  clear hr h8 hd
  go_enter Tryz.func87, Tryz.ntmps87
  go_upto_region 1 with fail
  have HG : Hid ((w.alloc (.cells BB 142)).heap[w.heap.size]? = some (.cells BB 142 (0, 0))) := heap_alloc_new w _
  refine wp_region_L (fun w' => w'.heap[w.heap.size]? = some (.cells BB 142 (0, 0))) 7 (by kernel_rfl) ?_
  have hS : (fun w' : World => w'.heap[w.heap.size]? = some (.cells BB 142 (0, 0))) (w.alloc (.cells BB 142)).drew := HG.out
  refine wpAnyL_take (i := 0) (v := .pointer (some ⟨w.heap.size, 0, none⟩)) rfl (by kernel_rfl) (by kernel_rfl) (by kernel_rfl) (by kernel_rfl) (by kernel_rfl) (fun _ _ _ h => h) hS (Or.inl ⟨by kernel_rfl, ?_⟩) ?_
  · (intro w' hSw; go_simp)
  try simp only [Act.put]
  refine wpAnyL_take (i := 1) (v := .agg #[.int .i64 3, .bool true, .string ⟨#[]⟩, .slice a 17 cap]) rfl (by kernel_rfl) (by kernel_rfl) (by kernel_rfl) (by kernel_rfl) (by kernel_rfl) (fun _ _ _ h => h) hS (Or.inl ⟨by kernel_rfl, ?_⟩) ?_
  · intro w' hSw
    have z0 := (cell_of_row w' _ 0 _ _ _ hSw).trans k0
    have z1 := (cell_of_row w' _ 1 _ _ _ hSw).trans k1
    have z2 := (cell_of_row w' _ 2 _ _ _ hSw).trans k2
    have z3 := (cell_of_row w' _ 3 _ _ _ hSw).trans k3
    go_simp
  try simp only [Act.put]
  refine wpAnyL_take (i := 3) (v := .agg BB) rfl (by kernel_rfl) (by kernel_rfl) (by kernel_rfl) (by kernel_rfl) (by kernel_rfl) (fun _ _ _ h => h) hS (Or.inl ⟨by kernel_rfl, ?_⟩) ?_
  · intro w' hSw
    exact exec_load_row 142 (.tmp 3) rfl w.heap.size rfl 142 BB (0, 0) _ hSw Tryz.underlying142 rfl (by rw [hsize]; kernel_rfl)
  try simp only [Act.put]
  refine wpAnyL_take (i := 4) (v := .iface 142 (.agg BB)) rfl (by kernel_rfl) (by kernel_rfl) (by kernel_rfl) (by kernel_rfl) (by kernel_rfl) (fun _ _ _ h => h) hS (Or.inl ⟨by kernel_rfl, ?_⟩) ?_
  · (intro w' hSw; go_simp)
  try simp only [Act.put]
  have HWB : Hid (Below w.heap.size w (w.alloc (.cells BB 142))) := (Below.refl _ _).alloc (Nat.le_refl _) _
  refine wpAnyL_ready (rs := [2, 6]) (by kernel_rfl) (by simp) ?_
  refine AllReadyL.cons rfl (fun K hK => ?_) (AllReadyL.cons rfl (fun K hK => ?_) AllReadyL.nil)
  · go_simp
    refine (HSM.out _ (rep_later HWB.out.drew HR.out)).mono ?_
    rintro e w1 ⟨rfl, b1⟩
    have hS1 : w1.heap[w.heap.size]? = some (.cells BB 142 (0, 0)) := (b1.block _ (by show w.heap.size < (w.alloc (.cells BB 142)).heap.size; rw [alloc_size]; omega)).trans HG.out
    have HB1 : Hid (Below w.heap.size w w1) := HWB.out.drew.trans (b1.mono (by show w.heap.size ≤ (w.alloc (.cells BB 142)).heap.size; rw [alloc_size]; omega))
    clear b1
    refine hK.out _ _ hS1 ?_
    clear hK K
    try simp only [Act.put]
    refine wpAnyL_take (i := 5) (v := .agg #[.string ⟨(Tr.sum (Itm.enc t)).toArray⟩, .iface 142 (.agg BB)]) rfl (by kernel_rfl) (by kernel_rfl) (by kernel_rfl) (by kernel_rfl) (by kernel_rfl) (fun _ _ _ h => h) hS1 (Or.inl ⟨by kernel_rfl, ?_⟩) ?_
    · (intro w' hSw; go_simp)
    try simp only [Act.put]
    refine wpAnyL_ready (rs := [6]) (by kernel_rfl) (by simp) ?_
    refine AllReadyL.cons rfl (fun K hK => ?_) AllReadyL.nil
    go_simp
    refine hK.out _ _ ((Below.heap_alloc _ _ _ (Array.getElem?_eq_some_iff.1 hS1).1).trans hS1) ?_
    clear hK K
    try simp only [Act.put]
    refine wpAnyL_ready (rs := [7]) (by kernel_rfl) (by simp) ?_
    refine AllReadyL.last rfl (fun K hK => ?_)
    go_simp
    refine hK.out _ _ ?_
    clear hK K
    try simp only [Act.put]
    refine wpAny_done (by kernel_rfl) ?_ _
    have HBW' : Hid (Below w.heap.size w (w1.alloc (.cells #[.string ⟨(Tr.sum (Itm.enc t)).toArray⟩, .iface 142 (.agg BB)] 139))) := HB1.out.alloc HB1.out.size _
    have HKW' := hid (heap_alloc_new w1 (.cells #[.string ⟨(Tr.sum (Itm.enc t)).toArray⟩, .iface 142 (.agg BB)] 139))
    rw [← HRS.out] at HKW' HBW' ⊢
    obtain ⟨S, hSS⟩ : ∃ S, S = refSum t := ⟨_, rfl⟩
    have HSS : Hid (S = refSum t) := hSS
    rw [← hSS] at HKW' HBW' HRI ⊢
    clear hSS
    generalize hg : w1.heap.size = g at *
    generalize w1.alloc (.cells #[.string S, .iface 142 (.agg BB)] 139) = W at *
    have HKW := HKW'
    have HBW := HBW'
    clear hg HKW' HBW' hS1 HB1 hS HG HWB HSM HR HRS k0 k1 k2 k3
    have g0 := cell_of_row _ _ 0 _ _ _ HKW.out
    have g1 := cell_of_row _ _ 1 _ _ _ HKW.out
    obtain ⟨p1, p2, p3, p4, p5⟩ := far1 HKW.out
    go_wp2_with fail
    go_region_held3 (fun w' => w'.cell? ⟨g, 0, none⟩ = some (.string S) ∧ w'.cell? ⟨g, 1, none⟩ = some (.iface 142 (.agg BB))) (go_keep)
      ((first
        | (go_at_call 112; refine (HP.out _).mono ?_; rintro e w2 ⟨rfl, b2⟩; (first | (have HK2 : Hid (w2.heap[g]? = some (.cells #[.string S, .iface 142 (.agg BB)] 139 (0, 0))) := kept_block b2 (block_alloc HKW.out); have HV2 : Hid (w2.heap[W.heap.size]? = some (.cells #[.bool false, .string ⟨#[]⟩, .slice none 0 0] 119 (0, 0))) := kept_block b2 (heap_alloc_new W _); have HB2 : Hid (Below w.heap.size w w2) := belowC (belowA HBW.out.drew _) b2; have hgw := HBW.out.size) | (have HK2 : Hid (w2.heap[g]? = some (.cells #[.string S, .iface 142 (.agg BB)] 139 (0, 0))) := kept_block b2 HKW.out; have HB2 : Hid (Below w.heap.size w w2) := belowC HBW.out.drew b2)); obtain ⟨x1, x2, x3, x4, x5⟩ := far1 HK2.out; obtain ⟨m20, m21⟩ := pair_cells HK2.out; clear b2)
        | (go_at_call 110; refine (HBI.out _ _).mono ?_; rintro e w3 ⟨rfl, b3⟩; (first | (have HK3 : Hid (w3.heap[g]? = some (.cells #[.string S, .iface 142 (.agg BB)] 139 (0, 0))) := kept_block b3 (block_alloc HK2.out); have HV3 : Hid (w3.heap[w2.heap.size]? = some (.cells #[.bool false, .string ⟨#[]⟩, .slice none 0 0] 119 (0, 0))) := kept_block b3 (heap_alloc_new w2 _); have HB3 : Hid (Below w.heap.size w w3) := belowC (belowA HB2.out _) b3; have hgw := HB2.out.size) | (have HK3 : Hid (w3.heap[g]? = some (.cells #[.string S, .iface 142 (.agg BB)] 139 (0, 0))) := kept_block b3 HK2.out; have HB3 : Hid (Below w.heap.size w w3) := belowC HB2.out b3; (first | (have HV3 := hid (kept_block b3 HV2.out)) | skip))); obtain ⟨y1, y2, y3, y4, y5⟩ := far1 HK3.out; obtain ⟨m30, m31⟩ := pair_cells HK3.out; clear b3)
        | (go_at_call 115; refine (HRI.out _).mono ?_; rintro e w4 ⟨l', s', a', n', cap', rfl, r4, b4⟩; (first | (have HK4 : Hid (w4.heap[g]? = some (.cells #[.string S, .iface 142 (.agg BB)] 139 (0, 0))) := kept_block b4 (block_alloc HK3.out); have HV4 : Hid (w4.heap[w3.heap.size]? = some (.cells #[.bool false, .string ⟨#[]⟩, .slice none 0 0] 119 (0, 0))) := kept_block b4 (heap_alloc_new w3 _); have HB4 : Hid (Below w.heap.size w w4) := belowC (belowA HB3.out _) b4; have hgw := HB3.out.size) | (have HK4 : Hid (w4.heap[g]? = some (.cells #[.string S, .iface 142 (.agg BB)] 139 (0, 0))) := kept_block b4 HK3.out; have HB4 : Hid (Below w.heap.size w w4) := belowC HB3.out b4; (first | (have HV4 := hid (kept_block b4 HV3.out)) | skip))); obtain ⟨z1, z2, z3, z4, z5⟩ := far1 HK4.out; obtain ⟨m40, m41⟩ := pair_cells HK4.out; have HR4 := hid r4; clear r4; clear b4)
        | (go_at_call 111; refine (HLI.out _ _ _ _).mono ?_; rintro e w5 ⟨rfl, b5⟩; (first | (have HV5 : Hid (w5.heap[w4.heap.size + 1]? = some (.cells #[.bool false, .string ⟨#[]⟩, .slice none 0 0] 119 (0, 0))) := kept_block b5 (block_alloc2 w4 _ _); have HK5 : Hid (w5.heap[g]? = some (.cells #[.string S, .iface 142 (.agg BB)] 139 (0, 0))) := kept_block b5 (block_alloc (block_alloc HK4.out)); have hgw := Nat.le_succ_of_le HB4.out.size; have HB5 := hid b5; have n50 := cell_of_row _ _ 0 _ _ _ HV5.out; have n51 := cell_of_row _ _ 1 _ _ _ HV5.out; have n52 := cell_of_row _ _ 2 _ _ _ HV5.out; have o50 := frozen_of_row _ _ 0 _ _ HV5.out; have o51 := frozen_of_row _ _ 1 _ _ HV5.out; have o52 := frozen_of_row _ _ 2 _ _ HV5.out) | (have HV5 : Hid (w5.heap[w4.heap.size]? = some (.cells #[.bool false, .string ⟨#[]⟩, .slice none 0 0] 119 (0, 0))) := kept_block b5 (block_alloc (heap_alloc_new w4 _)); have HK5 : Hid (w5.heap[g]? = some (.cells #[.string S, .iface 142 (.agg BB)] 139 (0, 0))) := kept_block b5 (block_alloc (block_alloc HK4.out)); have hgw := HB4.out.size; have HB5 := hid b5; have n50 := cell_of_row _ _ 0 _ _ _ HV5.out; have n51 := cell_of_row _ _ 1 _ _ _ HV5.out; have n52 := cell_of_row _ _ 2 _ _ _ HV5.out; have o50 := frozen_of_row _ _ 0 _ _ HV5.out; have o51 := frozen_of_row _ _ 1 _ _ HV5.out; have o52 := frozen_of_row _ _ 2 _ _ HV5.out) | (have HV5 := hid (kept_block b5 (block_alloc HV4.out)); have HK5 : Hid (w5.heap[g]? = some (.cells #[.string S, .iface 142 (.agg BB)] 139 (0, 0))) := kept_block b5 (block_alloc HK4.out); have HB5 := hid b5; have n50 := cell_of_row _ _ 0 _ _ _ HV5.out; have n51 := cell_of_row _ _ 1 _ _ _ HV5.out; have n52 := cell_of_row _ _ 2 _ _ _ HV5.out; have o50 := frozen_of_row _ _ 0 _ _ HV5.out; have o51 := frozen_of_row _ _ 1 _ _ HV5.out; have o52 := frozen_of_row _ _ 2 _ _ HV5.out) | (have HK5 : Hid (w5.heap[g]? = some (.cells #[.string S, .iface 142 (.agg BB)] 139 (0, 0))) := kept_block b5 (block_alloc HK4.out); have HB5 := hid b5)); obtain ⟨q1, q2, q3, q4, q5⟩ := far1 HK5.out; obtain ⟨m50, m51⟩ := pair_cells HK5.out; clear b5)))
    all_goals go_wp2_with fail
    all_goals go_ret
    all_goals rw [← HSS.out]
    all_goals first
      | exact ext_end _ _ _ HFL.out HR4.out (belowA (belowC (belowA HB4.out _) HB5.out) _) (block_alloc (kept_block HB5.out (heap_alloc_new w4 _))) HB4.out.size
      | exact ext_end _ _ _ HFL.out HR4.out (three_below (belowC (belowA (belowA HB4.out _) _) HB5.out) hgw _ _ _) (set3_other (kept_block HB5.out (block_alloc (heap_alloc_new w4 _))) (Nat.ne_of_gt (Nat.lt_succ_self _))) HB4.out.size
      | exact ext_end _ _ _ HFL.out HR4.out (three_below (belowC (belowA (belowA HB4.out _) _) HB5.out) hgw _ _ _) (set3_other (kept_block HB5.out (block_alloc2 w4 _ _)) (Nat.ne_of_lt (Nat.lt_succ_self _))) (Nat.le_succ_of_le HB4.out.size)
      | exact ext_end _ _ _ HFL.out HR4.out (three_below (belowC (belowA HB4.out _) HB5.out) hgw _ _ _) (set3_other (kept_block HB5.out (heap_alloc_new w4 _)) (far_ne HV4.out).2.2.1) HB4.out.size
  · go_simp
    have HG2 : Hid (((w.alloc (.cells BB 142)).alloc (.cells #[.string ⟨#[]⟩, .nilIface] 139)).drew.heap[w.heap.size]? = some (.cells BB 142 (0, 0))) := (Below.heap_alloc _ _ _ (by rw [alloc_size]; omega)).trans HG.out
    have HX2 : Hid (((w.alloc (.cells BB 142)).alloc (.cells #[.string ⟨#[]⟩, .nilIface] 139)).drew.heap[w.heap.size + 1]? = some (.cells #[.string ⟨#[]⟩, .nilIface] 139 (0, 0))) := block_alloc2 w _ _
    have HW2 : Hid (Below w.heap.size w ((w.alloc (.cells BB 142)).alloc (.cells #[.string ⟨#[]⟩, .nilIface] 139)).drew) := (HWB.out.alloc HWB.out.size _).drew
    refine hK.out _ _ HG2.out ?_
    clear hK K
    try simp only [Act.put]
    refine wpAnyL_ready (rs := [2]) (by kernel_rfl) (by simp) ?_
    refine AllReadyL.cons rfl (fun K hK => ?_) AllReadyL.nil
    go_simp
    refine (HSM.out _ (rep_later HW2.out HR.out)).mono ?_
    rintro e w1 ⟨rfl, b1⟩
    have hS1 : w1.heap[w.heap.size]? = some (.cells BB 142 (0, 0)) := kept_block b1 HG2.out
    have HX1 : Hid (w1.heap[w.heap.size + 1]? = some (.cells #[.string ⟨#[]⟩, .nilIface] 139 (0, 0))) := kept_block b1 HX2.out
    have HB1 : Hid (Below w.heap.size w w1) := HW2.out.trans (b1.mono HW2.out.size)
    clear b1
    refine hK.out _ _ hS1 ?_
    clear hK K
    try simp only [Act.put]
    refine wpAnyL_take (i := 5) (v := .agg #[.string ⟨(Tr.sum (Itm.enc t)).toArray⟩, .iface 142 (.agg BB)]) rfl (by kernel_rfl) (by kernel_rfl) (by kernel_rfl) (by kernel_rfl) (by kernel_rfl) (fun _ _ _ h => h) hS1 (Or.inl ⟨by kernel_rfl, ?_⟩) ?_
    · (intro w' hSw; go_simp)
    try simp only [Act.put]
    have x0 := cell_of_row _ _ 0 _ _ _ HX1.out
    have x1 := cell_of_row _ _ 1 _ _ _ HX1.out
    have f0 := frozen_of_row _ _ 0 _ _ HX1.out
    have f1 := frozen_of_row _ _ 1 _ _ HX1.out
    refine wpAnyL_ready (rs := [7]) (by kernel_rfl) (by simp) ?_
    refine AllReadyL.last rfl (fun K hK => ?_)
    go_simp
    refine hK.out _ _ ?_
    clear hK K
    try simp only [Act.put]
    refine wpAny_done (by kernel_rfl) ?_ _
    have HKW' := hid (two_set (a := .string ⟨(Tr.sum (Itm.enc t)).toArray⟩) (b := .iface 142 (.agg BB)) HX1.out)
    have HBW' : Hid (Below w.heap.size w ((w1.setCell ⟨w.heap.size + 1, 0, none⟩ (.string ⟨(Tr.sum (Itm.enc t)).toArray⟩)).setCell ⟨w.heap.size + 1, 1, none⟩ (.iface 142 (.agg BB)))) := (HB1.out.setCell (p := ⟨w.heap.size + 1, 0, none⟩) (Nat.le_succ _) _).setCell (p := ⟨w.heap.size + 1, 1, none⟩) (Nat.le_succ _) _
    rw [← HRS.out] at HKW' HBW' ⊢
    obtain ⟨S, hSS⟩ : ∃ S, S = refSum t := ⟨_, rfl⟩
    have HSS : Hid (S = refSum t) := hSS
    rw [← hSS] at HKW' HBW' HRI ⊢
    clear hSS
    clear x0 x1 f0 f1 hS1 HB1 hS HG HWB HSM HR HRS k0 k1 k2 k3 HG2 HX2 HW2 HX1
    generalize (w1.setCell ⟨w.heap.size + 1, 0, none⟩ (.string S)).setCell ⟨w.heap.size + 1, 1, none⟩ (.iface 142 (.agg BB)) = W at *
    generalize w.heap.size + 1 = g at *
    have HKW := HKW'
    have HBW := HBW'
    clear HKW' HBW'
    have g0 := cell_of_row _ _ 0 _ _ _ HKW.out
    have g1 := cell_of_row _ _ 1 _ _ _ HKW.out
    obtain ⟨p1, p2, p3, p4, p5⟩ := far1 HKW.out
    go_wp2_with fail
    go_region_held3 (fun w' => w'.cell? ⟨g, 0, none⟩ = some (.string S) ∧ w'.cell? ⟨g, 1, none⟩ = some (.iface 142 (.agg BB))) (go_keep)
      ((first
        | (go_at_call 112; refine (HP.out _).mono ?_; rintro e w2 ⟨rfl, b2⟩; (first | (have HK2 : Hid (w2.heap[g]? = some (.cells #[.string S, .iface 142 (.agg BB)] 139 (0, 0))) := kept_block b2 (block_alloc HKW.out); have HV2 : Hid (w2.heap[W.heap.size]? = some (.cells #[.bool false, .string ⟨#[]⟩, .slice none 0 0] 119 (0, 0))) := kept_block b2 (heap_alloc_new W _); have HB2 : Hid (Below w.heap.size w w2) := belowC (belowA HBW.out.drew _) b2; have hgw := HBW.out.size) | (have HK2 : Hid (w2.heap[g]? = some (.cells #[.string S, .iface 142 (.agg BB)] 139 (0, 0))) := kept_block b2 HKW.out; have HB2 : Hid (Below w.heap.size w w2) := belowC HBW.out.drew b2)); obtain ⟨x1, x2, x3, x4, x5⟩ := far1 HK2.out; obtain ⟨m20, m21⟩ := pair_cells HK2.out; clear b2)
        | (go_at_call 110; refine (HBI.out _ _).mono ?_; rintro e w3 ⟨rfl, b3⟩; (first | (have HK3 : Hid (w3.heap[g]? = some (.cells #[.string S, .iface 142 (.agg BB)] 139 (0, 0))) := kept_block b3 (block_alloc HK2.out); have HV3 : Hid (w3.heap[w2.heap.size]? = some (.cells #[.bool false, .string ⟨#[]⟩, .slice none 0 0] 119 (0, 0))) := kept_block b3 (heap_alloc_new w2 _); have HB3 : Hid (Below w.heap.size w w3) := belowC (belowA HB2.out _) b3; have hgw := HB2.out.size) | (have HK3 : Hid (w3.heap[g]? = some (.cells #[.string S, .iface 142 (.agg BB)] 139 (0, 0))) := kept_block b3 HK2.out; have HB3 : Hid (Below w.heap.size w w3) := belowC HB2.out b3; (first | (have HV3 := hid (kept_block b3 HV2.out)) | skip))); obtain ⟨y1, y2, y3, y4, y5⟩ := far1 HK3.out; obtain ⟨m30, m31⟩ := pair_cells HK3.out; clear b3)
        | (go_at_call 115; refine (HRI.out _).mono ?_; rintro e w4 ⟨l', s', a', n', cap', rfl, r4, b4⟩; (first | (have HK4 : Hid (w4.heap[g]? = some (.cells #[.string S, .iface 142 (.agg BB)] 139 (0, 0))) := kept_block b4 (block_alloc HK3.out); have HV4 : Hid (w4.heap[w3.heap.size]? = some (.cells #[.bool false, .string ⟨#[]⟩, .slice none 0 0] 119 (0, 0))) := kept_block b4 (heap_alloc_new w3 _); have HB4 : Hid (Below w.heap.size w w4) := belowC (belowA HB3.out _) b4; have hgw := HB3.out.size) | (have HK4 : Hid (w4.heap[g]? = some (.cells #[.string S, .iface 142 (.agg BB)] 139 (0, 0))) := kept_block b4 HK3.out; have HB4 : Hid (Below w.heap.size w w4) := belowC HB3.out b4; (first | (have HV4 := hid (kept_block b4 HV3.out)) | skip))); obtain ⟨z1, z2, z3, z4, z5⟩ := far1 HK4.out; obtain ⟨m40, m41⟩ := pair_cells HK4.out; have HR4 := hid r4; clear r4; clear b4)
        | (go_at_call 111; refine (HLI.out _ _ _ _).mono ?_; rintro e w5 ⟨rfl, b5⟩; (first | (have HV5 : Hid (w5.heap[w4.heap.size + 1]? = some (.cells #[.bool false, .string ⟨#[]⟩, .slice none 0 0] 119 (0, 0))) := kept_block b5 (block_alloc2 w4 _ _); have HK5 : Hid (w5.heap[g]? = some (.cells #[.string S, .iface 142 (.agg BB)] 139 (0, 0))) := kept_block b5 (block_alloc (block_alloc HK4.out)); have hgw := Nat.le_succ_of_le HB4.out.size; have HB5 := hid b5; have n50 := cell_of_row _ _ 0 _ _ _ HV5.out; have n51 := cell_of_row _ _ 1 _ _ _ HV5.out; have n52 := cell_of_row _ _ 2 _ _ _ HV5.out; have o50 := frozen_of_row _ _ 0 _ _ HV5.out; have o51 := frozen_of_row _ _ 1 _ _ HV5.out; have o52 := frozen_of_row _ _ 2 _ _ HV5.out) | (have HV5 : Hid (w5.heap[w4.heap.size]? = some (.cells #[.bool false, .string ⟨#[]⟩, .slice none 0 0] 119 (0, 0))) := kept_block b5 (block_alloc (heap_alloc_new w4 _)); have HK5 : Hid (w5.heap[g]? = some (.cells #[.string S, .iface 142 (.agg BB)] 139 (0, 0))) := kept_block b5 (block_alloc (block_alloc HK4.out)); have hgw := HB4.out.size; have HB5 := hid b5; have n50 := cell_of_row _ _ 0 _ _ _ HV5.out; have n51 := cell_of_row _ _ 1 _ _ _ HV5.out; have n52 := cell_of_row _ _ 2 _ _ _ HV5.out; have o50 := frozen_of_row _ _ 0 _ _ HV5.out; have o51 := frozen_of_row _ _ 1 _ _ HV5.out; have o52 := frozen_of_row _ _ 2 _ _ HV5.out) | (have HV5 := hid (kept_block b5 (block_alloc HV4.out)); have HK5 : Hid (w5.heap[g]? = some (.cells #[.string S, .iface 142 (.agg BB)] 139 (0, 0))) := kept_block b5 (block_alloc HK4.out); have HB5 := hid b5; have n50 := cell_of_row _ _ 0 _ _ _ HV5.out; have n51 := cell_of_row _ _ 1 _ _ _ HV5.out; have n52 := cell_of_row _ _ 2 _ _ _ HV5.out; have o50 := frozen_of_row _ _ 0 _ _ HV5.out; have o51 := frozen_of_row _ _ 1 _ _ HV5.out; have o52 := frozen_of_row _ _ 2 _ _ HV5.out) | (have HK5 : Hid (w5.heap[g]? = some (.cells #[.string S, .iface 142 (.agg BB)] 139 (0, 0))) := kept_block b5 (block_alloc HK4.out); have HB5 := hid b5)); obtain ⟨q1, q2, q3, q4, q5⟩ := far1 HK5.out; obtain ⟨m50, m51⟩ := pair_cells HK5.out; clear b5)))
    all_goals go_wp2_with fail
    all_goals go_ret
    all_goals rw [← HSS.out]
    all_goals first
      | exact ext_end _ _ _ HFL.out HR4.out (belowA (belowC (belowA HB4.out _) HB5.out) _) (block_alloc (kept_block HB5.out (heap_alloc_new w4 _))) HB4.out.size
      | exact ext_end _ _ _ HFL.out HR4.out (three_below (belowC (belowA (belowA HB4.out _) _) HB5.out) hgw _ _ _) (set3_other (kept_block HB5.out (block_alloc (heap_alloc_new w4 _))) (Nat.ne_of_gt (Nat.lt_succ_self _))) HB4.out.size
      | exact ext_end _ _ _ HFL.out HR4.out (three_below (belowC (belowA (belowA HB4.out _) _) HB5.out) hgw _ _ _) (set3_other (kept_block HB5.out (block_alloc2 w4 _ _)) (Nat.ne_of_lt (Nat.lt_succ_self _))) (Nat.le_succ_of_le HB4.out.size)
      | exact ext_end _ _ _ HFL.out HR4.out (three_below (belowC (belowA HB4.out _) HB5.out) hgw _ _ _) (set3_other (kept_block HB5.out (heap_alloc_new w4 _)) (far_ne HV4.out).2.2.1) HB4.out.size
end Go.Proofs.YtbmohenjphmlgaaGreat
