/- Part 7 of a proof: what the last text needs. -/
import Derived.Test.YtbmohenjphmlgaaGreatPart6
import Derived.Test.YtbmohenjphmlgaaGreatPart3
import Derived.BigQuiet
/- The walks of mayFollow and follow (of the program). -/
namespace Go.Proofs.YtbmohenjphmlgaaGreat
open Go.RowKit
set_option maxRecDepth 100000

/-- May a node of kind k' stand where one of kind k refers to it by its sum? -/
def mayB (k k' : Nat) (short : Bool) : Bool := !short && (decide (k ≠ 2) || decide (k' = 3))

set_option maxHeartbeats 1600000 in
theorem mayFollow_any {v v' : Value} {k k' : Nat} {l l' : Bool} {s s' : ByteArray} {a a' : Option Addr} {n n' cap cap' m : Nat} {t : Itm} (w : World) (h : Nd v k l s a n cap) (h' : Nd v' k' l' s' a' n' cap') (hs : Small t) (hr : Rep w.heap.size w (m + 1) (.agg #[.bool l', .string s', .slice a' n' cap']) t) :
    Calls Tryz.prog 137 #[v, v'] w fun e w' => e = .returned (.bool (mayB k k' (decide ((Itm.enc t).length < 8)))) ∧ Below w.heap.size w w' := by
  have HS := hid (isShort_any w h' hs hr)
  have HK := hid (fun k a n cap l s w => commonKind_any k a n cap l s w)
  obtain ⟨T, A, rfl, _, _, hm, _⟩ := nd_call h
  obtain ⟨T', A', rfl, _, _, hm', _⟩ := nd_call h'
  have HM : Hid (mayB k k' (decide ((Itm.enc t).length < 8)) = (!(decide ((Itm.enc t).length < 8)) && (decide (k ≠ 2) || decide (k' = 3)))) := rfl
  generalize decide ((Itm.enc t).length < 8) = b at *
  clear hr h h' hs
  cases b with
  | true =>
    go_enter Tryz.func137, Tryz.ntmps137
    go_wp2_with fail
    refine HS.out.mono ?_
    rintro e w1 ⟨rfl, b1⟩
    have HB := hid b1
    clear b1
    go_wp2_with fail
    go_ret
    exact ⟨by rw [HM.out]; rfl, HB.out⟩
  | false =>
    by_cases h2 : k = 2
    · subst h2
      by_cases h3 : k' = 3
      · subst h3
        go_enter Tryz.func137, Tryz.ntmps137
        go_wp2_with fail
        refine HS.out.mono ?_
        rintro e w1 ⟨rfl, b1⟩
        have HB := hid b1
        clear b1
        go_wp2_with fail
        refine (HK.out _ _ _ _ _ _ _).mono ?_
        rintro e w2 ⟨rfl, b2⟩
        have HB2 := hid b2
        clear b2
        go_wp2_with fail
        refine (HK.out _ _ _ _ _ _ _).mono ?_
        rintro e w3 ⟨rfl, b3⟩
        have HB3 := hid b3
        clear b3
        go_wp2_with fail
        go_ret
        exact ⟨by rw [HM.out]; rfl, HB.out.trans ((HB2.out.trans (HB3.out.mono HB2.out.size)).mono HB.out.size)⟩
      · have i3 : ((k' : Int) == 3) = false := by rw [beq_eq_false_iff_ne]; omega
        rw [decide_eq_false h3] at HM
        clear h3
        go_enter Tryz.func137, Tryz.ntmps137
        go_wp2_with fail
        refine HS.out.mono ?_
        rintro e w1 ⟨rfl, b1⟩
        have HB := hid b1
        clear b1
        go_wp2_with fail
        refine (HK.out _ _ _ _ _ _ _).mono ?_
        rintro e w2 ⟨rfl, b2⟩
        have HB2 := hid b2
        clear b2
        go_wp2_with fail
        refine (HK.out _ _ _ _ _ _ _).mono ?_
        rintro e w3 ⟨rfl, b3⟩
        have HB3 := hid b3
        clear b3
        go_wp2_with fail
        go_ret
        exact ⟨by rw [HM.out]; rfl, HB.out.trans ((HB2.out.trans (HB3.out.mono HB2.out.size)).mono HB.out.size)⟩
    · have i2 : ¬ (k : Int) = 2 := by omega
      rw [decide_eq_true h2] at HM
      clear h2
      go_enter Tryz.func137, Tryz.ntmps137
      go_wp2_with fail
      refine HS.out.mono ?_
      rintro e w1 ⟨rfl, b1⟩
      have HB := hid b1
      clear b1
      go_wp2_with fail
      refine (HK.out _ _ _ _ _ _ _).mono ?_
      rintro e w2 ⟨rfl, b2⟩
      have HB2 := hid b2
      clear b2
      go_wp2_with fail
      go_ret
      exact ⟨by rw [HM.out]; rfl, HB.out.trans (HB2.out.mono HB.out.size)⟩

/-- A reference with no sum is followed to its own node. -/
theorem follow_own {v n : Value} {F : Nat} {c : Addr} (w : World) (hn : IsNode n) : Calls Tryz.prog 122 #[v, .agg #[.string ⟨#[]⟩, n], .func (.func F) #[] #[.pointer (some c)]] w fun e w' => e = .returned (.tuple #[n, .bool true]) ∧ Below w.heap.size w w' := by
  rcases hn with rfl | ⟨T, y, rfl⟩
  · go_enter Tryz.func122, Tryz.ntmps122
    go_wp2_with fail
    exact bodyPost_ret (v := .tuple #[.nilIface, .bool true]) (by simp [results, Tryz.results122, go_sem]) rfl ⟨rfl, (Below.refl _ _).alloc (Nat.le_refl _) _⟩
  · go_enter Tryz.func122, Tryz.ntmps122
    go_wp2_with fail
    exact bodyPost_ret (v := .tuple #[.iface T y, .bool true]) (by simp [results, Tryz.results122, go_sem]) rfl ⟨rfl, (Below.refl _ _).alloc (Nat.le_refl _) _⟩

/-- A reference by a sum is asked of the finder, and what it gives is looked at. -/
theorem follow_sum {v n : Value} {F : Nat} {c : Addr} {s : ByteArray} (w : World) (hF : Enters F) (hn : IsNode n) (hs : 0 < s.size) (Q : Value → Bool → World → Prop)
    (h : ∀ w', Below w.heap.size w w' → Calls Tryz.prog F #[.agg #[.string s, n], .pointer (some c)] w' fun e w'' => ∃ v' ok, e = .returned (.tuple #[v', .bool ok]) ∧ (ok = false → Q v' false w'') ∧
      (ok = true → Calls Tryz.prog 137 #[v, v'] w'' fun e w3 => ∃ b, e = .returned (.bool b) ∧ Q v' b w3)) :
    Calls Tryz.prog 122 #[v, .agg #[.string s, n], .func (.func F) #[] #[.pointer (some c)]] w fun e w' => ∃ v' ok, e = .returned (.tuple #[v', .bool ok]) ∧ Q v' ok w' := by
  have he : s.toList.isEmpty = false := by
    rw [ByteArray.toList_eq, List.isEmpty_eq_false_iff]
    intro e
    have := ba_len s
    rw [e] at this
    simp at this
    omega
  have H := hid h
  unfold Enters at hF
  clear h hs
  rcases hn with rfl | ⟨T, y, rfl⟩
  all_goals
    go_enter Tryz.func122, Tryz.ntmps122
    go_wp2_with fail
    refine (H.out _ ((Below.refl _ _).alloc (Nat.le_refl _) _)).mono ?_
    rintro e w1 ⟨v1, ok, rfl, g1, g2⟩
    have HG1 := hid g1
    have HG2 := hid g2
    clear g1 g2
    cases ok with
    | false =>
      go_wp2_with fail
      exact bodyPost_ret (v := .tuple #[v1, .bool false]) (by simp [results, Tryz.results122, go_sem]) rfl ⟨_, _, rfl, HG1.out (by trivial)⟩
    | true =>
      go_wp2_with fail
      refine (HG2.out (by trivial)).mono ?_
      rintro e w3 ⟨b, rfl, q⟩
      have HQ := hid q
      clear q
      go_wp2_with fail
      exact bodyPost_ret (v := .tuple #[v1, .bool b]) (by simp [results, Tryz.results122, go_sem]) rfl ⟨_, _, rfl, HQ.out⟩
end Go.Proofs.YtbmohenjphmlgaaGreat

/- The walks of isSum, readValue, leadsNowhere, readPath (of the program). -/
namespace Go.Proofs.YtbmohenjphmlgaaGreat
open Go.RowKit
set_option maxRecDepth 100000

theorem isSumP_any (l : Bool) (s : ByteArray) (x : Option Addr) (n cap : Nat) (w : World) : Calls Tryz.prog 163 #[.agg #[.bool l, .string s, .slice x n cap]] w fun e w' => e = .returned (.bool (!l && decide (s.size = 8))) ∧ Below w.heap.size w w' := by
  cases l with
  | true =>
    go_enter Tryz.func163, Tryz.ntmps163
    go_wp2_with fail
    go_ret
    exact ⟨rfl, (Below.refl _ _).alloc (Nat.le_refl _) _⟩
  | false =>
    have e : ((s.size : Int) == 8) = decide (s.size = 8) := by
      rw [Bool.eq_iff_iff, beq_iff_eq, decide_eq_true_eq]; omega
    go_enter Tryz.func163, Tryz.ntmps163
    go_wp2_with fail
    go_ret
    exact ⟨by first | rfl | (rw [← e]; rfl), (Below.refl _ _).alloc (Nat.le_refl _) _⟩

theorem readValue_any (l : Bool) (s : ByteArray) (x : Option Addr) (n cap : Nat) (w : World) : Calls Tryz.prog 162 #[.agg #[.bool l, .string s, .slice x n cap]] w fun e w' => e = .returned (.tuple #[.string s, .bool (!l && decide (s.size ≤ 40))]) ∧ Below w.heap.size w w' := by
  cases l with
  | true =>
    go_enter Tryz.func162, Tryz.ntmps162
    go_wp2_with fail
    go_quiet (fail)
    go_wp2_with fail
    go_ret2
    exact ⟨rfl, below_drewN ((Below.refl _ _).alloc (Nat.le_refl _) _) _⟩
  | false =>
    have e : decide ((s.size : Int) ≤ 40) = decide (s.size ≤ 40) := by
      rw [Bool.eq_iff_iff, decide_eq_true_eq, decide_eq_true_eq]; omega
    go_enter Tryz.func162, Tryz.ntmps162
    go_wp2_with fail
    go_quiet (fail)
    go_wp2_with fail
    go_ret2
    exact ⟨by first | rfl | (rw [← e]; rfl), below_drewN ((Below.refl _ _).alloc (Nat.le_refl _) _) _⟩

/-- A reference by a sum leads somewhere. -/
theorem leads_sum (s : ByteArray) (n : Value) (hn : IsNode n) (w : World) (hs : 0 < s.size) : Calls Tryz.prog 161 #[.agg #[.string s, n]] w fun e w' => e = .returned (.bool false) ∧ Below w.heap.size w w' := by
  have he : s.toList.isEmpty = false := by
    rw [ByteArray.toList_eq, List.isEmpty_eq_false_iff]
    intro e
    have := ba_len s
    rw [e] at this
    simp at this
    omega
  clear hs
  rcases hn with rfl | ⟨T, y, rfl⟩
  all_goals
    go_enter Tryz.func161, Tryz.ntmps161
    go_wp2_with fail
    go_ret
    exact ⟨rfl, (Below.refl _ _).alloc (Nat.le_refl _) _⟩

/-- A node that stands here itself leads nowhere if it is empty. -/
theorem leads_node {v : Value} {k : Nat} {l : Bool} {s : ByteArray} {a : Option Addr} {n cap : Nat} (w : World) (h : Nd v k l s a n cap) : Calls Tryz.prog 161 #[.agg #[.string ⟨#[]⟩, v]] w fun e w' => e = .returned (.bool (decide (k = 0))) ∧ Below w.heap.size w w' := by
  have HK := hid (fun k a n cap l s w => commonKind_any k a n cap l s w)
  obtain ⟨T, A, rfl, _, _, hm, _⟩ := nd_call h
  clear h
  have e : ((k : Int) == 0) = decide (k = 0) := by
    rw [Bool.eq_iff_iff, beq_iff_eq, decide_eq_true_eq]; omega
  go_enter Tryz.func161, Tryz.ntmps161
  go_wp2_with fail
  refine (HK.out _ _ _ _ _ _ _).mono ?_
  rintro e w2 ⟨rfl, b2⟩
  have HB : Hid (Below w.heap.size w w2) := ((Below.refl _ _).alloc (Nat.le_refl _) _).trans (b2.mono (by simp))
  clear b2
  go_wp2_with fail
  go_ret
  exact ⟨by first | rfl | (rw [← e]; rfl), HB.out⟩

theorem readPath_nil (w : World) : Calls Tryz.prog 150 #[.string ⟨#[]⟩] w fun e w' => e = .returned (.tuple #[.string ⟨#[]⟩, .bool false, .bool false]) ∧ Below w.heap.size w w' := by
  have HD := hid (fun w => digitsOf_any ⟨#[]⟩ w (by decide))
  have HE : Hid ((⟨(Tr.digits (⟨#[]⟩ : ByteArray).data.toList).toArray⟩ : ByteArray) = ⟨#[]⟩) := rfl
  go_enter Tryz.func150, Tryz.ntmps150
  go_wp2_with fail
  refine (HD.out _).mono ?_
  rintro e w1 ⟨rfl, b1⟩
  rw [HE.out]
  have HB := hid b1
  clear b1
  go_wp2_with fail
  exact bodyPost_ret (v := .tuple #[.string ⟨#[]⟩, .bool false, .bool false]) (by simp [results, Tryz.results150, go_sem]) rfl ⟨rfl, HB.out⟩

/-- What of digits is looked at. -/
theorem readPath_big (s D : ByteArray) (hi : UInt8) (h : D = ⟨(Tr.digits s.data.toList).toArray⟩) (hs : s.size ≤ 100000000) (hd : 1 < D.size) (h0 : ∀ h : 0 < D.size, D[0] = hi) (hb : 3 < hi.toNat) (w : World) :
    Calls Tryz.prog 150 #[.string s] w fun e w' => e = .returned (.tuple #[.string ⟨#[]⟩, .bool false, .bool false]) ∧ Below w.heap.size w w' := by
  have HD := hid (fun w => digitsOf_any s w hs)
  rw [← h] at HD
  have he : D.toList.isEmpty = false := by
    rw [ByteArray.toList_eq, List.isEmpty_eq_false_iff]
    intro e
    have := ba_len D
    rw [e] at this
    simp at this
    omega
  have i0 : 0 < D.size := by omega
  have i3 : (3 : Int) < (hi.toNat : Int) := by omega
  clear h hs hd hb
  go_enter Tryz.func150, Tryz.ntmps150
  go_wp2_with fail
  refine (HD.out _).mono ?_
  rintro e w1 ⟨rfl, b1⟩
  have HB := hid b1
  clear b1
  go_wp2_with fail
  exact bodyPost_ret (v := .tuple #[.string ⟨#[]⟩, .bool false, .bool false]) (by simp [results, Tryz.results150, go_sem]) rfl ⟨rfl, HB.out⟩

theorem readPath_odd (s D : ByteArray) (hi : UInt8) (h : D = ⟨(Tr.digits s.data.toList).toArray⟩) (hs : s.size ≤ 100000000) (hd : 1 < D.size) (h0 : ∀ h : 0 < D.size, D[0] = hi) (hb : hi = 1 ∨ hi = 3) (w : World) :
    Calls Tryz.prog 150 #[.string s] w fun e w' => e = .returned (.tuple #[.string (D.extract 1 D.size), .bool (decide (hi = 3)), .bool true]) ∧ Below w.heap.size w w' := by
  have HD := hid (fun w => digitsOf_any s w hs)
  rw [← h] at HD
  have he : D.toList.isEmpty = false := by
    rw [ByteArray.toList_eq, List.isEmpty_eq_false_iff]
    intro e
    have := ba_len D
    rw [e] at this
    simp at this
    omega
  have i0 : 0 < D.size := by omega
  have i1 : (1 : Int) ≤ (D.size : Int) := by omega
  clear h hs hd
  have q1 : bits .and .u8 1 2 = 0 := by decide
  have q2 : bits .and .u8 3 2 = 2 := by decide
  have q3 : bits .and .u8 1 1 = 1 := by decide
  have q4 : bits .and .u8 3 1 = 1 := by decide
  rcases hb with rfl | rfl
  all_goals
    go_enter Tryz.func150, Tryz.ntmps150
    go_wp2_with fail
    refine (HD.out _).mono ?_
    rintro e w1 ⟨rfl, b1⟩
    have HB := hid b1
    clear b1
    go_wp2_with fail
  · exact bodyPost_ret (v := .tuple #[.string (D.extract 1 D.size), .bool false, .bool true]) (by simp [results, Tryz.results150, go_sem]) rfl ⟨rfl, HB.out⟩
  · exact bodyPost_ret (v := .tuple #[.string (D.extract 1 D.size), .bool true, .bool true]) (by simp [results, Tryz.results150, go_sem]) rfl ⟨rfl, HB.out⟩

theorem readPath_even (s D : ByteArray) (hi lo : UInt8) (h : D = ⟨(Tr.digits s.data.toList).toArray⟩) (hs : s.size ≤ 100000000) (hd : 1 < D.size) (h0 : ∀ h : 0 < D.size, D[0] = hi) (h1 : ∀ h : 1 < D.size, D[1] = lo) (hb : hi = 0 ∨ hi = 2) (w : World) :
    Calls Tryz.prog 150 #[.string s] w fun e w' => e = .returned (.tuple #[.string (D.extract 2 D.size), .bool (decide (hi = 2)), .bool (decide (lo.toNat = 0))]) ∧ Below w.heap.size w w' := by
  have HD := hid (fun w => digitsOf_any s w hs)
  rw [← h] at HD
  have he : D.toList.isEmpty = false := by
    rw [ByteArray.toList_eq, List.isEmpty_eq_false_iff]
    intro e
    have := ba_len D
    rw [e] at this
    simp at this
    omega
  have i0 : 0 < D.size := by omega
  have i1 : 1 < D.size := by omega
  have i2 : (2 : Int) ≤ (D.size : Int) := by omega
  have HLO : Hid (((lo.toNat : Int) == 0) = decide (lo.toNat = 0)) := by
    rw [Hid, Bool.eq_iff_iff, beq_iff_eq, decide_eq_true_eq]; omega
  clear h hs hd
  have q1 : bits .and .u8 0 2 = 0 := by decide
  have q2 : bits .and .u8 2 2 = 2 := by decide
  have q3 : bits .and .u8 0 1 = 0 := by decide
  have q4 : bits .and .u8 2 1 = 0 := by decide
  rcases hb with rfl | rfl
  all_goals
    go_enter Tryz.func150, Tryz.ntmps150
    go_wp2_with fail
    refine (HD.out _).mono ?_
    rintro e w1 ⟨rfl, b1⟩
    have HB := hid b1
    clear b1
    go_wp2_with fail
    go_quiet (fail)
    go_wp2_with fail
  · exact bodyPost_ret (v := .tuple #[.string (D.extract 2 D.size), .bool false, .bool ((lo.toNat : Int) == 0)]) (by simp [results, Tryz.results150, go_sem]) rfl ⟨by rw [HLO.out]; rfl, below_drewN HB.out _⟩
  · exact bodyPost_ret (v := .tuple #[.string (D.extract 2 D.size), .bool true, .bool ((lo.toNat : Int) == 0)]) (by simp [results, Tryz.results150, go_sem]) rfl ⟨by rw [HLO.out]; rfl, below_drewN HB.out _⟩
end Go.Proofs.YtbmohenjphmlgaaGreat

/- The walk of readPath (of the program), by the document's words; of readLeaf and readExtension. -/
namespace Go.Proofs.YtbmohenjphmlgaaGreat
open Go.RowKit
set_option maxRecDepth 100000

theorem ba_mk {s : ByteArray} {l : List UInt8} (h : s.data.toList = l) : s = ⟨l.toArray⟩ := by
  cases s
  rw [← h]

theorem ba_drop (D : ByteArray) (k : Nat) : D.extract k D.size = ⟨(D.data.toList.drop k).toArray⟩ := ba_mk (Lib.extract_to_end ..)

/-- What readPath tells, in the document's words. -/
def PathPost (s : ByteArray) (w : World) (e : Ending) (w' : World) : Prop :=
  ((Tr.unpath (Tr.itB s.data.toList) = none ∧ ∃ d m, e = .returned (.tuple #[.string d, .bool m, .bool false])) ∨ ∃ p leaf, Tr.unpath (Tr.itB s.data.toList) = some (p, leaf) ∧ e = .returned (.tuple #[.string ⟨p.toArray⟩, .bool leaf, .bool true])) ∧ Below w.heap.size w w'

theorem readPath_any (s : ByteArray) (hs : s.size ≤ 100000000) (w : World) : Calls Tryz.prog 150 #[.string s] w (PathPost s w) := by
  cases hl : s.data.toList with
  | nil =>
    have : s = ⟨#[]⟩ := ba_mk hl
    subst this
    refine (readPath_nil w).mono ?_
    rintro e w' ⟨rfl, b⟩
    exact ⟨.inl ⟨rfl, _, _, rfl⟩, b⟩
  | cons b r =>
    obtain ⟨D, hD⟩ : ∃ D : ByteArray, D = ⟨(Tr.digits s.data.toList).toArray⟩ := ⟨_, rfl⟩
    have hDl : D.data.toList = UInt8.ofNat (b.toNat / 16) :: UInt8.ofNat (b.toNat % 16) :: Tr.digits r := by rw [hD, hl, Tr.digits_cons]
    have hb := b.toNat_lt
    have hsz : 1 < D.size := by rw [← ba_len, hDl]; simp
    have n0 : (UInt8.ofNat (b.toNat / 16)).toNat = b.toNat / 16 := by rw [UInt8.toNat_ofNat']; omega
    have n1 : (UInt8.ofNat (b.toNat % 16)).toNat = b.toNat % 16 := by rw [UInt8.toNat_ofNat']; omega
    have g0 : ∀ h : 0 < D.size, D[0] = UInt8.ofNat (b.toNat / 16) := fun h => by
      have e : D.data.toList[0]? = some (UInt8.ofNat (b.toNat / 16)) := by rw [hDl]; rfl
      rw [Array.getElem?_toList] at e
      exact (Array.getElem?_eq_some_iff.1 e).2
    have g1 : ∀ h : 1 < D.size, D[1] = UInt8.ofNat (b.toNat % 16) := fun h => by
      have e : D.data.toList[1]? = some (UInt8.ofNat (b.toNat % 16)) := by rw [hDl]; rfl
      rw [Array.getElem?_toList] at e
      exact (Array.getElem?_eq_some_iff.1 e).2
    have un : Tr.unpath (Tr.itB (b :: r)) = if decide (64 ≤ b.toNat) then none else if decide (b.toNat / 16 % 2 ≠ 1) && decide (b.toNat % 16 ≠ 0) then none else some ((if b.toNat / 16 % 2 = 1 then [UInt8.ofNat (b.toNat % 16)] else []) ++ Tr.digits r, decide (32 ≤ b.toNat)) := by
      unfold Tr.unpath Tr.itB
      simp
    by_cases h64 : 64 ≤ b.toNat
    · refine (readPath_big s D _ hD hs hsz g0 (by rw [n0]; omega) w).mono ?_
      rintro e w' ⟨rfl, bb⟩
      refine ⟨.inl ⟨?_, _, _, rfl⟩, bb⟩
      rw [hl, un, decide_eq_true h64, if_pos rfl]
    · rw [decide_eq_false h64, if_neg (by simp)] at un
      by_cases hodd : b.toNat / 16 % 2 = 1
      · rw [if_neg (by simp [hodd]), if_pos hodd] at un
        have hcase : UInt8.ofNat (b.toNat / 16) = 1 ∨ UInt8.ofNat (b.toNat / 16) = 3 := by
          have : b.toNat / 16 = 1 ∨ b.toNat / 16 = 3 := by omega
          rcases this with h | h <;> rw [h]
          · left; rfl
          · right; rfl
        refine (readPath_odd s D _ hD hs hsz g0 hcase w).mono ?_
        rintro e w' ⟨rfl, bb⟩
        refine ⟨.inr ⟨_, _, by rw [hl]; exact un, ?_⟩, bb⟩
        rw [ba_drop, hDl]
        have : decide (UInt8.ofNat (b.toNat / 16) = 3) = decide (32 ≤ b.toNat) := by
          rw [Bool.eq_iff_iff, decide_eq_true_eq, decide_eq_true_eq]
          constructor
          · intro h
            have := congrArg UInt8.toNat h
            rw [n0] at this
            have h3 : (3 : UInt8).toNat = 3 := rfl
            omega
          · intro h
            rcases hcase with h' | h'
            · have := congrArg UInt8.toNat h'
              rw [n0] at this
              have h1 : (1 : UInt8).toNat = 1 := rfl
              omega
            · exact h'
        rw [this]
        rfl
      · rw [if_neg hodd] at un
        have hcase : UInt8.ofNat (b.toNat / 16) = 0 ∨ UInt8.ofNat (b.toNat / 16) = 2 := by
          have : b.toNat / 16 = 0 ∨ b.toNat / 16 = 2 := by omega
          rcases this with h | h <;> rw [h]
          · left; rfl
          · right; rfl
        refine (readPath_even s D _ _ hD hs hsz g0 g1 hcase w).mono ?_
        rintro e w' ⟨rfl, bb⟩
        rw [n1]
        by_cases hz : b.toNat % 16 = 0
        · rw [decide_eq_true hz]
          rw [if_neg (by simp [hz])] at un
          refine ⟨.inr ⟨_, _, by rw [hl]; exact un, ?_⟩, bb⟩
          rw [ba_drop, hDl]
          have : decide (UInt8.ofNat (b.toNat / 16) = 2) = decide (32 ≤ b.toNat) := by
            rw [Bool.eq_iff_iff, decide_eq_true_eq, decide_eq_true_eq]
            constructor
            · intro h
              have := congrArg UInt8.toNat h
              rw [n0] at this
              have h3 : (2 : UInt8).toNat = 2 := rfl
              omega
            · intro h
              rcases hcase with h' | h'
              · have := congrArg UInt8.toNat h'
                rw [n0] at this
                have h1 : (0 : UInt8).toNat = 0 := rfl
                omega
              · exact h'
          rw [this]
          rfl
        · rw [decide_eq_false hz]
          rw [if_pos (by simp [hz, hodd])] at un
          exact ⟨.inl ⟨by rw [hl]; exact un, _, _, rfl⟩, bb⟩
end Go.Proofs.YtbmohenjphmlgaaGreat

/- The walk of newExtension (of the program). -/
namespace Go.Proofs.YtbmohenjphmlgaaGreat
open Go.RowKit
set_option maxRecDepth 100000

theorem exec_load_row {P : Program} {o : Oper} {ρ : Operand → Value} {w : World} (ty : TypeId) (x : Operand) (ho : o.op = .load ty x)
    (g : Nat) (hx : ρ x = .pointer (some ⟨g, 0, none⟩)) (t : TypeId) (cs : Array Value) (fr : Nat × Nat) (d : TypeDesc) (hg : w.heap[g]? = some (.cells cs t fr))
    (hu : P.underlying ty = some d) (hd : (match d with | .struct _ | .array _ _ => true | _ => false) = true) (hi : (P.info? ty).map (·.size) = some cs.size) : Sem.run P (execOp ρ o) w = .ok (.value (.agg cs)) w := by
  unfold execOp
  simp only [ho, hx, Instr.loadAt, Instr.sureAddr, Sem.run_bind, Sem.run_pure, Result.andThen_ok, run_loadVar_row w g t ty cs fr d hg hu hd hi]

end Go.Proofs.YtbmohenjphmlgaaGreat

/- The walks of readLeaf and readExtension (of the program). -/
namespace Go.Proofs.YtbmohenjphmlgaaGreat
open Go.RowKit
set_option maxRecDepth 100000

theorem beqE (s : ByteArray) : s.toList.isEmpty = decide (s.size = 0) := by
  rw [ByteArray.toList_eq, Bool.eq_iff_iff, List.isEmpty_iff, decide_eq_true_eq, ← ba_len]
  exact List.length_eq_zero_iff.symm

set_option maxHeartbeats 1600000 in
theorem readLeaf_any (b off cap : Nat) (l1 : Bool) (s1 : ByteArray) (x1 : Option Addr) (n1 c1 : Nat) (d : ByteArray) (w : World) (hb : b < w.heap.size)
    (h0 : w.cell? ⟨b, off + 3, none⟩ = some (.bool l1)) (h1 : w.cell? ⟨b, off + 4, none⟩ = some (.string s1)) (h2 : w.cell? ⟨b, off + 5, none⟩ = some (.slice x1 n1 c1)) :
    Calls Tryz.prog 151 #[.agg #[.bool true, .string ⟨#[]⟩, .slice (some ⟨b, off, none⟩) 2 cap], .string d] w fun e w' => e = .returned (.tuple #[leafV (some ⟨b, off, none⟩) cap d s1, .bool ((!l1 && decide (s1.size ≤ 40)) && decide (0 < s1.size))]) ∧ Below w.heap.size w w' := by
  have HV := hid (fun w => readValue_any l1 s1 x1 n1 c1 w)
  have HBA : Hid (Below w.heap.size w (w.alloc (.cells #[.bool true, .string ⟨#[]⟩, .slice (some ⟨b, off, none⟩) 2 cap] 119))) := (Below.refl _ _).alloc (Nat.le_refl _) _
  have g0 := (HBA.out.cell (p := ⟨b, off + 3, none⟩) hb).trans h0
  have g1 := (HBA.out.cell (p := ⟨b, off + 4, none⟩) hb).trans h1
  have g2 := (HBA.out.cell (p := ⟨b, off + 5, none⟩) hb).trans h2
  have HE : Hid (decide (0 < s1.size) = !s1.toList.isEmpty) := by
    rw [Hid, beqE]
    by_cases h : s1.size = 0
    · simp [h]
    · simp [h]; omega
  clear h0 h1 h2
  go_enter Tryz.func151, Tryz.ntmps151
  go_wp2_with fail
  refine (HV.out _).mono ?_
  rintro e w1 ⟨rfl, b1⟩
  have HB1 : Hid (Below w.heap.size w w1) := HBA.out.trans (b1.mono HBA.out.size)
  have hb0 := old_block b1
  have q0 := cell_of_row _ _ 0 _ _ _ hb0
  have q1 := cell_of_row _ _ 1 _ _ _ hb0
  have q2 := cell_of_row _ _ 2 _ _ _ hb0
  clear b1 hb0 g0 g1 g2
  obtain ⟨ok, hok⟩ : ∃ ok, ok = (!l1 && decide (s1.size ≤ 40)) := ⟨_, rfl⟩
  have HOK := hid hok
  rw [← hok]
  clear hok
  cases ok with
  | true =>
    go_wp2_with fail
    exact bodyPost_ret (v := .tuple #[leafV (some ⟨b, off, none⟩) cap d s1, .bool (!s1.toList.isEmpty)]) (by simp [results, Tryz.results151, go_sem, leafV]) rfl ⟨by rw [← HOK.out, HE.out]; rfl, HB1.out⟩
  | false =>
    go_wp2_with fail
    exact bodyPost_ret (v := .tuple #[leafV (some ⟨b, off, none⟩) cap d s1, .bool false]) (by simp [results, Tryz.results151, go_sem, leafV]) rfl ⟨by rw [← HOK.out]; rfl, HB1.out⟩

set_option maxHeartbeats 1600000 in
theorem readExtension_any (b off cap : Nat) (l1 : Bool) (s1 : ByteArray) (x1 : Option Addr) (n1 c1 : Nat) (d : ByteArray) (w : World) (hb : b < w.heap.size)
    (h0 : w.cell? ⟨b, off + 3, none⟩ = some (.bool l1)) (h1 : w.cell? ⟨b, off + 4, none⟩ = some (.string s1)) (h2 : w.cell? ⟨b, off + 5, none⟩ = some (.slice x1 n1 c1)) :
    Calls Tryz.prog 152 #[.agg #[.bool true, .string ⟨#[]⟩, .slice (some ⟨b, off, none⟩) 2 cap], .string d] w fun e w' => e = .returned (.tuple #[extV (some ⟨b, off, none⟩) cap d s1 .nilIface, .bool (decide (0 < d.size) && (!l1 && decide (s1.size = 8)))]) ∧ Below w.heap.size w w' := by
  have HV := hid (fun w => isSumP_any l1 s1 x1 n1 c1 w)
  have HBA : Hid (Below w.heap.size w (w.alloc (.cells #[.bool true, .string ⟨#[]⟩, .slice (some ⟨b, off, none⟩) 2 cap] 119))) := (Below.refl _ _).alloc (Nat.le_refl _) _
  have g0 := (HBA.out.cell (p := ⟨b, off + 3, none⟩) hb).trans h0
  have g1 := (HBA.out.cell (p := ⟨b, off + 4, none⟩) hb).trans h1
  have g2 := (HBA.out.cell (p := ⟨b, off + 5, none⟩) hb).trans h2
  have HE : Hid (decide (0 < d.size) = !d.toList.isEmpty) := by
    rw [Hid, beqE]
    by_cases h : d.size = 0
    · simp [h]
    · simp [h]; omega
  clear h0 h1 h2
  cases he : d.toList.isEmpty with
  | true =>
    rw [he] at HE
    go_enter Tryz.func152, Tryz.ntmps152
    go_wp2_with fail
    go_quiet (fail)
    go_wp2_with fail
    exact bodyPost_ret (v := .tuple #[extV (some ⟨b, off, none⟩) cap d s1 .nilIface, .bool false]) (by simp [results, Tryz.results152, go_sem, extV]) rfl ⟨by rw [HE.out]; rfl, below_drewN (belowA (belowA HBA.out _) _) _⟩
  | false =>
    rw [he] at HE
    go_enter Tryz.func152, Tryz.ntmps152
    go_wp2_with fail
    have HB3 : Hid (Below w.heap.size w (((w.alloc (.cells #[.bool true, .string ⟨#[]⟩, .slice (some ⟨b, off, none⟩) 2 cap] 119)).alloc (.cells #[.bool l1, .string s1, .slice x1 n1 c1] 119)).alloc (.cells #[.int .i64 2, .bool true, .string ⟨#[]⟩, .slice (some ⟨b, off, none⟩) 2 cap, .string d, .string s1, .nilIface] 176))) := belowA (belowA HBA.out _) _
    have hS : (fun w' : World => w'.heap[w.heap.size + 1]? = some (.cells #[.bool l1, .string s1, .slice x1 n1 c1] 119 (0, 0)) ∧ w'.heap[w.heap.size + 1 + 1]? = some (.cells #[.int .i64 2, .bool true, .string ⟨#[]⟩, .slice (some ⟨b, off, none⟩) 2 cap, .string d, .string s1, .nilIface] 176 (0, 0))) (((w.alloc (.cells #[.bool true, .string ⟨#[]⟩, .slice (some ⟨b, off, none⟩) 2 cap] 119)).alloc (.cells #[.bool l1, .string s1, .slice x1 n1 c1] 119)).alloc (.cells #[.int .i64 2, .bool true, .string ⟨#[]⟩, .slice (some ⟨b, off, none⟩) 2 cap, .string d, .string s1, .nilIface] 176)).drew := ⟨(Below.heap_alloc _ _ _ (by rw [alloc_size, alloc_size]; omega)).trans (block_alloc2 w _ _), by
      have := heap_alloc_new ((w.alloc (.cells #[.bool true, .string ⟨#[]⟩, .slice (some ⟨b, off, none⟩) 2 cap] 119)).alloc (.cells #[.bool l1, .string s1, .slice x1 n1 c1] 119)) (.cells #[.int .i64 2, .bool true, .string ⟨#[]⟩, .slice (some ⟨b, off, none⟩) 2 cap, .string d, .string s1, .nilIface] 176)
      rw [alloc_size, alloc_size] at this
      exact this⟩
    refine wp_region_L (fun w' => w'.heap[w.heap.size + 1]? = some (.cells #[.bool l1, .string s1, .slice x1 n1 c1] 119 (0, 0)) ∧ w'.heap[w.heap.size + 1 + 1]? = some (.cells #[.int .i64 2, .bool true, .string ⟨#[]⟩, .slice (some ⟨b, off, none⟩) 2 cap, .string d, .string s1, .nilIface] 176 (0, 0))) 9 (by kernel_rfl) ?_
    generalize ((w.alloc (.cells #[.bool true, .string ⟨#[]⟩, .slice (some ⟨b, off, none⟩) 2 cap] 119)).alloc (.cells #[.bool l1, .string s1, .slice x1 n1 c1] 119)).alloc (.cells #[.int .i64 2, .bool true, .string ⟨#[]⟩, .slice (some ⟨b, off, none⟩) 2 cap, .string d, .string s1, .nilIface] 176) = W3 at *
    refine wpAnyL_take (i := 0) (v := .agg #[.int .i64 2, .bool true, .string ⟨#[]⟩, .slice (some ⟨b, off, none⟩) 2 cap, .string d, .string s1, .nilIface]) rfl (by kernel_rfl) (by kernel_rfl) (by kernel_rfl) (by kernel_rfl) (by kernel_rfl) (fun _ _ _ h => h) hS (Or.inl ⟨by kernel_rfl, ?_⟩) ?_
    · intro w' hSw
      exact exec_load_row 176 (.tmp 7) rfl _ rfl _ _ (0, 0) _ hSw.2 Tryz.underlying176 rfl (by kernel_rfl)
    try simp only [Act.put]
    refine wpAnyL_take (i := 1) (v := .iface 176 (.agg #[.int .i64 2, .bool true, .string ⟨#[]⟩, .slice (some ⟨b, off, none⟩) 2 cap, .string d, .string s1, .nilIface])) rfl (by kernel_rfl) (by kernel_rfl) (by kernel_rfl) (by kernel_rfl) (by kernel_rfl) (fun _ _ _ h => h) hS (Or.inl ⟨by kernel_rfl, ?_⟩) ?_
    · (intro w' hSw; go_simp)
    try simp only [Act.put]
    refine wpAnyL_take (i := 2) (v := .string d) rfl (by kernel_rfl) (by kernel_rfl) (by kernel_rfl) (by kernel_rfl) (by kernel_rfl) (fun _ _ _ h => h) hS (Or.inl ⟨by kernel_rfl, ?_⟩) ?_
    · (intro w' hSw; go_simp)
    try simp only [Act.put]
    refine wpAnyL_take (i := 3) (v := .bool true) rfl (by kernel_rfl) (by kernel_rfl) (by kernel_rfl) (by kernel_rfl) (by kernel_rfl) (fun _ _ _ h => h) hS (Or.inl ⟨by kernel_rfl, ?_⟩) ?_
    · (intro w' hSw; go_simp)
    try simp only [Act.put]
    refine wpAnyL_take (i := 4) (v := .bool true) rfl (by kernel_rfl) (by kernel_rfl) (by kernel_rfl) (by kernel_rfl) (by kernel_rfl) (fun _ _ _ h => h) hS (Or.inl ⟨by kernel_rfl, ?_⟩) ?_
    · (intro w' hSw; go_simp)
    try simp only [Act.put]
    refine wpAnyL_take (i := 5) (v := .agg #[.bool l1, .string s1, .slice x1 n1 c1]) rfl (by kernel_rfl) (by kernel_rfl) (by kernel_rfl) (by kernel_rfl) (by kernel_rfl) (fun _ _ _ h => h) hS (Or.inl ⟨by kernel_rfl, ?_⟩) ?_
    · intro w' hSw
      exact exec_load_row 119 (.tmp 6) rfl _ rfl _ _ (0, 0) _ hSw.1 Tryz.underlying119 rfl (by kernel_rfl)
    try simp only [Act.put]
    refine wpAnyL_ready (rs := [6]) (by kernel_rfl) (by simp) ?_
    refine AllReadyL.cons rfl (fun K hK => ?_) AllReadyL.nil
    go_simp
    refine (HV.out _).mono ?_
    rintro e w1 ⟨rfl, b1⟩
    have hS1 : (fun w' : World => w'.heap[w.heap.size + 1]? = some (.cells #[.bool l1, .string s1, .slice x1 n1 c1] 119 (0, 0)) ∧ w'.heap[w.heap.size + 1 + 1]? = some (.cells #[.int .i64 2, .bool true, .string ⟨#[]⟩, .slice (some ⟨b, off, none⟩) 2 cap, .string d, .string s1, .nilIface] 176 (0, 0))) w1 := ⟨kept_block b1 hS.1, kept_block b1 hS.2⟩
    have HB1 : Hid (Below w.heap.size w w1) := HB3.out.drew.trans (b1.mono HB3.out.size)
    clear b1
    refine hK.out _ _ hS1 ?_
    clear hK K
    try simp only [Act.put]
    obtain ⟨ok, hok⟩ : ∃ ok, ok = (!l1 && decide (s1.size = 8)) := ⟨_, rfl⟩
    have HOK := hid hok
    rw [← hok]
    clear hok
    refine wpAnyL_take (i := 7) (v := .bool ok) rfl (by kernel_rfl) (by kernel_rfl) (by kernel_rfl) (by kernel_rfl) (by kernel_rfl) (fun _ _ _ h => h) hS1 (Or.inl ⟨by kernel_rfl, ?_⟩) ?_
    · (intro w' hSw; go_simp)
    try simp only [Act.put]
    refine wpAnyL_ready (rs := [8]) (by kernel_rfl) (by simp) ?_
    refine AllReadyL.cons rfl (fun K hK => ?_) AllReadyL.nil
    go_simp
    refine hK.out _ _ hS1 ?_
    clear hK K
    try simp only [Act.put]
    refine wpAnyL_ready (rs := [9]) (by kernel_rfl) (by simp) ?_
    refine AllReadyL.last rfl (fun K hK => ?_)
    go_simp
    refine hK.out _ _ ?_
    clear hK K
    try simp only [Act.put]
    refine wpAny_done (by kernel_rfl) ?_ _
    go_wp2_with fail
    exact bodyPost_ret (v := .tuple #[extV (some ⟨b, off, none⟩) cap d s1 .nilIface, .bool ok]) (by simp [results, Tryz.results152, go_sem, extV]) rfl ⟨by rw [HE.out, ← HOK.out]; rfl, HB1.out⟩
end Go.Proofs.YtbmohenjphmlgaaGreat
