/- Part 10 of a proof: what the last text needs. -/
import Derived.Test.YtbmohenjphmlgabGreatPart9
import Derived.Test.YtbmohenjphmlgabGreatPart4
import Derived.BigQuiet
/- The walk of walk (of the program), for any finder that keeps what it must. -/
namespace Go.Proofs.YtbmohenjphmlgabGreat
open Go.RowKit
set_option maxRecDepth 100000

/-- A function that is entered when it is called. -/
def Enters (F : Nat) : Prop := ∀ (args : Array Value) (w : World), (callFunc F args).run Tryz.prog w = .ok (.enter F args) w

theorem enters_proof : Enters 75 := fun args w => by kernel_rfl
theorem enters_check : Enters 87 := fun args w => by kernel_rfl

/-- What next and valueAt of a node tell, for digits. -/
def Steps (v : Value) (d s : ByteArray) (n : Value) (rest : ByteArray) (on : Bool) (x : ByteArray) : Prop :=
  ∃ T A f1 r1 f2 r2, v = .iface T A ∧ Enters f1 ∧ Enters f2 ∧
    (∀ w, (method 294 T A "witness/tree.next").run Tryz.prog w = .ok (f1, r1) w) ∧ (∀ w, Calls Tryz.prog f1 #[r1, .string d] w fun e w' => e = .returned (.tuple #[.agg #[.string s, n], .string rest, .bool on]) ∧ Below w.heap.size w w') ∧
    (∀ w, (method 294 T A "witness/tree.valueAt").run Tryz.prog w = .ok (f2, r2) w) ∧ (on = false → ∀ w, Calls Tryz.prog f2 #[r2, .string d] w fun e w' => e = .returned (.string x) ∧ Below w.heap.size w w')

theorem steps_empty (d : ByteArray) : Steps emptyV d ⟨#[]⟩ .nilIface ⟨#[]⟩ false ⟨#[]⟩ :=
  ⟨_, _, 141, .agg #[.int .i64 0, .bool false, .string ⟨#[]⟩, .slice none 0 0], 143, .agg #[.int .i64 0, .bool false, .string ⟨#[]⟩, .slice none 0 0], rfl, fun _ _ => by kernel_rfl, fun _ _ => by kernel_rfl, fun _ => by kernel_rfl, fun w => commonNext_any _ _ _ _ _ w, fun _ => by kernel_rfl, fun _ w => commonValueAt_any _ _ _ _ _ w⟩

theorem steps_leaf (a : Option Addr) (cap : Nat) (t x d : ByteArray) : Steps (leafV a cap t x) d ⟨#[]⟩ .nilIface ⟨#[]⟩ false (if d = t then x else ⟨#[]⟩) :=
  ⟨_, _, 141, .agg #[.int .i64 1, .bool true, .string ⟨#[]⟩, .slice a 2 cap], 147, .agg #[.int .i64 1, .bool true, .string ⟨#[]⟩, .slice a 2 cap, .string t, .string x], rfl, fun _ _ => by kernel_rfl, fun _ _ => by kernel_rfl, fun _ => by kernel_rfl, fun w => commonNext_any _ _ _ _ _ w, fun _ => by kernel_rfl, fun _ w => leafValueAt_any _ _ _ _ _ _ _ _ _ w⟩

theorem steps_ext (a : Option Addr) (cap : Nat) (t s d : ByteArray) (v : Value) (hv : IsNode v) : Steps (extV a cap t s v) d s v (cutP t d) (pre t d) ⟨#[]⟩ :=
  ⟨_, _, 148, .agg #[.int .i64 2, .bool true, .string ⟨#[]⟩, .slice a 2 cap, .string t, .string s, v], 143, .agg #[.int .i64 2, .bool true, .string ⟨#[]⟩, .slice a 2 cap], rfl, fun _ _ => by kernel_rfl, fun _ _ => by kernel_rfl, fun _ => by kernel_rfl, fun w => extNext_any _ _ _ _ _ _ _ _ _ _ w hv, fun _ => by kernel_rfl, fun _ w => commonValueAt_any _ _ _ _ _ w⟩

theorem steps_end (a : Option Addr) (cap : Nat) (cs : Array Value) (x : ByteArray) (hcs : cs.size = 32) : Steps (branchV a cap cs x) ⟨#[]⟩ ⟨#[]⟩ .nilIface ⟨#[]⟩ false x :=
  ⟨_, _, 144, .agg (branchCells a cap cs x), 146, .agg (branchCells a cap cs x), rfl, fun _ _ => by kernel_rfl, fun _ _ => by kernel_rfl, fun _ => by kernel_rfl, fun w => branchNext_nil _ _ _ _ w, fun _ => by kernel_rfl, fun _ w => branchValueAt_any _ _ _ _ _ w hcs⟩

theorem steps_branch (a : Option Addr) (cap : Nat) (cs : Array Value) (x d : ByteArray) (hcs : cs.size = 32) (c : UInt8) (r : List UInt8) (hcr : d.data.toList = c :: r) (hc : c.toNat < 16) (s : ByteArray) (v : Value) (hv : IsNode v)
    (h0 : cs[2 * c.toNat]? = some (.string s)) (h1 : cs[2 * c.toNat + 1]? = some v) : Steps (branchV a cap cs x) d s v ⟨r.toArray⟩ true x :=
  ⟨_, _, 144, .agg (branchCells a cap cs x), 146, .agg (branchCells a cap cs x), rfl, fun _ _ => by kernel_rfl, fun _ _ => by kernel_rfl, fun _ => by kernel_rfl, fun w => branchNext_any _ _ _ _ _ w (by rw [← ba_len, hcr]; simp) c r hcr hc s v hv h0 h1, fun _ => by kernel_rfl, fun _ w => branchValueAt_any _ _ _ _ _ w hcs⟩

/-- What a way does at a node: it ends there, or goes on by a reference. -/
structure Way (F : Nat) (c : Addr) (J : World → Value → ByteArray → Prop) (Q : ByteArray → Bool → World → Prop) (w : World) (v : Value) (d : ByteArray) : Prop where
  step : ∃ s n rest on x, Steps v d s n rest on x ∧ IsNode n ∧
    (on = false → ∀ w', Below w.heap.size w w' → Q x true w') ∧
    (on = true → rest.size < d.size ∧ ∀ w', Below w.heap.size w w' → Calls Tryz.prog 100 #[v, .agg #[.string s, n], .func (.func F) #[] #[.pointer (some c)]] w' fun e w'' => ∃ v' ok, e = .returned (.tuple #[v', .bool ok]) ∧ (ok = true → J w'' v' rest) ∧ (ok = false → Q ⟨#[]⟩ false w''))

set_option maxHeartbeats 3200000 in
theorem walk_any (F : Nat) (hF : Enters F) (c : Addr) (s : ByteArray) (n : Value) (hn : IsNode n) (d : ByteArray) (w : World) (J : World → Value → ByteArray → Prop) (Q : ByteArray → Bool → World → Prop)
    (h0 : ∀ w', Below w.heap.size w w' → Calls Tryz.prog F #[.agg #[.string s, n], .pointer (some c)] w' fun e w'' => ∃ v' ok, e = .returned (.tuple #[v', .bool ok]) ∧ (ok = true → J w'' v' d) ∧ (ok = false → Q ⟨#[]⟩ false w''))
    (hJ : ∀ w v d, J w v d → Way F c J Q w v d) :
    Calls Tryz.prog 74 #[.agg #[.string s, n], .string d, .func (.func F) #[] #[.pointer (some c)]] w fun e w' => ∃ x ok, e = .returned (.tuple #[.string x, .bool ok]) ∧ Q x ok w' := by
  have H0 := hid h0
  have HJ := hid hJ
  clear h0 hJ
  unfold Enters at hF
  rcases hn with rfl | ⟨T, y, rfl⟩
  all_goals
    go_enter Tryz.func74, Tryz.ntmps74
    go_wp2_with fail
    refine (H0.out _ ((Below.refl _ _).alloc (Nat.le_refl _) _)).mono ?_
    rintro e w1 ⟨v1, ok, rfl, g1, g2⟩
    have HG1 := hid g1
    have HG2 := hid g2
    clear g1 g2
    go_wp2_with fail
    go_loopw [1, 7, 8] (fun dd oo vv wr => ∃ d' ok', dd = .string d' ∧ oo = .bool ok' ∧ (ok' = true → J wr vv d') ∧ (ok' = false → Q ⟨#[]⟩ false wr)) (fun dd _ _ _ => (match dd with | .string d' => d'.size | _ => 0))
    case atStart => exact ⟨d, ok, rfl, rfl, HG1.out, HG2.out⟩
    case round =>
      obtain ⟨d', ok', rfl, rfl, hg1, hg2⟩ := hrel
      cases ok' with
      | false =>
        have HQ := hid (hg2 rfl)
        clear hg1 hg2
        go_wp2_with fail
        exact bodyPost_ret (v := .tuple #[.string ⟨#[]⟩, .bool false]) (by simp [results, Tryz.results74, go_sem]) rfl ⟨_, _, rfl, HQ.out⟩
      | true =>
        obtain ⟨⟨s', n', rest, on, x, hst, hn', hq, hf⟩⟩ := HJ.out _ _ _ (hg1 rfl)
        obtain ⟨T', A', f1, r1, f2, r2, rfl, e1, e2, m1, c1, m2, c2⟩ := hst
        unfold Enters at e1 e2
        have HC1 := hid c1
        have HC2 := hid c2
        have HQ := hid hq
        have HF := hid hf
        clear c1 c2 hq hf hg1 hg2
        rcases hn' with rfl | ⟨T2, y2, rfl⟩
        all_goals
          cases on with
          | false =>
            go_wp2_with fail
            refine (HC1.out _).mono ?_
            rintro e w2 ⟨rfl, b2⟩
            have HB2 := hid b2
            clear b2
            go_wp2_with fail
            refine (HC2.out (by trivial) _).mono ?_
            rintro e w3 ⟨rfl, b3⟩
            have HB3 := hid b3
            clear b3
            go_wp2_with fail
            exact bodyPost_ret (v := .tuple #[.string x, .bool true]) (by simp [results, Tryz.results74, go_sem]) rfl ⟨_, _, rfl, HQ.out (by trivial) _ ((HB2.out.alloc HB2.out.size _).trans (HB3.out.mono (by simp; exact Nat.le_succ_of_le HB2.out.size)))⟩
          | true =>
            go_wp2_with fail
            refine (HC1.out _).mono ?_
            rintro e w2 ⟨rfl, b2⟩
            have HB2 := hid b2
            clear b2
            go_wp2_with fail
            refine ((HF.out (by trivial)).2 _ (HB2.out.alloc HB2.out.size _)).mono ?_
            rintro e w3 ⟨v3, ok3, rfl, g1, g2⟩
            have HG1 := hid g1
            have HG2 := hid g2
            clear g1 g2
            go_wp2_with fail
            exact ⟨⟨rest, ok3, rfl, rfl, HG1.out, HG2.out⟩, (HF.out (by trivial)).1⟩
end Go.Proofs.YtbmohenjphmlgabGreat

/- The walks of mayFollow and follow (of the program). -/
namespace Go.Proofs.YtbmohenjphmlgabGreat
open Go.RowKit
set_option maxRecDepth 100000

/-- May a node of kind k' stand where one of kind k refers to it by its sum? -/
def mayB (k k' : Nat) (short : Bool) : Bool := !short && (decide (k ≠ 2) || decide (k' = 3))

set_option maxHeartbeats 1600000 in
theorem mayFollow_any {v v' : Value} {k k' : Nat} {l l' : Bool} {s s' : ByteArray} {a a' : Option Addr} {n n' cap cap' m : Nat} {t : Itm} (w : World) (h : Nd v k l s a n cap) (h' : Nd v' k' l' s' a' n' cap') (hs : Small t) (hr : Rep w.heap.size w (m + 1) (.agg #[.bool l', .string s', .slice a' n' cap']) t) :
    Calls Tryz.prog 112 #[v, v'] w fun e w' => e = .returned (.bool (mayB k k' (decide ((Itm.enc t).length < 8)))) ∧ Below w.heap.size w w' := by
  have HS := hid (isShort_any w h' hs hr)
  have HK := hid (fun k a n cap l s w => commonKind_any k a n cap l s w)
  obtain ⟨T, A, rfl, _, _, hm, _⟩ := nd_call h
  obtain ⟨T', A', rfl, _, _, hm', _⟩ := nd_call h'
  have HM : Hid (mayB k k' (decide ((Itm.enc t).length < 8)) = (!(decide ((Itm.enc t).length < 8)) && (decide (k ≠ 2) || decide (k' = 3)))) := rfl
  generalize decide ((Itm.enc t).length < 8) = b at *
  clear hr h h' hs
  cases b with
  | true =>
    go_enter Tryz.func112, Tryz.ntmps112
    go_wp2_with fail
    refine HS.out.mono ?_
    rintro e w1 ⟨rfl, b1⟩
    have HB := hid b1
    clear b1
    go_wp2_with fail
    go_ret
    exact ⟨by rw [HM.out]; rfl, HB.out⟩
  | false =>
    by_cases h2 : k = 2
    · subst h2
      by_cases h3 : k' = 3
      · subst h3
        go_enter Tryz.func112, Tryz.ntmps112
        go_wp2_with fail
        refine HS.out.mono ?_
        rintro e w1 ⟨rfl, b1⟩
        have HB := hid b1
        clear b1
        go_wp2_with fail
        refine (HK.out _ _ _ _ _ _ _).mono ?_
        rintro e w2 ⟨rfl, b2⟩
        have HB2 := hid b2
        clear b2
        go_wp2_with fail
        refine (HK.out _ _ _ _ _ _ _).mono ?_
        rintro e w3 ⟨rfl, b3⟩
        have HB3 := hid b3
        clear b3
        go_wp2_with fail
        go_ret
        exact ⟨by rw [HM.out]; rfl, HB.out.trans ((HB2.out.trans (HB3.out.mono HB2.out.size)).mono HB.out.size)⟩
      · have i3 : ((k' : Int) == 3) = false := by rw [beq_eq_false_iff_ne]; omega
        rw [decide_eq_false h3] at HM
        clear h3
        go_enter Tryz.func112, Tryz.ntmps112
        go_wp2_with fail
        refine HS.out.mono ?_
        rintro e w1 ⟨rfl, b1⟩
        have HB := hid b1
        clear b1
        go_wp2_with fail
        refine (HK.out _ _ _ _ _ _ _).mono ?_
        rintro e w2 ⟨rfl, b2⟩
        have HB2 := hid b2
        clear b2
        go_wp2_with fail
        refine (HK.out _ _ _ _ _ _ _).mono ?_
        rintro e w3 ⟨rfl, b3⟩
        have HB3 := hid b3
        clear b3
        go_wp2_with fail
        go_ret
        exact ⟨by rw [HM.out]; rfl, HB.out.trans ((HB2.out.trans (HB3.out.mono HB2.out.size)).mono HB.out.size)⟩
    · have i2 : ¬ (k : Int) = 2 := by omega
      rw [decide_eq_true h2] at HM
      clear h2
      go_enter Tryz.func112, Tryz.ntmps112
      go_wp2_with fail
      refine HS.out.mono ?_
      rintro e w1 ⟨rfl, b1⟩
      have HB := hid b1
      clear b1
      go_wp2_with fail
      refine (HK.out _ _ _ _ _ _ _).mono ?_
      rintro e w2 ⟨rfl, b2⟩
      have HB2 := hid b2
      clear b2
      go_wp2_with fail
      go_ret
      exact ⟨by rw [HM.out]; rfl, HB.out.trans (HB2.out.mono HB.out.size)⟩

/-- A reference with no sum is followed to its own node. -/
theorem follow_own {v n : Value} {F : Nat} {c : Addr} (w : World) (hn : IsNode n) : Calls Tryz.prog 100 #[v, .agg #[.string ⟨#[]⟩, n], .func (.func F) #[] #[.pointer (some c)]] w fun e w' => e = .returned (.tuple #[n, .bool true]) ∧ Below w.heap.size w w' := by
  rcases hn with rfl | ⟨T, y, rfl⟩
  · go_enter Tryz.func100, Tryz.ntmps100
    go_wp2_with fail
    exact bodyPost_ret (v := .tuple #[.nilIface, .bool true]) (by simp [results, Tryz.results100, go_sem]) rfl ⟨rfl, (Below.refl _ _).alloc (Nat.le_refl _) _⟩
  · go_enter Tryz.func100, Tryz.ntmps100
    go_wp2_with fail
    exact bodyPost_ret (v := .tuple #[.iface T y, .bool true]) (by simp [results, Tryz.results100, go_sem]) rfl ⟨rfl, (Below.refl _ _).alloc (Nat.le_refl _) _⟩

/-- A reference by a sum is asked of the finder, and what it gives is looked at. -/
theorem follow_sum {v n : Value} {F : Nat} {c : Addr} {s : ByteArray} (w : World) (hF : Enters F) (hn : IsNode n) (hs : 0 < s.size) (Q : Value → Bool → World → Prop)
    (h : ∀ w', Below w.heap.size w w' → Calls Tryz.prog F #[.agg #[.string s, n], .pointer (some c)] w' fun e w'' => ∃ v' ok, e = .returned (.tuple #[v', .bool ok]) ∧ (ok = false → Q v' false w'') ∧
      (ok = true → Calls Tryz.prog 112 #[v, v'] w'' fun e w3 => ∃ b, e = .returned (.bool b) ∧ Q v' b w3)) :
    Calls Tryz.prog 100 #[v, .agg #[.string s, n], .func (.func F) #[] #[.pointer (some c)]] w fun e w' => ∃ v' ok, e = .returned (.tuple #[v', .bool ok]) ∧ Q v' ok w' := by
  have he : s.toList.isEmpty = false := by
    rw [ByteArray.toList_eq, List.isEmpty_eq_false_iff]
    intro e
    have := ba_len s
    rw [e] at this
    simp at this
    omega
  have H := hid h
  unfold Enters at hF
  clear h hs
  rcases hn with rfl | ⟨T, y, rfl⟩
  all_goals
    go_enter Tryz.func100, Tryz.ntmps100
    go_wp2_with fail
    refine (H.out _ ((Below.refl _ _).alloc (Nat.le_refl _) _)).mono ?_
    rintro e w1 ⟨v1, ok, rfl, g1, g2⟩
    have HG1 := hid g1
    have HG2 := hid g2
    clear g1 g2
    cases ok with
    | false =>
      go_wp2_with fail
      exact bodyPost_ret (v := .tuple #[v1, .bool false]) (by simp [results, Tryz.results100, go_sem]) rfl ⟨_, _, rfl, HG1.out (by trivial)⟩
    | true =>
      go_wp2_with fail
      refine (HG2.out (by trivial)).mono ?_
      rintro e w3 ⟨b, rfl, q⟩
      have HQ := hid q
      clear q
      go_wp2_with fail
      exact bodyPost_ret (v := .tuple #[v1, .bool b]) (by simp [results, Tryz.results100, go_sem]) rfl ⟨_, _, rfl, HQ.out⟩
end Go.Proofs.YtbmohenjphmlgabGreat

/- The walks of isSum, readValue, leadsNowhere, readPath (of the program). -/
namespace Go.Proofs.YtbmohenjphmlgabGreat
open Go.RowKit
set_option maxRecDepth 100000

theorem isSumP_any (l : Bool) (s : ByteArray) (x : Option Addr) (n cap : Nat) (w : World) : Calls Tryz.prog 122 #[.agg #[.bool l, .string s, .slice x n cap]] w fun e w' => e = .returned (.bool (!l && decide (s.size = 8))) ∧ Below w.heap.size w w' := by
  cases l with
  | true =>
    go_enter Tryz.func122, Tryz.ntmps122
    go_wp2_with fail
    go_ret
    exact ⟨rfl, (Below.refl _ _).alloc (Nat.le_refl _) _⟩
  | false =>
    have e : ((s.size : Int) == 8) = decide (s.size = 8) := by
      rw [Bool.eq_iff_iff, beq_iff_eq, decide_eq_true_eq]; omega
    go_enter Tryz.func122, Tryz.ntmps122
    go_wp2_with fail
    go_ret
    exact ⟨by first | rfl | (rw [← e]; rfl), (Below.refl _ _).alloc (Nat.le_refl _) _⟩

theorem readValue_any (l : Bool) (s : ByteArray) (x : Option Addr) (n cap : Nat) (w : World) : Calls Tryz.prog 121 #[.agg #[.bool l, .string s, .slice x n cap]] w fun e w' => e = .returned (.tuple #[.string s, .bool (!l && decide (s.size ≤ 40))]) ∧ Below w.heap.size w w' := by
  cases l with
  | true =>
    go_enter Tryz.func121, Tryz.ntmps121
    go_wp2_with fail
    go_quiet (fail)
    go_wp2_with fail
    go_ret2
    exact ⟨rfl, below_drewN ((Below.refl _ _).alloc (Nat.le_refl _) _) _⟩
  | false =>
    have e : decide ((s.size : Int) ≤ 40) = decide (s.size ≤ 40) := by
      rw [Bool.eq_iff_iff, decide_eq_true_eq, decide_eq_true_eq]; omega
    go_enter Tryz.func121, Tryz.ntmps121
    go_wp2_with fail
    go_quiet (fail)
    go_wp2_with fail
    go_ret2
    exact ⟨by first | rfl | (rw [← e]; rfl), below_drewN ((Below.refl _ _).alloc (Nat.le_refl _) _) _⟩

/-- A reference by a sum leads somewhere. -/
theorem leads_sum (s : ByteArray) (n : Value) (hn : IsNode n) (w : World) (hs : 0 < s.size) : Calls Tryz.prog 120 #[.agg #[.string s, n]] w fun e w' => e = .returned (.bool false) ∧ Below w.heap.size w w' := by
  have he : s.toList.isEmpty = false := by
    rw [ByteArray.toList_eq, List.isEmpty_eq_false_iff]
    intro e
    have := ba_len s
    rw [e] at this
    simp at this
    omega
  clear hs
  rcases hn with rfl | ⟨T, y, rfl⟩
  all_goals
    go_enter Tryz.func120, Tryz.ntmps120
    go_wp2_with fail
    go_ret
    exact ⟨rfl, (Below.refl _ _).alloc (Nat.le_refl _) _⟩

/-- A node that stands here itself leads nowhere if it is empty. -/
theorem leads_node {v : Value} {k : Nat} {l : Bool} {s : ByteArray} {a : Option Addr} {n cap : Nat} (w : World) (h : Nd v k l s a n cap) : Calls Tryz.prog 120 #[.agg #[.string ⟨#[]⟩, v]] w fun e w' => e = .returned (.bool (decide (k = 0))) ∧ Below w.heap.size w w' := by
  have HK := hid (fun k a n cap l s w => commonKind_any k a n cap l s w)
  obtain ⟨T, A, rfl, _, _, hm, _⟩ := nd_call h
  clear h
  have e : ((k : Int) == 0) = decide (k = 0) := by
    rw [Bool.eq_iff_iff, beq_iff_eq, decide_eq_true_eq]; omega
  go_enter Tryz.func120, Tryz.ntmps120
  go_wp2_with fail
  refine (HK.out _ _ _ _ _ _ _).mono ?_
  rintro e w2 ⟨rfl, b2⟩
  have HB : Hid (Below w.heap.size w w2) := ((Below.refl _ _).alloc (Nat.le_refl _) _).trans (b2.mono (by simp))
  clear b2
  go_wp2_with fail
  go_ret
  exact ⟨by first | rfl | (rw [← e]; rfl), HB.out⟩

theorem readPath_nil (w : World) : Calls Tryz.prog 116 #[.string ⟨#[]⟩] w fun e w' => e = .returned (.tuple #[.string ⟨#[]⟩, .bool false, .bool false]) ∧ Below w.heap.size w w' := by
  have HD := hid (fun w => digitsOf_any ⟨#[]⟩ w (by decide))
  have HE : Hid ((⟨(Tr.digits (⟨#[]⟩ : ByteArray).data.toList).toArray⟩ : ByteArray) = ⟨#[]⟩) := rfl
  go_enter Tryz.func116, Tryz.ntmps116
  go_wp2_with fail
  refine (HD.out _).mono ?_
  rintro e w1 ⟨rfl, b1⟩
  rw [HE.out]
  have HB := hid b1
  clear b1
  go_wp2_with fail
  exact bodyPost_ret (v := .tuple #[.string ⟨#[]⟩, .bool false, .bool false]) (by simp [results, Tryz.results116, go_sem]) rfl ⟨rfl, HB.out⟩

/-- What of digits is looked at. -/
theorem readPath_big (s D : ByteArray) (hi : UInt8) (h : D = ⟨(Tr.digits s.data.toList).toArray⟩) (hs : s.size ≤ 100000000) (hd : 1 < D.size) (h0 : ∀ h : 0 < D.size, D[0] = hi) (hb : 3 < hi.toNat) (w : World) :
    Calls Tryz.prog 116 #[.string s] w fun e w' => e = .returned (.tuple #[.string ⟨#[]⟩, .bool false, .bool false]) ∧ Below w.heap.size w w' := by
  have HD := hid (fun w => digitsOf_any s w hs)
  rw [← h] at HD
  have he : D.toList.isEmpty = false := by
    rw [ByteArray.toList_eq, List.isEmpty_eq_false_iff]
    intro e
    have := ba_len D
    rw [e] at this
    simp at this
    omega
  have i0 : 0 < D.size := by omega
  have i3 : (3 : Int) < (hi.toNat : Int) := by omega
  clear h hs hd hb
  go_enter Tryz.func116, Tryz.ntmps116
  go_wp2_with fail
  refine (HD.out _).mono ?_
  rintro e w1 ⟨rfl, b1⟩
  have HB := hid b1
  clear b1
  go_wp2_with fail
  exact bodyPost_ret (v := .tuple #[.string ⟨#[]⟩, .bool false, .bool false]) (by simp [results, Tryz.results116, go_sem]) rfl ⟨rfl, HB.out⟩

theorem readPath_odd (s D : ByteArray) (hi : UInt8) (h : D = ⟨(Tr.digits s.data.toList).toArray⟩) (hs : s.size ≤ 100000000) (hd : 1 < D.size) (h0 : ∀ h : 0 < D.size, D[0] = hi) (hb : hi = 1 ∨ hi = 3) (w : World) :
    Calls Tryz.prog 116 #[.string s] w fun e w' => e = .returned (.tuple #[.string (D.extract 1 D.size), .bool (decide (hi = 3)), .bool true]) ∧ Below w.heap.size w w' := by
  have HD := hid (fun w => digitsOf_any s w hs)
  rw [← h] at HD
  have he : D.toList.isEmpty = false := by
    rw [ByteArray.toList_eq, List.isEmpty_eq_false_iff]
    intro e
    have := ba_len D
    rw [e] at this
    simp at this
    omega
  have i0 : 0 < D.size := by omega
  have i1 : (1 : Int) ≤ (D.size : Int) := by omega
  clear h hs hd
  have q1 : bits .and .u8 1 2 = 0 := by decide
  have q2 : bits .and .u8 3 2 = 2 := by decide
  have q3 : bits .and .u8 1 1 = 1 := by decide
  have q4 : bits .and .u8 3 1 = 1 := by decide
  rcases hb with rfl | rfl
  all_goals
    go_enter Tryz.func116, Tryz.ntmps116
    go_wp2_with fail
    refine (HD.out _).mono ?_
    rintro e w1 ⟨rfl, b1⟩
    have HB := hid b1
    clear b1
    go_wp2_with fail
  · exact bodyPost_ret (v := .tuple #[.string (D.extract 1 D.size), .bool false, .bool true]) (by simp [results, Tryz.results116, go_sem]) rfl ⟨rfl, HB.out⟩
  · exact bodyPost_ret (v := .tuple #[.string (D.extract 1 D.size), .bool true, .bool true]) (by simp [results, Tryz.results116, go_sem]) rfl ⟨rfl, HB.out⟩

theorem readPath_even (s D : ByteArray) (hi lo : UInt8) (h : D = ⟨(Tr.digits s.data.toList).toArray⟩) (hs : s.size ≤ 100000000) (hd : 1 < D.size) (h0 : ∀ h : 0 < D.size, D[0] = hi) (h1 : ∀ h : 1 < D.size, D[1] = lo) (hb : hi = 0 ∨ hi = 2) (w : World) :
    Calls Tryz.prog 116 #[.string s] w fun e w' => e = .returned (.tuple #[.string (D.extract 2 D.size), .bool (decide (hi = 2)), .bool (decide (lo.toNat = 0))]) ∧ Below w.heap.size w w' := by
  have HD := hid (fun w => digitsOf_any s w hs)
  rw [← h] at HD
  have he : D.toList.isEmpty = false := by
    rw [ByteArray.toList_eq, List.isEmpty_eq_false_iff]
    intro e
    have := ba_len D
    rw [e] at this
    simp at this
    omega
  have i0 : 0 < D.size := by omega
  have i1 : 1 < D.size := by omega
  have i2 : (2 : Int) ≤ (D.size : Int) := by omega
  have HLO : Hid (((lo.toNat : Int) == 0) = decide (lo.toNat = 0)) := by
    rw [Hid, Bool.eq_iff_iff, beq_iff_eq, decide_eq_true_eq]; omega
  clear h hs hd
  have q1 : bits .and .u8 0 2 = 0 := by decide
  have q2 : bits .and .u8 2 2 = 2 := by decide
  have q3 : bits .and .u8 0 1 = 0 := by decide
  have q4 : bits .and .u8 2 1 = 0 := by decide
  rcases hb with rfl | rfl
  all_goals
    go_enter Tryz.func116, Tryz.ntmps116
    go_wp2_with fail
    refine (HD.out _).mono ?_
    rintro e w1 ⟨rfl, b1⟩
    have HB := hid b1
    clear b1
    go_wp2_with fail
    go_quiet (fail)
    go_wp2_with fail
  · exact bodyPost_ret (v := .tuple #[.string (D.extract 2 D.size), .bool false, .bool ((lo.toNat : Int) == 0)]) (by simp [results, Tryz.results116, go_sem]) rfl ⟨by rw [HLO.out]; rfl, below_drewN HB.out _⟩
  · exact bodyPost_ret (v := .tuple #[.string (D.extract 2 D.size), .bool true, .bool ((lo.toNat : Int) == 0)]) (by simp [results, Tryz.results116, go_sem]) rfl ⟨by rw [HLO.out]; rfl, below_drewN HB.out _⟩
end Go.Proofs.YtbmohenjphmlgabGreat

/- The walk of readPath (of the program), by the document's words; of readLeaf and readExtension. -/
namespace Go.Proofs.YtbmohenjphmlgabGreat
open Go.RowKit
set_option maxRecDepth 100000

theorem ba_mk {s : ByteArray} {l : List UInt8} (h : s.data.toList = l) : s = ⟨l.toArray⟩ := by
  cases s
  rw [← h]

theorem ba_drop (D : ByteArray) (k : Nat) : D.extract k D.size = ⟨(D.data.toList.drop k).toArray⟩ := ba_mk (Lib.extract_to_end ..)

/-- What readPath tells, in the document's words. -/
def PathPost (s : ByteArray) (w : World) (e : Ending) (w' : World) : Prop :=
  ((Tr.unpath (Tr.itB s.data.toList) = none ∧ ∃ d m, e = .returned (.tuple #[.string d, .bool m, .bool false])) ∨ ∃ p leaf, Tr.unpath (Tr.itB s.data.toList) = some (p, leaf) ∧ e = .returned (.tuple #[.string ⟨p.toArray⟩, .bool leaf, .bool true])) ∧ Below w.heap.size w w'

theorem readPath_any (s : ByteArray) (hs : s.size ≤ 100000000) (w : World) : Calls Tryz.prog 116 #[.string s] w (PathPost s w) := by
  cases hl : s.data.toList with
  | nil =>
    have : s = ⟨#[]⟩ := ba_mk hl
    subst this
    refine (readPath_nil w).mono ?_
    rintro e w' ⟨rfl, b⟩
    exact ⟨.inl ⟨rfl, _, _, rfl⟩, b⟩
  | cons b r =>
    obtain ⟨D, hD⟩ : ∃ D : ByteArray, D = ⟨(Tr.digits s.data.toList).toArray⟩ := ⟨_, rfl⟩
    have hDl : D.data.toList = UInt8.ofNat (b.toNat / 16) :: UInt8.ofNat (b.toNat % 16) :: Tr.digits r := by rw [hD, hl, Tr.digits_cons]
    have hb := b.toNat_lt
    have hsz : 1 < D.size := by rw [← ba_len, hDl]; simp
    have n0 : (UInt8.ofNat (b.toNat / 16)).toNat = b.toNat / 16 := by rw [UInt8.toNat_ofNat']; omega
    have n1 : (UInt8.ofNat (b.toNat % 16)).toNat = b.toNat % 16 := by rw [UInt8.toNat_ofNat']; omega
    have g0 : ∀ h : 0 < D.size, D[0] = UInt8.ofNat (b.toNat / 16) := fun h => by
      have e : D.data.toList[0]? = some (UInt8.ofNat (b.toNat / 16)) := by rw [hDl]; rfl
      rw [Array.getElem?_toList] at e
      exact (Array.getElem?_eq_some_iff.1 e).2
    have g1 : ∀ h : 1 < D.size, D[1] = UInt8.ofNat (b.toNat % 16) := fun h => by
      have e : D.data.toList[1]? = some (UInt8.ofNat (b.toNat % 16)) := by rw [hDl]; rfl
      rw [Array.getElem?_toList] at e
      exact (Array.getElem?_eq_some_iff.1 e).2
    have un : Tr.unpath (Tr.itB (b :: r)) = if decide (64 ≤ b.toNat) then none else if decide (b.toNat / 16 % 2 ≠ 1) && decide (b.toNat % 16 ≠ 0) then none else some ((if b.toNat / 16 % 2 = 1 then [UInt8.ofNat (b.toNat % 16)] else []) ++ Tr.digits r, decide (32 ≤ b.toNat)) := by
      unfold Tr.unpath Tr.itB
      simp
    by_cases h64 : 64 ≤ b.toNat
    · refine (readPath_big s D _ hD hs hsz g0 (by rw [n0]; omega) w).mono ?_
      rintro e w' ⟨rfl, bb⟩
      refine ⟨.inl ⟨?_, _, _, rfl⟩, bb⟩
      rw [hl, un, decide_eq_true h64, if_pos rfl]
    · rw [decide_eq_false h64, if_neg (by simp)] at un
      by_cases hodd : b.toNat / 16 % 2 = 1
      · rw [if_neg (by simp [hodd]), if_pos hodd] at un
        have hcase : UInt8.ofNat (b.toNat / 16) = 1 ∨ UInt8.ofNat (b.toNat / 16) = 3 := by
          have : b.toNat / 16 = 1 ∨ b.toNat / 16 = 3 := by omega
          rcases this with h | h <;> rw [h]
          · left; rfl
          · right; rfl
        refine (readPath_odd s D _ hD hs hsz g0 hcase w).mono ?_
        rintro e w' ⟨rfl, bb⟩
        refine ⟨.inr ⟨_, _, by rw [hl]; exact un, ?_⟩, bb⟩
        rw [ba_drop, hDl]
        have : decide (UInt8.ofNat (b.toNat / 16) = 3) = decide (32 ≤ b.toNat) := by
          rw [Bool.eq_iff_iff, decide_eq_true_eq, decide_eq_true_eq]
          constructor
          · intro h
            have := congrArg UInt8.toNat h
            rw [n0] at this
            have h3 : (3 : UInt8).toNat = 3 := rfl
            omega
          · intro h
            rcases hcase with h' | h'
            · have := congrArg UInt8.toNat h'
              rw [n0] at this
              have h1 : (1 : UInt8).toNat = 1 := rfl
              omega
            · exact h'
        rw [this]
        rfl
      · rw [if_neg hodd] at un
        have hcase : UInt8.ofNat (b.toNat / 16) = 0 ∨ UInt8.ofNat (b.toNat / 16) = 2 := by
          have : b.toNat / 16 = 0 ∨ b.toNat / 16 = 2 := by omega
          rcases this with h | h <;> rw [h]
          · left; rfl
          · right; rfl
        refine (readPath_even s D _ _ hD hs hsz g0 g1 hcase w).mono ?_
        rintro e w' ⟨rfl, bb⟩
        rw [n1]
        by_cases hz : b.toNat % 16 = 0
        · rw [decide_eq_true hz]
          rw [if_neg (by simp [hz])] at un
          refine ⟨.inr ⟨_, _, by rw [hl]; exact un, ?_⟩, bb⟩
          rw [ba_drop, hDl]
          have : decide (UInt8.ofNat (b.toNat / 16) = 2) = decide (32 ≤ b.toNat) := by
            rw [Bool.eq_iff_iff, decide_eq_true_eq, decide_eq_true_eq]
            constructor
            · intro h
              have := congrArg UInt8.toNat h
              rw [n0] at this
              have h3 : (2 : UInt8).toNat = 2 := rfl
              omega
            · intro h
              rcases hcase with h' | h'
              · have := congrArg UInt8.toNat h'
                rw [n0] at this
                have h1 : (0 : UInt8).toNat = 0 := rfl
                omega
              · exact h'
          rw [this]
          rfl
        · rw [decide_eq_false hz]
          rw [if_pos (by simp [hz, hodd])] at un
          exact ⟨.inl ⟨by rw [hl]; exact un, _, _, rfl⟩, bb⟩
end Go.Proofs.YtbmohenjphmlgabGreat
