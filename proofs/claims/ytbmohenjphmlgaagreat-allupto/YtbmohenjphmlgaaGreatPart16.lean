/- Part 16 of a proof: what the last text needs. -/
import Derived.Test.YtbmohenjphmlgaaGreatPart15
import Derived.Test.YtbmohenjphmlgaaGreatPart12
/- The walk of reach (of the program): it reaches what is reached. -/
namespace Go.Proofs.YtbmohenjphmlgaaGreat
open Go.RowKit
set_option maxRecDepth 100000

theorem sums_size (t : Itm) (k : Nat) : ∀ s ∈ sumsB t k, s.size ≤ 1000 := by
  intro s hs
  unfold sumsB at hs
  obtain ⟨i, _, hi⟩ := List.mem_filterMap.1 hs
  split at hi
  · rename_i h
    cases hi
    show (Tr.kid t i).bytes.toArray.size ≤ 1000
    rw [List.size_toArray, sum_eight h]; decide
  · cases hi

/-- What sums of a node tells. -/
theorem sums_of {lo B : Nat} {w0 : World} {m : Nat} {v : Value} {t : Itm} (hsm : Small t) (hrn : RN lo B w0 m v t) : ∃ T A f1 r1, v = .iface T A ∧ Enters f1 ∧ (∀ w, (method 334 T A "witness/tree.sums").run Tryz.prog w = .ok (f1, r1) w) ∧
    ∀ w, Calls Tryz.prog f1 #[r1] w fun e w' => ∃ u L, e = .returned u ∧ TOwn w' w.heap.size u L ∧ bl L = Tr.sums t ∧ (∀ s ∈ L, s.size ≤ 1000) ∧ L.length ≤ 16 ∧ Below w.heap.size w w' := by
  cases m with
  | zero => exact hrn.elim
  | succ m =>
    have nb : t.items.length = 2 → Tr.isBranch t = false := fun h => by unfold Tr.isBranch; rw [h]; simp
    have ne : t.list = true → Tr.isEmpty t = false := fun h => by unfold Tr.isEmpty; rw [h]; rfl
    rcases hrn with ⟨he, rfl⟩ | ⟨a1, cap, q, x, h0, h1, h2, h3, h4, h5, rfl⟩ | ⟨a1, cap, q, s, h0, h1, h2, h3, h4, h5, h6, rfl⟩ | ⟨a1, cap, cs, x, h1, h2, h3, h4, rfl, h6⟩
    · refine ⟨_, _, 187, .agg #[.int .i64 0, .bool false, .string ⟨#[]⟩, .slice none 0 0], rfl, fun _ _ => by kernel_rfl, fun _ => by kernel_rfl, fun w => (commonSums_any _ _ _ _ _ _ w).mono ?_⟩
      rintro e w' ⟨rfl, b⟩
      refine ⟨_, [], rfl, town_nil _ _, ?_, fun s hs => by simp at hs, by simp, b⟩
      unfold Tr.sums
      have hb : Tr.isBranch t = false := by
        cases hb : Tr.isBranch t with
        | false => rfl
        | true => rw [Tr.branch_full hb] at he; cases he
      rw [hb, if_neg (by decide)]
      split
      · rw [if_pos he]; rfl
      · rfl
    · refine ⟨_, _, 187, .agg #[.int .i64 1, .bool true, .string ⟨#[]⟩, .slice a1 2 cap], rfl, fun _ _ => by kernel_rfl, fun _ => by kernel_rfl, fun w => (commonSums_any _ _ _ _ _ _ w).mono ?_⟩
      rintro e w' ⟨rfl, b⟩
      refine ⟨_, [], rfl, town_nil _ _, ?_, fun s hs => by simp at hs, by simp, b⟩
      unfold Tr.sums
      rw [nb h1, if_neg (by decide), h3]
      rfl
    · refine ⟨_, _, 194, .agg #[.int .i64 2, .bool true, .string ⟨#[]⟩, .slice a1 2 cap, .string q, .string s, .nilIface], rfl, fun _ _ => by kernel_rfl, fun _ => by kernel_rfl, fun w => (extSums_any _ _ _ _ _ _ _ _ w).mono ?_⟩
      rintro e w' ⟨u, rfl, ho, b⟩
      refine ⟨u, [s], rfl, ho, ?_, fun y hy => ?_, by simp, b⟩
      · unfold Tr.sums
        rw [nb h1, if_neg (by decide), h3]
        show [s.data.toList] = if Tr.isEmpty t = true then [] else _
        rw [ne h0, if_neg (by decide), h6]
      · rw [List.mem_singleton.1 hy, ← ba_len, h6, sum_eight h5]; decide
    · refine ⟨_, _, 190, .agg (branchCells a1 cap cs x), rfl, fun _ _ => by kernel_rfl, fun _ => by kernel_rfl, fun w => (branchSums_any a1 cap cs x t w h3 (fun v t h hp => rn_node hp h) (fun d hd => (kid_small hsm (by rw [Tr.branch_len h1]; omega)).pure) h6).mono ?_⟩
      rintro e w' ⟨u, rfl, ho, b⟩
      exact ⟨u, _, rfl, ho, sumsB_bl t h1, sums_size t 16, sumsB_len t 16, b⟩

theorem dfs_lost (S : List (List UInt8)) (f : Nat) (s : List UInt8) (R : List (List UInt8)) (h : Tr.find S s = none) : Tr.dfs S f s R = R := by
  cases f with
  | zero => rfl
  | succ f => unfold Tr.dfs; rw [h]

theorem dfs_old (S : List (List UInt8)) (f : Nat) (s : List UInt8) (R : List (List UInt8)) {x : List UInt8} (h : Tr.find R s = some x) : Tr.dfs S f s R = R := by
  cases f with
  | zero => rfl
  | succ f =>
    unfold Tr.dfs
    cases Tr.find S s with
    | none => rfl
    | some e => dsimp only; rw [h]; rfl

theorem dfs_new (S : List (List UInt8)) (f : Nat) (s : List UInt8) (R : List (List UInt8)) {e : List UInt8} (h : Tr.find S s = some e) (h2 : Tr.find R s = none) : Tr.dfs S (f + 1) s R = (Tr.sumsOf e).foldl (fun R c => Tr.dfs S f c R) (R ++ [e]) := by
  rw [Tr.dfs, h]
  dsimp only
  rw [h2]
  rfl

theorem partOf_find {S R : List (List UInt8)} {F G : List UInt8 → Option Value} (h : PartOf S R F G) {s : List UInt8} {x : List UInt8} (hx : Tr.find R s = some x) : G s = F s := by
  obtain ⟨h1, h2⟩ := Tr.find_some hx
  have := h.2.2.2 x h1
  rw [h2] at this
  exact this

theorem partOf_add {S R : List (List UInt8)} {F G : List UInt8 → Option Value} (h : PartOf S R F G) {s e : List UInt8} {v : Value} (he : Tr.find S s = some e) (hv : F s = some v) (hn : Tr.find R s = none) : PartOf S (R ++ [e]) F (fun x => if x = s then some v else G x) := by
  obtain ⟨h1, h2⟩ := Tr.find_some he
  subst h2
  refine ⟨h.1.snoc hn, fun x hx => ?_, fun x hx => ?_, fun x hx => ?_⟩
  · rcases List.mem_append.1 hx with hx | hx
    · exact h.2.1 x hx
    · rw [List.mem_singleton.1 hx]; exact h1
  · rw [Tr.find_append] at hx
    cases hq : Tr.find R x with
    | some y => rw [hq] at hx; cases hx
    | none =>
      rw [hq, Tr.find_one] at hx
      by_cases hse : Tr.sum e = x
      · rw [if_pos hse] at hx; cases hx
      · dsimp only
        rw [if_neg (fun q => hse q.symm)]
        exact h.2.2.1 x hq
  · dsimp only
    rcases List.mem_append.1 hx with hx | hx
    · rw [if_neg (Tr.find_none.1 hn x hx)]
      exact h.2.2.2 x hx
    · rw [List.mem_singleton.1 hx, if_pos rfl, hv]

/-- What is reached by the first sums of a node. -/
def reachTo (S : List (List UInt8)) (f : Nat) (R : List (List UInt8)) (L : List ByteArray) : List (List UInt8) := (bl L).foldl (fun R c => Tr.dfs S f c R) R

theorem reachTo_snoc (S : List (List UInt8)) (f : Nat) (R : List (List UInt8)) (L : List ByteArray) (s : ByteArray) : reachTo S f R (L ++ [s]) = Tr.dfs S f s.data.toList (reachTo S f R L) := by
  unfold reachTo
  rw [bl_append, List.foldl_append]
  rfl

/-- What holds while the sums of a node are gone through. -/
def ReachAt (own : Nat → Prop) (k2 k3 r : Nat) (S : List (List UInt8)) (F : List UInt8 → Option Value) (f : Nat) (w : World) (B : Nat) (u : Value) (L : List ByteArray) (T : List (List UInt8)) (wr : World) : Prop :=
  Turns (fun k => k = r) w wr ∧ wr.heap[k2]? = some (.cells #[.map (some k3)] 148 (0, 0)) ∧ StoreAt own wr k3 S F ∧ (∃ G, MapAt Tryz.prog 9 wr r T.length G ∧ PartOf S T F G) ∧ Tr.missing S T ≤ f ∧ TOwn wr B u L

set_option maxHeartbeats 1600000 in
/-- Nothing has the sum, or it was reached before. -/
theorem reach_stop {own : Nat → Prop} (k2 k3 r : Nat) (S : List (List UInt8)) (F : List UInt8 → Option Value) (w : World) (s : ByteArray) (R : List (List UInt8)) (G : List UInt8 → Option Value) (hs : s.size ≤ 1000) (h2 : w.heap[k2]? = some (.cells #[.map (some k3)] 148 (0, 0))) (h3 : StoreAt own w k3 S F) (hm : MapAt Tryz.prog 9 w r R.length G) (hp : PartOf S R F G)
    (h : F s.data.toList = none ∨ ∃ x, Tr.find R s.data.toList = some x) :
    Calls Tryz.prog 101 #[.pointer (some ⟨k2, 0, none⟩), .string s, .map (some r)] w fun e w' => e = .returned (.tuple #[]) ∧ w' = w := by
  have l1 := look_node h3.1 s hs
  have l2 := look_node hm s hs
  have c0 := cell_of_row _ _ 0 _ _ _ h2
  cases hf : F s.data.toList with
  | none =>
    have hg : G s.data.toList = none := by
      have hn := storeAt_none h3 hf
      cases hr : Tr.find R s.data.toList with
      | none => exact hp.2.2.1 _ hr
      | some x => rw [partOf_find hp hr]; exact hf
    rw [hf] at l1
    rw [hg] at l2
    simp only [Option.getD_none, Option.isSome_none] at l1 l2
    clear h h2 h3 hm hp hf hg
    go_enter Tryz.func101, Tryz.ntmps101
    go_wp2_with fail
    exact bodyPost_ret (v := .tuple #[]) (by simp [results, Tryz.results101, go_sem]) rfl ⟨rfl, rfl⟩
  | some v =>
    rcases h with h | ⟨x, hx⟩
    · rw [hf] at h; cases h
    have hg : G s.data.toList = some v := by rw [partOf_find hp hx]; exact hf
    have hn := storeAt_isNode h3 hf
    rw [hf] at l1
    rw [hg] at l2
    simp only [Option.getD_some, Option.isSome_some] at l1 l2
    clear h2 h3 hm hp hf hg hx
    rcases hn with rfl | ⟨T, y, rfl⟩
    all_goals
      go_enter Tryz.func101, Tryz.ntmps101
      go_wp2_with fail
      exact bodyPost_ret (v := .tuple #[]) (by simp [results, Tryz.results101, go_sem]) rfl ⟨rfl, rfl⟩

set_option maxHeartbeats 6400000 in
/-- A node that was not reached before is, and then what its sums lead to. -/
theorem reach_go {own : Nat → Prop} (k2 k3 r : Nat) (S : List (List UInt8)) (F : List UInt8 → Option Value) (ho : own r) (n2 : k2 ≠ r) (hS : S.length ≤ 1000) (f : Nat)
    (ih : ∀ (w : World) (s : ByteArray) (R : List (List UInt8)) (G : List UInt8 → Option Value), s.size ≤ 1000 → w.heap[k2]? = some (.cells #[.map (some k3)] 148 (0, 0)) → StoreAt own w k3 S F → MapAt Tryz.prog 9 w r R.length G → PartOf S R F G → Tr.missing S R ≤ f →
      Calls Tryz.prog 101 #[.pointer (some ⟨k2, 0, none⟩), .string s, .map (some r)] w fun e w' => e = .returned (.tuple #[]) ∧ ∃ G', MapAt Tryz.prog 9 w' r (Tr.dfs S f s.data.toList R).length G' ∧ PartOf S (Tr.dfs S f s.data.toList R) F G' ∧ Turns (fun k => k = r) w w')
    (w : World) (s : ByteArray) (R : List (List UInt8)) (G : List UInt8 → Option Value) (hs : s.size ≤ 1000) (h2 : w.heap[k2]? = some (.cells #[.map (some k3)] 148 (0, 0))) (h3 : StoreAt own w k3 S F) (hm : MapAt Tryz.prog 9 w r R.length G) (hp : PartOf S R F G) (hmis : Tr.missing S R ≤ f + 1) {v : Value} (hv : F s.data.toList = some v) (hn : Tr.find R s.data.toList = none) :
    Calls Tryz.prog 101 #[.pointer (some ⟨k2, 0, none⟩), .string s, .map (some r)] w fun e w' => e = .returned (.tuple #[]) ∧ ∃ G', MapAt Tryz.prog 9 w' r (Tr.dfs S (f + 1) s.data.toList R).length G' ∧ PartOf S (Tr.dfs S (f + 1) s.data.toList R) F G' ∧ Turns (fun k => k = r) w w' := by
  obtain ⟨e, t, lo, B, m, e1, e2, e3, _, _, e6⟩ := storeAt_node h3 hv
  obtain ⟨hsm, henc, _⟩ := small_of e3 e2
  have HDF : Hid (Tr.dfs S (f + 1) s.data.toList R = (Tr.sums t).foldl (fun R c => Tr.dfs S f c R) (R ++ [e])) := by
    rw [Hid, dfs_new S f _ R e1 hn]
    unfold Tr.sumsOf
    rw [e2]
  have HPA := hid (partOf_add hp e1 hv hn)
  have hes : Tr.sum e = s.data.toList := (Tr.find_some e1).2
  have HMS : Hid (Tr.missing S (R ++ [e]) ≤ f) := by
    have := Tr.missing_less (Tr.find_some e1).1 (by rw [hes]; exact hn)
    rw [Hid]; omega
  have hg : G s.data.toList = none := hp.2.2.1 _ hn
  have hRl : R.length ≤ 1000 := Nat.le_trans (Tr.lone_len hp.1 hp.2.1) hS
  have l1 := look_node h3.1 s hs
  have l2 := look_node hm s hs
  rw [hv] at l1
  rw [hg] at l2
  simp only [Option.getD_some, Option.isSome_some] at l1
  simp only [Option.getD_none, Option.isSome_none] at l2
  have c0 := cell_of_row _ _ 0 _ _ _ h2
  obtain ⟨T, A, f1, r1, rfl, he1, hm1, hc1⟩ := sums_of hsm e6
  unfold Enters at he1
  obtain ⟨w1, hup, hmw1, htw1⟩ := mapAt_store hm storeKeyed Tryz.underlying146 Tryz.underlying9 (by unfold maxLen; omega) s (by unfold maxLen; omega) (.iface T A)
  rw [hg] at hmw1
  have HM1 : Hid (MapAt Tryz.prog 9 w1 r (R ++ [e]).length (fun x => if x = s.data.toList then some (.iface T A) else G x)) := by
    rw [Hid, List.length_append]; exact hmw1
  have HT1 : Hid (Turns (fun k => k = r) w w1) := ⟨htw1.grown.os, htw1.grown.tape, htw1.grown.output, htw1.grown.size, fun k hk hne => htw1.grown.block k hk (fun e => by cases e; exact hne rfl)⟩
  have HRL := hid (mapAt_lt hm)
  have HC1 := hid hc1
  have HIH := hid ih
  have H2 := hid h2
  have H3 := hid h3
  have HO := hid ho
  clear ih h2 h3 hm hp hmis hv hn e1 e2 e3 e6 hsm henc hes hg hmw1 htw1 hc1 ho
  go_enter Tryz.func101, Tryz.ntmps101
  go_wp2_with fail
  refine (HC1.out _).mono ?_
  rintro e' w2 ⟨u, L, rfl, ho2, hbl, hsz, hL16, b2⟩
  obtain ⟨ua, uc, hu, _⟩ := town_shape ho2
  subst hu
  have HSZ := hid hsz
  have HBLL := hid hbl
  have HR0 : Hid (ReachAt own k2 k3 r S F f w w1.heap.size (.slice ua L.length uc) L (R ++ [e]) w2) := by
    have ht2 : Turns (fun k => k = r) w w2 := HT1.out.trans (Turns.of_below b2)
    refine ⟨ht2, (ht2.block _ (Array.getElem?_eq_some_iff.1 H2.out).1 n2).trans H2.out, storeAt_turns H3.out ht2.size (fun q hq hno => ht2.block q hq (fun h => hno (by rw [h]; exact HO.out))), ⟨_, mapAt_frame HM1.out (b2.block _ (mapAt_lt HM1.out)), HPA.out⟩, HMS.out, ho2⟩
  have HW1 : Hid (r < w1.heap.size) := Nat.lt_of_lt_of_le HRL.out HT1.out.size
  rw [← HBLL.out] at HDF
  clear ho2 hbl hsz b2 HC1 HM1 HPA HMS HT1 l1 l2 c0 hup
  go_wp2_with fail
  go_loopw [38] (fun i wr => ∃ k : Nat, i = .int .i64 k ∧ k ≤ L.length ∧ Hid (ReachAt own k2 k3 r S F f w w1.heap.size (.slice ua L.length uc) L (reachTo S f (R ++ [e]) (L.take k)) wr)) (fun i _ => L.length - (intOf i).toNat)
  case atStart => exact ⟨0, rfl, Nat.zero_le _, HR0.out⟩
  case round =>
    obtain ⟨k, rfl, hk, HH⟩ := hrel
    clear HR0
    by_cases hlt : k < L.length
    · obtain ⟨g, rfl, hgB, hgl, g0⟩ := srd_row HH.out.2.2.2.2.2 k hlt
      have i1 : (0 : Int) ≤ (k : Int) := by omega
      have i2 : (k : Int) < (L.length : Int) := by omega
      have HTK : Hid (reachTo S f (R ++ [e]) (L.take (k + 1)) = Tr.dfs S f L[k].data.toList (reachTo S f (R ++ [e]) (L.take k))) := by rw [Hid, List.take_succ_eq_append_getElem hlt, reachTo_snoc]
      obtain ⟨q1, q2, q3, ⟨Gk, q4, q5⟩, q6, q7⟩ := HH.out
      have HCALL := hid (HIH.out wr L[k] _ Gk (HSZ.out _ (List.getElem_mem hlt)) q2 q3 q4 q5 q6)
      have HQ := hid (And.intro q1 (And.intro q2 (And.intro q3 (And.intro q6 q7))))
      have HMG := hid ((Tr.dfs_grew S f L[k].data.toList (reachTo S f (R ++ [e]) (L.take k)) q6).1.has)
      clear q1 q2 q3 q4 q5 q6 q7 HH
      generalize L[k] = sk at *
      go_wp2_with fail
      refine HCALL.out.mono ?_
      rintro e'' w3 ⟨rfl, G3, m3, p3, t3⟩
      have HEND : Hid (ReachAt own k2 k3 r S F f w w1.heap.size (.slice (some ⟨g, 0, none⟩) L.length uc) L (reachTo S f (R ++ [e]) (L.take (k + 1))) w3) := by
        rw [HTK.out]
        refine ⟨HQ.out.1.trans t3, (t3.block _ (Array.getElem?_eq_some_iff.1 HQ.out.2.1).1 n2).trans HQ.out.2.1, storeAt_turns HQ.out.2.2.1 t3.size (fun q hq hno => t3.block q hq (fun h => hno (by rw [h]; exact HO.out))), ⟨G3, m3, p3⟩, Nat.le_trans (Tr.missing_mono HMG.out) HQ.out.2.2.2.1, town_frame HQ.out.2.2.2.2 (fun q hq => t3.block q (town_lt HQ.out.2.2.2.2 q hq).2 (fun h => ?_))⟩
        have := (town_lt HQ.out.2.2.2.2 q hq).1
        have := HW1.out
        omega
      clear m3 p3 t3
      go_wp2_with fail
      exact ⟨⟨k + 1, by go_num, by omega, HEND.out⟩, by simp [intOf]; omega⟩
    · obtain rfl : k = L.length := by omega
      have i2 : ¬ (L.length : Int) < (L.length : Int) := by omega
      rw [List.take_length] at HH
      clear hlt
      go_wp2_with fail
      refine bodyPost_end (v := .tuple #[]) (by simp [results, Tryz.results101, go_sem]) rfl ?_
      obtain ⟨q1, q2, q3, ⟨Gk, q4, q5⟩, q6, q7⟩ := HH.out
      rw [HDF.out]
      exact ⟨rfl, Gk, q4, q5, q1⟩

theorem reach_all {own : Nat → Prop} (k2 k3 r : Nat) (S : List (List UInt8)) (F : List UInt8 → Option Value) (ho : own r) (n2 : k2 ≠ r) (hS : S.length ≤ 1000) : ReachOk own k2 k3 r S F := by
  have stop : ∀ (f : Nat) (w : World) (s : ByteArray) (R : List (List UInt8)) (G : List UInt8 → Option Value), s.size ≤ 1000 → w.heap[k2]? = some (.cells #[.map (some k3)] 148 (0, 0)) → StoreAt own w k3 S F → MapAt Tryz.prog 9 w r R.length G → PartOf S R F G → (F s.data.toList = none ∨ ∃ x, Tr.find R s.data.toList = some x) →
      Calls Tryz.prog 101 #[.pointer (some ⟨k2, 0, none⟩), .string s, .map (some r)] w fun e w' => e = .returned (.tuple #[]) ∧ ∃ G', MapAt Tryz.prog 9 w' r (Tr.dfs S f s.data.toList R).length G' ∧ PartOf S (Tr.dfs S f s.data.toList R) F G' ∧ Turns (fun k => k = r) w w' := by
    intro f w s R G hs h2 h3 hm hp h
    have hd : Tr.dfs S f s.data.toList R = R := by
      rcases h with h | ⟨x, hx⟩
      · exact dfs_lost S f _ R (storeAt_none h3 h)
      · exact dfs_old S f _ R hx
    refine (reach_stop k2 k3 r S F w s R G hs h2 h3 hm hp h).mono ?_
    rintro e w' ⟨rfl, hw⟩
    obtain rfl := hw.symm
    rw [hd]
    exact ⟨rfl, G, hm, hp, Turns.refl _ _⟩
  intro f
  induction f with
  | zero =>
    intro w s R G hs h2 h3 hm hp hmis
    refine stop 0 w s R G hs h2 h3 hm hp ?_
    cases hf : F s.data.toList with
    | none => exact .inl rfl
    | some v =>
      obtain ⟨e, t, lo, B, m, e1, _⟩ := storeAt_node h3 hf
      obtain ⟨h1, h4⟩ := Tr.find_some e1
      have := Tr.missing_zero (Nat.le_zero.1 hmis) h1
      rw [h4] at this
      cases hr : Tr.find R s.data.toList with
      | none => rw [hr] at this; cases this
      | some x => exact .inr ⟨x, rfl⟩
  | succ f ih =>
    intro w s R G hs h2 h3 hm hp hmis
    cases hf : F s.data.toList with
    | none => exact stop (f + 1) w s R G hs h2 h3 hm hp (.inl hf)
    | some v =>
      cases hr : Tr.find R s.data.toList with
      | some x => exact stop (f + 1) w s R G hs h2 h3 hm hp (.inr ⟨x, hr⟩)
      | none => exact reach_go k2 k3 r S F ho n2 hS f ih w s R G hs h2 h3 hm hp hmis hf hr
end Go.Proofs.YtbmohenjphmlgaaGreat

/- A keeper in memory, beside blocks that others write, and what its calls do to it (of the program). -/
namespace Go.Proofs.YtbmohenjphmlgaaGreat
open Go.RowKit
set_option maxRecDepth 100000

/-- A keeper: the heads l and the elements S; the blocks that its calls write are those of own. -/
structure GAt0 (out own : Nat → Prop) (w : World) (k0 k1 k2 k3 base : Nat) (a : Option Addr) (cap : Nat) (F : List UInt8 → Option Value) (l : List (Int × ByteArray)) (S : List (List UInt8)) : Prop where
  outer : w.heap[k0]? = some (.cells #[.pointer (some ⟨k1, 0, none⟩)] 71 (0, 0))
  inner : w.heap[k1]? = some (.cells #[.slice a l.length cap, .pointer (some ⟨k2, 0, none⟩)] 94 (0, 0))
  cell : w.heap[k2]? = some (.cells #[.map (some k3)] 148 (0, 0))
  heads : HOwn w base (.slice a l.length cap) l
  base : base ≤ w.heap.size
  store : StoreAt (fun k => own k ∨ out k) w k3 S F
  lt : ∀ k, out k → k < w.heap.size
  dis : ∀ k, out k → ¬ own k
  own : ∀ k, own k ↔ k = k0 ∨ k = k1 ∨ k = k2 ∨ (Value.slice a l.length cap).ownBlock = some k
  n01 : k0 ≠ k1
  n02 : k0 ≠ k2
  n12 : k1 ≠ k2
  far : ∀ g, (Value.slice a l.length cap).ownBlock = some g → g ≠ k0 ∧ g ≠ k1 ∧ g ≠ k2
  rises : Rises l
  few : l.length ≤ 8
  eight : ∀ q ∈ l, q.2.size = 8
  most : S.length ≤ 200

def GAt (out own : Nat → Prop) (w : World) (k0 : Nat) (l : List (Int × ByteArray)) (S : List (List UInt8)) : Prop := ∃ k1 k2 k3 base a cap F, GAt0 out own w k0 k1 k2 k3 base a cap F l S

theorem gat_lt {out own : Nat → Prop} {w : World} {k0 : Nat} {l : List (Int × ByteArray)} {S : List (List UInt8)} (h : GAt out own w k0 l S) : ∀ k, own k → k < w.heap.size := by
  obtain ⟨k1, k2, k3, base, a, cap, F, h⟩ := h
  intro k hk
  rcases (h.own k).1 hk with rfl | rfl | rfl | hg
  · exact (Array.getElem?_eq_some_iff.1 h.outer).1
  · exact (Array.getElem?_eq_some_iff.1 h.inner).1
  · exact (Array.getElem?_eq_some_iff.1 h.cell).1
  · exact (hown_lt h.heads k hg).2

theorem gat_later {out own : Nat → Prop} {w w' : World} {k0 : Nat} {l : List (Int × ByteArray)} {S : List (List UInt8)} (h : GAt out own w k0 l S) (hb : Below w.heap.size w w') : GAt out own w' k0 l S := by
  obtain ⟨k1, k2, k3, base, a, cap, F, h⟩ := h
  exact ⟨k1, k2, k3, base, a, cap, F, kept_block hb h.outer, kept_block hb h.inner, kept_block hb h.cell, hown_later h.heads hb, Nat.le_trans h.base hb.size, storeAt_later h.store hb, fun k hk => Nat.lt_of_lt_of_le (h.lt k hk) hb.size, h.dis, h.own, h.n01, h.n02, h.n12, h.far, h.rises, h.few, h.eight, h.most⟩

theorem gat_most {out own : Nat → Prop} {w : World} {k0 : Nat} {l : List (Int × ByteArray)} {S : List (List UInt8)} (h : GAt out own w k0 l S) : S.length ≤ 200 := by
  obtain ⟨k1, k2, k3, base, a, cap, F, h⟩ := h
  exact h.most

/-- Open makes a keeper that has nothing. -/
theorem gat_open (w : World) : Calls Tryz.prog 11 #[] w fun e w' => ∃ k0 own, e = .returned (.pointer (some ⟨k0, 0, none⟩)) ∧ GAt (fun k => k < w.heap.size) own w' k0 [] [] ∧ (∀ k, own k → w.heap.size ≤ k) ∧ Below w.heap.size w w' := by
  refine (open_any w).mono ?_
  rintro e w' ⟨rfl, H⟩
  obtain ⟨hk, hb⟩ := H.out
  refine ⟨w.heap.size + 3, fun k => k = w.heap.size + 3 ∨ k = w.heap.size + 2 ∨ k = w.heap.size + 1 ∨ (Value.slice none 0 0).ownBlock = some k, rfl, ⟨w.heap.size + 2, w.heap.size + 1, w.heap.size, w.heap.size, none, 0, fun _ => none, hk.outer, hk.inner, hk.store, hown_nil _ _, hb.size, ⟨⟨.map [], ⟨#[], 0, hk.map, ⟨by simp, MapKept.stamped_empty 0, by simp⟩, Nat.le_refl _, rfl⟩, rfl, fun s => ⟨rfl, fun v h => by cases h⟩⟩, fun h => ?_, Tr.lone_nil, (fun _ _ => rfl), (fun e he => by simp at he)⟩, fun k hk => Nat.lt_of_lt_of_le hk hb.size, fun k hk hk2 => ?_, fun k => Iff.rfl, by omega, by omega, by omega, (fun g hg => by cases hg), List.Pairwise.nil, by simp, (fun q hq => by simp at hq), by simp⟩, fun k hk' => ?_, hb⟩
  · rcases h with (h | h | h | h) | h
    · omega
    · omega
    · omega
    · cases h
    · exact Nat.lt_irrefl _ h
  · rcases hk2 with h | h | h | h
    · omega
    · omega
    · omega
    · cases h
  · rcases hk' with h | h | h | h
    · omega
    · omega
    · omega
    · cases h

/-- Trust of a root at a height that is not taken. -/
theorem gat_trust {out own : Nat → Prop} {w : World} {k0 : Nat} {l : List (Int × ByteArray)} {S : List (List UInt8)} (h : GAt out own w k0 l S) (x : Int) (r : ByteArray) (h1 : 0 ≤ x) (h2 : x ≤ 1000000) (h8 : r.size = 8) (hl : l.length < 8) (hx : ∀ q ∈ l, q.1 ≠ x) (hins : InsOk l x r) :
    Calls Tryz.prog 12 #[.pointer (some ⟨k0, 0, none⟩), .int .i64 x, .string r] w fun e w' => e = .returned (.int .i64 0) ∧ ∃ own' p, p ≤ l.length ∧ (∀ i, (h : i < l.length) → i < p → l[i].1 < x) ∧ (∀ i, (h : i < l.length) → p ≤ i → x < l[i].1) ∧ GAt out own' w' k0 (l.take p ++ (x, r) :: l.drop p) S ∧ (∀ k, own' k → own k ∨ w.heap.size ≤ k) ∧ Turns own w w' := by
  obtain ⟨k1, k2, k3, base, a, cap, F, h⟩ := h
  have hne : (Value.slice a l.length cap).ownBlock ≠ some k1 := fun e => (h.far k1 e).2.1 rfl
  refine (outer_trust h.outer (Q := fun n w' => n = 0 ∧ NewHead w k1 base (.slice a l.length cap) (.pointer (some ⟨k2, 0, none⟩)) l x r w') ((trust_new k1 base a cap l _ x r w h1 h2 h8 h.inner h.heads h.base hne hl h.rises hx hins).mono ?_)).mono ?_
  · rintro e w' ⟨rfl, q⟩
    exact ⟨0, rfl, rfl, q⟩
  · rintro e w' ⟨n, rfl, rfl, v', p, p1, p2, p3, g1, g2, g3, g4, g5⟩
    obtain ⟨a', cap', hv'⟩ := hown_shape g2
    have hnew : ∀ g, v'.ownBlock = some g → (Value.slice a l.length cap).ownBlock = some g ∨ w.heap.size ≤ g := by
      intro g hg
      rcases g3 with e | ⟨q, e, hq⟩
      · left; rw [← e]; exact hg
      · right; rw [e] at hg; cases hg; exact hq
    have hk0 := (Array.getElem?_eq_some_iff.1 h.outer).1
    have hk1 := (Array.getElem?_eq_some_iff.1 h.inner).1
    have hk2 := (Array.getElem?_eq_some_iff.1 h.cell).1
    have n0 : ∀ g, (Value.slice a l.length cap).ownBlock = some g → g ≠ k0 := fun g hg => (h.far g hg).1
    have hlen : (l.take p ++ (x, r) :: l.drop p).length = l.length + 1 := by simp; omega
    have hfar : ∀ g, v'.ownBlock = some g → g ≠ k0 ∧ g ≠ k1 ∧ g ≠ k2 := by
      intro g hg
      rcases hnew g hg with e | e
      · exact h.far g e
      · exact ⟨by omega, by omega, by omega⟩
    subst hv'
    have hst : StoreAt (fun k => (k = k0 ∨ k = k1 ∨ k = k2 ∨ (Value.slice a' (l.take p ++ (x, r) :: l.drop p).length cap').ownBlock = some k) ∨ out k) w' k3 S F := by
      have hs' := storeAt_turns h.store g5.size (fun k hk ho => g5.block k hk (fun hq => ho (.inl ((h.own k).2 (by
        rcases hq with rfl | hq
        · exact .inr (.inl rfl)
        · exact .inr (.inr (.inr hq)))))))
      obtain ⟨q1, q2, q3, q4, q5⟩ := hs'
      have hk3 := mapAt_lt h.store.1
      refine ⟨q1, fun hk => ?_, q3, q4, fun e he => ?_⟩
      · rcases hk with (hk | hk | hk | hk) | hk
        · exact h.store.2.1 (.inl ((h.own k3).2 (.inl hk)))
        · exact h.store.2.1 (.inl ((h.own k3).2 (.inr (.inl hk))))
        · exact h.store.2.1 (.inl ((h.own k3).2 (.inr (.inr (.inl hk)))))
        · rcases hnew k3 hk with e | e
          · exact h.store.2.1 (.inl ((h.own k3).2 (.inr (.inr (.inr e)))))
          · omega
        · exact h.store.2.1 (.inr hk)
      · obtain ⟨v0, t0, lo0, B0, m0, z1, z2, z3, z4, z5, z6⟩ := h.store.2.2.2.2 e he
        refine ⟨v0, t0, lo0, B0, m0, z1, z2, z3, Nat.le_trans z4 g5.size, fun k hk => ?_, rn_turn (Nat.le_refl _) (Nat.le_refl _) (fun k k1' k2' => g5.block k (by omega) (fun hq => ?_)) _ _ _ z6⟩
        · rcases hk with (hk | hk | hk | hk) | hk
          · exact z5 k (.inl ((h.own k).2 (.inl hk)))
          · exact z5 k (.inl ((h.own k).2 (.inr (.inl hk))))
          · exact z5 k (.inl ((h.own k).2 (.inr (.inr (.inl hk)))))
          · rcases hnew k hk with e | e
            · exact z5 k (.inl ((h.own k).2 (.inr (.inr (.inr e)))))
            · right; omega
          · exact z5 k (.inr hk)
        · have := z5 k (.inl ((h.own k).2 (by
            rcases hq with rfl | hq
            · exact .inr (.inl rfl)
            · exact .inr (.inr (.inr hq)))))
          omega
    refine ⟨rfl, _, p, p1, p2, p3, ⟨k1, k2, k3, base, a', cap', F, (g5.block _ hk0 (fun hq => ?_)).trans h.outer, g1, (g5.block _ hk2 (fun hq => ?_)).trans h.cell, g2, Nat.le_trans h.base g5.size, hst, fun k hk => Nat.lt_of_lt_of_le (h.lt k hk) g5.size, fun k hk hk2 => ?_, fun k => Iff.rfl, h.n01, h.n02, h.n12, hfar, ?_, by rw [hlen]; omega, ?_, h.most⟩, ?_, ?_⟩
    · rcases hq with hq | hq
      · exact h.n01 hq
      · exact (h.far _ hq).1 rfl
    · rcases hq with hq | hq
      · exact h.n12 hq.symm
      · exact (h.far _ hq).2.2 rfl
    · rcases hk2 with hk2 | hk2 | hk2 | hk2
      · exact h.dis k hk ((h.own k).2 (.inl hk2))
      · exact h.dis k hk ((h.own k).2 (.inr (.inl hk2)))
      · exact h.dis k hk ((h.own k).2 (.inr (.inr (.inl hk2))))
      · rcases hnew k hk2 with e | e
        · exact h.dis k hk ((h.own k).2 (.inr (.inr (.inr e))))
        · have := h.lt k hk; omega
    · unfold Rises
      have hr := h.rises
      rw [List.pairwise_append]
      refine ⟨List.Pairwise.sublist (List.take_sublist p l) hr, List.pairwise_cons.2 ⟨fun q hq => ?_, List.Pairwise.sublist (List.drop_sublist p l) hr⟩, fun q hq q' hq' => ?_⟩
      · obtain ⟨i, hi, rfl⟩ := List.getElem_of_mem hq
        rw [List.getElem_drop]
        exact p3 _ (by rw [List.length_drop] at hi; omega) (by omega)
      · obtain ⟨i, hi, rfl⟩ := List.getElem_of_mem hq
        have hi' : i < p ∧ i < l.length := by rw [List.length_take] at hi; omega
        have e1 : (l.take p)[i] = l[i]'hi'.2 := List.getElem_take
        rcases List.mem_cons.1 hq' with rfl | hq'
        · rw [e1]; exact p2 i hi'.2 hi'.1
        · obtain ⟨j, hj, rfl⟩ := List.getElem_of_mem hq'
          rw [e1, List.getElem_drop]
          exact h.rises.at (by omega) (by rw [List.length_drop] at hj; omega)
    · intro q hq
      rcases List.mem_append.1 hq with hq | hq
      · exact h.eight q (List.mem_of_mem_take hq)
      · rcases List.mem_cons.1 hq with rfl | hq
        · exact h8
        · exact h.eight q (List.mem_of_mem_drop hq)
    · intro k hk
      rcases hk with hk | hk | hk | hk
      · exact .inl ((h.own k).2 (.inl hk))
      · exact .inl ((h.own k).2 (.inr (.inl hk)))
      · exact .inl ((h.own k).2 (.inr (.inr (.inl hk))))
      · rcases hnew k hk with e | e
        · exact .inl ((h.own k).2 (.inr (.inr (.inr e))))
        · exact .inr e
    · exact g5.wider (fun k _ hk => (h.own k).2 (by
        rcases hk with rfl | hk
        · exact .inr (.inl rfl)
        · exact .inr (.inr (.inr hk))))

/-- Offer, at a height that is trusted. -/
theorem gat_offer {out own : Nat → Prop} {w : World} {k0 : Nat} {l : List (Int × ByteArray)} {S : List (List UInt8)} (h : GAt out own w k0 l S) {x : Int} {r : ByteArray} (hx : (x, r) ∈ l) (key : ByteArray) (a : Option Addr) (cap : Nat) (p : List ByteArray) (hr : SRd w.heap.size w a p) :
    Calls Tryz.prog 18 #[.pointer (some ⟨k0, 0, none⟩), .int .i64 x, .string key, .slice a p.length cap] w fun e w' => e = .returned (.int .i64 ((offerTo S r.data.toList key.data.toList (bl p)).1 : Nat)) ∧ GAt out own w' k0 l (offerTo S r.data.toList key.data.toList (bl p)).2 ∧ Turns own w w' := by
  obtain ⟨k1, k2, k3, base, ha, hcap, F, h⟩ := h
  have hlt := gat_lt ⟨k1, k2, k3, base, ha, hcap, F, h⟩
  refine (outer_offer h.outer (Q := fun n w' => (n = ((offerTo S r.data.toList key.data.toList (bl p)).1 : Nat) ∧ ∃ k3' F', w'.heap[k2]? = some (.cells #[.map (some k3')] 148 (0, 0)) ∧ StoreAt (fun k => own k ∨ out k) w' k3' (offerTo S r.data.toList key.data.toList (bl p)).2 F') ∧ Turns (fun k => k = k2) w w') ?_).mono ?_
  · refine offer_in h.inner (hown_rd h.heads) h.few h.rises hx h.n12 (fun b off e => ?_) (Q := fun n w' => n = ((offerTo S r.data.toList key.data.toList (bl p)).1 : Nat) ∧ ∃ k3' F', w'.heap[k2]? = some (.cells #[.map (some k3')] 148 (0, 0)) ∧ StoreAt (fun k => own k ∨ out k) w' k3' (offerTo S r.data.toList key.data.toList (bl p)).2 F') (fun W hb => ?_)
    · subst e; exact (h.far b rfl).2.2
    · refine (add_any k2 k3 S F r key a cap p W (Nat.le_trans h.most (by decide)) (kept_block hb h.cell) (storeAt_later h.store hb) (fun k hk => Nat.lt_of_lt_of_le (hk.elim (hlt k) (h.lt k)) hb.size) (.inl ((h.own k2).2 (.inr (.inr (.inl rfl))))) (srd_wider (hr.later hb) hb.size)).mono ?_
      rintro e w' ⟨k3', F', rfl, g1, g2, g3⟩
      exact ⟨_, rfl, ⟨rfl, k3', F', g1, g2⟩, g3⟩
  · rintro e w' ⟨n, rfl, ⟨rfl, k3', F', g1, g2⟩, g3⟩
    have hb : ∀ k, k < w.heap.size → k ≠ k2 → w'.heap[k]? = w.heap[k]? := fun k hk hne => g3.block k hk hne
    refine ⟨rfl, ⟨k1, k2, k3', base, ha, hcap, F', (hb _ (Array.getElem?_eq_some_iff.1 h.outer).1 h.n02).trans h.outer, (hb _ (Array.getElem?_eq_some_iff.1 h.inner).1 h.n12).trans h.inner, g1, hown_frame h.heads (fun g hg => hb g (hown_lt h.heads g hg).2 (h.far g hg).2.2), Nat.le_trans h.base g3.size, g2, fun k hk => Nat.lt_of_lt_of_le (h.lt k hk) g3.size, h.dis, h.own, h.n01, h.n02, h.n12, h.far, h.rises, h.few, h.eight, offerTo_most h.most _ _ _⟩, g3.wider (fun k _ hk => (h.own k).2 (.inr (.inr (.inl hk))))⟩

/-- Get, at a height that is trusted. -/
theorem gat_get {out own : Nat → Prop} {w : World} {k0 : Nat} {l : List (Int × ByteArray)} {S : List (List UInt8)} (h : GAt out own w k0 l S) {x : Int} {r : ByteArray} (hx : (x, r) ∈ l) (key : ByteArray) :
    Calls Tryz.prog 20 #[.pointer (some ⟨k0, 0, none⟩), .int .i64 x, .string key] w fun e w' => ∃ s b n, e = .returned (.tuple #[.string s, .bool b, .int .i64 n]) ∧ (∃ N : Nat, n = N ∧ Tr.tell S r.data.toList key.data.toList = (s.data.toList, b, N)) ∧ Below w.heap.size w w' := by
  obtain ⟨k1, k2, k3, base, ha, hcap, F, h⟩ := h
  refine (outer_get h.outer (Q := fun s b n w' => (∃ N : Nat, n = N ∧ Tr.tell S r.data.toList key.data.toList = (s.data.toList, b, N)) ∧ Below w.heap.size w w') ?_).mono ?_
  · exact get_in h.inner (hown_rd h.heads) h.few h.rises hx (Q := fun s b n w' => ∃ N : Nat, n = N ∧ Tr.tell S r.data.toList key.data.toList = (s.data.toList, b, N)) (fun W hb => tell_any k2 k3 S F r key W (h.eight _ hx) (kept_block hb h.cell) (storeAt_later h.store hb))
  · rintro e w' ⟨s, b, n, rfl, q1, q2⟩
    exact ⟨s, b, n, rfl, q1, q2⟩

/-- Get, at a height that is not. -/
theorem gat_lost {out own : Nat → Prop} {w : World} {k0 : Nat} {l : List (Int × ByteArray)} {S : List (List UInt8)} (h : GAt out own w k0 l S) {x : Int} (hx : ∀ q ∈ l, q.1 ≠ x) (key : ByteArray) :
    Calls Tryz.prog 20 #[.pointer (some ⟨k0, 0, none⟩), .int .i64 x, .string key] w fun e w' => e = .returned (.tuple #[.string ⟨#[]⟩, .bool false, .int .i64 10]) ∧ Below w.heap.size w w' := by
  obtain ⟨k1, k2, k3, base, ha, hcap, F, h⟩ := h
  refine (outer_get h.outer (Q := fun s b n w' => (s = ⟨#[]⟩ ∧ b = false ∧ n = 10) ∧ Below w.heap.size w w') ((get_none k1 ha hcap l _ x key w h.inner (hown_rd h.heads) h.few h.rises hx).mono ?_)).mono ?_
  · rintro e w' ⟨rfl, b⟩
    exact ⟨_, _, _, rfl, ⟨rfl, rfl, rfl⟩, b⟩
  · rintro e w' ⟨s, b, n, rfl, ⟨rfl, rfl, rfl⟩, q2⟩
    exact ⟨rfl, q2⟩

theorem gat_kept {out own : Nat → Prop} {w : World} {k0 : Nat} {l : List (Int × ByteArray)} {S : List (List UInt8)} (h : GAt out own w k0 l S) :
    Calls Tryz.prog 19 #[.pointer (some ⟨k0, 0, none⟩)] w fun e w' => e = .returned (.int .i64 S.length) ∧ w' = w := by
  obtain ⟨k1, k2, k3, base, ha, hcap, F, h⟩ := h
  exact kept_any k0 k1 k2 k3 S.length _ F w h.outer h.inner h.cell h.store.1

/-- Drop, at a height that is trusted. -/
theorem gat_drop {out own : Nat → Prop} {w : World} {k0 : Nat} {l : List (Int × ByteArray)} {S : List (List UInt8)} (h : GAt out own w k0 l S) {x : Int} {p : Nat} (hp : p < l.length) (hpx : l[p].1 = x)
    (hreach : 1 < l.length → ∀ (r k2 k3 : Nat) (F : List UInt8 → Option Value), k2 ≠ r → ReachOk (fun k => (own k ∨ out k) ∨ k = r) k2 k3 r S F) :
    Calls Tryz.prog 22 #[.pointer (some ⟨k0, 0, none⟩), .int .i64 x] w fun e w' => e = .returned (.int .i64 0) ∧ GAt out own w' k0 (l.eraseIdx p) (reachedFrom S (rootsB (l.eraseIdx p))) ∧ Turns own w w' := by
  obtain ⟨k1, k2, k3, base, ha, hcap, F, h⟩ := h
  have hlt := gat_lt ⟨k1, k2, k3, base, ha, hcap, F, h⟩
  have hhd := h.heads
  rcases hhd.2 with ⟨_, h0⟩ | ⟨g, cap', cur, hv, _⟩
  · omega
  simp only [Value.slice.injEq, true_and] at hv
  obtain ⟨rfl, rfl⟩ := hv
  have hfar := h.far g rfl
  have hler : (l.eraseIdx p).length = l.length - 1 := by rw [List.length_eraseIdx, if_pos hp]
  refine (outer_drop h.outer (Q := fun n w' => DropOk (fun k => own k ∨ out k) k1 k2 base g hcap S l p w (.returned (.int .i64 n)) w') ((drop_any k1 k2 k3 base g hcap p S F l x w h.inner h.cell h.store h.heads (fun k hk => hk.elim (hlt k) (h.lt k)) (.inl ((h.own k1).2 (.inr (.inl rfl)))) (.inl ((h.own k2).2 (.inr (.inr (.inl rfl))))) (.inl ((h.own g).2 (.inr (.inr (.inr rfl))))) h.n12 hfar.2.1.symm hfar.2.2.symm h.few h.rises hp hpx (fun q hq => by rw [h.eight q hq]; decide) (fun h1 q hq => hreach h1 q k2 k3 F hq)).mono ?_)).mono ?_
  · rintro e w' ⟨rfl, q⟩
    exact ⟨0, rfl, rfl, q⟩
  · rintro e w' ⟨n, rfl, q⟩
    obtain ⟨e, k3', F', g1, g2, g3, g4, g5⟩ := q
    refine ⟨e, ⟨k1, k2, k3', base, some ⟨g, 0, none⟩, hcap, F', (g5.block _ (Array.getElem?_eq_some_iff.1 h.outer).1 (fun hq => ?_)).trans h.outer, by rw [hler]; exact g1, g3, by rw [hler]; exact g2, Nat.le_trans h.base g5.size, g4, fun k hk => Nat.lt_of_lt_of_le (h.lt k hk) g5.size, h.dis, fun k => ?_, h.n01, h.n02, h.n12, fun q hq => ?_, ?_, by rw [hler]; have := h.few; omega, fun q hq => h.eight q (List.mem_of_mem_eraseIdx hq), ?_⟩, g5.wider (fun k _ hk => (h.own k).2 ?_)⟩
    · rcases hq with hq | hq | hq
      · exact h.n01 hq
      · exact h.n02 hq
      · exact hfar.1 hq.symm
    · exact h.own k
    · exact h.far q hq
    · exact List.Pairwise.sublist (List.eraseIdx_sublist _ _) h.rises
    · exact Nat.le_trans (Tr.forget_len S (bl (rootsB (l.eraseIdx p)))) h.most
    · rcases hk with rfl | rfl | rfl
      · exact .inr (.inl rfl)
      · exact .inr (.inr (.inl rfl))
      · exact .inr (.inr (.inr rfl))

/-- What others do, in blocks of out: the keeper stays; what is new is not its own. -/
theorem gat_frame {out own : Nat → Prop} {w w' : World} {k0 : Nat} {l : List (Int × ByteArray)} {S : List (List UInt8)} (h : GAt out own w k0 l S) (ht : Turns out w w') : GAt (fun k => out k ∨ (w.heap.size ≤ k ∧ k < w'.heap.size)) own w' k0 l S := by
  have hlt := gat_lt h
  obtain ⟨k1, k2, k3, base, a, cap, F, h⟩ := h
  have hb : ∀ k, own k → w'.heap[k]? = w.heap[k]? := fun k hk => ht.block k (hlt k hk) (fun ho => h.dis k ho hk)
  obtain ⟨q1, q2, q3, q4, q5⟩ := h.store
  have hk3 := mapAt_lt q1
  refine ⟨k1, k2, k3, base, a, cap, F, (hb _ ((h.own _).2 (.inl rfl))).trans h.outer, (hb _ ((h.own _).2 (.inr (.inl rfl)))).trans h.inner, (hb _ ((h.own _).2 (.inr (.inr (.inl rfl))))).trans h.cell, hown_frame h.heads (fun g hg => hb g ((h.own _).2 (.inr (.inr (.inr hg))))), Nat.le_trans h.base ht.size, ⟨mapAt_frame q1 (ht.block k3 hk3 (fun ho => q2 (.inr ho))), fun ho => ?_, q3, q4, fun e he => ?_⟩, fun k hk => ?_, fun k hk hk2 => ?_, h.own, h.n01, h.n02, h.n12, h.far, h.rises, h.few, h.eight, h.most⟩
  · rcases ho with ho | ho | ho
    · exact q2 (.inl ho)
    · exact q2 (.inr ho)
    · omega
  · obtain ⟨v, t, lo, B, m, g1, g2, g3, g4, g5, g6⟩ := q5 e he
    refine ⟨v, t, lo, B, m, g1, g2, g3, Nat.le_trans g4 ht.size, fun k hk => ?_, rn_turn (Nat.le_refl _) (Nat.le_refl _) (fun k k1 k2 => ht.block k (by omega) (fun ho => by have := g5 k (.inr ho); omega)) _ _ _ g6⟩
    rcases hk with hk | hk | hk
    · exact g5 k (.inl hk)
    · exact g5 k (.inr hk)
    · right; omega
  · rcases hk with hk | hk
    · exact Nat.lt_of_lt_of_le (h.lt k hk) ht.size
    · exact hk.2
  · rcases hk with hk | hk
    · exact h.dis k hk hk2
    · have := hlt k hk2; omega

theorem gat_less {out out' own : Nat → Prop} {w : World} {k0 : Nat} {l : List (Int × ByteArray)} {S : List (List UInt8)} (h : GAt out own w k0 l S) (hs : ∀ k, out' k → out k) : GAt out' own w k0 l S := by
  obtain ⟨k1, k2, k3, base, a, cap, F, h⟩ := h
  obtain ⟨q1, q2, q3, q4, q5⟩ := h.store
  refine ⟨k1, k2, k3, base, a, cap, F, h.outer, h.inner, h.cell, h.heads, h.base, ⟨q1, fun ho => q2 (ho.imp_right (hs _)), q3, q4, fun e he => ?_⟩, fun k hk => h.lt k (hs k hk), fun k hk => h.dis k (hs k hk), h.own, h.n01, h.n02, h.n12, h.far, h.rises, h.few, h.eight, h.most⟩
  obtain ⟨v, t, lo, B, m, g1, g2, g3, g4, g5, g6⟩ := q5 e he
  exact ⟨v, t, lo, B, m, g1, g2, g3, g4, fun k hk => g5 k (hk.imp_right (hs _)), g6⟩

theorem gat_facts {out own : Nat → Prop} {w : World} {k0 : Nat} {l : List (Int × ByteArray)} {S : List (List UInt8)} (h : GAt out own w k0 l S) : Rises l ∧ l.length ≤ 8 ∧ (∀ q ∈ l, q.2.size = 8) ∧ Tr.Lone S ∧ (∀ k, out k → k < w.heap.size) ∧ (∀ k, out k → ¬ own k) ∧ (∀ e ∈ S, e.length ≤ 1000 ∧ ∃ t, Tr.reads e = some t) := by
  obtain ⟨k1, k2, k3, base, a, cap, F, h⟩ := h
  refine ⟨h.rises, h.few, h.eight, h.store.2.2.1, h.lt, h.dis, fun e he => ?_⟩
  obtain ⟨v, t, lo, B, m, g1, g2, g3, _⟩ := h.store.2.2.2.2 e he
  exact ⟨g3, t, g2⟩
end Go.Proofs.YtbmohenjphmlgaaGreat

/- A head is put behind all others (of the program). -/
namespace Go.Proofs.YtbmohenjphmlgaaGreat
open Go.RowKit
set_option maxRecDepth 100000

set_option maxHeartbeats 1600000 in
theorem insert_end (l : List (Int × ByteArray)) (x : Int) (r : ByteArray) (hl : l.length ≤ 1000) (hend : ∀ q ∈ l, q.1 < x) : InsOk l x r := by
  intro w base g p v ho hB hg hne hp h1 h2
  obtain rfl : p = l.length := by
    rcases Nat.lt_or_ge p l.length with h | h
    · have := h2 p h (Nat.le_refl _)
      have := hend _ (List.getElem_mem h)
      omega
    · omega
  obtain ⟨i0, hi, hz0, hz1, hz2⟩ := info_parts infoHead
  have HO := hid ho
  have HG := hid hg
  have HEQ : Hid (l.take l.length ++ (x, r) :: l.drop l.length = l ++ [(x, r)]) := by rw [Hid, List.take_length, List.drop_length]
  rw [HEQ.out]
  have HEND : Hid (∀ v' w', World.ownsRow w' base 99 2 v' (l.length + 1) (hcells l ++ [.int .i64 x, .string r]) → HOwn w' base v' (l ++ [(x, r)])) := fun v' w' h => by
    unfold HOwn
    rw [List.length_append, hcells_append]
    exact h
  rcases ho.2 with ⟨rfl, h0⟩ | ⟨g', cap, cur, rfl, hbg, hg', hn, hcm, hcs, htk⟩
  · obtain rfl : l = [] := List.eq_nil_of_length_eq_zero h0
    clear ho hg hne hp h1 h2 hend h0
    go_enter Tryz.func54, Tryz.ntmps54
    go_wp2_with (at_builtin; refine wpList_append_mine _ rfl (.tmp 23) (.tmp 24) 51 rfl base 99 i0 _ 2 24 Tryz.underlying51 hi hz0 hz1 hz2 rfl (by decide) (.slice none 0 0) 0 [] rfl HO.out ⟨g, 0, none⟩ 1 1 [.int .i64 x, .string r] rfl rfl (cells_row2 HG.out) (by simp [Value.oneCell']) (by decide) (by decide) hB ?_; intro v' w' ho' hg' hnw)
    go_ret
    exact ⟨v', rfl, HEND.out v' w' ho', hg', hnw⟩
  · have HLC := hid (hcells_len l)
    have i1 : (0 : Int) ≤ (l.length : Int) := by omega
    have i2 : (l.length : Int) ≤ (cap : Int) := by omega
    unfold HOwn at HO
    clear ho hg hne hp h1 h2 hend hg' hcs htk hcm HEQ
    generalize hcells l = hc at *
    generalize l.length = n at *
    go_enter Tryz.func54, Tryz.ntmps54
    go_wp2_with (at_builtin; refine wpList_append_mine _ rfl (.tmp 23) (.tmp 24) 51 rfl base 99 i0 _ 2 24 Tryz.underlying51 hi hz0 hz1 hz2 rfl (by decide) (.slice (some ⟨g', 0, none⟩) n cap) n hc rfl HO.out ⟨g, 0, none⟩ 1 1 [.int .i64 x, .string r] rfl rfl (cells_row2 HG.out) (by simp [Value.oneCell']) (by unfold maxLen; omega) (by omega) hB ?_; intro v' w' ho' hg' hnw)
    all_goals go_ret
    all_goals exact ⟨v', rfl, HEND.out v' w' ho', hg', hnw⟩
end Go.Proofs.YtbmohenjphmlgaaGreat
