/- Part 18 of a proof: what the last text needs. -/
import Derived.Test.YtbmohenjphmlgabGreatPart16
import Derived.Test.YtbmohenjphmlgabGreatPart17
import Derived.Test.YtbmohenjphmlgabGreatPart13
import Derived.Test.YtbmohenjphmlgabGreatPart3
import Derived.Deep.RegionWith
/- The walks of proofFor and Prove (of the program). -/
namespace Go.Proofs.YtbmohenjphmlgabGreat
open Go.RowKit
set_option maxRecDepth 100000

def toB (l : List UInt8) : ByteArray := ⟨l.toArray⟩

theorem forks_two {l : List Tr.Ent} (h : Tr.Forks l) : ¬ l = [] ∧ (∀ e, ¬ l = [e]) ∧ Tr.shared l = [] := by
  obtain ⟨a, b, r, rfl, hs⟩ := h
  exact ⟨by simp, fun e he => by simp at he, hs⟩

theorem bt_kind {lo : Nat} {w : World} {f : Nat} {v : Value} {l : List Tr.Ent} (h : BT lo w f v l) : ∃ (k : Nat) (l0 : Bool) (s : ByteArray) (a : Option Addr) (n cap : Nat), Nd v k l0 s a n cap ∧ RepW lo w.heap.size w (f + 2) (.agg #[.bool l0, .string s, .slice a n cap]) (Tr.node f l) ∧ (Tr.Forks l → k = 3) := by
  cases f with
  | zero =>
    obtain ⟨rfl, rfl⟩ := h
    exact ⟨0, _, _, _, _, _, nd_empty, repW_empty _ _ _ _, fun hf => absurd rfl (forks_two hf).1⟩
  | succ f =>
    rcases h with ⟨rfl, rfl⟩ | ⟨e, a, cap, d, x, h1, rfl, h3, h4, h5⟩ | ⟨p, q, r, h1, h2, a, cap, d, a2, c2, cs, x, rfl, h4, h5, h6⟩ | ⟨h1, a, cap, cs, x, rfl, h3, h4, h5, h6⟩
    · exact ⟨0, _, _, _, _, _, nd_empty, repW_empty _ _ _ _, fun hf => absurd rfl (forks_two hf).1⟩
    · exact ⟨1, _, _, _, _, _, nd_leaf _ _ _ _, h5, fun hf => absurd h1 ((forks_two hf).2.1 e)⟩
    · exact ⟨2, _, _, _, _, _, nd_ext _ _ _ _ _, h5, fun hf => absurd (forks_two hf).2.2 h2⟩
    · exact ⟨3, _, _, _, _, _, nd_branch _ _ _ _, h5, fun _ => rfl⟩

theorem nd_isNode {v : Value} {k : Int} {l : Bool} {s : ByteArray} {a : Option Addr} {n cap : Nat} (h : Nd v k l s a n cap) : IsNode v := by
  obtain ⟨T, A, _, rfl, _⟩ := h
  exact .inr ⟨_, _, rfl⟩

/-- A reference of the tree is followed: its bytes are taken down if it is by a sum. -/
theorem follow_tree {lo f kv : Nat} {W w : World} {v n : Value} {lv : Bool} {sv : ByteArray} {av : Option Addr} {nv cv : Nat} {l : List Tr.Ent} {P : List ByteArray} (hv : Nd v kv lv sv av nv cv) (hf : f ≤ 100) (hbt : BT lo W f n l) (hfit : Tr.Fits f l) (hok : kv = 2 → Tr.Forks l) (hB : Below W.heap.size W w) (hh : Holds w W.heap.size P) (hP : P.length ≤ 1000) :
    Calls Tryz.prog 100 #[v, .agg #[.string (refSum (Tr.node f l)), n], .func (.func 75) #[] #[.pointer (some ⟨W.heap.size, 0, none⟩)]] w fun e w' => e = .returned (.tuple #[n, .bool true]) ∧ Below W.heap.size W w' ∧ Holds w' W.heap.size (P ++ if (Itm.enc (Tr.node f l)).length < 8 then [] else [toB (Itm.enc (Tr.node f l))]) := by
  obtain ⟨k, l0, s, a, nn, cap, hnd, hrep, hk⟩ := bt_kind hbt
  have hsm := node_small f l hf hfit
  by_cases h8 : (Itm.enc (Tr.node f l)).length < 8
  · rw [refSum_none h8, if_pos h8, List.append_nil]
    refine (follow_own w (nd_isNode hnd)).mono ?_
    rintro e w' ⟨rfl, b⟩
    exact ⟨rfl, hB.trans (b.mono hB.size), holds_later hh b⟩
  · rw [refSum_some h8, if_neg h8]
    refine (follow_sum w enters_proof (nd_isNode hnd) (by show 0 < (Tr.sum _).toArray.size; rw [List.size_toArray, Tr.sum_len]; omega) (fun v' ok w' => v' = n ∧ ok = true ∧ Below W.heap.size W w' ∧ Holds w' W.heap.size (P ++ [toB (Itm.enc (Tr.node f l))])) ?_).mono ?_
    · intro w1 b1
      have hB1 : Below W.heap.size W w1 := hB.trans (b1.mono hB.size)
      refine (prove1_any _ W.heap.size P w1 hnd hsm (m := f + 1) (rep_later hB1 (repW_rep _ _ _ hrep)) (holds_later hh b1) hP).mono ?_
      rintro e w2 ⟨rfl, hh2, b2⟩
      have hB2 : Below W.heap.size W w2 := hB1.trans b2
      refine ⟨n, true, rfl, (by intro h; cases h), fun _ => ?_⟩
      refine (mayFollow_any (m := f + 1) w2 hv hnd hsm (rep_later hB2 (repW_rep _ _ _ hrep))).mono ?_
      rintro e w3 ⟨rfl, b3⟩
      refine ⟨_, rfl, rfl, ?_, hB2.trans (b3.mono hB2.size), holds_later hh2 b3⟩
      unfold mayB
      rw [decide_eq_false h8]
      by_cases h2 : kv = 2
      · rw [hk (hok h2)]; simp
      · simp [h2]
    · rintro e w' ⟨v', ok, rfl, rfl, rfl, h3, h4⟩
      exact ⟨rfl, h3, h4⟩

/-- What holds on the way down. -/
def PJ (W : World) (lo : Nat) (goal : List ByteArray) (w : World) (v : Value) (d : ByteArray) : Prop :=
  Below W.heap.size W w ∧ ∃ f l P, f ≤ 100 ∧ BT lo W f v l ∧ Tr.Fits f l ∧ Tr.Apart l ∧ (∀ c ∈ d.data.toList, c.toNat < 16) ∧ Holds w W.heap.size P ∧ P ++ (Tr.elems f l d.data.toList).map toB = goal

def PQ (W : World) (goal : List ByteArray) (_ : ByteArray) (ok : Bool) (w : World) : Prop := ok = true ∧ Below W.heap.size W w ∧ Holds w W.heap.size goal

theorem way_prove (W : World) (lo : Nat) (goal : List ByteArray) (hg : goal.length ≤ 1000) (w : World) (v : Value) (d : ByteArray) (h : PJ W lo goal w v d) : Way 75 ⟨W.heap.size, 0, none⟩ (PJ W lo goal) (PQ W goal) w v d := by
  obtain ⟨hB, f, l, P, hf, hbt, hfit, hap, hd, hh, hgoal⟩ := h
  have hP : P.length ≤ 1000 := by rw [← hgoal, List.length_append] at hg; omega
  have ends : ∀ x, Tr.elems f l d.data.toList = [] → ∀ w', Below w.heap.size w w' → PQ W goal x true w' := by
    intro x he w' b
    rw [he] at hgoal
    simp only [List.map_nil, List.append_nil] at hgoal
    subst hgoal
    exact ⟨rfl, hB.trans (b.mono hB.size), holds_later hh b⟩
  cases f with
  | zero =>
    obtain ⟨rfl, rfl⟩ := hbt
    exact ⟨_, _, _, _, _, steps_empty d, .inl rfl, fun _ => ends _ rfl, fun h => by cases h⟩
  | succ f =>
    rcases hbt with ⟨rfl, rfl⟩ | ⟨e, a, cap, t, x, h1, rfl, h3, h4, h5⟩ | ⟨p, q, r, h1, h2, a, cap, t, a2, c2, cs, x, rfl, h4, h5, h6⟩ | ⟨h1, a, cap, cs, x, rfl, h3, h4, h5, h6⟩
    · exact ⟨_, _, _, _, _, steps_empty d, .inl rfl, fun _ => ends _ rfl, fun h => by cases h⟩
    · subst h1
      exact ⟨_, _, _, _, _, steps_leaf a cap t x d, .inl rfl, fun _ => ends _ rfl, fun h => by cases h⟩
    · have hpre : pre t d = (Tr.shared l).isPrefixOf d.data.toList := by unfold pre; rw [h4]
      refine ⟨_, _, _, _, _, steps_ext a cap t _ d _ (.inr ⟨_, _, rfl⟩), .inr ⟨_, _, rfl⟩, fun hn => ends _ ?_, fun hp => ?_⟩
      · rw [Tr.elems_ext f h1 h2, if_neg]
        rw [← hpre, hn]; simp
      · have hcut := cutP_list hp
        have hts : t.size = (Tr.shared l).length := by rw [← h4, ba_len]
        have hfk : Tr.Forks (Tr.behind (Tr.shared l) l) := Tr.forks_behind h1
        have hfit2 := hfit.behind h2
        have hel := Tr.elems_ext f h1 h2 d.data.toList
        rw [if_pos (by rw [← hpre]; exact hp)] at hel
        refine ⟨?_, fun w' b => ?_⟩
        · rw [← ba_len, hcut, ← ba_len d, List.length_drop]
          have hle := pre_size hp
          have : 0 < t.size := by rw [hts]; exact List.length_pos_iff.2 h2
          rw [ba_len]; omega
        · have hB' : Below W.heap.size W w' := hB.trans (b.mono hB.size)
          refine (follow_tree (nd_ext a cap t _ _) (by omega) h6 hfit2 (fun _ => hfk) hB' (holds_later hh b) hP).mono ?_
          rintro e w2 ⟨rfl, hB2, hh2⟩
          refine ⟨_, _, rfl, fun _ => ⟨hB2, f, _, _, by omega, h6, hfit2, hap.behind, ?_, hh2, ?_⟩, fun h => by cases h⟩
          · rw [hcut]; exact fun c hc => hd c (List.mem_of_mem_drop hc)
          · have hpos : 0 < f := Tr.fits_pos hfit2 (forks_two hfk).1
            obtain ⟨f', rfl⟩ : ∃ f', f = f' + 1 := ⟨f - 1, by omega⟩
            rw [if_neg (Tr.fork_long f' hfk), hcut, hts, ← hgoal, hel, List.map_cons, List.append_assoc]
            rfl
    · cases hdl : d.data.toList with
      | nil =>
        have : d = ⟨#[]⟩ := by cases d; simp_all
        subst this
        exact ⟨_, _, _, _, _, steps_end a cap cs x h3, .inl rfl, fun _ => ends _ (Tr.elems_end f h1), fun h => by cases h⟩
      | cons c r =>
        have hc : c.toNat < 16 := hd c (by rw [hdl]; exact List.mem_cons_self ..)
        obtain ⟨vd, g1, g2, g3⟩ := h6 c.toNat hc
        rw [Tr.ofNat_toNat] at g1 g3
        obtain ⟨_, _, _, _, _, _, hnd, _⟩ := bt_kind g3
        have hfit2 : Tr.Fits f (Tr.behind [c] l) := hfit.behind (by simp)
        have hel := Tr.elems_fork f h1 c r
        refine ⟨_, _, _, _, _, steps_branch a cap cs x d h3 c r hdl hc _ _ (nd_isNode hnd) g1 g2, nd_isNode hnd, (fun h => by cases h), fun _ => ⟨?_, fun w' b => ?_⟩⟩
        · show r.toArray.size < d.size
          rw [← ba_len d, hdl, List.size_toArray, List.length_cons]; omega
        · have hB' : Below W.heap.size W w' := hB.trans (b.mono hB.size)
          refine (follow_tree (nd_branch a cap cs x) (by omega) g3 hfit2 (fun h => by cases h) hB' (holds_later hh b) hP).mono ?_
          rintro e w2 ⟨rfl, hB2, hh2⟩
          refine ⟨_, _, rfl, fun _ => ⟨hB2, f, _, _, by omega, g3, hfit2, hap.behind, ?_, hh2, ?_⟩, fun h => by cases h⟩
          · intro y hy
            exact hd y (by rw [hdl]; exact List.mem_cons_of_mem _ hy)
          · rw [← hgoal, hdl, hel, List.map_append, List.append_assoc]
            congr 1
            congr 1
            split <;> rfl
end Go.Proofs.YtbmohenjphmlgabGreat

/- The walks of proofFor and Prove (of the program): Prove answers as the document says. -/
namespace Go.Proofs.YtbmohenjphmlgabGreat
open Go.RowKit
set_option maxRecDepth 100000

theorem town_low {w : World} {b b' : Nat} {v : Value} {l : List ByteArray} (h : TOwn w b v l) (hb : b' ≤ b) : TOwn w b' v l := owns_base h hb

set_option maxHeartbeats 3200000 in
theorem proofFor_any {lo f : Nat} {w : World} {v : Value} {l : List Tr.Ent} (d : ByteArray) (hf : f ≤ 100) (hbt : BT lo w f v l) (hfit : Tr.Fits f l) (hap : Tr.Apart l) (hd : ∀ c ∈ d.data.toList, c.toNat < 16) (hg : (Tr.proofOf f l d.data.toList).length ≤ 1000) :
    Calls Tryz.prog 47 #[v, .string d] w fun e w' => ∃ r, e = .returned r ∧ TOwn w' w.heap.size r ((Tr.proofOf f l d.data.toList).map toB) ∧ Below w.heap.size w w' := by
  obtain ⟨k, l0, s, a, nn, cap, hnd, hrep, hk⟩ := bt_kind hbt
  have hsm := node_small f l hf hfit
  have hrep' := repW_rep _ _ _ hrep
  obtain ⟨goal, hgoal⟩ : ∃ goal, goal = (Tr.proofOf f l d.data.toList).map toB := ⟨_, rfl⟩
  have hgl : goal.length ≤ 1000 := by rw [hgoal, List.length_map]; exact hg
  have HSM := hid (fun w' (b : Below w.heap.size w w') => commonSum_any k a nn cap l0 s _ _ w' hsm (rep_later b hrep'))
  have HWK := hid (fun (w1 : World) (b1 : Below w.heap.size w w1) (hh : Holds w1 w.heap.size []) (s1 : ByteArray) => walk_any 75 enters_proof ⟨w.heap.size, 0, none⟩ s1 v (nd_isNode hnd) d w1 (PJ w lo goal) (PQ w goal)
    (by
      intro w2 b2
      have hB2 : Below w.heap.size w w2 := b1.trans (b2.mono b1.size)
      refine (prove1_any s1 w.heap.size [] w2 hnd hsm (rep_later hB2 hrep') (holds_later hh b2) (by simp)).mono ?_
      rintro e w3 ⟨rfl, hh3, b3⟩
      refine ⟨_, _, rfl, fun _ => ⟨hB2.trans b3, f, l, _, hf, hbt, hfit, hap, hd, hh3, ?_⟩, (fun h => by cases h)⟩
      rw [hgoal]; rfl) (way_prove w lo goal hgl))
  obtain ⟨T, A, rfl, _, _, _, hm⟩ := nd_call hnd
  have HG : Hid (goal = (Tr.proofOf f l d.data.toList).map toB) := hgoal
  clear hgoal hgl hsm hrep hrep' hbt hfit hap hd hg hk hnd
  go_enter Tryz.func47, Tryz.ntmps47
  go_wp2_with fail
  have HH0 : Hid (Holds (w.alloc (.cells #[.slice none 0 0] 23)) w.heap.size []) := ⟨_, heap_alloc_new w _, town_nil _ _⟩
  have HB0 : Hid (Below w.heap.size w (w.alloc (.cells #[.slice none 0 0] 23))) := (Below.refl _ _).alloc (Nat.le_refl _) _
  refine (HSM.out _ HB0.out).mono ?_
  rintro e w1 ⟨rfl, b1⟩
  have HB1 : Hid (Below w.heap.size w w1) := HB0.out.trans (b1.mono HB0.out.size)
  have HH1 := hid (holds_later HH0.out b1)
  clear b1 HH0 HB0
  go_wp2_with fail
  refine (HWK.out w1 HB1.out HH1.out _).mono ?_
  rintro e w2 ⟨x, ok, rfl, q⟩
  obtain ⟨rfl, b2, hh2⟩ := q
  obtain ⟨r, c2, o2⟩ := hh2
  have HO2 := hid o2
  have HB2 := hid b2
  obtain ⟨a2, n2, hv2, _⟩ := town_shape o2
  subst hv2
  have z0 := (cell_of_row _ _ 0 _ _ _ c2).trans rfl
  clear c2 o2 b2
  go_wp2_with fail
  go_ret
  exact ⟨_, rfl, by rw [← HG.out]; exact town_low HO2.out (by omega), HB2.out⟩

set_option maxHeartbeats 1600000 in
theorem treeProve_ok (a : Option Addr) (cap : Nat) (l : List (ByteArray × ByteArray)) (key : ByteArray) (w : World) (hr : PRd w.heap.size w a l) (hf : tfault l key = 0) :
    Calls Tryz.prog 30 #[.slice a l.length cap, .string key] w fun e w' => ∃ r, e = .returned (.tuple #[r, .int .i64 0]) ∧ TOwn w' w.heap.size r ((Tr.prove (lists l) key.data.toList).map toB) ∧ Below w.heap.size w w' := by
  have hft := tableFault_any key a cap l w hr
  rw [hf] at hft
  have HFT := hid hft
  obtain ⟨h1, h2, h3, h4⟩ := fault_none hf
  have HTO := hid (fun w h => tableOf_any a cap l w h (by omega) (fun p hp => by have := h2 p hp; omega))
  have HTR := hid (fun a cap w h => tree_any a cap l w h h1 h2 h4)
  have hk := lists_ok h2 h4
  have HDG := hid (fun w => digitsOf_any key w (by omega))
  have HPF := hid (fun (lo : Nat) (w : World) (v : Value) (h : BT lo w 13 v (Tr.table (lists l))) => proofFor_any ⟨(Tr.digits key.data.toList).toArray⟩ (by decide) h (Tr.table_fits _ hk.1 hk.2) (Tr.table_apart _) (Tr.digits_lt _) (Nat.le_trans (Tr.prove_len (lists l) key.data.toList hk.1 hk.2) (by decide)))
  have HR := hid hr
  clear hft hf h1 h2 h3 h4 hk hr
  go_enter Tryz.func30, Tryz.ntmps30
  go_wp2_with fail
  refine HFT.out.mono ?_
  rintro e w1 ⟨rfl, b1⟩
  have HB1 := hid b1
  clear b1
  go_wp2_with fail
  refine (HTO.out _ ((HR.out.later HB1.out).wider HB1.out.size)).mono ?_
  rintro e w2 ⟨v2, rfl, o2, b2⟩
  obtain ⟨a2, c2, hv2, p2⟩ := prd_of_pown o2
  subst hv2
  have HB2 : Hid (Below w.heap.size w w2) := HB1.out.trans (b2.mono HB1.out.size)
  have HP2 := hid p2
  clear o2 b2 p2
  go_wp2_with fail
  refine (HTR.out _ _ _ HP2.out).mono ?_
  rintro e w3 ⟨v3, rfl, t3, b3⟩
  have HB3 : Hid (Below w.heap.size w w3) := HB2.out.trans (b3.mono HB2.out.size)
  have HT3 := hid t3
  clear t3 b3
  go_wp2_with fail
  refine (HDG.out _).mono ?_
  rintro e w4 ⟨rfl, b4⟩
  have HB4 : Hid (Below w.heap.size w w4) := HB3.out.trans (b4.mono HB3.out.size)
  have HT4 := hid (bt_later HT3.out b4)
  clear b4
  go_wp2_with fail
  refine (HPF.out _ _ _ HT4.out).mono ?_
  rintro e w5 ⟨r5, rfl, o5, b5⟩
  have HO5 := hid (town_low o5 HB4.out.size)
  have HB5 : Hid (Below w.heap.size w w5) := HB4.out.trans (b5.mono HB4.out.size)
  clear o5 b5
  go_wp2_with fail
  go_ret2
  exact ⟨_, rfl, HO5.out, HB5.out⟩

/-- Prove answers as the document says. -/
theorem prove_any (a : Option Addr) (cap : Nat) (l : List (ByteArray × ByteArray)) (key : ByteArray) (w : World) (hr : PRd w.heap.size w a l) :
    Calls Tryz.prog 13 #[.slice a l.length cap, .string key] w fun e w' => ∃ r, e = .returned (.tuple #[r, .int .i64 (tfault l key : Nat)]) ∧ TOwn w' w.heap.size r (if tfault l key = 0 then (Tr.prove (lists l) key.data.toList).map toB else []) ∧ Below w.heap.size w w' := by
  by_cases hf : tfault l key = 0
  · rw [hf, if_pos rfl]
    have H := hid (treeProve_ok a cap l key w hr hf)
    clear hr hf
    go_enter Tryz.func13, Tryz.ntmps13
    go_wp2_with fail
    refine H.out.mono ?_
    rintro e w1 ⟨r, rfl, o1, b1⟩
    have HO := hid o1
    have HB := hid b1
    clear b1 o1
    go_wp2_with fail
    go_ret2
    exact ⟨_, rfl, HO.out, HB.out⟩
  · rw [if_neg hf]
    refine (prove_fault hf (tableFault_any key a cap l w hr)).mono ?_
    rintro e w' ⟨rfl, b⟩
    exact ⟨_, rfl, town_nil _ _, b⟩
end Go.Proofs.YtbmohenjphmlgabGreat

/- The walk of pick (of the statements): which of n things a raw number speaks of. -/
namespace Go.Proofs.YtbmohenjphmlgabGreat
open Go.RowKit
set_option maxRecDepth 100000

theorem pick_any (c n : Int) (w : World) (hn : 0 < n) (h1 : -9223372036854775808 ≤ c) (h2 : c ≤ 9223372036854775807) (hn2 : n ≤ 9223372036854775807) : Calls Tryz.prog 22 #[.int .i64 c, .int .i64 n] w fun e w' => (∃ m : Int, e = .returned (.int .i64 m) ∧ 0 ≤ m ∧ m < n) ∧ w' = w := by
  have hn0 : ¬ n = 0 := by omega
  by_cases hc : c < 0
  · go_enter Tryz.func22, Tryz.ntmps22
    go_wp2_with fail
    go_ret
    refine ⟨⟨_, rfl, ?_, ?_⟩, rfl⟩
    · rw [← Int.neg_tmod, Int.tmod_eq_emod_of_nonneg (by omega)]; exact Int.emod_nonneg _ (by omega)
    · rw [← Int.neg_tmod, Int.tmod_eq_emod_of_nonneg (by omega)]; exact Int.emod_lt_of_pos _ hn
  · go_enter Tryz.func22, Tryz.ntmps22
    go_wp2_with fail
    go_ret
    refine ⟨⟨_, rfl, ?_, ?_⟩, rfl⟩
    · exact Int.emod_nonneg _ (by omega)
    · exact Int.emod_lt_of_pos _ hn

end Go.Proofs.YtbmohenjphmlgabGreat

/- Rows of pairs, as the statements make them; the walks of short, value, table (of the statements). -/
namespace Go.Proofs.YtbmohenjphmlgabGreat
open Go.RowKit
set_option maxRecDepth 100000

theorem infoApiPair : (Tryz.prog.info? 27).map (fun i => (i.zero, i.size, i.bytes)) = some (some (.agg #[.string ⟨#[]⟩, .string ⟨#[]⟩]), 2, 32) := by kernel_rfl

def AOwn (w : World) (base : Nat) (v : Value) (l : List (ByteArray × ByteArray)) : Prop := w.ownsRow base 27 2 v l.length (pcells l)

theorem aown_nil (w : World) (base : Nat) : AOwn w base (.slice none 0 0) [] := World.ownsRow_nil _ _ _ _
theorem aown_shape {w : World} {base : Nat} {v : Value} {l : List (ByteArray × ByteArray)} (h : AOwn w base v l) : ∃ a cap, v = .slice a l.length cap ∧ l.length ≤ cap := by
  rcases h.2 with ⟨rfl, h0⟩ | ⟨g, cap, cur, rfl, _, _, hn, _⟩
  · exact ⟨none, 0, by rw [h0], by omega⟩
  · exact ⟨_, cap, rfl, hn⟩
theorem aown_frame {w w' : World} {b : Nat} {v : Value} {l : List (ByteArray × ByteArray)} (h : AOwn w b v l) (hg : ∀ g, v.ownBlock = some g → w'.heap[g]? = w.heap[g]?) : AOwn w' b v l := owns_frame h hg
theorem aown_lt {w : World} {b : Nat} {v : Value} {l : List (ByteArray × ByteArray)} (h : AOwn w b v l) : ∀ g, v.ownBlock = some g → b ≤ g ∧ g < w.heap.size := World.ownsRow.lt h
theorem aown_later {w w' : World} {b : Nat} {v : Value} {l : List (ByteArray × ByteArray)} (h : AOwn w b v l) (hb : Below w.heap.size w w') : AOwn w' b v l := aown_frame h fun g hg => hb.block g (aown_lt h g hg).2

theorem aown_rd {w : World} {base : Nat} {a : Option Addr} {n cap : Nat} {l : List (ByteArray × ByteArray)} (h : AOwn w base (.slice a n cap) l) : PRd w.heap.size w a l := by
  intro i hi
  rcases h.2 with ⟨_, h0⟩ | ⟨g, cap', cur, hv, hbg, hg, _⟩
  · omega
  · have hlt := (Array.getElem?_eq_some_iff.1 hg).1
    simp only [Value.slice.injEq] at hv
    obtain ⟨rfl, _, _⟩ := hv
    have hc := World.ownsRow.cells (g := g) h rfl
    have e := pcells_at l i hi
    have a0 : ((⟨g, 0, none⟩ : Addr).add (i * 2)) = ⟨g, 0 + i * 2, none⟩ := by unfold Addr.add; split <;> simp_all
    have a1 : ((⟨g, 0, none⟩ : Addr).add (i * 2 + 1)) = ⟨g, 0 + i * 2 + 1, none⟩ := by unfold Addr.add; split <;> simp_all <;> omega
    exact ⟨g, 0, rfl, hlt, a0 ▸ hc _ _ e.1, a1 ▸ hc _ _ e.2⟩

/-- A pair that was just laid is appended to a row of the call's own: for a walk. -/
theorem wpList_push_apair {ops : Array Oper} {rest : List Oper} {o : Oper} {act : Act} {Q' : Exit → Act → World → Prop} (hgd : o.guard = none) (s x : Operand)
    (hop : o.op = .call { callee := .builtin .append, args := #[s, x], argTypes := #[22, 22] }) {W w0 wr : World} {B : Nat} {v1 : Value} {l1 : List (ByteArray × ByteArray)} (p : ByteArray × ByteArray) (L : Nat) (hL : wr.heap.size = L)
    (hs : act.eval s = v1) (hx : act.eval x = .slice (some ⟨L, 0, none⟩) 1 1) (ho : AOwn w0 B v1 l1) (hw : Below w0.heap.size w0 wr) (hb : Below B W w0) (hB : B ≤ W.heap.size) (hlen : l1.length ≤ 1000000)
    (h : ∀ v' w', AOwn w' B v' (l1 ++ [p]) → Below B W w' → wpList Tryz.prog ops Q' rest (act.put o.dst v') w') : wpList Tryz.prog ops Q' (o :: rest) act (wr.alloc (.cells #[.string p.1, .string p.2] 27)) := by
  subst hL
  obtain ⟨i0, hi, hz0, hz1, hz2⟩ := info_parts infoApiPair
  have hb1 : Below B W wr := hb.trans (hw.mono (Nat.le_trans hB hb.size))
  have hb2 : Below B W (wr.alloc (.cells #[.string p.1, .string p.2] 27)) := hb1.alloc (Nat.le_trans hB hb1.size) _
  have hBw : B ≤ (wr.alloc (.cells #[.string p.1, .string p.2] 27)).heap.size := Nat.le_trans hB hb2.size
  have ho2 : AOwn (wr.alloc (.cells #[.string p.1, .string p.2] 27)) B v1 l1 := aown_frame ho (fun g hg => by
    rw [Below.heap_alloc _ _ _ (Nat.lt_of_lt_of_le (aown_lt ho g hg).2 hw.size)]
    exact hw.block g (aown_lt ho g hg).2)
  refine wpList_append_mine _ hgd s x 22 hop B 27 i0 _ 2 32 Tryz.underlying22 hi hz0 hz1 hz2 rfl (by decide) v1 l1.length (pcells l1) hs ho2 ⟨wr.heap.size, 0, none⟩ 1 1 [.string p.1, .string p.2] hx rfl (cells_two _ _ _ _) (by simp [Value.oneCell']) (by unfold maxLen; omega) (by omega) hBw ?_
  intro v' w' ho' hg _
  refine h v' w' ?_ (hb2.grown hg hBw (fun g hgg => (aown_lt ho g hgg).1))
  unfold AOwn
  rw [List.length_append, pcells_snoc]
  exact ho'

/-- A pair that was just laid is appended to a row of the call's own: at a step of a region that draws. -/
theorem step_push_apair {ops : Array Oper} {o : Oper} {act : Act} {K : Act → World → Prop} {Q' : Exit → Act → World → Prop} {E : Prop} (hgd : o.guard = none) (s x : Operand)
    (hop : o.op = .call { callee := .builtin .append, args := #[s, x], argTypes := #[22, 22] }) {W wr : World} {B : Nat} {v1 : Value} {l1 : List (ByteArray × ByteArray)} (p : ByteArray × ByteArray) (L : Nat) (hL : wr.heap.size = L)
    (hs : act.eval s = v1) (hx : act.eval x = .slice (some ⟨L, 0, none⟩) 1 1) (ho : AOwn wr B v1 l1) (hb : Below B W wr) (hB : B ≤ W.heap.size) (hlen : l1.length ≤ 1000000)
    (h : ∀ v' w', AOwn w' B v' (l1 ++ [p]) → Below B W w' → (∀ k, k < wr.heap.size → v1.ownBlock ≠ some k → w'.heap[k]? = wr.heap[k]?) → K (act.put o.dst v') w') : if Region.wanted o (yielded ops act.tmps) = true then Oper.wp Tryz.prog o act (wr.alloc (.cells #[.string p.1, .string p.2] 27)) K Q' else E := by
  subst hL
  have hw : Region.wanted o (yielded ops act.tmps) = true := by simp [Region.wanted, hgd]
  rw [if_pos hw]
  obtain ⟨i0, hi, hz0, hz1, hz2⟩ := info_parts infoApiPair
  have hb2 : Below B W (wr.alloc (.cells #[.string p.1, .string p.2] 27)) := hb.alloc (Nat.le_trans hB hb.size) _
  have hBw : B ≤ (wr.alloc (.cells #[.string p.1, .string p.2] 27)).heap.size := Nat.le_trans hB hb2.size
  have ho2 : AOwn (wr.alloc (.cells #[.string p.1, .string p.2] 27)) B v1 l1 := aown_frame ho (fun g hg => Below.heap_alloc _ _ _ (aown_lt ho g hg).2)
  obtain ⟨v', w', hr, h2, h3, _⟩ := run_append_mine (P := Tryz.prog) _ B 22 o.type 27 i0 _ 2 32 Tryz.underlying22 hi hz0 hz1 hz2 rfl (by decide) v1 l1.length (pcells l1) ho2 ⟨wr.heap.size, 0, none⟩ 1 1 [.string p.1, .string p.2] rfl (cells_two _ _ _ _) (by simp [Value.oneCell']) (by unfold maxLen; omega) (by omega) hBw
  unfold Oper.wp execOp
  simp only [hop, resolve, invoke, builtin, Sem.run_bind, Sem.run_pure, Result.andThen_ok, List.map_toArray, List.map_cons, List.map_nil, hs, hx, hr]
  refine h v' w' ?_ (hb2.grown h3 hBw (fun g hgg => (aown_lt ho g hgg).1)) (fun k hk hne => (h3.block k (by rw [alloc_size]; omega) (fun e => hne e.symm)).trans (Below.heap_alloc _ _ _ hk))
  unfold AOwn
  rw [List.length_append, pcells_snoc]
  exact h2


theorem pcells_one (l : List (ByteArray × ByteArray)) : ∀ u ∈ pcells l, u.oneCell' = true := by
  intro u hu
  unfold pcells at hu
  rw [List.mem_flatMap] at hu
  obtain ⟨p, _, hp⟩ := hu
  rcases List.mem_cons.1 hp with rfl | hp
  · rfl
  · rcases List.mem_cons.1 hp with rfl | hp
    · rfl
    · cases hp

theorem prd_cells {w : World} {l : List (ByteArray × ByteArray)} {B : Nat} {p : Addr} (h : PRd B w (some p) l) : ∀ j u, (pcells l)[j]? = some u → w.cell? (p.add j) = some u := by
  intro j u hu
  have hj : j < l.length * 2 := by rw [← pcells_len]; exact (List.getElem?_eq_some_iff.1 hu).1
  have hi : j / 2 < l.length := by omega
  obtain ⟨b, off, e, _, c0, c1⟩ := h (j / 2) hi
  cases e
  have hadd : (⟨b, off, none⟩ : Addr).add j = ⟨b, off + j, none⟩ := by unfold Addr.add; split <;> simp_all
  have e2 := pcells_at l (j / 2) hi
  rw [hadd]
  rcases Nat.mod_two_eq_zero_or_one j with h0 | h0
  · rw [show j = j / 2 * 2 by omega] at hu ⊢
    rw [e2.1] at hu; cases hu; exact c0
  · rw [show j = j / 2 * 2 + 1 by omega] at hu ⊢
    rw [e2.2] at hu; cases hu; exact c1

/-- Pairs that can be read are appended to a row of the call's own: for a walk. -/
theorem wpList_append_apairs {ops : Array Oper} {rest : List Oper} {o : Oper} {act : Act} {Q : Exit → Act → World → Prop} (w : World) (hgd : o.guard = none) (s x : Operand)
    (hop : o.op = .call { callee := .builtin .append, args := #[s, x], argTypes := #[22, 22] })
    (base B : Nat) (v1 : Value) (a2 : Option Addr) (c2 : Nat) (l1 l2 : List (ByteArray × ByteArray)) (hs : act.eval s = v1) (hx : act.eval x = .slice a2 l2.length c2) (h1 : AOwn w base v1 l1) (h2 : PRd B w a2 l2) (hn : a2 = none → l2.length = 0 ∧ c2 = 0) (hlen : l1.length + l2.length ≤ 1000000) (hbase : base ≤ w.heap.size)
    (h : ∀ v' w', AOwn w' base v' (l1 ++ l2) → w.grownBy w' v1.ownBlock → Newer w v1 v' → wpList Tryz.prog ops Q rest (act.put o.dst v') w') :
    wpList Tryz.prog ops Q (o :: rest) act w := by
  obtain ⟨i0, hi, hz0, hz1, hz2⟩ := info_parts infoApiPair
  cases a2 with
  | none =>
    obtain ⟨e1, e2⟩ := hn rfl
    obtain rfl : l2 = [] := List.eq_nil_of_length_eq_zero e1
    subst e2
    refine wpList_plain hgd fun K hK => ?_
    have hr := run_append_owned_none (P := Tryz.prog) w base 22 o.type 27 i0 2 Tryz.underlying22 hi v1 _ _ h1
    unfold Oper.wp execOp
    simp only [hop, resolve, invoke, builtin, Sem.run_bind, Sem.run_pure, Result.andThen_ok, List.map_toArray, List.map_cons, List.map_nil, hs, hx, List.length_nil, hr]
    exact hK _ _ (h v1 w (by rw [List.append_nil]; exact h1) (World.grownBy.refl _ _) (.inl rfl))
  | some p =>
    refine wpList_append_mine w hgd s x 22 hop base 27 i0 _ 2 32 Tryz.underlying22 hi hz0 hz1 hz2 rfl (by decide) v1 l1.length (pcells l1) hs h1 p l2.length c2 (pcells l2) hx (pcells_len l2) (prd_cells h2) (pcells_one l2) (by unfold maxLen; omega) (by omega) hbase ?_
    intro v' w' ho hg hn
    refine h v' w' ?_ hg hn
    unfold AOwn
    rw [List.length_append, show pcells (l1 ++ l2) = pcells l1 ++ pcells l2 by simp [pcells]]
    exact ho

/-- At most n bytes of a text. -/
def shortB (s : ByteArray) (n : Nat) : ByteArray := if n < s.size then s.extract 0 n else s

theorem shortB_size (s : ByteArray) (n : Nat) : (shortB s n).size ≤ n := by
  unfold shortB
  split
  · rw [ByteArray.size_extract]; omega
  · omega

theorem shortG_any (s : ByteArray) (n : Nat) (w : World) (hn : n ≤ 100000) : Calls Tryz.prog 6 #[.string s, .int .i64 n] w fun e w' => e = .returned (.string (shortB s n)) ∧ w' = w := by
  unfold shortB
  by_cases h : n < s.size
  · have h' : (n : Int) < (s.size : Int) := by omega
    rw [if_pos h]
    go_enter Tryz.func6, Tryz.ntmps6
    go_wp2_with fail
    go_ret
    exact ⟨by simp, rfl⟩
  · have h' : ¬ (n : Int) < (s.size : Int) := by omega
    rw [if_neg h]
    go_enter Tryz.func6, Tryz.ntmps6
    go_wp2_with fail
    go_ret
    exact ⟨rfl, rfl⟩

/-- What pairs have for a key. -/
def valB (l : List (ByteArray × ByteArray)) (key : ByteArray) : ByteArray := l.foldl (fun v p => if p.1 = key then p.2 else v) ⟨#[]⟩

theorem valB_take (l : List (ByteArray × ByteArray)) (key : ByteArray) (k : Nat) (h : k < l.length) : valB (l.take (k + 1)) key = if l[k].1 = key then l[k].2 else valB (l.take k) key := by
  unfold valB
  rw [List.take_succ_eq_append_getElem h, List.foldl_append]
  rfl

theorem bytes_no {a b : ByteArray} (h : a ≠ b) : (a.toList == b.toList) = false := by
  rw [beq_eq_false_iff_ne]
  intro e
  apply h
  rw [ByteArray.toList_eq, ByteArray.toList_eq] at e
  cases a; cases b
  simp only [Array.toList_inj] at e
  rw [e]

theorem value_any (a : Option Addr) (cap : Nat) (l : List (ByteArray × ByteArray)) (key : ByteArray) (w : World) (hr : PRd w.heap.size w a l) (hl : l.length ≤ 1000000) : Calls Tryz.prog 18 #[.slice a l.length cap, .string key] w fun e w' => e = .returned (.string (valB l key)) ∧ w' = w := by
  have HR := hid hr
  clear hr
  go_enter Tryz.func18, Tryz.ntmps18
  go_wp2_with fail
  go_loopw [5, 6] (fun v i wr => ∃ k : Nat, v = .string (valB (l.take k) key) ∧ i = .int .i64 k ∧ k ≤ l.length ∧ wr = w) (fun _ i _ => l.length - (intOf i).toNat)
  case atStart => exact ⟨0, rfl, rfl, Nat.zero_le _, rfl⟩
  case round =>
    obtain ⟨k, rfl, rfl, hk, rfl⟩ := hrel
    by_cases hlt : k < l.length
    · obtain ⟨b, off, rfl, hb, e0, e1⟩ := HR.out k hlt
      have i1 : (0 : Int) ≤ (k : Int) := by omega
      have i2 : (k : Int) < (l.length : Int) := by omega
      have HVT := hid (valB_take l key k hlt)
      generalize valB (l.take k) key = vk at *
      by_cases he : l[k].1 = key
      · have HX : Hid (valB (l.take (k + 1)) key = l[k].2) := by rw [Hid, HVT.out, if_pos he]
        have he' : (l[k].1.toList == key.toList) = true := by rw [he]; exact beq_self_eq_true _
        clear he
        go_wp2_with fail
        exact ⟨⟨k + 1, by rw [HX.out], by go_num, by omega, trivial⟩, by simp [intOf]; omega⟩
      · have HX : Hid (valB (l.take (k + 1)) key = vk) := by rw [Hid, HVT.out, if_neg he]
        have he' := bytes_no he
        clear he
        go_wp2_with fail
        exact ⟨⟨k + 1, by rw [HX.out], by go_num, by omega, trivial⟩, by simp [intOf]; omega⟩
    · have i2 : ¬ (k : Int) < (l.length : Int) := by omega
      have HK : Hid (valB (l.take k) key = valB l key) := by rw [Hid, List.take_of_length_le (by omega)]
      rw [HK.out]
      go_wp2_with fail
      go_ret
      exact ⟨rfl, rfl⟩

end Go.Proofs.YtbmohenjphmlgabGreat

/- The walk of table (of the statements): pairs that may be, out of raw ones. -/
namespace Go.Proofs.YtbmohenjphmlgabGreat
open Go.RowKit
set_option maxRecDepth 100000

def shortP (p : ByteArray × ByteArray) : ByteArray × ByteArray := (shortB p.1 6, shortB p.2 40)

/-- Pairs that may be, out of raw ones. -/
def tableB (l : List (ByteArray × ByteArray)) : List (ByteArray × ByteArray) := (l.take 30).map shortP

theorem tableB_len (l : List (ByteArray × ByteArray)) : (tableB l).length ≤ 30 := by simp [tableB]; omega
theorem tableB_ok (l : List (ByteArray × ByteArray)) : ∀ p ∈ tableB l, p.1.size ≤ 6 ∧ p.2.size ≤ 40 := by
  intro p hp
  obtain ⟨q, _, rfl⟩ := List.mem_map.1 hp
  exact ⟨shortB_size _ _, shortB_size _ _⟩

set_option maxHeartbeats 3200000 in
theorem table_any (a : Option Addr) (cap : Nat) (l : List (ByteArray × ByteArray)) (w : World) (hr : PRd w.heap.size w a l) (hl : l.length ≤ maxLen) : Calls Tryz.prog 5 #[.slice a l.length cap] w fun e w' => ∃ v, e = .returned v ∧ AOwn w' w.heap.size v (tableB l) ∧ Below w.heap.size w w' := by
  have HR := hid hr
  have HS6 : Hid (∀ s w, Calls Tryz.prog 6 #[.string s, .int .i64 6] w fun e w' => e = .returned (.string (shortB s 6)) ∧ w' = w) := fun s w => shortG_any s 6 w (by decide)
  have HS40 : Hid (∀ s w, Calls Tryz.prog 6 #[.string s, .int .i64 40] w fun e w' => e = .returned (.string (shortB s 40)) ∧ w' = w) := fun s w => shortG_any s 40 w (by decide)
  clear hr
  unfold maxLen at hl
  go_enter Tryz.func5, Tryz.ntmps5
  go_wp2_with fail
  go_loopw [3, 4] (fun v i wr => ∃ k : Nat, i = .int .i64 k ∧ k ≤ l.length ∧ k ≤ 30 ∧ Hid (AOwn wr w.heap.size v ((l.take k).map shortP) ∧ Below w.heap.size w wr)) (fun _ i _ => 30 - (intOf i).toNat)
  case atStart => exact ⟨0, rfl, Nat.zero_le _, Nat.zero_le _, aown_nil _ _, Below.refl _ _⟩
  case round =>
    obtain ⟨k, rfl, hk, hk30, HH⟩ := hrel
    obtain ⟨av, cv, hv, _⟩ := aown_shape HH.out.1
    subst hv
    by_cases hlt : k < l.length ∧ k < 30
    · obtain ⟨b, off, rfl, hb, e0, e1⟩ := HR.out k hlt.1
      have f0 := (HH.out.2.cell (p := ⟨b, off + k * 2, none⟩) hb).trans e0
      have f1 := (HH.out.2.cell (p := ⟨b, off + k * 2 + 1, none⟩) hb).trans e1
      have i1 : (0 : Int) ≤ (k : Int) := by omega
      have i2 : (k : Int) < (l.length : Int) := by omega
      have i3 : (k : Int) < 30 := by omega
      have HTK : Hid ((l.take (k + 1)).map shortP = (l.take k).map shortP ++ [shortP l[k]]) := by rw [Hid, List.take_succ_eq_append_getElem hlt.1, List.map_append]; rfl
      have HLE : Hid (((l.take k).map shortP).length ≤ 1000000) := by rw [Hid, List.length_map, List.length_take]; omega
      have hbw : b < wr.heap.size := Nat.lt_of_lt_of_le hb HH.out.2.size
      have g0 := e0
      have g1 := e1
      clear e0 e1
      generalize (l.take k).map shortP = tk at *
      have HO1 : Hid (AOwn wr.drew w.heap.size (.slice av tk.length cv) tk) := HH.out.1
      have HB1 : Hid (Below w.heap.size w wr.drew) := HH.out.2.drew
      go_wp2_with fail
      go_region_held3 (fun w' => w'.cell? ⟨b, off + k * 2, none⟩ = some (.string l[k].1) ∧ w'.cell? ⟨b, off + k * 2 + 1, none⟩ = some (.string l[k].2)) (go_keep)
        ((first
          | (go_at_call_of 6 (Value.int .i64 6); refine (HS6.out _ _).mono ?_; rintro e w3 ⟨rfl, hw⟩; obtain rfl := hw.symm; clear hw)
          | (go_at_call_of 6 (Value.int .i64 40); refine (HS40.out _ _).mono ?_; rintro e w3 ⟨rfl, hw⟩; obtain rfl := hw.symm; clear hw)
          | (refine step_push_apair rfl (.tmp 15) (.tmp 29) rfl (shortP l[k]) _ rfl rfl rfl HO1.out HB1.out (Nat.le_refl _) HLE.out ?_; intro v' w' ho' hb' hk'; have HO' := hid ho'; have HB' := hid hb'; have y0 := (hb'.cell (p := ⟨b, off + k * 2, none⟩) hb).trans g0; have y1 := (hb'.cell (p := ⟨b, off + k * 2 + 1, none⟩) hb).trans g1; clear ho' hb' hk')))
      all_goals go_wp2_with fail
      all_goals exact ⟨⟨k + 1, by go_num, by omega, by omega, by rw [HTK.out]; exact HO'.out, HB'.out⟩, by simp [intOf]; omega⟩
    · have HK : Hid ((l.take k).map shortP = tableB l) := by
        rw [Hid]
        unfold tableB
        by_cases h30 : k = 30
        · rw [h30]
        · rw [List.take_of_length_le (by omega), List.take_of_length_le (by omega)]
      have HO := hid HH.out.1
      have HB := hid HH.out.2
      rw [HK.out] at HO ⊢
      clear HH HK
      have HTB : Hid (tableB l = tableB l) := rfl
      obtain ⟨tb, htb⟩ : ∃ t, t = tableB l := ⟨_, rfl⟩
      rw [← htb] at HO ⊢
      have HTB2 : Hid (tb = tableB l) := htb
      clear htb HTB
      by_cases hl1 : k < l.length
      · have i2 : (k : Int) < (l.length : Int) := by omega
        have i3 : ¬ (k : Int) < 30 := by omega
        clear hlt
        go_wp2_with fail
        go_ret
        exact ⟨_, rfl, by rw [← HTB2.out]; exact HO.out, HB.out⟩
      · have i2 : ¬ (k : Int) < (l.length : Int) := by omega
        clear hlt
        go_wp2_with fail
        go_ret
        exact ⟨_, rfl, by rw [← HTB2.out]; exact HO.out, HB.out⟩
end Go.Proofs.YtbmohenjphmlgabGreat

/- What the statement Orders leans on: tables that have the same for each key have the same root. -/
namespace Go.Proofs.YtbmohenjphmlgabGreat
open Go.RowKit
set_option maxRecDepth 100000

theorem ba_ext {a b : ByteArray} : a = b ↔ a.data.toList = b.data.toList := by
  constructor
  · intro h; rw [h]
  · intro h
    cases a; cases b
    simp only [Array.toList_inj] at h
    rw [h]

theorem valB_value (l : List (ByteArray × ByteArray)) (key : ByteArray) : (valB l key).data.toList = Tr.value (lists l) key.data.toList := by
  have gen : ∀ (l : List (ByteArray × ByteArray)) (v : ByteArray) (u : List UInt8), v.data.toList = u → (l.foldl (fun v p => if p.1 = key then p.2 else v) v).data.toList = (lists l).foldl (fun v p => if p.1 = key.data.toList then p.2 else v) u := by
    intro l
    induction l with
    | nil => intro v u h; exact h
    | cons p l ih =>
      intro v u h
      show (l.foldl _ (if p.1 = key then p.2 else v)).data.toList = (lists l).foldl _ (if p.1.data.toList = key.data.toList then p.2.data.toList else u)
      by_cases hp : p.1 = key
      · rw [if_pos hp, if_pos (ba_ext.1 hp)]; exact ih _ _ rfl
      · rw [if_neg hp, if_neg (fun e => hp (ba_ext.2 e))]; exact ih _ _ h
  exact gen l ⟨#[]⟩ [] rfl

/-- The root of a table with which nothing is wrong. -/
def rootB (l : List (ByteArray × ByteArray)) : ByteArray := ⟨(Tr.sum (Itm.enc (Tr.node 13 (Tr.table (lists l))))).toArray⟩

theorem rootB_size (l : List (ByteArray × ByteArray)) : (rootB l).size = 8 := by
  show (Tr.sum (Itm.enc (Tr.node 13 (Tr.table (lists l))))).toArray.size = 8
  rw [List.size_toArray, Tr.sum_len]

/-- Nothing is wrong with these. -/
def Fine (l : List (ByteArray × ByteArray)) : Prop := l.length ≤ 60 ∧ ∀ p ∈ l, p.1.size ≤ 6 ∧ p.2.size ≤ 40

theorem fine_fault {l : List (ByteArray × ByteArray)} (h : Fine l) {key : ByteArray} (hk : key.size ≤ 6) : tfault l key = 0 :=
  tfault_ok (by have := h.1; omega) (fun p hp => by have := (h.2 p hp).1; omega) (by omega) (fun p hp => by have := (h.2 p hp).2; omega)

theorem root_fine (a : Option Addr) (cap : Nat) (l : List (ByteArray × ByteArray)) (w : World) (hr : PRd w.heap.size w a l) (hf : Fine l) :
    Calls Tryz.prog 7 #[.slice a l.length cap] w fun e w' => e = .returned (.tuple #[.string (rootB l), .int .i64 0]) ∧ Below w.heap.size w w' := by
  have h := root_any a cap l w hr
  have e : Tr.root (lists l) = (Tr.sum (Itm.enc (Tr.node 13 (Tr.table (lists l)))), 0) := by
    unfold Tr.root
    rw [if_pos]
    have := tfault_fault l ⟨#[]⟩
    rw [fine_fault hf (by decide)] at this
    exact this.symm
  rw [e] at h
  exact h

theorem rootB_ext {l m : List (ByteArray × ByteArray)} (h : ∀ k, Tr.value (lists l) k = Tr.value (lists m) k) : rootB l = rootB m := by
  unfold rootB
  rw [Tr.table_ext 13 _ _ h]

/-- The pairs of a table, the last first, each with what the table has for its key. -/
def turnedB (l : List (ByteArray × ByteArray)) : List (ByteArray × ByteArray) := l.reverse.map fun p => (p.1, valB l p.1)

theorem value_const (f : List UInt8 → List UInt8) (ps : List (List UInt8 × List UInt8)) (h : ∀ p ∈ ps, p.2 = f p.1) (k : List UInt8) : Tr.value ps k = if k ∈ ps.map (·.1) then f k else [] := by
  induction ps with
  | nil => rfl
  | cons p ps ih =>
    rw [Tr.value_cons, ih (fun q hq => h q (List.mem_cons_of_mem _ hq)), List.map_cons]
    by_cases hk : k ∈ ps.map (·.1)
    · rw [if_pos hk, if_pos hk, if_pos (List.mem_cons_of_mem _ hk)]
    · rw [if_neg hk]
      by_cases hp : p.1 = k
      · rw [if_pos hp, if_pos (by rw [hp]; exact List.mem_cons_self ..), h p (List.mem_cons_self ..), hp]
      · rw [if_neg hp, if_neg]
        intro hh
        rcases List.mem_cons.1 hh with e | e
        · exact hp e.symm
        · exact hk e

theorem lists_keys (l : List (ByteArray × ByteArray)) : (lists l).map (·.1) = l.map fun p => p.1.data.toList := by unfold lists; rw [List.map_map]; rfl

theorem turned_value (l : List (ByteArray × ByteArray)) (k : List UInt8) : Tr.value (lists (turnedB l)) k = Tr.value (lists l) k := by
  rw [value_const (fun k => Tr.value (lists l) k) (lists (turnedB l)) ?_ k]
  · have hk : (lists (turnedB l)).map (·.1) = ((lists l).map (·.1)).reverse := by
      rw [lists_keys, lists_keys]
      unfold turnedB
      rw [List.map_map, List.map_reverse]
      rfl
    rw [hk]
    by_cases h : k ∈ (lists l).map (·.1)
    · rw [if_pos (List.mem_reverse.2 h)]
    · rw [if_neg (fun e => h (List.mem_reverse.1 e)), Tr.value_not h]
  · intro p hp
    unfold lists turnedB at hp
    rw [List.map_map] at hp
    obtain ⟨q, _, rfl⟩ := List.mem_map.1 hp
    exact valB_value l q.1

/-- A pair put in, and behind all the key's value. -/
def moreB (l : List (ByteArray × ByteArray)) (i : Nat) (k o : ByteArray) : List (ByteArray × ByteArray) := l.take i ++ [(k, o)] ++ l.drop i ++ [(k, valB l k)]

theorem lists_append (a b : List (ByteArray × ByteArray)) : lists (a ++ b) = lists a ++ lists b := by simp [lists]

theorem value_mid (a b : List (List UInt8 × List UInt8)) (p : List UInt8 × List UInt8) (k : List UInt8) (h : p.1 ≠ k) : Tr.value (a ++ [p] ++ b) k = Tr.value (a ++ b) k := by
  unfold Tr.value
  rw [List.foldl_append, List.foldl_append, List.foldl_append, List.foldl_cons, List.foldl_nil, if_neg h]

theorem more_value (l : List (ByteArray × ByteArray)) (i : Nat) (k o : ByteArray) (key : List UInt8) : Tr.value (lists (moreB l i k o)) key = Tr.value (lists l) key := by
  unfold moreB
  rw [lists_append, Tr.value_append]
  by_cases h : key = k.data.toList
  · have hm : key ∈ (lists [(k, valB l k)]).map (·.1) := by rw [lists_keys]; simp [h]
    rw [if_pos hm]
    have : lists [(k, valB l k)] = [(k.data.toList, (valB l k).data.toList)] := rfl
    rw [this, Tr.value_cons, if_neg (by simp), if_pos h.symm, valB_value, h]
  · have hm : key ∉ (lists [(k, valB l k)]).map (·.1) := by rw [lists_keys]; simpa using h
    have e1 : lists [(k, o)] = [(k.data.toList, o.data.toList)] := rfl
    rw [if_neg hm, lists_append, lists_append, e1, value_mid _ _ _ _ (fun e => h e.symm), ← lists_append, List.take_append_drop]

theorem valB_size (l : List (ByteArray × ByteArray)) (key : ByteArray) (n : Nat) (h : ∀ p ∈ l, p.2.size ≤ n) : (valB l key).size ≤ n := by
  have gen : ∀ (l : List (ByteArray × ByteArray)) (v : ByteArray), v.size ≤ n → (∀ p ∈ l, p.2.size ≤ n) → (l.foldl (fun v p => if p.1 = key then p.2 else v) v).size ≤ n := by
    intro l
    induction l with
    | nil => intro v hv _; exact hv
    | cons p l ih =>
      intro v hv hl
      rw [List.foldl_cons]
      refine ih _ ?_ (fun q hq => hl q (List.mem_cons_of_mem _ hq))
      split
      · exact hl p (List.mem_cons_self ..)
      · exact hv
  exact gen l ⟨#[]⟩ (Nat.zero_le _) h

theorem tableB_fine (l : List (ByteArray × ByteArray)) : Fine (tableB l) := ⟨Nat.le_trans (tableB_len l) (by decide), tableB_ok l⟩

theorem turnedB_fine {l : List (ByteArray × ByteArray)} (h : Fine l) : Fine (turnedB l) := by
  refine ⟨by simpa [turnedB] using h.1, fun p hp => ?_⟩
  obtain ⟨q, hq, rfl⟩ := List.mem_map.1 hp
  exact ⟨(h.2 q (List.mem_reverse.1 hq)).1, valB_size l q.1 40 fun p hp => (h.2 p hp).2⟩

theorem moreB_fine {l : List (ByteArray × ByteArray)} (h : Fine l) (hl : l.length ≤ 30) (i : Nat) {k o : ByteArray} (hk : k.size ≤ 6) (ho : o.size ≤ 40) : Fine (moreB l i k o) := by
  refine ⟨by simp only [moreB, List.length_append, List.length_take, List.length_drop, List.length_cons, List.length_nil]; omega, fun p hp => ?_⟩
  unfold moreB at hp
  simp only [List.mem_append, List.mem_cons, List.not_mem_nil, or_false] at hp
  rcases hp with ((hp | rfl) | hp) | rfl
  · exact h.2 p (List.mem_of_mem_take hp)
  · exact ⟨hk, ho⟩
  · exact h.2 p (List.mem_of_mem_drop hp)
  · exact ⟨hk, valB_size l k 40 fun p hp => (h.2 p hp).2⟩

theorem turnedB_take (l : List (ByteArray × ByteArray)) (j : Nat) (h : j < l.length) : (turnedB l).take (l.length - j) = (turnedB l).take (l.length - (j + 1)) ++ [(l[j].1, valB l l[j].1)] := by
  have hlen : (turnedB l).length = l.length := by simp [turnedB]
  have e : l.length - j = l.length - (j + 1) + 1 := by omega
  rw [e, List.take_succ_eq_append_getElem (by omega)]
  congr 2
  unfold turnedB
  simp only [List.getElem_map, List.getElem_reverse]
  have e2 : l.length - 1 - (l.length - (j + 1)) = j := by omega
  simp only [e2]

end Go.Proofs.YtbmohenjphmlgabGreat
