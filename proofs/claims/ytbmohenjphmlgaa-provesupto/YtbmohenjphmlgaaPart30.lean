/- Part 30 of a proof: what the last text needs. -/
import Derived.Test.YtbmohenjphmlgaaPart29
import Derived.Test.YtbmohenjphmlgaaPart15
import Derived.Test.YtbmohenjphmlgaaPart24
/- The walks of mayFollow and follow (of the program). -/
namespace Go.Proofs.Ytbmohenjphmlgaa
open Go.RowKit
set_option maxRecDepth 100000

/-- May a node of kind k' stand where one of kind k refers to it by its sum? -/
def mayB (k k' : Nat) (short : Bool) : Bool := !short && (decide (k ≠ 2) || decide (k' = 3))

set_option maxHeartbeats 1600000 in
theorem mayFollow_any {v v' : Value} {k k' : Nat} {l l' : Bool} {s s' : ByteArray} {a a' : Option Addr} {n n' cap cap' m : Nat} {t : Itm} (w : World) (h : Nd v k l s a n cap) (h' : Nd v' k' l' s' a' n' cap') (hs : Small t) (hr : Rep w.heap.size w (m + 1) (.agg #[.bool l', .string s', .slice a' n' cap']) t) :
    Calls Try.prog 132 #[v, v'] w fun e w' => e = .returned (.bool (mayB k k' (decide ((Itm.enc t).length < 8)))) ∧ Below w.heap.size w w' := by
  have HS := hid (isShort_any w h' hs hr)
  have HK := hid (fun k a n cap l s w => commonKind_any k a n cap l s w)
  obtain ⟨T, A, rfl, _, _, hm, _⟩ := nd_call h
  obtain ⟨T', A', rfl, _, _, hm', _⟩ := nd_call h'
  have HM : Hid (mayB k k' (decide ((Itm.enc t).length < 8)) = (!(decide ((Itm.enc t).length < 8)) && (decide (k ≠ 2) || decide (k' = 3)))) := rfl
  generalize decide ((Itm.enc t).length < 8) = b at *
  clear hr h h' hs
  cases b with
  | true =>
    go_enter Try.func132, Try.ntmps132
    go_wp2_with fail
    refine HS.out.mono ?_
    rintro e w1 ⟨rfl, b1⟩
    have HB := hid b1
    clear b1
    go_wp2_with fail
    go_ret
    exact ⟨by rw [HM.out]; rfl, HB.out⟩
  | false =>
    by_cases h2 : k = 2
    · subst h2
      by_cases h3 : k' = 3
      · subst h3
        go_enter Try.func132, Try.ntmps132
        go_wp2_with fail
        refine HS.out.mono ?_
        rintro e w1 ⟨rfl, b1⟩
        have HB := hid b1
        clear b1
        go_wp2_with fail
        refine (HK.out _ _ _ _ _ _ _).mono ?_
        rintro e w2 ⟨rfl, b2⟩
        have HB2 := hid b2
        clear b2
        go_wp2_with fail
        refine (HK.out _ _ _ _ _ _ _).mono ?_
        rintro e w3 ⟨rfl, b3⟩
        have HB3 := hid b3
        clear b3
        go_wp2_with fail
        go_ret
        exact ⟨by rw [HM.out]; rfl, HB.out.trans ((HB2.out.trans (HB3.out.mono HB2.out.size)).mono HB.out.size)⟩
      · have i3 : ((k' : Int) == 3) = false := by rw [beq_eq_false_iff_ne]; omega
        rw [decide_eq_false h3] at HM
        clear h3
        go_enter Try.func132, Try.ntmps132
        go_wp2_with fail
        refine HS.out.mono ?_
        rintro e w1 ⟨rfl, b1⟩
        have HB := hid b1
        clear b1
        go_wp2_with fail
        refine (HK.out _ _ _ _ _ _ _).mono ?_
        rintro e w2 ⟨rfl, b2⟩
        have HB2 := hid b2
        clear b2
        go_wp2_with fail
        refine (HK.out _ _ _ _ _ _ _).mono ?_
        rintro e w3 ⟨rfl, b3⟩
        have HB3 := hid b3
        clear b3
        go_wp2_with fail
        go_ret
        exact ⟨by rw [HM.out]; rfl, HB.out.trans ((HB2.out.trans (HB3.out.mono HB2.out.size)).mono HB.out.size)⟩
    · have i2 : ¬ (k : Int) = 2 := by omega
      rw [decide_eq_true h2] at HM
      clear h2
      go_enter Try.func132, Try.ntmps132
      go_wp2_with fail
      refine HS.out.mono ?_
      rintro e w1 ⟨rfl, b1⟩
      have HB := hid b1
      clear b1
      go_wp2_with fail
      refine (HK.out _ _ _ _ _ _ _).mono ?_
      rintro e w2 ⟨rfl, b2⟩
      have HB2 := hid b2
      clear b2
      go_wp2_with fail
      go_ret
      exact ⟨by rw [HM.out]; rfl, HB.out.trans (HB2.out.mono HB.out.size)⟩

/-- A reference with no sum is followed to its own node. -/
theorem follow_own {v n : Value} {F : Nat} {c : Addr} (w : World) (hn : IsNode n) : Calls Try.prog 122 #[v, .agg #[.string ⟨#[]⟩, n], .func (.func F) #[] #[.pointer (some c)]] w fun e w' => e = .returned (.tuple #[n, .bool true]) ∧ Below w.heap.size w w' := by
  rcases hn with rfl | ⟨T, y, rfl⟩
  · go_enter Try.func122, Try.ntmps122
    go_wp2_with fail
    exact bodyPost_ret (v := .tuple #[.nilIface, .bool true]) (by simp [results, Try.results122, go_sem]) rfl ⟨rfl, (Below.refl _ _).alloc (Nat.le_refl _) _⟩
  · go_enter Try.func122, Try.ntmps122
    go_wp2_with fail
    exact bodyPost_ret (v := .tuple #[.iface T y, .bool true]) (by simp [results, Try.results122, go_sem]) rfl ⟨rfl, (Below.refl _ _).alloc (Nat.le_refl _) _⟩

/-- A reference by a sum is asked of the finder, and what it gives is looked at. -/
theorem follow_sum {v n : Value} {F : Nat} {c : Addr} {s : ByteArray} (w : World) (hF : Enters F) (hn : IsNode n) (hs : 0 < s.size) (Q : Value → Bool → World → Prop)
    (h : ∀ w', Below w.heap.size w w' → Calls Try.prog F #[.agg #[.string s, n], .pointer (some c)] w' fun e w'' => ∃ v' ok, e = .returned (.tuple #[v', .bool ok]) ∧ (ok = false → Q v' false w'') ∧
      (ok = true → Calls Try.prog 132 #[v, v'] w'' fun e w3 => ∃ b, e = .returned (.bool b) ∧ Q v' b w3)) :
    Calls Try.prog 122 #[v, .agg #[.string s, n], .func (.func F) #[] #[.pointer (some c)]] w fun e w' => ∃ v' ok, e = .returned (.tuple #[v', .bool ok]) ∧ Q v' ok w' := by
  have he : s.toList.isEmpty = false := by
    rw [ByteArray.toList_eq, List.isEmpty_eq_false_iff]
    intro e
    have := ba_len s
    rw [e] at this
    simp at this
    omega
  have H := hid h
  unfold Enters at hF
  clear h hs
  rcases hn with rfl | ⟨T, y, rfl⟩
  all_goals
    go_enter Try.func122, Try.ntmps122
    go_wp2_with fail
    refine (H.out _ ((Below.refl _ _).alloc (Nat.le_refl _) _)).mono ?_
    rintro e w1 ⟨v1, ok, rfl, g1, g2⟩
    have HG1 := hid g1
    have HG2 := hid g2
    clear g1 g2
    cases ok with
    | false =>
      go_wp2_with fail
      exact bodyPost_ret (v := .tuple #[v1, .bool false]) (by simp [results, Try.results122, go_sem]) rfl ⟨_, _, rfl, HG1.out (by trivial)⟩
    | true =>
      go_wp2_with fail
      refine (HG2.out (by trivial)).mono ?_
      rintro e w3 ⟨b, rfl, q⟩
      have HQ := hid q
      clear q
      go_wp2_with fail
      exact bodyPost_ret (v := .tuple #[v1, .bool b]) (by simp [results, Try.results122, go_sem]) rfl ⟨_, _, rfl, HQ.out⟩
end Go.Proofs.Ytbmohenjphmlgaa

/- The walk of the finder in proofFor (of the program): it takes down the bytes of each node that it is asked for. -/
namespace Go.Proofs.Ytbmohenjphmlgaa
open Go.RowKit
set_option maxRecDepth 100000

/-- The variable at block c holds these texts, in a row of its own. -/
def Holds (w : World) (c : Nat) (l : List ByteArray) : Prop := ∃ v, w.heap[c]? = some (.cells #[v] 34 (0, 0)) ∧ TOwn w (c + 1) v l

theorem holds_later {w w' : World} {c : Nat} {l : List ByteArray} (h : Holds w c l) (hb : Below w.heap.size w w') : Holds w' c l := by
  obtain ⟨v, h1, h2⟩ := h
  exact ⟨v, (hb.block c (Array.getElem?_eq_some_iff.1 h1).1).trans h1, town_later h2 hb⟩

theorem holds_lt {w : World} {c : Nat} {l : List ByteArray} (h : Holds w c l) : c < w.heap.size := by
  obtain ⟨v, h1, _⟩ := h
  exact (Array.getElem?_eq_some_iff.1 h1).1

set_option maxHeartbeats 3200000 in
theorem prove1_any {n : Value} {k : Int} {l0 : Bool} {s0 : ByteArray} {a : Option Addr} {n0 cap m : Nat} {t : Itm} (s : ByteArray) (c : Nat) (l : List ByteArray) (w : World) (h : Nd n k l0 s0 a n0 cap) (hs : Small t) (hr : Rep w.heap.size w (m + 1) (.agg #[.bool l0, .string s0, .slice a n0 cap]) t) (hh : Holds w c l) (hl : l.length ≤ 1000) :
    Calls Try.prog 102 #[.agg #[.string s, n], .pointer (some ⟨c, 0, none⟩)] w fun e w' => e = .returned (.tuple #[n, .bool true]) ∧ Holds w' c (l ++ [⟨(Itm.enc t).toArray⟩]) ∧ Below c w w' := by
  have HB := hid (fun w h => commonBytes_any k a n0 cap l0 s0 m t w hs h)
  obtain ⟨T, A, rfl, hm, _⟩ := nd_call h
  obtain ⟨v, hc, ho⟩ := hh
  have HO := hid ho
  have HC := hid hc
  have HR := hid hr
  have hlt : c < w.heap.size := (Array.getElem?_eq_some_iff.1 hc).1
  have hne : ¬ c = w.heap.size := by omega
  obtain ⟨av, cv, hv, _⟩ := town_shape ho
  subst hv
  clear hc ho hr h hs
  go_enter Try.func102, Try.ntmps102
  go_wp2_with fail
  have HWB : Hid (Below w.heap.size w (w.alloc (.cells #[.string s, .iface T (.agg A)] 140)).drew) := ((Below.refl _ _).alloc (Nat.le_refl _) _).drew
  have hS : (fun w' : World => w'.heap[c]? = some (.cells #[.slice av l.length cv] 34 (0, 0)) ∧ w'.heap[w.heap.size]? = some (.cells #[.string s, .iface T (.agg A)] 140 (0, 0))) (w.alloc (.cells #[.string s, .iface T (.agg A)] 140)).drew := ⟨(HWB.out.block _ hlt).trans HC.out, heap_alloc_new w _⟩
  refine wp_region_L (fun w' => w'.heap[c]? = some (.cells #[.slice av l.length cv] 34 (0, 0)) ∧ w'.heap[w.heap.size]? = some (.cells #[.string s, .iface T (.agg A)] 140 (0, 0))) 6 (by kernel_rfl) ?_
  refine wpAnyL_take (i := 0) (v := .slice av l.length cv) rfl (by kernel_rfl) (by kernel_rfl) (by kernel_rfl) (by kernel_rfl) (by kernel_rfl) (fun _ _ _ h => h) hS (Or.inl ⟨by kernel_rfl, ?_⟩) ?_
  · intro w' hSw
    have z0 := (cell_of_row w' _ 0 _ _ _ hSw.1).trans rfl
    go_simp
  try simp only [Act.put]
  refine wpAnyL_take (i := 1) (v := .pointer (some ⟨w.heap.size, 1, none⟩)) rfl (by kernel_rfl) (by kernel_rfl) (by kernel_rfl) (by kernel_rfl) (by kernel_rfl) (fun _ _ _ h => h) hS (Or.inl ⟨by kernel_rfl, ?_⟩) ?_
  · (intro w' hSw; go_simp)
  try simp only [Act.put]
  refine wpAnyL_take (i := 2) (v := .iface T (.agg A)) rfl (by kernel_rfl) (by kernel_rfl) (by kernel_rfl) (by kernel_rfl) (by kernel_rfl) (fun _ _ _ h => h) hS (Or.inl ⟨by kernel_rfl, ?_⟩) ?_
  · intro w' hSw
    have z0 := (cell_of_row w' _ 1 _ _ _ hSw.2).trans rfl
    go_simp
  try simp only [Act.put]
  refine wpAnyL_ready (rs := [3]) (by kernel_rfl) (by simp) ?_
  refine AllReadyL.cons rfl (fun K hK => ?_) AllReadyL.nil
  go_simp
  refine (HB.out _ (rep_later HWB.out HR.out)).mono ?_
  rintro e w1 ⟨rfl, b1⟩
  have hS1 : (fun w' : World => w'.heap[c]? = some (.cells #[.slice av l.length cv] 34 (0, 0)) ∧ w'.heap[w.heap.size]? = some (.cells #[.string s, .iface T (.agg A)] 140 (0, 0))) w1 := ⟨kept_block b1 hS.1, kept_block b1 hS.2⟩
  have HB1 : Hid (Below w.heap.size w w1) := HWB.out.trans (b1.mono HWB.out.size)
  have HO1 := hid (town_later HO.out HB1.out)
  clear b1
  refine hK.out _ _ hS1 ?_
  clear hK K
  try simp only [Act.put]
  obtain ⟨E, hE⟩ : ∃ E : ByteArray, E = ⟨(Itm.enc t).toArray⟩ := ⟨_, rfl⟩
  have HE := hid hE
  rw [← hE]
  clear hE
  refine wpAnyL_ready (rs := [4]) (by kernel_rfl) (by simp) ?_
  refine AllReadyL.cons rfl (fun K hK => ?_) AllReadyL.nil
  go_simp
  refine hK.out _ _ ⟨(Below.heap_alloc _ _ _ (Array.getElem?_eq_some_iff.1 hS1.1).1).trans hS1.1, (Below.heap_alloc _ _ _ (Array.getElem?_eq_some_iff.1 hS1.2).1).trans hS1.2⟩ ?_
  clear hK K
  try simp only [Act.put]
  have hcw : c + 1 ≤ w1.heap.size := Nat.succ_le_of_lt (Array.getElem?_eq_some_iff.1 hS1.1).1
  refine wpAnyL_ready (rs := [5]) (by kernel_rfl) (by simp) ?_
  refine AllReadyL.cons rfl (fun K hK => ?_) AllReadyL.nil
  refine step_push_text rfl (.tmp 5) (.tmp 9) rfl E w1.heap.size rfl rfl rfl HO1.out hcw (by omega) ?_
  intro v2 w2 o2 b2 k2
  have hne2 : ∀ k, k < c + 1 → (Value.slice av l.length cv).ownBlock ≠ some k := fun k hk e => by have := (town_lt HO1.out _ e).1; omega
  have hS2 : (fun w' : World => w'.heap[c]? = some (.cells #[.slice av l.length cv] 34 (0, 0)) ∧ w'.heap[w.heap.size]? = some (.cells #[.string s, .iface T (.agg A)] 140 (0, 0))) w2 := by
    refine ⟨(k2 c (by omega) (hne2 c (by omega))).trans hS1.1, ?_⟩
    refine (k2 w.heap.size (Array.getElem?_eq_some_iff.1 hS1.2).1 ?_).trans hS1.2
    intro e
    have := (town_lt HO.out _ e).2
    omega
  have HO2 := hid o2
  have HB2 : Hid (Below c w w2) := (HB1.out.mono (by omega)).trans (b2.mono (by omega))
  clear o2 b2 k2
  refine hK.out _ _ hS2 ?_
  clear hK K
  try simp only [Act.put]
  obtain ⟨a2, c2, hv2, _⟩ := town_shape HO2.out
  subst hv2
  have q0 := (cell_of_row _ _ 0 _ _ _ hS2.1).trans rfl
  have hf0 := frozen_of_row _ _ 0 _ _ hS2.1
  refine wpAnyL_ready (rs := [6]) (by kernel_rfl) (by simp) ?_
  refine AllReadyL.last rfl (fun K hK => ?_)
  go_simp
  refine hK.out _ _ ?_
  clear hK K
  try simp only [Act.put]
  refine wpAny_done (by kernel_rfl) ?_ _
  have HL2 : Hid ((l ++ [E]).length = l.length + 1) := by rw [Hid, List.length_append]; rfl
  have HH : Hid (Holds (w2.setCell ⟨c, 0, none⟩ (.slice a2 (l.length + 1) c2)) c (l ++ [E])) := by
    refine ⟨.slice a2 (l.length + 1) c2, heap_setCell_same _ _ _ _ _ _ hS2.1, ?_⟩
    have o3 := HO2.out
    rw [HL2.out] at o3
    exact town_frame o3 (fun g hg => Below.heap_setCell _ _ _ _ (by have := (town_lt o3 g hg).1; simp; omega))
  have HBF : Hid (Below c w (w2.setCell ⟨c, 0, none⟩ (.slice a2 (l.length + 1) c2))) := HB2.out.setCell (p := ⟨c, 0, none⟩) (Nat.le_refl _) _
  have z1 := (cell_of_row _ _ 1 _ _ _ ((Below.heap_setCell w2 ⟨c, 0, none⟩ (.slice a2 (l.length + 1) c2) w.heap.size (fun e => hne e.symm)).trans hS2.2)).trans rfl
  generalize w2.setCell ⟨c, 0, none⟩ (.slice a2 (l.length + 1) c2) = W3 at *
  clear q0 hf0 hS2 hS1 hS HO2 HB2 HO1 HB1 HWB HO HC HR HB
  go_wp2_with fail
  exact bodyPost_ret (v := .tuple #[.iface T (.agg A), .bool true]) (by simp [results, Try.results102, go_sem]) rfl ⟨rfl, by rw [← HE.out]; exact HH.out, HBF.out⟩
end Go.Proofs.Ytbmohenjphmlgaa

/- The walks of proofFor and Prove (of the program). -/
namespace Go.Proofs.Ytbmohenjphmlgaa
open Go.RowKit
set_option maxRecDepth 100000

def toB (l : List UInt8) : ByteArray := ⟨l.toArray⟩

theorem forks_two {l : List Tr.Ent} (h : Tr.Forks l) : ¬ l = [] ∧ (∀ e, ¬ l = [e]) ∧ Tr.shared l = [] := by
  obtain ⟨a, b, r, rfl, hs⟩ := h
  exact ⟨by simp, fun e he => by simp at he, hs⟩

theorem bt_kind {lo : Nat} {w : World} {f : Nat} {v : Value} {l : List Tr.Ent} (h : BT lo w f v l) : ∃ (k : Nat) (l0 : Bool) (s : ByteArray) (a : Option Addr) (n cap : Nat), Nd v k l0 s a n cap ∧ RepW lo w.heap.size w (f + 2) (.agg #[.bool l0, .string s, .slice a n cap]) (Tr.node f l) ∧ (Tr.Forks l → k = 3) := by
  cases f with
  | zero =>
    obtain ⟨rfl, rfl⟩ := h
    exact ⟨0, _, _, _, _, _, nd_empty, repW_empty _ _ _ _, fun hf => absurd rfl (forks_two hf).1⟩
  | succ f =>
    rcases h with ⟨rfl, rfl⟩ | ⟨e, a, cap, d, x, h1, rfl, h3, h4, h5⟩ | ⟨p, q, r, h1, h2, a, cap, d, a2, c2, cs, x, rfl, h4, h5, h6⟩ | ⟨h1, a, cap, cs, x, rfl, h3, h4, h5, h6⟩
    · exact ⟨0, _, _, _, _, _, nd_empty, repW_empty _ _ _ _, fun hf => absurd rfl (forks_two hf).1⟩
    · exact ⟨1, _, _, _, _, _, nd_leaf _ _ _ _, h5, fun hf => absurd h1 ((forks_two hf).2.1 e)⟩
    · exact ⟨2, _, _, _, _, _, nd_ext _ _ _ _ _, h5, fun hf => absurd (forks_two hf).2.2 h2⟩
    · exact ⟨3, _, _, _, _, _, nd_branch _ _ _ _, h5, fun _ => rfl⟩

theorem nd_isNode {v : Value} {k : Int} {l : Bool} {s : ByteArray} {a : Option Addr} {n cap : Nat} (h : Nd v k l s a n cap) : IsNode v := by
  obtain ⟨T, A, _, rfl, _⟩ := h
  exact .inr ⟨_, _, rfl⟩

/-- A reference of the tree is followed: its bytes are taken down if it is by a sum. -/
theorem follow_tree {lo f kv : Nat} {W w : World} {v n : Value} {lv : Bool} {sv : ByteArray} {av : Option Addr} {nv cv : Nat} {l : List Tr.Ent} {P : List ByteArray} (hv : Nd v kv lv sv av nv cv) (hf : f ≤ 100) (hbt : BT lo W f n l) (hfit : Tr.Fits f l) (hok : kv = 2 → Tr.Forks l) (hB : Below W.heap.size W w) (hh : Holds w W.heap.size P) (hP : P.length ≤ 1000) :
    Calls Try.prog 122 #[v, .agg #[.string (refSum (Tr.node f l)), n], .func (.func 102) #[] #[.pointer (some ⟨W.heap.size, 0, none⟩)]] w fun e w' => e = .returned (.tuple #[n, .bool true]) ∧ Below W.heap.size W w' ∧ Holds w' W.heap.size (P ++ if (Itm.enc (Tr.node f l)).length < 8 then [] else [toB (Itm.enc (Tr.node f l))]) := by
  obtain ⟨k, l0, s, a, nn, cap, hnd, hrep, hk⟩ := bt_kind hbt
  have hsm := node_small f l hf hfit
  by_cases h8 : (Itm.enc (Tr.node f l)).length < 8
  · rw [refSum_none h8, if_pos h8, List.append_nil]
    refine (follow_own w (nd_isNode hnd)).mono ?_
    rintro e w' ⟨rfl, b⟩
    exact ⟨rfl, hB.trans (b.mono hB.size), holds_later hh b⟩
  · rw [refSum_some h8, if_neg h8]
    refine (follow_sum w enters_proof (nd_isNode hnd) (by show 0 < (Tr.sum _).toArray.size; rw [List.size_toArray, Tr.sum_len]; omega) (fun v' ok w' => v' = n ∧ ok = true ∧ Below W.heap.size W w' ∧ Holds w' W.heap.size (P ++ [toB (Itm.enc (Tr.node f l))])) ?_).mono ?_
    · intro w1 b1
      have hB1 : Below W.heap.size W w1 := hB.trans (b1.mono hB.size)
      refine (prove1_any _ W.heap.size P w1 hnd hsm (m := f + 1) (rep_later hB1 (repW_rep _ _ _ hrep)) (holds_later hh b1) hP).mono ?_
      rintro e w2 ⟨rfl, hh2, b2⟩
      have hB2 : Below W.heap.size W w2 := hB1.trans b2
      refine ⟨n, true, rfl, (by intro h; cases h), fun _ => ?_⟩
      refine (mayFollow_any (m := f + 1) w2 hv hnd hsm (rep_later hB2 (repW_rep _ _ _ hrep))).mono ?_
      rintro e w3 ⟨rfl, b3⟩
      refine ⟨_, rfl, rfl, ?_, hB2.trans (b3.mono hB2.size), holds_later hh2 b3⟩
      unfold mayB
      rw [decide_eq_false h8]
      by_cases h2 : kv = 2
      · rw [hk (hok h2)]; simp
      · simp [h2]
    · rintro e w' ⟨v', ok, rfl, rfl, rfl, h3, h4⟩
      exact ⟨rfl, h3, h4⟩

/-- What holds on the way down. -/
def PJ (W : World) (lo : Nat) (goal : List ByteArray) (w : World) (v : Value) (d : ByteArray) : Prop :=
  Below W.heap.size W w ∧ ∃ f l P, f ≤ 100 ∧ BT lo W f v l ∧ Tr.Fits f l ∧ Tr.Apart l ∧ (∀ c ∈ d.data.toList, c.toNat < 16) ∧ Holds w W.heap.size P ∧ P ++ (Tr.elems f l d.data.toList).map toB = goal

def PQ (W : World) (goal : List ByteArray) (_ : ByteArray) (ok : Bool) (w : World) : Prop := ok = true ∧ Below W.heap.size W w ∧ Holds w W.heap.size goal

theorem way_prove (W : World) (lo : Nat) (goal : List ByteArray) (hg : goal.length ≤ 1000) (w : World) (v : Value) (d : ByteArray) (h : PJ W lo goal w v d) : Way 102 ⟨W.heap.size, 0, none⟩ (PJ W lo goal) (PQ W goal) w v d := by
  obtain ⟨hB, f, l, P, hf, hbt, hfit, hap, hd, hh, hgoal⟩ := h
  have hP : P.length ≤ 1000 := by rw [← hgoal, List.length_append] at hg; omega
  have ends : ∀ x, Tr.elems f l d.data.toList = [] → ∀ w', Below w.heap.size w w' → PQ W goal x true w' := by
    intro x he w' b
    rw [he] at hgoal
    simp only [List.map_nil, List.append_nil] at hgoal
    subst hgoal
    exact ⟨rfl, hB.trans (b.mono hB.size), holds_later hh b⟩
  cases f with
  | zero =>
    obtain ⟨rfl, rfl⟩ := hbt
    exact ⟨_, _, _, _, _, steps_empty d, .inl rfl, fun _ => ends _ rfl, fun h => by cases h⟩
  | succ f =>
    rcases hbt with ⟨rfl, rfl⟩ | ⟨e, a, cap, t, x, h1, rfl, h3, h4, h5⟩ | ⟨p, q, r, h1, h2, a, cap, t, a2, c2, cs, x, rfl, h4, h5, h6⟩ | ⟨h1, a, cap, cs, x, rfl, h3, h4, h5, h6⟩
    · exact ⟨_, _, _, _, _, steps_empty d, .inl rfl, fun _ => ends _ rfl, fun h => by cases h⟩
    · subst h1
      exact ⟨_, _, _, _, _, steps_leaf a cap t x d, .inl rfl, fun _ => ends _ rfl, fun h => by cases h⟩
    · have hpre : pre t d = (Tr.shared l).isPrefixOf d.data.toList := by unfold pre; rw [h4]
      refine ⟨_, _, _, _, _, steps_ext a cap t _ d _ (.inr ⟨_, _, rfl⟩), .inr ⟨_, _, rfl⟩, fun hn => ends _ ?_, fun hp => ?_⟩
      · rw [Tr.elems_ext f h1 h2, if_neg]
        rw [← hpre, hn]; simp
      · have hcut := cutP_list hp
        have hts : t.size = (Tr.shared l).length := by rw [← h4, ba_len]
        have hfk : Tr.Forks (Tr.behind (Tr.shared l) l) := Tr.forks_behind h1
        have hfit2 := hfit.behind h2
        have hel := Tr.elems_ext f h1 h2 d.data.toList
        rw [if_pos (by rw [← hpre]; exact hp)] at hel
        refine ⟨?_, fun w' b => ?_⟩
        · rw [← ba_len, hcut, ← ba_len d, List.length_drop]
          have hle := pre_size hp
          have : 0 < t.size := by rw [hts]; exact List.length_pos_iff.2 h2
          rw [ba_len]; omega
        · have hB' : Below W.heap.size W w' := hB.trans (b.mono hB.size)
          refine (follow_tree (nd_ext a cap t _ _) (by omega) h6 hfit2 (fun _ => hfk) hB' (holds_later hh b) hP).mono ?_
          rintro e w2 ⟨rfl, hB2, hh2⟩
          refine ⟨_, _, rfl, fun _ => ⟨hB2, f, _, _, by omega, h6, hfit2, hap.behind, ?_, hh2, ?_⟩, fun h => by cases h⟩
          · rw [hcut]; exact fun c hc => hd c (List.mem_of_mem_drop hc)
          · have hpos : 0 < f := Tr.fits_pos hfit2 (forks_two hfk).1
            obtain ⟨f', rfl⟩ : ∃ f', f = f' + 1 := ⟨f - 1, by omega⟩
            rw [if_neg (Tr.fork_long f' hfk), hcut, hts, ← hgoal, hel, List.map_cons, List.append_assoc]
            rfl
    · cases hdl : d.data.toList with
      | nil =>
        have : d = ⟨#[]⟩ := by cases d; simp_all
        subst this
        exact ⟨_, _, _, _, _, steps_end a cap cs x h3, .inl rfl, fun _ => ends _ (Tr.elems_end f h1), fun h => by cases h⟩
      | cons c r =>
        have hc : c.toNat < 16 := hd c (by rw [hdl]; exact List.mem_cons_self ..)
        obtain ⟨vd, g1, g2, g3⟩ := h6 c.toNat hc
        rw [Tr.ofNat_toNat] at g1 g3
        obtain ⟨_, _, _, _, _, _, hnd, _⟩ := bt_kind g3
        have hfit2 : Tr.Fits f (Tr.behind [c] l) := hfit.behind (by simp)
        have hel := Tr.elems_fork f h1 c r
        refine ⟨_, _, _, _, _, steps_branch a cap cs x d h3 c r hdl hc _ _ (nd_isNode hnd) g1 g2, nd_isNode hnd, (fun h => by cases h), fun _ => ⟨?_, fun w' b => ?_⟩⟩
        · show r.toArray.size < d.size
          rw [← ba_len d, hdl, List.size_toArray, List.length_cons]; omega
        · have hB' : Below W.heap.size W w' := hB.trans (b.mono hB.size)
          refine (follow_tree (nd_branch a cap cs x) (by omega) g3 hfit2 (fun h => by cases h) hB' (holds_later hh b) hP).mono ?_
          rintro e w2 ⟨rfl, hB2, hh2⟩
          refine ⟨_, _, rfl, fun _ => ⟨hB2, f, _, _, by omega, g3, hfit2, hap.behind, ?_, hh2, ?_⟩, fun h => by cases h⟩
          · intro y hy
            exact hd y (by rw [hdl]; exact List.mem_cons_of_mem _ hy)
          · rw [← hgoal, hdl, hel, List.map_append, List.append_assoc]
            congr 1
            congr 1
            split <;> rfl
end Go.Proofs.Ytbmohenjphmlgaa

/- What the walk of Prove (of the document's own answer) leans on. -/
namespace Go.Proofs.Ytbmohenjphmlgaa
open Go.RowKit
set_option maxRecDepth 100000

theorem behind_none (l : List Tr.Ent) : Tr.behind [] l = l := by
  induction l with
  | nil => rfl
  | cons e l ih => rw [Tr.behind_hit (List.nil_prefix), ih]; rfl

theorem behind_step (s : List UInt8) (c : UInt8) (l : List Tr.Ent) : Tr.behind [c] (Tr.behind s l) = Tr.behind (s ++ [c]) l := by
  induction l with
  | nil => rfl
  | cons e l ih =>
    by_cases h : s <+: e.dig
    · obtain ⟨r, hr⟩ := h
      have hs : s <+: e.dig := ⟨r, hr⟩
      rw [Tr.behind_hit hs]
      have hd : e.dig.drop s.length = r := by rw [← hr, List.drop_left]
      by_cases hc : [c] <+: r
      · have hsc : s ++ [c] <+: e.dig := by rw [← hr]; exact (List.prefix_append_right_inj s).2 hc
        rw [hd, Tr.behind_hit (e := ⟨r, e.val⟩) hc, Tr.behind_hit hsc, ih]
        congr 2
        simp only [List.length_append, List.length_singleton]
        rw [← List.drop_drop, hd]
      · have hsc : ¬ s ++ [c] <+: e.dig := by rw [← hr]; exact fun h => hc ((List.prefix_append_right_inj s).1 h)
        rw [hd, Tr.behind_miss (e := ⟨r, e.val⟩) hc, Tr.behind_miss hsc, ih]
    · have hsc : ¬ s ++ [c] <+: e.dig := fun h' => h ((List.prefix_append s [c]).trans h')
      rw [Tr.behind_miss h, Tr.behind_miss hsc, ih]

theorem brdR_drewN {B : Nat} {w : World} {v : Value} {l : List UInt8} (n : Nat) (h : Brd B w v l) : Brd B (w.drewN n) v l := h

/-- A text that was just laid is appended to a row of the call's own; all else stays as it was: for a walk. -/
theorem wpList_push_textQ {ops : Array Oper} {rest : List Oper} {o : Oper} {act : Act} {Q' : Exit → Act → World → Prop} (hgd : o.guard = none) (s x : Operand)
    (hop : o.op = .call { callee := .builtin .append, args := #[s, x], argTypes := #[34, 34] }) {wr : World} {B : Nat} {v1 : Value} {l1 : List ByteArray} (p : ByteArray) (L : Nat) (hL : wr.heap.size = L)
    (hs : act.eval s = v1) (hx : act.eval x = .slice (some ⟨L, 0, none⟩) 1 1) (ho : TOwn wr B v1 l1) (hB : B ≤ wr.heap.size) (hlen : l1.length ≤ 1000000)
    (h : ∀ v' w', TOwn w' B v' (l1 ++ [p]) → Below B wr w' → (∀ k, k < wr.heap.size → v1.ownBlock ≠ some k → w'.heap[k]? = wr.heap[k]?) → (∀ b, v'.ownBlock = some b → v1.ownBlock = some b ∨ wr.heap.size ≤ b) → wr.heap.size ≤ w'.heap.size → wpList Try.prog ops Q' rest (act.put o.dst v') w') : wpList Try.prog ops Q' (o :: rest) act (wr.alloc (.cells #[.string p] 9)) := by
  subst hL
  obtain ⟨i0, hi, hz0, hz1, hz2⟩ := info_parts infoText
  have hb2 : Below B wr (wr.alloc (.cells #[.string p] 9)) := (Below.refl _ _).alloc hB _
  have hBw : B ≤ (wr.alloc (.cells #[.string p] 9)).heap.size := Nat.le_trans hB hb2.size
  have ho2 : TOwn (wr.alloc (.cells #[.string p] 9)) B v1 l1 := town_frame ho (fun g hg => Below.heap_alloc _ _ _ (town_lt ho g hg).2)
  refine wpList_append_mine _ hgd s x 34 hop B 9 i0 _ 1 16 Try.underlying34 hi hz0 hz1 hz2 rfl (by decide) v1 l1.length (tcells l1) hs ho2 ⟨wr.heap.size, 0, none⟩ 1 1 [.string p] hx rfl (cells_lone _ _ _) (by simp [Value.oneCell']) (by unfold maxLen; omega) (by omega) hBw ?_
  intro v' w' ho' hg hn
  refine h v' w' ?_ (hb2.grown hg hBw (fun g hgg => (town_lt ho g hgg).1)) (fun k hk hne => (hg.block k (by rw [alloc_size]; omega) (fun e => hne e.symm)).trans (Below.heap_alloc _ _ _ hk)) ?_ (by have := hg.size; rw [alloc_size] at this; omega)
  · unfold TOwn
    rw [List.length_append, tcells_snoc]
    exact ho'
  · intro b hb'
    rcases hn with e | ⟨g, e, hle⟩
    · left; rw [← e]; exact hb'
    · right; rw [e] at hb'; cases hb'; rw [alloc_size] at hle; omega

/-- What the entries' node adds to a proof. -/
def adds (f : Nat) (L : List Tr.Ent) (first : Bool) : List (List UInt8) := if first || decide (8 ≤ (Itm.enc (Tr.node f L)).length) then [Itm.enc (Tr.node f L)] else []

/-- Between two rounds of Prove. -/
structure PvSt (w : World) (goal : List (List UInt8)) (wr : World) (f : Nat) (L : List Tr.Ent) (K : List UInt8) (done : List (List UInt8)) (first : Bool) (vo : Value) (aL ak : Option Addr) (ck : Nat) : Prop where
  er : ERdQ (fun x => vo.ownBlock ≠ some x) wr.heap.size wr aL L
  kd : BrdX (fun x => vo.ownBlock ≠ some x) wr.heap.size wr (.slice ak K.length ck) K
  fit : Tr.Fits f L
  ap : Tr.Apart L
  len : L.length ≤ 60
  f13 : f ≤ 13
  k16 : ∀ c ∈ K, c.toNat < 16
  klen : K.length ≤ 1000
  own : TOwn wr w.heap.size vo (done.map toB)
  bel : Below w.heap.size w wr
  eq : done ++ (adds f L first ++ Tr.elems f L K) = goal

theorem elems_short {f : Nat} {L : List Tr.Ent} {K : List UInt8} (h : L.length ≤ 1) : Tr.elems f L K = [] := by
  cases f with
  | zero => rfl
  | succ f =>
    match L, h with
    | [], _ => rfl
    | [e], _ => rfl

theorem adds_next (f : Nat) (L : List Tr.Ent) : adds f L false = if (Itm.enc (Tr.node f L)).length < 8 then [] else [Itm.enc (Tr.node f L)] := by
  unfold adds
  by_cases h : (Itm.enc (Tr.node f L)).length < 8
  · rw [if_pos h, if_neg (by simp; omega)]
  · rw [if_neg h, if_pos (by simp; omega)]

theorem adds_nil (f : Nat) : adds f [] false = [] := by
  rw [adds_next, if_pos]
  have h : Tr.node f [] = Tr.itB [] := by cases f <;> rfl
  rw [h, Tr.enc_itB]
  have := Tr.encB_len [] (by decide)
  simp only [List.length_nil] at this
  omega

theorem tfault_two {l : List (ByteArray × ByteArray)} {key : ByteArray} (h : tfault l ⟨#[]⟩ = 2) : tfault l key = 2 := by
  unfold tfault at *
  by_cases h1 : 60 < l.length
  · rw [if_pos h1]
  · rw [if_neg h1] at h
    split at h
    · cases h
    · split at h <;> cases h

theorem tfault_fine {l : List (ByteArray × ByteArray)} {key : ByteArray} (hk : ¬ 6 < key.size) : tfault l key = tfault l ⟨#[]⟩ := by
  have e : ((∃ p ∈ l, 6 < p.1.size) ∨ 6 < key.size) ↔ ((∃ p ∈ l, 6 < p.1.size) ∨ 6 < (⟨#[]⟩ : ByteArray).size) := by
    have h0 : ¬ 6 < (⟨#[]⟩ : ByteArray).size := by decide
    simp only [hk, h0, or_false]
  unfold tfault
  simp only [e]

theorem tfault_three {l : List (ByteArray × ByteArray)} {key : ByteArray} (h : tfault l ⟨#[]⟩ ≠ 2) (hk : 6 < key.size) : tfault l key = 3 := by
  refine tfault_key (fun h1 => h (tfault_many h1)) (.inr hk)
end Go.Proofs.Ytbmohenjphmlgaa
