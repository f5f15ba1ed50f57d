/- Part 15 of a proof: what the last text needs. -/
import Derived.Test.YtbmohenjphmlgaaGreatPart14
import Derived.Deep.MidRow
import Derived.Test.YtbmohenjphmlgaaGreatPart7
import Derived.Test.YtbmohenjphmlgaaGreatPart9
import Derived.Test.YtbmohenjphmlgaaGreatPart4
import Derived.Test.YtbmohenjphmlgaaGreatPart6
import Derived.Maps.OwnOps
import Derived.Maps.OwnSet
import Derived.Deep.RegionHeld3
import Derived.Test.YtbmohenjphmlgaaGreatPart11
import Derived.Test.YtbmohenjphmlgaaGreatPart2
import Derived.Deep.RegionWith
import Derived.Test.YtbmohenjphmlgaaGreatPart13
/- The walks of ForgetAllBut and Drop (of the program), for what reach does. -/
namespace Go.Proofs.YtbmohenjphmlgaaGreat
open Go.RowKit
set_option maxRecDepth 100000

/-- R is a part of the store S, with the same nodes. -/
def PartOf (S R : List (List UInt8)) (F G : List UInt8 → Option Value) : Prop :=
  Tr.Lone R ∧ (∀ e ∈ R, e ∈ S) ∧ (∀ s, Tr.find R s = none → G s = none) ∧ ∀ e ∈ R, G (Tr.sum e) = F (Tr.sum e)

theorem partOf_nil (S : List (List UInt8)) (F : List UInt8 → Option Value) : PartOf S [] F (fun _ => none) := ⟨Tr.lone_nil, fun e h => by simp at h, fun _ _ => rfl, fun e h => by simp at h⟩

theorem partOf_nodes {own : Nat → Prop} {C : Nat} {w : World} {S R : List (List UInt8)} {F G : List UInt8 → Option Value} (h : PartOf S R F G) (hn : NodesAt own C w S F) : NodesAt own C w R G := by
  refine ⟨h.1, h.2.2.1, fun e he => ?_⟩
  obtain ⟨v, t, lo, B, m, g1, g2⟩ := hn.2.2 e (h.2.1 e he)
  exact ⟨v, t, lo, B, m, (h.2.2.2 e he).trans g1, g2⟩

/-- What reach does. -/
def ReachOk (own : Nat → Prop) (k2 k3 r : Nat) (S : List (List UInt8)) (F : List UInt8 → Option Value) : Prop :=
  ∀ (f : Nat) (w : World) (s : ByteArray) (R : List (List UInt8)) (G : List UInt8 → Option Value), s.size ≤ 1000 → w.heap[k2]? = some (.cells #[.map (some k3)] 148 (0, 0)) → StoreAt own w k3 S F → MapAt Tryz.prog 9 w r R.length G → PartOf S R F G → Tr.missing S R ≤ f →
    Calls Tryz.prog 101 #[.pointer (some ⟨k2, 0, none⟩), .string s, .map (some r)] w fun e w' => e = .returned (.tuple #[]) ∧ ∃ G', MapAt Tryz.prog 9 w' r (Tr.dfs S f s.data.toList R).length G' ∧ PartOf S (Tr.dfs S f s.data.toList R) F G' ∧ Turns (fun k => k = r) w w'

/-- What is reached from some roots. -/
def reachedFrom (S : List (List UInt8)) (l : List ByteArray) : List (List UInt8) := (bl l).foldl (fun R r => Tr.dfs S S.length r R) []

theorem reachedFrom_snoc (S : List (List UInt8)) (l : List ByteArray) (s : ByteArray) : reachedFrom S (l ++ [s]) = Tr.dfs S S.length s.data.toList (reachedFrom S l) := by
  unfold reachedFrom
  rw [bl_append, List.foldl_append]
  rfl

def ForgetOk (own : Nat → Prop) (k2 : Nat) (S : List (List UInt8)) (l : List ByteArray) (w : World) (e : Ending) (w' : World) : Prop :=
  e = .returned (.tuple #[]) ∧ ∃ k3' F', w'.heap[k2]? = some (.cells #[.map (some k3')] 148 (0, 0)) ∧ StoreAt own w' k3' (reachedFrom S l) F' ∧ Turns (fun k => k = k2) w w'

set_option maxHeartbeats 1600000 in
theorem forget_any {own : Nat → Prop} (k2 k3 : Nat) (S : List (List UInt8)) (F : List UInt8 → Option Value) (l : List ByteArray) (a : Option Addr) (cap : Nat) (w : World) (h2 : w.heap[k2]? = some (.cells #[.map (some k3)] 148 (0, 0))) (h3 : StoreAt own w k3 S F) (hn : ∀ k, own k → k < w.heap.size) (hk2 : own k2) (hr : SRd w.heap.size w a l) (hz : ∀ s ∈ l, s.size ≤ 1000) (hl : l.length ≤ 1000)
    (hreach : l ≠ [] → ReachOk (fun k => own k ∨ k = w.heap.size) k2 k3 w.heap.size S F) :
    Calls Tryz.prog 61 #[.pointer (some ⟨k2, 0, none⟩), .slice a l.length cap] w (ForgetOk own k2 S l w) := by
  have hmm := @run_makeMap Tryz.prog
  have HR := hid hr
  have HZ := hid hz
  have HRE := hid hreach
  have H2 := hid h2
  have H3 := hid h3
  have HN := hid hn
  have HK2 := hid hk2
  clear hr hz hreach h2 h3 hn hk2
  go_enter Tryz.func61, Tryz.ntmps61
  go_wp2_with fail
  go_loopw [10] (fun i wr => ∃ k : Nat, i = .int .i64 k ∧ k ≤ l.length ∧ Hid (Below w.heap.size w wr ∧ ∃ G, MapAt Tryz.prog 9 wr w.heap.size (reachedFrom S (l.take k)).length G ∧ PartOf S (reachedFrom S (l.take k)) F G)) (fun i _ => l.length - (intOf i).toNat)
  case atStart => exact ⟨0, rfl, Nat.zero_le _, (Below.refl _ _).alloc (Nat.le_refl _) _, _, mapAt_new _ _ _, partOf_nil _ _⟩
  case round =>
    obtain ⟨k, rfl, hk, HH⟩ := hrel
    by_cases hlt : k < l.length
    · obtain ⟨b, off, rfl, hb, e0⟩ := HR.out k hlt
      have f0 := (HH.out.1.cell (p := ⟨b, off + k, none⟩) hb).trans e0
      have i1 : (0 : Int) ≤ (k : Int) := by omega
      have i2 : (k : Int) < (l.length : Int) := by omega
      have HTK : Hid (reachedFrom S (l.take (k + 1)) = Tr.dfs S S.length l[k].data.toList (reachedFrom S (l.take k))) := by rw [Hid, List.take_succ_eq_append_getElem hlt, reachedFrom_snoc]
      have HSZ : Hid (l[k].size ≤ 1000) := HZ.out _ (List.getElem_mem hlt)
      obtain ⟨hbl, G, hm, hp⟩ := HH.out
      have hst : StoreAt (fun k => own k ∨ k = w.heap.size) wr k3 S F := by
        obtain ⟨q1, q2, q3, q4, q5⟩ := H3.out
        refine ⟨mapAt_frame q1 (hbl.block _ (mapAt_lt q1)), fun h => ?_, q3, q4, fun e he => ?_⟩
        · rcases h with h | h
          · exact q2 h
          · have := mapAt_lt q1; omega
        · obtain ⟨v, t, lo, B, m, g1, g2, g3, g4, g5, g6⟩ := q5 e he
          refine ⟨v, t, lo, B, m, g1, g2, g3, Nat.le_trans g4 hbl.size, fun q hq => ?_, rn_later (hbl.mono g4) _ _ _ g6⟩
          rcases hq with hq | hq
          · exact g5 q hq
          · right; omega
      have HCALL := hid ((HRE.out (fun h => by rw [h] at hlt; simp at hlt)) S.length wr l[k] _ G HSZ.out ((hbl.block _ (Array.getElem?_eq_some_iff.1 H2.out).1).trans H2.out) hst hm hp (Tr.missing_le _ _))
      have HBL := hid hbl
      clear e0 hm hp hst hbl HH
      generalize l[k] = rk at *
      go_wp2_with fail
      refine HCALL.out.mono ?_
      rintro e w1 ⟨rfl, G', m1, p1, t1⟩
      have HM1 := hid m1
      have HP1 := hid p1
      have HB1 : Hid (Below w.heap.size w w1) := t1.below HBL.out HBL.out.size (fun k hk => Nat.le_of_eq hk.symm)
      clear m1 p1 t1
      go_wp2_with fail
      refine ⟨⟨k + 1, by go_num, by omega, HB1.out, G', ?_, ?_⟩, by simp [intOf]; omega⟩
      · rw [HTK.out]; exact HM1.out
      · rw [HTK.out]; exact HP1.out
    · obtain rfl : k = l.length := by omega
      have i2 : ¬ (l.length : Int) < (l.length : Int) := by omega
      rw [List.take_length] at HH
      obtain ⟨hbl, G, hm, hp⟩ := HH.out
      have HM := hid hm
      have HP := hid hp
      have HBL := hid hbl
      have hkr : wr.heap[k2]? = some (.cells #[.map (some k3)] 148 (0, 0)) := (hbl.block _ (Array.getElem?_eq_some_iff.1 H2.out).1).trans H2.out
      have z0 := cell_of_row _ _ 0 _ _ _ hkr
      have z1 := frozen_of_row _ _ 0 _ _ hkr
      have HKR := hid hkr
      clear hm hp hbl hkr HH hlt
      go_wp2_with fail
      refine bodyPost_ret (v := .tuple #[]) (by simp [results, Tryz.results61, go_sem]) rfl ?_
      refine ⟨rfl, w.heap.size, G, heap_setCell_same _ _ _ _ _ _ HKR.out, ?_, ?_⟩
      · have hst : StoreAt own wr w.heap.size (reachedFrom S l) G := ⟨HM.out, fun ho => Nat.lt_irrefl _ (HN.out _ ho), partOf_nodes HP.out (nodesAt_turns H3.out.2.2 HBL.out.size (fun q hq _ => HBL.out.block q hq))⟩
        exact storeAt_turns hst (by simp [World.setCell]) (fun q hq ho => Below.heap_setCell _ _ _ _ (fun e => ho (by rw [e]; exact HK2.out)))
      · have ht : Turns (fun q => q = k2) wr (wr.setCell ⟨k2, 0, none⟩ (.map (some w.heap.size))) := ⟨rfl, rfl, rfl, by simp [World.setCell], fun q hq ho => Below.heap_setCell _ _ _ _ ho⟩
        exact (Turns.of_below HBL.out).trans ht

/-- What Drop does at a height that is trusted. -/
def DropOk (own : Nat → Prop) (k1 k2 base g cap : Nat) (S : List (List UInt8)) (l : List (Int × ByteArray)) (p : Nat) (w : World) (e : Ending) (w' : World) : Prop :=
  e = .returned (.int .i64 0) ∧ ∃ k3' F', w'.heap[k1]? = some (.cells #[.slice (some ⟨g, 0, none⟩) (l.length - 1) cap, .pointer (some ⟨k2, 0, none⟩)] 94 (0, 0)) ∧ HOwn w' base (.slice (some ⟨g, 0, none⟩) (l.length - 1) cap) (l.eraseIdx p) ∧ w'.heap[k2]? = some (.cells #[.map (some k3')] 148 (0, 0)) ∧ StoreAt own w' k3' (reachedFrom S (rootsB (l.eraseIdx p))) F' ∧ Turns (fun k => k = k1 ∨ k = k2 ∨ k = g) w w'

set_option maxHeartbeats 3200000 in
theorem drop_any {own : Nat → Prop} (k1 k2 k3 base g cap p : Nat) (S : List (List UInt8)) (F : List UInt8 → Option Value) (l : List (Int × ByteArray)) (x : Int) (w : World)
    (h1 : w.heap[k1]? = some (.cells #[.slice (some ⟨g, 0, none⟩) l.length cap, .pointer (some ⟨k2, 0, none⟩)] 94 (0, 0))) (h2 : w.heap[k2]? = some (.cells #[.map (some k3)] 148 (0, 0))) (h3 : StoreAt own w k3 S F) (ho : HOwn w base (.slice (some ⟨g, 0, none⟩) l.length cap) l) (hn : ∀ k, own k → k < w.heap.size)
    (hk1 : own k1) (hk2 : own k2) (hg : own g) (n12 : k1 ≠ k2) (n1g : k1 ≠ g) (n2g : k2 ≠ g) (hl : l.length ≤ 8) (hs : Rises l) (hp : p < l.length) (hpx : l[p].1 = x) (hz : ∀ q ∈ l, q.2.size ≤ 1000)
    (hreach : 1 < l.length → ∀ r : Nat, k2 ≠ r → ReachOk (fun k => own k ∨ k = r) k2 k3 r S F) :
    Calls Tryz.prog 35 #[.pointer (some ⟨k1, 0, none⟩), .int .i64 x] w (DropOk own k1 k2 base g cap S l p w) := by
  have HP := hid (place_any k1 (some ⟨g, 0, none⟩) cap l _ x w h1 (hown_rd ho) (by omega) hs)
  have HD := hid (fun w' (h : HOwn w' base (.slice (some ⟨g, 0, none⟩) l.length cap) l) => deleteHead_any base g cap p l w' h hp (by omega))
  have HS := hid hs
  have H1 := hid h1
  have H2 := hid h2
  have H3 := hid h3
  have HO := hid ho
  have HN := hid hn
  have HOW := hid (And.intro hk1 (And.intro hk2 hg))
  have HNE := hid (And.intro n12 (And.intro n1g n2g))
  have HPX := hid hpx
  have HRE := hid hreach
  have HZ : Hid (∀ s ∈ rootsB (l.eraseIdx p), s.size ≤ 1000) := by
    intro s hs'
    obtain ⟨q, hq, rfl⟩ := List.mem_map.1 hs'
    exact hz q (List.mem_of_mem_eraseIdx hq)
  have HER : Hid ((l.eraseIdx p).length = l.length - 1) := by rw [Hid, List.length_eraseIdx, if_pos hp]
  have HRL : Hid (rootsB (l.eraseIdx p) ≠ [] → 1 < l.length) := by
    intro hne
    refine Decidable.byContradiction fun hc => hne ?_
    apply List.eq_nil_of_length_eq_zero
    show ((l.eraseIdx p).map (·.2)).length = 0
    rw [List.length_map, HER.out]
    omega
  clear h1 h2 h3 ho hn hs hpx hz hreach hk1 hk2 hg
  go_enter Tryz.func35, Tryz.ntmps35
  go_wp2_with fail
  refine HP.out.mono ?_
  rintro e w2 ⟨⟨p', rfl, p1, p2, p3⟩, b2⟩
  obtain rfl : p' = p := by
    obtain ⟨h, h1, _⟩ := found_at (r0 := l[p].2) HS.out (by rw [← HPX.out]; exact List.getElem_mem hp) p2 p3
    rcases Nat.lt_trichotomy p' p with h2 | h2 | h2
    · have := HS.out.at (i := p') (j := p) h2 hp
      have := HPX.out
      omega
    · exact h2
    · have := HS.out.at (i := p) (j := p') h2 h
      have := HPX.out
      omega
  rw [decide_eq_true (⟨hp, HPX.out⟩ : ∃ h : p' < l.length, l[p'].1 = x)]
  have HB2 := hid b2
  have k1w : Hid (w2.heap[k1]? = some (.cells #[.slice (some ⟨g, 0, none⟩) l.length cap, .pointer (some ⟨k2, 0, none⟩)] 94 (0, 0))) := (b2.block _ (Array.getElem?_eq_some_iff.1 H1.out).1).trans H1.out
  have c0 := cell_of_row _ _ 0 _ _ _ k1w.out
  have HO2 := hid (hown_later HO.out b2)
  clear p1 p2 p3 b2
  go_wp2_with fail
  refine (HD.out w2 HO2.out).mono ?_
  rintro e w3 ⟨rfl, ho3, t3⟩
  have k1z : Hid (w3.heap[k1]? = some (.cells #[.slice (some ⟨g, 0, none⟩) l.length cap, .pointer (some ⟨k2, 0, none⟩)] 94 (0, 0))) := (t3.block _ (Array.getElem?_eq_some_iff.1 k1w.out).1 HNE.out.2.1).trans k1w.out
  have c3 := cell_of_row _ _ 0 _ _ _ k1z.out
  have f3 := frozen_of_row _ _ 0 _ _ k1z.out
  obtain ⟨W, hW⟩ : ∃ W, W = w3.setCell ⟨k1, 0, none⟩ (.slice (some ⟨g, 0, none⟩) (l.length - 1) cap) := ⟨_, rfl⟩
  have HTW : Hid (Turns (fun k => k = k1 ∨ k = k2 ∨ k = g) w W) := by
    have h1 : Turns (fun k => k = k1 ∨ k = k2 ∨ k = g) w2 w3 := t3.wider (fun k _ hk => .inr (.inr hk))
    have h2 : Turns (fun k => k = k1 ∨ k = k2 ∨ k = g) w3 W := by
      rw [hW]
      exact ⟨rfl, rfl, rfl, by simp [World.setCell], fun q hq ho => Below.heap_setCell _ _ _ _ (fun e => ho (.inl e))⟩
    exact ((Turns.of_below HB2.out).trans h1).trans h2
  have HKW : Hid (W.heap[k1]? = some (.cells #[.slice (some ⟨g, 0, none⟩) (l.length - 1) cap, .pointer (some ⟨k2, 0, none⟩)] 94 (0, 0))) := by
    rw [Hid, hW]
    exact heap_setCell_same _ _ _ _ _ _ k1z.out
  have HOW3 : Hid (HOwn W base (.slice (some ⟨g, 0, none⟩) (l.length - 1) cap) (l.eraseIdx p')) := by
    rw [Hid, hW]
    refine hown_frame ho3 (fun q hq => ?_)
    cases hq
    exact Below.heap_setCell _ _ _ _ (fun e => HNE.out.2.1 e.symm)
  have HSW : Hid (StoreAt own W k3 S F) := storeAt_turns H3.out HTW.out.size (fun q hq ho => HTW.out.block q hq (fun h => ho (by
    rcases h with rfl | rfl | rfl
    · exact HOW.out.1
    · exact HOW.out.2.1
    · exact HOW.out.2.2)))
  have H2W : Hid (W.heap[k2]? = some (.cells #[.map (some k3)] 148 (0, 0))) := by
    rw [Hid, hW, Below.heap_setCell _ _ _ _ (fun e => HNE.out.1 e.symm), t3.block _ (Nat.lt_of_lt_of_le (Array.getElem?_eq_some_iff.1 H2.out).1 HB2.out.size) HNE.out.2.2, HB2.out.block _ (Array.getElem?_eq_some_iff.1 H2.out).1]
    exact H2.out
  clear ho3 t3 HO2 HD HP
  go_wp2_with fail
  rw [← hW]
  clear hW c3 f3 k1z k1w c0
  have hS : (fun w' : World => w'.heap[k1]? = some (.cells #[.slice (some ⟨g, 0, none⟩) (l.length - 1) cap, .pointer (some ⟨k2, 0, none⟩)] 94 (0, 0))) W.drew := HKW.out
  refine wp_region_held_drew (S := fun w' => w'.heap[k1]? = some (.cells #[.slice (some ⟨g, 0, none⟩) (l.length - 1) cap, .pointer (some ⟨k2, 0, none⟩)] 94 (0, 0))) (by kernel_rfl) hS (fun _ => ?_)
  refine wpAnyH_take (i := 0) (v := .pointer (some ⟨k1, 0, none⟩)) rfl (by kernel_rfl) (by kernel_rfl) (by kernel_rfl) (fun _ _ _ h => h) (Or.inl ⟨by kernel_rfl, ?_⟩) hS ?_
  · (intro w' hSw; go_simp)
  try simp only [Act.put]
  refine wpAnyH_take (i := 1) (v := .pointer (some ⟨k1, 0, none⟩)) rfl (by kernel_rfl) (by kernel_rfl) (by kernel_rfl) (fun _ _ _ h => h) (Or.inl ⟨by kernel_rfl, ?_⟩) hS ?_
  · (intro w' hSw; go_simp)
  try simp only [Act.put]
  refine wpAnyH_take (i := 2) (v := .pointer (some ⟨k1, 1, none⟩)) rfl (by kernel_rfl) (by kernel_rfl) (by kernel_rfl) (fun _ _ _ h => h) (Or.inl ⟨by kernel_rfl, ?_⟩) hS ?_
  · (intro w' hSw; go_simp)
  try simp only [Act.put]
  refine wpAnyH_take (i := 3) (v := .pointer (some ⟨k2, 0, none⟩)) rfl (by kernel_rfl) (by kernel_rfl) (by kernel_rfl) (fun _ _ _ h => h) (Or.inl ⟨by kernel_rfl, ?_⟩) hS ?_
  · (intro w' hSw; have z0 := (cell_of_row w' _ 1 _ _ _ hSw).trans rfl; go_simp)
  try simp only [Act.put]
  refine wpAnyH_take (i := 4) (v := .pointer (some ⟨k1, 0, none⟩)) rfl (by kernel_rfl) (by kernel_rfl) (by kernel_rfl) (fun _ _ _ h => h) (Or.inl ⟨by kernel_rfl, ?_⟩) hS ?_
  · (intro w' hSw; go_simp)
  try simp only [Act.put]
  refine wpAnyH_ready (rs := [5]) (by kernel_rfl) (by simp) ?_
  refine AllReadyH.cons rfl (fun K hK => ?_) AllReadyH.nil
  go_simp
  have HRA := roots_any k1 (some ⟨g, 0, none⟩) cap (l.eraseIdx p') (.pointer (some ⟨k2, 0, none⟩)) W.drew (by rw [HER.out]; exact HKW.out) (hown_rd HOW3.out) (by rw [HER.out]; omega)
  refine HRA.mono ?_
  rintro e w4 ⟨v4, rfl, ho4, b4⟩
  obtain ⟨a4, c4, rfl, _⟩ := town_shape ho4
  have hB4 : Below W.heap.size W w4 := ⟨b4.os, b4.tape, b4.output, b4.size, b4.block⟩
  have HB4 := hid hB4
  have hS4 : w4.heap[k1]? = some (.cells #[.slice (some ⟨g, 0, none⟩) (l.length - 1) cap, .pointer (some ⟨k2, 0, none⟩)] 94 (0, 0)) := kept_block hB4 HKW.out
  have HO4 := hid ho4
  clear ho4 b4 hB4
  refine hK.out _ _ hS4 (fun _ => ?_)
  clear hK K hS
  try simp only [Act.put]
  refine wpAnyH_ready (rs := [6]) (by kernel_rfl) (by simp) ?_
  refine AllReadyH.cons rfl (fun K hK => ?_) AllReadyH.nil
  go_simp
  have HFA := forget_any k2 k3 S F (rootsB (l.eraseIdx p')) a4 c4 w4 (kept_block HB4.out H2W.out) (storeAt_later HSW.out HB4.out) (fun k hk => Nat.lt_of_lt_of_le (Nat.lt_of_lt_of_le (HN.out k hk) HTW.out.size) HB4.out.size) HOW.out.2.1 (town_rd HO4.out) HZ.out (by show ((l.eraseIdx p').map (·.2)).length ≤ 1000; rw [List.length_map, HER.out]; omega) (fun h => HRE.out (HRL.out h) w4.heap.size (Nat.ne_of_lt (Nat.lt_of_lt_of_le (Array.getElem?_eq_some_iff.1 H2W.out).1 HB4.out.size)))
  refine HFA.mono ?_
  rintro e w5 ⟨rfl, k3', F', g1, g2, t5⟩
  have hk5 : w5.heap[k1]? = some (.cells #[.slice (some ⟨g, 0, none⟩) (l.length - 1) cap, .pointer (some ⟨k2, 0, none⟩)] 94 (0, 0)) := (t5.block _ (Array.getElem?_eq_some_iff.1 hS4).1 HNE.out.1).trans hS4
  have HEND : Hid (DropOk own k1 k2 base g cap S l p' w (.returned (.int .i64 0)) w5) := by
    refine ⟨rfl, k3', F', hk5, ?_, g1, g2, ?_⟩
    · refine hown_frame (hown_later HOW3.out HB4.out) (fun q hq => ?_)
      cases hq
      exact t5.block g (Nat.lt_of_lt_of_le (hown_lt HOW3.out g rfl).2 HB4.out.size) (fun e => HNE.out.2.2 e.symm)
    · exact (HTW.out.trans (Turns.of_below HB4.out)).trans (t5.wider (fun k _ hk => .inr (.inl hk)))
  refine hK.out _ _ hk5 (fun _ => ?_)
  clear hK K hS4 hk5 g1 g2 t5
  try simp only [Act.put]
  refine wpAnyH_done (by kernel_rfl) ?_ _
  go_wp2_with fail
  go_ret
  exact HEND.out
end Go.Proofs.YtbmohenjphmlgaaGreat

/- A keeper in memory, and what its calls do to it (of the program). -/
namespace Go.Proofs.YtbmohenjphmlgaaGreat
open Go.RowKit
set_option maxRecDepth 100000

/-- A keeper: the heads l and the elements S; the blocks that its calls write are those of own. -/
structure KAt0 (own : Nat → Prop) (w : World) (k0 k1 k2 k3 base : Nat) (a : Option Addr) (cap : Nat) (F : List UInt8 → Option Value) (l : List (Int × ByteArray)) (S : List (List UInt8)) : Prop where
  outer : w.heap[k0]? = some (.cells #[.pointer (some ⟨k1, 0, none⟩)] 71 (0, 0))
  inner : w.heap[k1]? = some (.cells #[.slice a l.length cap, .pointer (some ⟨k2, 0, none⟩)] 94 (0, 0))
  cell : w.heap[k2]? = some (.cells #[.map (some k3)] 148 (0, 0))
  heads : HOwn w base (.slice a l.length cap) l
  base : base ≤ w.heap.size
  store : StoreAt own w k3 S F
  own : ∀ k, own k ↔ k = k0 ∨ k = k1 ∨ k = k2 ∨ (Value.slice a l.length cap).ownBlock = some k
  n01 : k0 ≠ k1
  n02 : k0 ≠ k2
  n12 : k1 ≠ k2
  far : ∀ g, (Value.slice a l.length cap).ownBlock = some g → g ≠ k0 ∧ g ≠ k1 ∧ g ≠ k2
  rises : Rises l
  few : l.length ≤ 8
  eight : ∀ q ∈ l, q.2.size = 8
  most : S.length ≤ 200

def KAt (own : Nat → Prop) (w : World) (k0 : Nat) (l : List (Int × ByteArray)) (S : List (List UInt8)) : Prop := ∃ k1 k2 k3 base a cap F, KAt0 own w k0 k1 k2 k3 base a cap F l S

theorem srd_wider {B C : Nat} {w : World} {a : Option Addr} {l : List ByteArray} (h : SRd B w a l) (hB : B ≤ C) : SRd C w a l := by
  intro i hi
  obtain ⟨b, off, h1, h2, h3⟩ := h i hi
  exact ⟨b, off, h1, Nat.lt_of_lt_of_le h2 hB, h3⟩

theorem offerTo_most {S : List (List UInt8)} (hS : S.length ≤ 200) (root key : List UInt8) (p : List (List UInt8)) : (offerTo S root key p).2.length ≤ 200 := by
  unfold offerTo
  split
  · exact hS
  · split
    · exact hS
    · rename_i h; exact Nat.le_of_not_lt h

end Go.Proofs.YtbmohenjphmlgaaGreat

/- The walks of sums, of each kind of nodes (of the program). -/
namespace Go.Proofs.YtbmohenjphmlgaaGreat
open Go.RowKit
set_option maxRecDepth 100000

theorem commonSums_any (k : Int) (a : Option Addr) (n cap : Nat) (l : Bool) (s : ByteArray) (w : World) : Calls Tryz.prog 187 #[.agg #[.int .i64 k, .bool l, .string s, .slice a n cap]] w fun e w' => e = .returned (.slice none 0 0) ∧ Below w.heap.size w w' := by
  go_enter Tryz.func187, Tryz.ntmps187
  go_wp2_with fail
  go_ret
  exact ⟨rfl, (Below.refl _ _).alloc (Nat.le_refl _) _⟩

theorem town_lone (w : World) (O : Obj) (s : ByteArray) : TOwn ((w.alloc O).alloc (.cells #[.string s] 9)) w.heap.size (.slice (some ⟨w.heap.size + 1, 0, none⟩) 1 1) [s] :=
  ⟨rfl, .inr ⟨w.heap.size + 1, 1, _, rfl, Nat.le_succ _, block_alloc2 w O _, Nat.le_refl _, by unfold maxLen; omega, rfl, rfl⟩⟩

theorem extSums_any (a : Option Addr) (n cap : Nat) (k : Int) (l : Bool) (s t x : ByteArray) (w : World) : Calls Tryz.prog 194 #[.agg #[.int .i64 k, .bool l, .string s, .slice a n cap, .string t, .string x, .nilIface]] w fun e w' => ∃ v, e = .returned v ∧ TOwn w' w.heap.size v [x] ∧ Below w.heap.size w w' := by
  go_enter Tryz.func194, Tryz.ntmps194
  go_wp2_with fail
  go_ret
  exact ⟨_, rfl, town_lone w _ x, belowAA _ _ _⟩

/-- The sums in the first k places of a branch. -/
def sumsB (t : Itm) (k : Nat) : List ByteArray := (List.range k).filterMap fun i => if Tr.isSum (Tr.kid t i) then some ⟨(Tr.kid t i).bytes.toArray⟩ else none

theorem sumsB_succ (t : Itm) (k : Nat) : sumsB t (k + 1) = sumsB t k ++ (if Tr.isSum (Tr.kid t k) then [⟨(Tr.kid t k).bytes.toArray⟩] else []) := by
  unfold sumsB
  rw [List.range_succ, List.filterMap_append]
  congr 1
  by_cases h : Tr.isSum (Tr.kid t k) = true
  · simp [h]
  · simp [h]

theorem sumsB_len (t : Itm) (k : Nat) : (sumsB t k).length ≤ k := by
  unfold sumsB
  have := List.length_filterMap_le (fun i => if Tr.isSum (Tr.kid t i) then some (⟨(Tr.kid t i).bytes.toArray⟩ : ByteArray) else none) (List.range k)
  rwa [List.length_range] at this

theorem sumsB_bl (t : Itm) (hb : Tr.isBranch t = true) : bl (sumsB t 16) = Tr.sums t := by
  unfold sumsB Tr.sums bl
  rw [if_pos hb, List.map_filterMap]
  congr 1
  funext i
  split <;> rfl

set_option maxHeartbeats 3200000 in
theorem branchSums_any {p : Value → Itm → Prop} (a : Option Addr) (cap : Nat) (cs : Array Value) (x : ByteArray) (t : Itm) (w : World) (hcs : cs.size = 32) (hp : ∀ v t, p v t → Itm.pure t = true → IsNode v) (hpu : ∀ d, d < 16 → Itm.pure (Tr.kid t d) = true)
    (h6 : ∀ d, d < 16 → ∃ s vd, cs[2 * d]? = some (.string s) ∧ cs[2 * d + 1]? = some vd ∧ RefN p s vd (Tr.kid t d)) :
    Calls Tryz.prog 190 #[.agg (branchCells a cap cs x)] w fun e w' => ∃ v, e = .returned v ∧ TOwn w' w.heap.size v (sumsB t 16) ∧ Below w.heap.size w w' := by
  have HTO : Hid (∀ i, i < cs.size → (branchCells a cap cs x)[4 + i]? = cs[i]?) := fun i hi => branchCells_to a cap cs x i hi
  have H6 := hid h6
  have HP := hid hp
  have HPU := hid hpu
  clear h6 hp hpu
  generalize branchCells a cap cs x = BB at *
  have HRA : Hid (World.rangeAt (w.alloc (.cells BB 142)) w.heap.size 4 cs.toList) := by
    intro j v hv
    rw [Array.getElem?_toList] at hv
    rw [cell_of_row _ _ _ _ _ _ (heap_alloc_new w _), HTO.out j (Array.getElem?_eq_some_iff.1 hv).1]
    exact hv
  have HBA : Hid (Below w.heap.size w (w.alloc (.cells BB 142))) := (Below.refl _ _).alloc (Nat.le_refl _) _
  go_enter Tryz.func190, Tryz.ntmps190
  go_wp2_with (refine wpList_load_mid rfl 140 (.tmp 6) rfl w.heap.size 4 rfl cs.toList _ HRA.out Tryz.underlying140 rfl (by rw [Array.length_toList, hcs]; kernel_rfl) ?_; try simp only [Act.put]; rw [Array.toArray_toList])
  generalize hW : w.alloc (.cells BB 142) = W at *
  go_loopw [3, 8] (fun v i wr => ∃ k : Nat, i = .int .i64 k ∧ k ≤ 16 ∧ Hid (TOwn wr w.heap.size v (sumsB t k) ∧ Below w.heap.size w wr)) (fun _ i _ => 16 - (intOf i).toNat)
  case atStart => exact ⟨0, rfl, Nat.zero_le _, town_nil _ _, HBA.out⟩
  case round =>
    obtain ⟨k, rfl, hk, HH⟩ := hrel
    obtain ⟨va, vc, rfl, _⟩ := town_shape HH.out.1
    by_cases hlt : k < 16
    · have i1 : (0 : Int) ≤ (k : Int) := by omega
      have i2 : (k : Int) < 16 := by omega
      obtain ⟨s, vd, c0, c1, hrf⟩ := H6.out k hlt
      have hix := fun W' => index_ref cs k hlt _ _ hcs W' c0 c1
      have HTK := hid (sumsB_succ t k)
      have HLT : Hid ((sumsB t k).length ≤ 1000000) := by have := sumsB_len t k; rw [Hid]; omega
      generalize sumsB t k = sk at *
      rcases hrf with ⟨q1, q2, rfl⟩ | ⟨q1, rfl, q3, _⟩
      · have hse : s = ⟨(Tr.kid t k).bytes.toArray⟩ := by
          rw [← q2]
        have hs8 : s.data.toList.length = 8 := by rw [q2]; exact sum_eight q1
        have he : s.toList.isEmpty = false := by
          rw [ByteArray.toList_eq]
          cases h : s.data.toList with
          | nil => rw [h] at hs8; simp at hs8
          | cons c r => rfl
        have he2 : (s.toList == []) = false := by
          rw [ByteArray.toList_eq]
          cases h : s.data.toList with
          | nil => rw [h] at hs8; simp at hs8
          | cons c r => rfl
        rw [if_pos q1, ← hse] at HTK
        have HA : Hid (Below wr.heap.size wr (wr.alloc (.cells #[.string s, .nilIface] 139))) := (Below.refl _ _).alloc (Nat.le_refl _) _
        clear q1 q2 hse hs8 c0 c1
        go_wp2_with (at_builtin; refine wpList_push_text rfl (.tmp 14) (.tmp 17) rfl s (wr.heap.size + 1) (alloc_size _ _) rfl rfl HH.out.1 HA.out HH.out.2 (Nat.le_refl _) HLT.out ?_; intro v' w' ho' hb'; have HO' := hid ho'; have HB' := hid hb'; clear ho' hb')
        exact ⟨⟨k + 1, by go_num, by omega, by rw [HTK.out]; exact HO'.out, HB'.out⟩, by simp [intOf]; omega⟩
      · rw [if_neg (by rw [q1]; decide), List.append_nil] at HTK
        have hin := HP.out _ _ q3 (HPU.out k hlt)
        clear q1 q3 c0 c1
        rcases hin with rfl | ⟨T, y, rfl⟩
        all_goals
          go_wp2_with fail
          exact ⟨⟨k + 1, by go_num, by omega, by rw [HTK.out]; exact town_later HH.out.1 ((Below.refl _ _).alloc (Nat.le_refl _) _), HH.out.2.alloc HH.out.2.size _⟩, by simp [intOf]; omega⟩
    · obtain rfl : k = 16 := by omega
      clear hlt
      go_wp2_with fail
      go_ret
      exact ⟨_, rfl, HH.out.1, HH.out.2⟩
end Go.Proofs.YtbmohenjphmlgaaGreat

/- The walk of the finder in proofFor (of the program): it takes down the bytes of each node that it is asked for. -/
namespace Go.Proofs.YtbmohenjphmlgaaGreat
open Go.RowKit
set_option maxRecDepth 100000

/-- The variable at block c holds these texts, in a row of its own. -/
def Holds (w : World) (c : Nat) (l : List ByteArray) : Prop := ∃ v, w.heap[c]? = some (.cells #[v] 28 (0, 0)) ∧ TOwn w (c + 1) v l

end Go.Proofs.YtbmohenjphmlgaaGreat

/- The walk of tableOf (of the program): the pairs that count. -/
namespace Go.Proofs.YtbmohenjphmlgaaGreat
open Go.RowKit
set_option maxRecDepth 100000

/-- The last place below k with a key, or nought. -/
def lastAt (l : List (ByteArray × ByteArray)) (key : List UInt8) : Nat → Nat
  | 0 => 0
  | k + 1 => if (l[k]?).map (fun p => p.1.data.toList) = some key then k else lastAt l key k

/-- Does the i-th pair count? -/
def counts (l : List (ByteArray × ByteArray)) (p : ByteArray × ByteArray) (i : Nat) : Prop := p.1.data.toList ∉ (l.drop (i + 1)).map (fun q => q.1.data.toList) ∧ p.2.data.toList ≠ []

instance (l : List (ByteArray × ByteArray)) (p : ByteArray × ByteArray) (i : Nat) : Decidable (counts l p i) := by unfold counts; infer_instance

def digB (p : ByteArray × ByteArray) : ByteArray × ByteArray := (⟨(Tr.digits p.1.data.toList).toArray⟩, p.2)

/-- The pairs that count, among the first k. -/
def tabTo (l : List (ByteArray × ByteArray)) (k : Nat) : List (ByteArray × ByteArray) := (List.range k).filterMap fun i => match l[i]? with | some p => if counts l p i then some (digB p) else none | none => none

/-- As lists of bytes. -/
def lists (l : List (ByteArray × ByteArray)) : List (List UInt8 × List UInt8) := l.map fun p => (p.1.data.toList, p.2.data.toList)

end Go.Proofs.YtbmohenjphmlgaaGreat

/- The walk of tableOf (of the program). -/
namespace Go.Proofs.YtbmohenjphmlgaaGreat
open Go.RowKit Go.Maps
set_option maxRecDepth 100000

/-- The map of last places. -/
def LastMap (w : World) (b : Nat) (l : List (ByteArray × ByteArray)) (k : Nat) (D : DataW Unit) : Prop :=
  w.ownsMap Tryz.prog 9 (plainElem Tryz.prog 3) b k D ∧ ∀ key : List UInt8, D.atKey (.string key) (.lit (.int .i64 0)) = .lit (.int .i64 (lastAt l key k : Nat))

end Go.Proofs.YtbmohenjphmlgaaGreat

/- The walk of buildBranch (of the program), once build of what is behind each digit is known. -/
namespace Go.Proofs.YtbmohenjphmlgaaGreat
open Go.RowKit
set_option maxRecDepth 100000

/-- build answers with the tree of these pairs. -/
def BuildOk (f : Nat) : Prop := ∀ (w : World) (a : Option Addr) (cap : Nat) (l : List (ByteArray × ByteArray)), PRd w.heap.size w a l → l.length ≤ 1000 → Tr.Fits f (ents l) → Tr.Apart (ents l) →
  Calls Tryz.prog 48 #[.slice a l.length cap] w fun e w' => ∃ v, e = .returned v ∧ BT w.heap.size w' f v (ents l) ∧ Below w.heap.size w w'

def BranchOk (f : Nat) : Prop := ∀ (w : World) (a : Option Addr) (cap : Nat) (l : List (ByteArray × ByteArray)), PRd w.heap.size w a l → l.length ≤ 1000 → Tr.Fits f (ents l) → Tr.Apart (ents l) → Tr.Forks (ents l) →
  Calls Tryz.prog 88 #[.slice a l.length cap] w fun e w' => ∃ a2 c2 cs x, e = .returned (.agg (branchCells a2 c2 cs x)) ∧ BT w.heap.size w' f (branchV a2 c2 cs x) (ents l) ∧ Below w.heap.size w w'

/-- The row of references, of which the first k are there. -/
def RefsTo (lo : Nat) (w : World) (f : Nat) (l : List Tr.Ent) (k : Nat) (cs : Array Value) : Prop :=
  cs.size = 32 ∧ ∀ d, d < k → ∃ vd, cs[2 * d]? = some (.string (refSum (Tr.node f (Tr.behind [UInt8.ofNat d] l)))) ∧ cs[2 * d + 1]? = some vd ∧ BT lo w f vd (Tr.behind [UInt8.ofNat d] l)

def refsZero : Array Value := #[.string ⟨#[]⟩, .nilIface, .string ⟨#[]⟩, .nilIface, .string ⟨#[]⟩, .nilIface, .string ⟨#[]⟩, .nilIface, .string ⟨#[]⟩, .nilIface, .string ⟨#[]⟩, .nilIface, .string ⟨#[]⟩, .nilIface, .string ⟨#[]⟩, .nilIface, .string ⟨#[]⟩, .nilIface, .string ⟨#[]⟩, .nilIface, .string ⟨#[]⟩, .nilIface, .string ⟨#[]⟩, .nilIface, .string ⟨#[]⟩, .nilIface, .string ⟨#[]⟩, .nilIface, .string ⟨#[]⟩, .nilIface, .string ⟨#[]⟩, .nilIface]

/-- What stands while the references are made. -/
structure Mid (w : World) (f : Nat) (l : List Tr.Ent) (k : Nat) (wr : World) (cs : Array Value) : Prop where
  below : Below w.heap.size w wr
  res : wr.heap[w.heap.size]? = some (.cells branchZero 142 (0, 0))
  row : wr.heap[w.heap.size + 1]? = some (.cells cs 140 (0, 0))
  refs : RefsTo (w.heap.size + 1 + 1) wr f l k cs

end Go.Proofs.YtbmohenjphmlgaaGreat

/- The walk of build (of the program): the tree of pairs. -/
namespace Go.Proofs.YtbmohenjphmlgaaGreat
open Go.RowKit
set_option maxRecDepth 100000

end Go.Proofs.YtbmohenjphmlgaaGreat

/- The walk of Root (of the program). -/
namespace Go.Proofs.YtbmohenjphmlgaaGreat
open Go.RowKit
set_option maxRecDepth 100000

end Go.Proofs.YtbmohenjphmlgaaGreat

/- The walks of proofFor and Prove (of the program). -/
namespace Go.Proofs.YtbmohenjphmlgaaGreat
open Go.RowKit
set_option maxRecDepth 100000

def toB (l : List UInt8) : ByteArray := ⟨l.toArray⟩

/-- What holds on the way down. -/
def PJ (W : World) (lo : Nat) (goal : List ByteArray) (w : World) (v : Value) (d : ByteArray) : Prop :=
  Below W.heap.size W w ∧ ∃ f l P, f ≤ 100 ∧ BT lo W f v l ∧ Tr.Fits f l ∧ Tr.Apart l ∧ (∀ c ∈ d.data.toList, c.toNat < 16) ∧ Holds w W.heap.size P ∧ P ++ (Tr.elems f l d.data.toList).map toB = goal

def PQ (W : World) (goal : List ByteArray) (_ : ByteArray) (ok : Bool) (w : World) : Prop := ok = true ∧ Below W.heap.size W w ∧ Holds w W.heap.size goal

end Go.Proofs.YtbmohenjphmlgaaGreat

/- The walks of proofFor and Prove (of the program): Prove answers as the document says. -/
namespace Go.Proofs.YtbmohenjphmlgaaGreat
open Go.RowKit
set_option maxRecDepth 100000

end Go.Proofs.YtbmohenjphmlgaaGreat

/- The walk of pick (of the statements): which of n things a raw number speaks of. -/
namespace Go.Proofs.YtbmohenjphmlgaaGreat
open Go.RowKit
set_option maxRecDepth 100000

end Go.Proofs.YtbmohenjphmlgaaGreat

/- Rows of pairs, as the statements make them; the walks of short, value, table (of the statements). -/
namespace Go.Proofs.YtbmohenjphmlgaaGreat
open Go.RowKit
set_option maxRecDepth 100000

def AOwn (w : World) (base : Nat) (v : Value) (l : List (ByteArray × ByteArray)) : Prop := w.ownsRow base 67 2 v l.length (pcells l)

/-- At most n bytes of a text. -/
def shortB (s : ByteArray) (n : Nat) : ByteArray := if n < s.size then s.extract 0 n else s

/-- What pairs have for a key. -/
def valB (l : List (ByteArray × ByteArray)) (key : ByteArray) : ByteArray := l.foldl (fun v p => if p.1 = key then p.2 else v) ⟨#[]⟩

end Go.Proofs.YtbmohenjphmlgaaGreat

/- The walk of table (of the statements): pairs that may be, out of raw ones. -/
namespace Go.Proofs.YtbmohenjphmlgaaGreat
open Go.RowKit
set_option maxRecDepth 100000

def shortP (p : ByteArray × ByteArray) : ByteArray × ByteArray := (shortB p.1 6, shortB p.2 40)

/-- Pairs that may be, out of raw ones. -/
def tableB (l : List (ByteArray × ByteArray)) : List (ByteArray × ByteArray) := (l.take 30).map shortP

end Go.Proofs.YtbmohenjphmlgaaGreat

/- What the statement Orders leans on: tables that have the same for each key have the same root. -/
namespace Go.Proofs.YtbmohenjphmlgaaGreat
open Go.RowKit
set_option maxRecDepth 100000

/-- The root of a table with which nothing is wrong. -/
def rootB (l : List (ByteArray × ByteArray)) : ByteArray := ⟨(Tr.sum (Itm.enc (Tr.node 13 (Tr.table (lists l))))).toArray⟩

/-- Nothing is wrong with these. -/
def Fine (l : List (ByteArray × ByteArray)) : Prop := l.length ≤ 60 ∧ ∀ p ∈ l, p.1.size ≤ 6 ∧ p.2.size ≤ 40

/-- The pairs of a table, the last first, each with what the table has for its key. -/
def turnedB (l : List (ByteArray × ByteArray)) : List (ByteArray × ByteArray) := l.reverse.map fun p => (p.1, valB l p.1)

/-- A pair put in, and behind all the key's value. -/
def moreB (l : List (ByteArray × ByteArray)) (i : Nat) (k o : ByteArray) : List (ByteArray × ByteArray) := l.take i ++ [(k, o)] ++ l.drop i ++ [(k, valB l k)]

end Go.Proofs.YtbmohenjphmlgaaGreat

/- The walk of the statement Orders. -/
namespace Go.Proofs.YtbmohenjphmlgaaGreat
open Go.RowKit
set_option maxRecDepth 100000

end Go.Proofs.YtbmohenjphmlgaaGreat

/- Proofs of tables that may be; the walk of the statement Proven. -/
namespace Go.Proofs.YtbmohenjphmlgaaGreat
open Go.RowKit
set_option maxRecDepth 100000

/-- The proof of a table for a key. -/
def proofB (l : List (ByteArray × ByteArray)) (key : ByteArray) : List ByteArray := (Tr.prove (lists l) key.data.toList).map toB

end Go.Proofs.YtbmohenjphmlgaaGreat

/- The walks of sum, with, few, meet and proofs (of the statements). -/
namespace Go.Proofs.YtbmohenjphmlgaaGreat
open Go.RowKit
set_option maxRecDepth 100000

/-- Texts with one more, if it is not there. -/
def withB (l : List ByteArray) (s : ByteArray) : List ByteArray := if ∃ x ∈ l, x = s then l else l ++ [s]

/-- What with does. -/
def WithOk (B : Nat) (w : World) (v : Value) (l : List ByteArray) (s : ByteArray) (e : Ending) (w' : World) : Prop :=
  ∃ v', e = .returned v' ∧ TOwn w' B v' (withB l s) ∧ Below B w w' ∧ (∀ k, k < w.heap.size → v.ownBlock ≠ some k → w'.heap[k]? = w.heap[k]?) ∧ (∀ b, v'.ownBlock = some b → v.ownBlock = some b ∨ w.heap.size ≤ b)

/-- Two elements that are not the same have the same sum. -/
def Meets (l : List ByteArray) : Prop := ∃ i k, k < i ∧ ∃ (hi : i < l.length) (hk : k < l.length), Tr.fnv l[i].data.toList = Tr.fnv l[k].data.toList ∧ l[i] ≠ l[k]

end Go.Proofs.YtbmohenjphmlgaaGreat

/- The walks of meet and proofs (of the statements). -/
namespace Go.Proofs.YtbmohenjphmlgaaGreat
open Go.RowKit
set_option maxRecDepth 100000

/-- The elements i and k of some are not the same, but have the same sum. -/
def MeetAt (l : List ByteArray) (i k : Nat) : Prop := ∃ (hi : i < l.length) (hk : k < l.length), Tr.fnv l[i].data.toList = Tr.fnv l[k].data.toList ∧ l[i] ≠ l[k]

/-- What meet tells. -/
def MeetOk (l : List ByteArray) (w : World) (e : Ending) (w' : World) : Prop := ∃ b, e = .returned (.bool b) ∧ (b = false → ¬ Meets l) ∧ Below w.heap.size w w'

/-- All elements of the proofs of a table for some keys. -/
def allB (l : List (ByteArray × ByteArray)) (keys : List ByteArray) : List ByteArray := keys.foldl (fun A k => (proofB l (shortB k 6)).foldl withB A) []

theorem srd_row {w : World} {B : Nat} {a : Option Addr} {n cap : Nat} {l : List ByteArray} (h : TOwn w B (.slice a n cap) l) : ∀ i, (hi : i < l.length) → ∃ g, a = some ⟨g, 0, none⟩ ∧ B ≤ g ∧ g < w.heap.size ∧ w.cell? ⟨g, i, none⟩ = some (.string l[i]) := by
  intro i hi
  rcases h.2 with ⟨_, h0⟩ | ⟨g, cap', cur, hv, hbg, hg, _⟩
  · omega
  · have hlt := (Array.getElem?_eq_some_iff.1 hg).1
    simp only [Value.slice.injEq] at hv
    obtain ⟨rfl, _, _⟩ := hv
    have hc := World.ownsRow.cells (g := g) h rfl
    have a0 : ((⟨g, 0, none⟩ : Addr).add i) = ⟨g, i, none⟩ := by unfold Addr.add; split <;> simp_all
    exact ⟨g, rfl, hbg, hlt, a0 ▸ hc _ _ (tcells_at l i hi)⟩

end Go.Proofs.YtbmohenjphmlgaaGreat
