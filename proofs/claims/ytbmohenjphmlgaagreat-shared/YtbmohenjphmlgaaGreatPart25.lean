/- Part 25 of a proof: what the last text needs. -/
import Derived.Test.YtbmohenjphmlgaaGreatPart24
import Derived.Test.YtbmohenjphmlgaaGreatPart20
/- The walks of ForgetAllBut and Drop (of the program), for what reach does. -/
namespace Go.Proofs.YtbmohenjphmlgaaGreat
open Go.RowKit
set_option maxRecDepth 100000

/-- R is a part of the store S, with the same nodes. -/
def PartOf (S R : List (List UInt8)) (F G : List UInt8 → Option Value) : Prop :=
  Tr.Lone R ∧ (∀ e ∈ R, e ∈ S) ∧ (∀ s, Tr.find R s = none → G s = none) ∧ ∀ e ∈ R, G (Tr.sum e) = F (Tr.sum e)

theorem partOf_nil (S : List (List UInt8)) (F : List UInt8 → Option Value) : PartOf S [] F (fun _ => none) := ⟨Tr.lone_nil, fun e h => by simp at h, fun _ _ => rfl, fun e h => by simp at h⟩

theorem partOf_nodes {own : Nat → Prop} {C : Nat} {w : World} {S R : List (List UInt8)} {F G : List UInt8 → Option Value} (h : PartOf S R F G) (hn : NodesAt own C w S F) : NodesAt own C w R G := by
  refine ⟨h.1, h.2.2.1, fun e he => ?_⟩
  obtain ⟨v, t, lo, B, m, g1, g2⟩ := hn.2.2 e (h.2.1 e he)
  exact ⟨v, t, lo, B, m, (h.2.2.2 e he).trans g1, g2⟩

/-- What reach does. -/
def ReachOk (own : Nat → Prop) (k2 k3 r : Nat) (S : List (List UInt8)) (F : List UInt8 → Option Value) : Prop :=
  ∀ (f : Nat) (w : World) (s : ByteArray) (R : List (List UInt8)) (G : List UInt8 → Option Value), s.size ≤ 1000 → w.heap[k2]? = some (.cells #[.map (some k3)] 148 (0, 0)) → StoreAt own w k3 S F → MapAt Tryz.prog 9 w r R.length G → PartOf S R F G → Tr.missing S R ≤ f →
    Calls Tryz.prog 101 #[.pointer (some ⟨k2, 0, none⟩), .string s, .map (some r)] w fun e w' => e = .returned (.tuple #[]) ∧ ∃ G', MapAt Tryz.prog 9 w' r (Tr.dfs S f s.data.toList R).length G' ∧ PartOf S (Tr.dfs S f s.data.toList R) F G' ∧ Turns (fun k => k = r) w w'

/-- What is reached from some roots. -/
def reachedFrom (S : List (List UInt8)) (l : List ByteArray) : List (List UInt8) := (bl l).foldl (fun R r => Tr.dfs S S.length r R) []

theorem reachedFrom_snoc (S : List (List UInt8)) (l : List ByteArray) (s : ByteArray) : reachedFrom S (l ++ [s]) = Tr.dfs S S.length s.data.toList (reachedFrom S l) := by
  unfold reachedFrom
  rw [bl_append, List.foldl_append]
  rfl

def ForgetOk (own : Nat → Prop) (k2 : Nat) (S : List (List UInt8)) (l : List ByteArray) (w : World) (e : Ending) (w' : World) : Prop :=
  e = .returned (.tuple #[]) ∧ ∃ k3' F', w'.heap[k2]? = some (.cells #[.map (some k3')] 148 (0, 0)) ∧ StoreAt own w' k3' (reachedFrom S l) F' ∧ Turns (fun k => k = k2) w w'

set_option maxHeartbeats 1600000 in
theorem forget_any {own : Nat → Prop} (k2 k3 : Nat) (S : List (List UInt8)) (F : List UInt8 → Option Value) (l : List ByteArray) (a : Option Addr) (cap : Nat) (w : World) (h2 : w.heap[k2]? = some (.cells #[.map (some k3)] 148 (0, 0))) (h3 : StoreAt own w k3 S F) (hn : ∀ k, own k → k < w.heap.size) (hk2 : own k2) (hr : SRd w.heap.size w a l) (hz : ∀ s ∈ l, s.size ≤ 1000) (hl : l.length ≤ 1000)
    (hreach : l ≠ [] → ReachOk (fun k => own k ∨ k = w.heap.size) k2 k3 w.heap.size S F) :
    Calls Tryz.prog 61 #[.pointer (some ⟨k2, 0, none⟩), .slice a l.length cap] w (ForgetOk own k2 S l w) := by
  have hmm := @run_makeMap Tryz.prog
  have HR := hid hr
  have HZ := hid hz
  have HRE := hid hreach
  have H2 := hid h2
  have H3 := hid h3
  have HN := hid hn
  have HK2 := hid hk2
  clear hr hz hreach h2 h3 hn hk2
  go_enter Tryz.func61, Tryz.ntmps61
  go_wp2_with fail
  go_loopw [10] (fun i wr => ∃ k : Nat, i = .int .i64 k ∧ k ≤ l.length ∧ Hid (Below w.heap.size w wr ∧ ∃ G, MapAt Tryz.prog 9 wr w.heap.size (reachedFrom S (l.take k)).length G ∧ PartOf S (reachedFrom S (l.take k)) F G)) (fun i _ => l.length - (intOf i).toNat)
  case atStart => exact ⟨0, rfl, Nat.zero_le _, (Below.refl _ _).alloc (Nat.le_refl _) _, _, mapAt_new _ _ _, partOf_nil _ _⟩
  case round =>
    obtain ⟨k, rfl, hk, HH⟩ := hrel
    by_cases hlt : k < l.length
    · obtain ⟨b, off, rfl, hb, e0⟩ := HR.out k hlt
      have f0 := (HH.out.1.cell (p := ⟨b, off + k, none⟩) hb).trans e0
      have i1 : (0 : Int) ≤ (k : Int) := by omega
      have i2 : (k : Int) < (l.length : Int) := by omega
      have HTK : Hid (reachedFrom S (l.take (k + 1)) = Tr.dfs S S.length l[k].data.toList (reachedFrom S (l.take k))) := by rw [Hid, List.take_succ_eq_append_getElem hlt, reachedFrom_snoc]
      have HSZ : Hid (l[k].size ≤ 1000) := HZ.out _ (List.getElem_mem hlt)
      obtain ⟨hbl, G, hm, hp⟩ := HH.out
      have hst : StoreAt (fun k => own k ∨ k = w.heap.size) wr k3 S F := by
        obtain ⟨q1, q2, q3, q4, q5⟩ := H3.out
        refine ⟨mapAt_frame q1 (hbl.block _ (mapAt_lt q1)), fun h => ?_, q3, q4, fun e he => ?_⟩
        · rcases h with h | h
          · exact q2 h
          · have := mapAt_lt q1; omega
        · obtain ⟨v, t, lo, B, m, g1, g2, g3, g4, g5, g6⟩ := q5 e he
          refine ⟨v, t, lo, B, m, g1, g2, g3, Nat.le_trans g4 hbl.size, fun q hq => ?_, rn_later (hbl.mono g4) _ _ _ g6⟩
          rcases hq with hq | hq
          · exact g5 q hq
          · right; omega
      have HCALL := hid ((HRE.out (fun h => by rw [h] at hlt; simp at hlt)) S.length wr l[k] _ G HSZ.out ((hbl.block _ (Array.getElem?_eq_some_iff.1 H2.out).1).trans H2.out) hst hm hp (Tr.missing_le _ _))
      have HBL := hid hbl
      clear e0 hm hp hst hbl HH
      generalize l[k] = rk at *
      go_wp2_with fail
      refine HCALL.out.mono ?_
      rintro e w1 ⟨rfl, G', m1, p1, t1⟩
      have HM1 := hid m1
      have HP1 := hid p1
      have HB1 : Hid (Below w.heap.size w w1) := t1.below HBL.out HBL.out.size (fun k hk => Nat.le_of_eq hk.symm)
      clear m1 p1 t1
      go_wp2_with fail
      refine ⟨⟨k + 1, by go_num, by omega, HB1.out, G', ?_, ?_⟩, by simp [intOf]; omega⟩
      · rw [HTK.out]; exact HM1.out
      · rw [HTK.out]; exact HP1.out
    · obtain rfl : k = l.length := by omega
      have i2 : ¬ (l.length : Int) < (l.length : Int) := by omega
      rw [List.take_length] at HH
      obtain ⟨hbl, G, hm, hp⟩ := HH.out
      have HM := hid hm
      have HP := hid hp
      have HBL := hid hbl
      have hkr : wr.heap[k2]? = some (.cells #[.map (some k3)] 148 (0, 0)) := (hbl.block _ (Array.getElem?_eq_some_iff.1 H2.out).1).trans H2.out
      have z0 := cell_of_row _ _ 0 _ _ _ hkr
      have z1 := frozen_of_row _ _ 0 _ _ hkr
      have HKR := hid hkr
      clear hm hp hbl hkr HH hlt
      go_wp2_with fail
      refine bodyPost_ret (v := .tuple #[]) (by simp [results, Tryz.results61, go_sem]) rfl ?_
      refine ⟨rfl, w.heap.size, G, heap_setCell_same _ _ _ _ _ _ HKR.out, ?_, ?_⟩
      · have hst : StoreAt own wr w.heap.size (reachedFrom S l) G := ⟨HM.out, fun ho => Nat.lt_irrefl _ (HN.out _ ho), partOf_nodes HP.out (nodesAt_turns H3.out.2.2 HBL.out.size (fun q hq _ => HBL.out.block q hq))⟩
        exact storeAt_turns hst (by simp [World.setCell]) (fun q hq ho => Below.heap_setCell _ _ _ _ (fun e => ho (by rw [e]; exact HK2.out)))
      · have ht : Turns (fun q => q = k2) wr (wr.setCell ⟨k2, 0, none⟩ (.map (some w.heap.size))) := ⟨rfl, rfl, rfl, by simp [World.setCell], fun q hq ho => Below.heap_setCell _ _ _ _ ho⟩
        exact (Turns.of_below HBL.out).trans ht

/-- What Drop does at a height that is trusted. -/
def DropOk (own : Nat → Prop) (k1 k2 base g cap : Nat) (S : List (List UInt8)) (l : List (Int × ByteArray)) (p : Nat) (w : World) (e : Ending) (w' : World) : Prop :=
  e = .returned (.int .i64 0) ∧ ∃ k3' F', w'.heap[k1]? = some (.cells #[.slice (some ⟨g, 0, none⟩) (l.length - 1) cap, .pointer (some ⟨k2, 0, none⟩)] 94 (0, 0)) ∧ HOwn w' base (.slice (some ⟨g, 0, none⟩) (l.length - 1) cap) (l.eraseIdx p) ∧ w'.heap[k2]? = some (.cells #[.map (some k3')] 148 (0, 0)) ∧ StoreAt own w' k3' (reachedFrom S (rootsB (l.eraseIdx p))) F' ∧ Turns (fun k => k = k1 ∨ k = k2 ∨ k = g) w w'

set_option maxHeartbeats 3200000 in
theorem drop_any {own : Nat → Prop} (k1 k2 k3 base g cap p : Nat) (S : List (List UInt8)) (F : List UInt8 → Option Value) (l : List (Int × ByteArray)) (x : Int) (w : World)
    (h1 : w.heap[k1]? = some (.cells #[.slice (some ⟨g, 0, none⟩) l.length cap, .pointer (some ⟨k2, 0, none⟩)] 94 (0, 0))) (h2 : w.heap[k2]? = some (.cells #[.map (some k3)] 148 (0, 0))) (h3 : StoreAt own w k3 S F) (ho : HOwn w base (.slice (some ⟨g, 0, none⟩) l.length cap) l) (hn : ∀ k, own k → k < w.heap.size)
    (hk1 : own k1) (hk2 : own k2) (hg : own g) (n12 : k1 ≠ k2) (n1g : k1 ≠ g) (n2g : k2 ≠ g) (hl : l.length ≤ 8) (hs : Rises l) (hp : p < l.length) (hpx : l[p].1 = x) (hz : ∀ q ∈ l, q.2.size ≤ 1000)
    (hreach : 1 < l.length → ∀ r : Nat, k2 ≠ r → ReachOk (fun k => own k ∨ k = r) k2 k3 r S F) :
    Calls Tryz.prog 35 #[.pointer (some ⟨k1, 0, none⟩), .int .i64 x] w (DropOk own k1 k2 base g cap S l p w) := by
  have HP := hid (place_any k1 (some ⟨g, 0, none⟩) cap l _ x w h1 (hown_rd ho) (by omega) hs)
  have HD := hid (fun w' (h : HOwn w' base (.slice (some ⟨g, 0, none⟩) l.length cap) l) => deleteHead_any base g cap p l w' h hp (by omega))
  have HS := hid hs
  have H1 := hid h1
  have H2 := hid h2
  have H3 := hid h3
  have HO := hid ho
  have HN := hid hn
  have HOW := hid (And.intro hk1 (And.intro hk2 hg))
  have HNE := hid (And.intro n12 (And.intro n1g n2g))
  have HPX := hid hpx
  have HRE := hid hreach
  have HZ : Hid (∀ s ∈ rootsB (l.eraseIdx p), s.size ≤ 1000) := by
    intro s hs'
    obtain ⟨q, hq, rfl⟩ := List.mem_map.1 hs'
    exact hz q (List.mem_of_mem_eraseIdx hq)
  have HER : Hid ((l.eraseIdx p).length = l.length - 1) := by rw [Hid, List.length_eraseIdx, if_pos hp]
  have HRL : Hid (rootsB (l.eraseIdx p) ≠ [] → 1 < l.length) := by
    intro hne
    refine Decidable.byContradiction fun hc => hne ?_
    apply List.eq_nil_of_length_eq_zero
    show ((l.eraseIdx p).map (·.2)).length = 0
    rw [List.length_map, HER.out]
    omega
  clear h1 h2 h3 ho hn hs hpx hz hreach hk1 hk2 hg
  go_enter Tryz.func35, Tryz.ntmps35
  go_wp2_with fail
  refine HP.out.mono ?_
  rintro e w2 ⟨⟨p', rfl, p1, p2, p3⟩, b2⟩
  obtain rfl : p' = p := by
    obtain ⟨h, h1, _⟩ := found_at (r0 := l[p].2) HS.out (by rw [← HPX.out]; exact List.getElem_mem hp) p2 p3
    rcases Nat.lt_trichotomy p' p with h2 | h2 | h2
    · have := HS.out.at (i := p') (j := p) h2 hp
      have := HPX.out
      omega
    · exact h2
    · have := HS.out.at (i := p) (j := p') h2 h
      have := HPX.out
      omega
  rw [decide_eq_true (⟨hp, HPX.out⟩ : ∃ h : p' < l.length, l[p'].1 = x)]
  have HB2 := hid b2
  have k1w : Hid (w2.heap[k1]? = some (.cells #[.slice (some ⟨g, 0, none⟩) l.length cap, .pointer (some ⟨k2, 0, none⟩)] 94 (0, 0))) := (b2.block _ (Array.getElem?_eq_some_iff.1 H1.out).1).trans H1.out
  have c0 := cell_of_row _ _ 0 _ _ _ k1w.out
  have HO2 := hid (hown_later HO.out b2)
  clear p1 p2 p3 b2
  go_wp2_with fail
  refine (HD.out w2 HO2.out).mono ?_
  rintro e w3 ⟨rfl, ho3, t3⟩
  have k1z : Hid (w3.heap[k1]? = some (.cells #[.slice (some ⟨g, 0, none⟩) l.length cap, .pointer (some ⟨k2, 0, none⟩)] 94 (0, 0))) := (t3.block _ (Array.getElem?_eq_some_iff.1 k1w.out).1 HNE.out.2.1).trans k1w.out
  have c3 := cell_of_row _ _ 0 _ _ _ k1z.out
  have f3 := frozen_of_row _ _ 0 _ _ k1z.out
  obtain ⟨W, hW⟩ : ∃ W, W = w3.setCell ⟨k1, 0, none⟩ (.slice (some ⟨g, 0, none⟩) (l.length - 1) cap) := ⟨_, rfl⟩
  have HTW : Hid (Turns (fun k => k = k1 ∨ k = k2 ∨ k = g) w W) := by
    have h1 : Turns (fun k => k = k1 ∨ k = k2 ∨ k = g) w2 w3 := t3.wider (fun k _ hk => .inr (.inr hk))
    have h2 : Turns (fun k => k = k1 ∨ k = k2 ∨ k = g) w3 W := by
      rw [hW]
      exact ⟨rfl, rfl, rfl, by simp [World.setCell], fun q hq ho => Below.heap_setCell _ _ _ _ (fun e => ho (.inl e))⟩
    exact ((Turns.of_below HB2.out).trans h1).trans h2
  have HKW : Hid (W.heap[k1]? = some (.cells #[.slice (some ⟨g, 0, none⟩) (l.length - 1) cap, .pointer (some ⟨k2, 0, none⟩)] 94 (0, 0))) := by
    rw [Hid, hW]
    exact heap_setCell_same _ _ _ _ _ _ k1z.out
  have HOW3 : Hid (HOwn W base (.slice (some ⟨g, 0, none⟩) (l.length - 1) cap) (l.eraseIdx p')) := by
    rw [Hid, hW]
    refine hown_frame ho3 (fun q hq => ?_)
    cases hq
    exact Below.heap_setCell _ _ _ _ (fun e => HNE.out.2.1 e.symm)
  have HSW : Hid (StoreAt own W k3 S F) := storeAt_turns H3.out HTW.out.size (fun q hq ho => HTW.out.block q hq (fun h => ho (by
    rcases h with rfl | rfl | rfl
    · exact HOW.out.1
    · exact HOW.out.2.1
    · exact HOW.out.2.2)))
  have H2W : Hid (W.heap[k2]? = some (.cells #[.map (some k3)] 148 (0, 0))) := by
    rw [Hid, hW, Below.heap_setCell _ _ _ _ (fun e => HNE.out.1 e.symm), t3.block _ (Nat.lt_of_lt_of_le (Array.getElem?_eq_some_iff.1 H2.out).1 HB2.out.size) HNE.out.2.2, HB2.out.block _ (Array.getElem?_eq_some_iff.1 H2.out).1]
    exact H2.out
  clear ho3 t3 HO2 HD HP
  go_wp2_with fail
  rw [← hW]
  clear hW c3 f3 k1z k1w c0
  have hS : (fun w' : World => w'.heap[k1]? = some (.cells #[.slice (some ⟨g, 0, none⟩) (l.length - 1) cap, .pointer (some ⟨k2, 0, none⟩)] 94 (0, 0))) W.drew := HKW.out
  refine wp_region_held_drew (S := fun w' => w'.heap[k1]? = some (.cells #[.slice (some ⟨g, 0, none⟩) (l.length - 1) cap, .pointer (some ⟨k2, 0, none⟩)] 94 (0, 0))) (by kernel_rfl) hS (fun _ => ?_)
  refine wpAnyH_take (i := 0) (v := .pointer (some ⟨k1, 0, none⟩)) rfl (by kernel_rfl) (by kernel_rfl) (by kernel_rfl) (fun _ _ _ h => h) (Or.inl ⟨by kernel_rfl, ?_⟩) hS ?_
  · (intro w' hSw; go_simp)
  try simp only [Act.put]
  refine wpAnyH_take (i := 1) (v := .pointer (some ⟨k1, 0, none⟩)) rfl (by kernel_rfl) (by kernel_rfl) (by kernel_rfl) (fun _ _ _ h => h) (Or.inl ⟨by kernel_rfl, ?_⟩) hS ?_
  · (intro w' hSw; go_simp)
  try simp only [Act.put]
  refine wpAnyH_take (i := 2) (v := .pointer (some ⟨k1, 1, none⟩)) rfl (by kernel_rfl) (by kernel_rfl) (by kernel_rfl) (fun _ _ _ h => h) (Or.inl ⟨by kernel_rfl, ?_⟩) hS ?_
  · (intro w' hSw; go_simp)
  try simp only [Act.put]
  refine wpAnyH_take (i := 3) (v := .pointer (some ⟨k2, 0, none⟩)) rfl (by kernel_rfl) (by kernel_rfl) (by kernel_rfl) (fun _ _ _ h => h) (Or.inl ⟨by kernel_rfl, ?_⟩) hS ?_
  · (intro w' hSw; have z0 := (cell_of_row w' _ 1 _ _ _ hSw).trans rfl; go_simp)
  try simp only [Act.put]
  refine wpAnyH_take (i := 4) (v := .pointer (some ⟨k1, 0, none⟩)) rfl (by kernel_rfl) (by kernel_rfl) (by kernel_rfl) (fun _ _ _ h => h) (Or.inl ⟨by kernel_rfl, ?_⟩) hS ?_
  · (intro w' hSw; go_simp)
  try simp only [Act.put]
  refine wpAnyH_ready (rs := [5]) (by kernel_rfl) (by simp) ?_
  refine AllReadyH.cons rfl (fun K hK => ?_) AllReadyH.nil
  go_simp
  have HRA := roots_any k1 (some ⟨g, 0, none⟩) cap (l.eraseIdx p') (.pointer (some ⟨k2, 0, none⟩)) W.drew (by rw [HER.out]; exact HKW.out) (hown_rd HOW3.out) (by rw [HER.out]; omega)
  refine HRA.mono ?_
  rintro e w4 ⟨v4, rfl, ho4, b4⟩
  obtain ⟨a4, c4, rfl, _⟩ := town_shape ho4
  have hB4 : Below W.heap.size W w4 := ⟨b4.os, b4.tape, b4.output, b4.size, b4.block⟩
  have HB4 := hid hB4
  have hS4 : w4.heap[k1]? = some (.cells #[.slice (some ⟨g, 0, none⟩) (l.length - 1) cap, .pointer (some ⟨k2, 0, none⟩)] 94 (0, 0)) := kept_block hB4 HKW.out
  have HO4 := hid ho4
  clear ho4 b4 hB4
  refine hK.out _ _ hS4 (fun _ => ?_)
  clear hK K hS
  try simp only [Act.put]
  refine wpAnyH_ready (rs := [6]) (by kernel_rfl) (by simp) ?_
  refine AllReadyH.cons rfl (fun K hK => ?_) AllReadyH.nil
  go_simp
  have HFA := forget_any k2 k3 S F (rootsB (l.eraseIdx p')) a4 c4 w4 (kept_block HB4.out H2W.out) (storeAt_later HSW.out HB4.out) (fun k hk => Nat.lt_of_lt_of_le (Nat.lt_of_lt_of_le (HN.out k hk) HTW.out.size) HB4.out.size) HOW.out.2.1 (town_rd HO4.out) HZ.out (by show ((l.eraseIdx p').map (·.2)).length ≤ 1000; rw [List.length_map, HER.out]; omega) (fun h => HRE.out (HRL.out h) w4.heap.size (Nat.ne_of_lt (Nat.lt_of_lt_of_le (Array.getElem?_eq_some_iff.1 H2W.out).1 HB4.out.size)))
  refine HFA.mono ?_
  rintro e w5 ⟨rfl, k3', F', g1, g2, t5⟩
  have hk5 : w5.heap[k1]? = some (.cells #[.slice (some ⟨g, 0, none⟩) (l.length - 1) cap, .pointer (some ⟨k2, 0, none⟩)] 94 (0, 0)) := (t5.block _ (Array.getElem?_eq_some_iff.1 hS4).1 HNE.out.1).trans hS4
  have HEND : Hid (DropOk own k1 k2 base g cap S l p' w (.returned (.int .i64 0)) w5) := by
    refine ⟨rfl, k3', F', hk5, ?_, g1, g2, ?_⟩
    · refine hown_frame (hown_later HOW3.out HB4.out) (fun q hq => ?_)
      cases hq
      exact t5.block g (Nat.lt_of_lt_of_le (hown_lt HOW3.out g rfl).2 HB4.out.size) (fun e => HNE.out.2.2 e.symm)
    · exact (HTW.out.trans (Turns.of_below HB4.out)).trans (t5.wider (fun k _ hk => .inr (.inl hk)))
  refine hK.out _ _ hk5 (fun _ => ?_)
  clear hK K hS4 hk5 g1 g2 t5
  try simp only [Act.put]
  refine wpAnyH_done (by kernel_rfl) ?_ _
  go_wp2_with fail
  go_ret
  exact HEND.out
end Go.Proofs.YtbmohenjphmlgaaGreat

/- A keeper in memory, and what its calls do to it (of the program). -/
namespace Go.Proofs.YtbmohenjphmlgaaGreat
open Go.RowKit
set_option maxRecDepth 100000

/-- A keeper: the heads l and the elements S; the blocks that its calls write are those of own. -/
structure KAt0 (own : Nat → Prop) (w : World) (k0 k1 k2 k3 base : Nat) (a : Option Addr) (cap : Nat) (F : List UInt8 → Option Value) (l : List (Int × ByteArray)) (S : List (List UInt8)) : Prop where
  outer : w.heap[k0]? = some (.cells #[.pointer (some ⟨k1, 0, none⟩)] 71 (0, 0))
  inner : w.heap[k1]? = some (.cells #[.slice a l.length cap, .pointer (some ⟨k2, 0, none⟩)] 94 (0, 0))
  cell : w.heap[k2]? = some (.cells #[.map (some k3)] 148 (0, 0))
  heads : HOwn w base (.slice a l.length cap) l
  base : base ≤ w.heap.size
  store : StoreAt own w k3 S F
  own : ∀ k, own k ↔ k = k0 ∨ k = k1 ∨ k = k2 ∨ (Value.slice a l.length cap).ownBlock = some k
  n01 : k0 ≠ k1
  n02 : k0 ≠ k2
  n12 : k1 ≠ k2
  far : ∀ g, (Value.slice a l.length cap).ownBlock = some g → g ≠ k0 ∧ g ≠ k1 ∧ g ≠ k2
  rises : Rises l
  few : l.length ≤ 8
  eight : ∀ q ∈ l, q.2.size = 8
  most : S.length ≤ 200

def KAt (own : Nat → Prop) (w : World) (k0 : Nat) (l : List (Int × ByteArray)) (S : List (List UInt8)) : Prop := ∃ k1 k2 k3 base a cap F, KAt0 own w k0 k1 k2 k3 base a cap F l S

theorem kat_lt {own : Nat → Prop} {w : World} {k0 : Nat} {l : List (Int × ByteArray)} {S : List (List UInt8)} (h : KAt own w k0 l S) : ∀ k, own k → k < w.heap.size := by
  obtain ⟨k1, k2, k3, base, a, cap, F, h⟩ := h
  intro k hk
  rcases (h.own k).1 hk with rfl | rfl | rfl | hg
  · exact (Array.getElem?_eq_some_iff.1 h.outer).1
  · exact (Array.getElem?_eq_some_iff.1 h.inner).1
  · exact (Array.getElem?_eq_some_iff.1 h.cell).1
  · exact (hown_lt h.heads k hg).2

theorem kat_later {own : Nat → Prop} {w w' : World} {k0 : Nat} {l : List (Int × ByteArray)} {S : List (List UInt8)} (h : KAt own w k0 l S) (hb : Below w.heap.size w w') : KAt own w' k0 l S := by
  obtain ⟨k1, k2, k3, base, a, cap, F, h⟩ := h
  exact ⟨k1, k2, k3, base, a, cap, F, kept_block hb h.outer, kept_block hb h.inner, kept_block hb h.cell, hown_later h.heads hb, Nat.le_trans h.base hb.size, storeAt_later h.store hb, h.own, h.n01, h.n02, h.n12, h.far, h.rises, h.few, h.eight, h.most⟩

theorem kat_most {own : Nat → Prop} {w : World} {k0 : Nat} {l : List (Int × ByteArray)} {S : List (List UInt8)} (h : KAt own w k0 l S) : S.length ≤ 200 := by
  obtain ⟨k1, k2, k3, base, a, cap, F, h⟩ := h
  exact h.most

/-- Open makes a keeper that has nothing. -/
theorem kat_open (w : World) : Calls Tryz.prog 11 #[] w fun e w' => ∃ k0 own, e = .returned (.pointer (some ⟨k0, 0, none⟩)) ∧ KAt own w' k0 [] [] ∧ (∀ k, own k → w.heap.size ≤ k) ∧ Below w.heap.size w w' := by
  refine (open_any w).mono ?_
  rintro e w' ⟨rfl, H⟩
  obtain ⟨hk, hb⟩ := H.out
  refine ⟨w.heap.size + 3, fun k => k = w.heap.size + 3 ∨ k = w.heap.size + 2 ∨ k = w.heap.size + 1 ∨ (Value.slice none 0 0).ownBlock = some k, rfl, ⟨w.heap.size + 2, w.heap.size + 1, w.heap.size, w.heap.size, none, 0, fun _ => none, hk.outer, hk.inner, hk.store, hown_nil _ _, hb.size, ⟨⟨.map [], ⟨#[], 0, hk.map, ⟨by simp, MapKept.stamped_empty 0, by simp⟩, Nat.le_refl _, rfl⟩, rfl, fun s => ⟨rfl, fun v h => by cases h⟩⟩, fun h => ?_, Tr.lone_nil, (fun _ _ => rfl), (fun e he => by simp at he)⟩, fun k => Iff.rfl, by omega, by omega, by omega, (fun g hg => by cases hg), List.Pairwise.nil, by simp, (fun q hq => by simp at hq), by simp⟩, fun k hk' => ?_, hb⟩
  · rcases h with h | h | h | h
    · omega
    · omega
    · omega
    · cases h
  · rcases hk' with h | h | h | h
    · omega
    · omega
    · omega
    · cases h

/-- Trust of a root at a height that is not taken. -/
theorem kat_trust {own : Nat → Prop} {w : World} {k0 : Nat} {l : List (Int × ByteArray)} {S : List (List UInt8)} (h : KAt own w k0 l S) (x : Int) (r : ByteArray) (h1 : 0 ≤ x) (h2 : x ≤ 1000000) (h8 : r.size = 8) (hl : l.length < 8) (hx : ∀ q ∈ l, q.1 ≠ x) (hins : InsOk l x r) :
    Calls Tryz.prog 12 #[.pointer (some ⟨k0, 0, none⟩), .int .i64 x, .string r] w fun e w' => e = .returned (.int .i64 0) ∧ ∃ own' p, p ≤ l.length ∧ (∀ i, (h : i < l.length) → i < p → l[i].1 < x) ∧ (∀ i, (h : i < l.length) → p ≤ i → x < l[i].1) ∧ KAt own' w' k0 (l.take p ++ (x, r) :: l.drop p) S ∧ (∀ k, own' k → own k ∨ w.heap.size ≤ k) ∧ Turns own w w' := by
  obtain ⟨k1, k2, k3, base, a, cap, F, h⟩ := h
  have hne : (Value.slice a l.length cap).ownBlock ≠ some k1 := fun e => (h.far k1 e).2.1 rfl
  refine (outer_trust h.outer (Q := fun n w' => n = 0 ∧ NewHead w k1 base (.slice a l.length cap) (.pointer (some ⟨k2, 0, none⟩)) l x r w') ((trust_new k1 base a cap l _ x r w h1 h2 h8 h.inner h.heads h.base hne hl h.rises hx hins).mono ?_)).mono ?_
  · rintro e w' ⟨rfl, q⟩
    exact ⟨0, rfl, rfl, q⟩
  · rintro e w' ⟨n, rfl, rfl, v', p, p1, p2, p3, g1, g2, g3, g4, g5⟩
    obtain ⟨a', cap', hv'⟩ := hown_shape g2
    have hnew : ∀ g, v'.ownBlock = some g → (Value.slice a l.length cap).ownBlock = some g ∨ w.heap.size ≤ g := by
      intro g hg
      rcases g3 with e | ⟨q, e, hq⟩
      · left; rw [← e]; exact hg
      · right; rw [e] at hg; cases hg; exact hq
    have hk0 := (Array.getElem?_eq_some_iff.1 h.outer).1
    have hk1 := (Array.getElem?_eq_some_iff.1 h.inner).1
    have hk2 := (Array.getElem?_eq_some_iff.1 h.cell).1
    have n0 : ∀ g, (Value.slice a l.length cap).ownBlock = some g → g ≠ k0 := fun g hg => (h.far g hg).1
    have hlen : (l.take p ++ (x, r) :: l.drop p).length = l.length + 1 := by simp; omega
    have hfar : ∀ g, v'.ownBlock = some g → g ≠ k0 ∧ g ≠ k1 ∧ g ≠ k2 := by
      intro g hg
      rcases hnew g hg with e | e
      · exact h.far g e
      · exact ⟨by omega, by omega, by omega⟩
    subst hv'
    have hst : StoreAt (fun k => k = k0 ∨ k = k1 ∨ k = k2 ∨ (Value.slice a' (l.take p ++ (x, r) :: l.drop p).length cap').ownBlock = some k) w' k3 S F := by
      have hs' := storeAt_turns h.store g5.size (fun k hk ho => g5.block k hk (fun hq => ho ((h.own k).2 (by
        rcases hq with rfl | hq
        · exact .inr (.inl rfl)
        · exact .inr (.inr (.inr hq))))))
      obtain ⟨q1, q2, q3, q4, q5⟩ := hs'
      have hk3 := mapAt_lt h.store.1
      refine ⟨q1, fun hk => ?_, q3, q4, fun e he => ?_⟩
      · rcases hk with hk | hk | hk | hk
        · exact h.store.2.1 ((h.own k3).2 (.inl hk))
        · exact h.store.2.1 ((h.own k3).2 (.inr (.inl hk)))
        · exact h.store.2.1 ((h.own k3).2 (.inr (.inr (.inl hk))))
        · rcases hnew k3 hk with e | e
          · exact h.store.2.1 ((h.own k3).2 (.inr (.inr (.inr e))))
          · omega
      · obtain ⟨v0, t0, lo0, B0, m0, z1, z2, z3, z4, z5, z6⟩ := h.store.2.2.2.2 e he
        refine ⟨v0, t0, lo0, B0, m0, z1, z2, z3, Nat.le_trans z4 g5.size, fun k hk => ?_, rn_turn (Nat.le_refl _) (Nat.le_refl _) (fun k k1' k2' => g5.block k (by omega) (fun hq => ?_)) _ _ _ z6⟩
        · rcases hk with hk | hk | hk | hk
          · exact z5 k ((h.own k).2 (.inl hk))
          · exact z5 k ((h.own k).2 (.inr (.inl hk)))
          · exact z5 k ((h.own k).2 (.inr (.inr (.inl hk))))
          · rcases hnew k hk with e | e
            · exact z5 k ((h.own k).2 (.inr (.inr (.inr e))))
            · right; omega
        · have := z5 k ((h.own k).2 (by
            rcases hq with rfl | hq
            · exact .inr (.inl rfl)
            · exact .inr (.inr (.inr hq))))
          omega
    refine ⟨rfl, _, p, p1, p2, p3, ⟨k1, k2, k3, base, a', cap', F, (g5.block _ hk0 (fun hq => ?_)).trans h.outer, g1, (g5.block _ hk2 (fun hq => ?_)).trans h.cell, g2, Nat.le_trans h.base g5.size, hst, fun k => Iff.rfl, h.n01, h.n02, h.n12, hfar, ?_, by rw [hlen]; omega, ?_, h.most⟩, ?_, ?_⟩
    · rcases hq with hq | hq
      · exact h.n01 hq
      · exact (h.far _ hq).1 rfl
    · rcases hq with hq | hq
      · exact h.n12 hq.symm
      · exact (h.far _ hq).2.2 rfl
    · unfold Rises
      have hr := h.rises
      rw [List.pairwise_append]
      refine ⟨List.Pairwise.sublist (List.take_sublist p l) hr, List.pairwise_cons.2 ⟨fun q hq => ?_, List.Pairwise.sublist (List.drop_sublist p l) hr⟩, fun q hq q' hq' => ?_⟩
      · obtain ⟨i, hi, rfl⟩ := List.getElem_of_mem hq
        rw [List.getElem_drop]
        exact p3 _ (by rw [List.length_drop] at hi; omega) (by omega)
      · obtain ⟨i, hi, rfl⟩ := List.getElem_of_mem hq
        have hi' : i < p ∧ i < l.length := by rw [List.length_take] at hi; omega
        have e1 : (l.take p)[i] = l[i]'hi'.2 := List.getElem_take
        rcases List.mem_cons.1 hq' with rfl | hq'
        · rw [e1]; exact p2 i hi'.2 hi'.1
        · obtain ⟨j, hj, rfl⟩ := List.getElem_of_mem hq'
          rw [e1, List.getElem_drop]
          exact h.rises.at (by omega) (by rw [List.length_drop] at hj; omega)
    · intro q hq
      rcases List.mem_append.1 hq with hq | hq
      · exact h.eight q (List.mem_of_mem_take hq)
      · rcases List.mem_cons.1 hq with rfl | hq
        · exact h8
        · exact h.eight q (List.mem_of_mem_drop hq)
    · intro k hk
      rcases hk with hk | hk | hk | hk
      · exact .inl ((h.own k).2 (.inl hk))
      · exact .inl ((h.own k).2 (.inr (.inl hk)))
      · exact .inl ((h.own k).2 (.inr (.inr (.inl hk))))
      · rcases hnew k hk with e | e
        · exact .inl ((h.own k).2 (.inr (.inr (.inr e))))
        · exact .inr e
    · exact g5.wider (fun k _ hk => (h.own k).2 (by
        rcases hk with rfl | hk
        · exact .inr (.inl rfl)
        · exact .inr (.inr (.inr hk))))

theorem srd_wider {B C : Nat} {w : World} {a : Option Addr} {l : List ByteArray} (h : SRd B w a l) (hB : B ≤ C) : SRd C w a l := by
  intro i hi
  obtain ⟨b, off, h1, h2, h3⟩ := h i hi
  exact ⟨b, off, h1, Nat.lt_of_lt_of_le h2 hB, h3⟩

theorem offerTo_most {S : List (List UInt8)} (hS : S.length ≤ 200) (root key : List UInt8) (p : List (List UInt8)) : (offerTo S root key p).2.length ≤ 200 := by
  unfold offerTo
  split
  · exact hS
  · split
    · exact hS
    · rename_i h; exact Nat.le_of_not_lt h

/-- Offer, at a height that is trusted. -/
theorem kat_offer {own : Nat → Prop} {w : World} {k0 : Nat} {l : List (Int × ByteArray)} {S : List (List UInt8)} (h : KAt own w k0 l S) {x : Int} {r : ByteArray} (hx : (x, r) ∈ l) (key : ByteArray) (a : Option Addr) (cap : Nat) (p : List ByteArray) (hr : SRd w.heap.size w a p) :
    Calls Tryz.prog 18 #[.pointer (some ⟨k0, 0, none⟩), .int .i64 x, .string key, .slice a p.length cap] w fun e w' => e = .returned (.int .i64 ((offerTo S r.data.toList key.data.toList (bl p)).1 : Nat)) ∧ KAt own w' k0 l (offerTo S r.data.toList key.data.toList (bl p)).2 ∧ Turns own w w' := by
  obtain ⟨k1, k2, k3, base, ha, hcap, F, h⟩ := h
  have hlt := kat_lt ⟨k1, k2, k3, base, ha, hcap, F, h⟩
  refine (outer_offer h.outer (Q := fun n w' => (n = ((offerTo S r.data.toList key.data.toList (bl p)).1 : Nat) ∧ ∃ k3' F', w'.heap[k2]? = some (.cells #[.map (some k3')] 148 (0, 0)) ∧ StoreAt own w' k3' (offerTo S r.data.toList key.data.toList (bl p)).2 F') ∧ Turns (fun k => k = k2) w w') ?_).mono ?_
  · refine offer_in h.inner (hown_rd h.heads) h.few h.rises hx h.n12 (fun b off e => ?_) (Q := fun n w' => n = ((offerTo S r.data.toList key.data.toList (bl p)).1 : Nat) ∧ ∃ k3' F', w'.heap[k2]? = some (.cells #[.map (some k3')] 148 (0, 0)) ∧ StoreAt own w' k3' (offerTo S r.data.toList key.data.toList (bl p)).2 F') (fun W hb => ?_)
    · subst e; exact (h.far b rfl).2.2
    · refine (add_any k2 k3 S F r key a cap p W (Nat.le_trans h.most (by decide)) (kept_block hb h.cell) (storeAt_later h.store hb) (fun k hk => Nat.lt_of_lt_of_le (hlt k hk) hb.size) ((h.own k2).2 (.inr (.inr (.inl rfl)))) (srd_wider (hr.later hb) hb.size)).mono ?_
      rintro e w' ⟨k3', F', rfl, g1, g2, g3⟩
      exact ⟨_, rfl, ⟨rfl, k3', F', g1, g2⟩, g3⟩
  · rintro e w' ⟨n, rfl, ⟨rfl, k3', F', g1, g2⟩, g3⟩
    have hb : ∀ k, k < w.heap.size → k ≠ k2 → w'.heap[k]? = w.heap[k]? := fun k hk hne => g3.block k hk hne
    refine ⟨rfl, ⟨k1, k2, k3', base, ha, hcap, F', (hb _ (Array.getElem?_eq_some_iff.1 h.outer).1 h.n02).trans h.outer, (hb _ (Array.getElem?_eq_some_iff.1 h.inner).1 h.n12).trans h.inner, g1, hown_frame h.heads (fun g hg => hb g (hown_lt h.heads g hg).2 (h.far g hg).2.2), Nat.le_trans h.base g3.size, g2, h.own, h.n01, h.n02, h.n12, h.far, h.rises, h.few, h.eight, offerTo_most h.most _ _ _⟩, g3.wider (fun k _ hk => (h.own k).2 (.inr (.inr (.inl hk))))⟩

/-- Get, at a height that is trusted. -/
theorem kat_get {own : Nat → Prop} {w : World} {k0 : Nat} {l : List (Int × ByteArray)} {S : List (List UInt8)} (h : KAt own w k0 l S) {x : Int} {r : ByteArray} (hx : (x, r) ∈ l) (key : ByteArray) :
    Calls Tryz.prog 20 #[.pointer (some ⟨k0, 0, none⟩), .int .i64 x, .string key] w fun e w' => ∃ s b n, e = .returned (.tuple #[.string s, .bool b, .int .i64 n]) ∧ (∃ N : Nat, n = N ∧ Tr.tell S r.data.toList key.data.toList = (s.data.toList, b, N)) ∧ Below w.heap.size w w' := by
  obtain ⟨k1, k2, k3, base, ha, hcap, F, h⟩ := h
  refine (outer_get h.outer (Q := fun s b n w' => (∃ N : Nat, n = N ∧ Tr.tell S r.data.toList key.data.toList = (s.data.toList, b, N)) ∧ Below w.heap.size w w') ?_).mono ?_
  · exact get_in h.inner (hown_rd h.heads) h.few h.rises hx (Q := fun s b n w' => ∃ N : Nat, n = N ∧ Tr.tell S r.data.toList key.data.toList = (s.data.toList, b, N)) (fun W hb => tell_any k2 k3 S F r key W (h.eight _ hx) (kept_block hb h.cell) (storeAt_later h.store hb))
  · rintro e w' ⟨s, b, n, rfl, q1, q2⟩
    exact ⟨s, b, n, rfl, q1, q2⟩

/-- Get, at a height that is not. -/
theorem kat_lost {own : Nat → Prop} {w : World} {k0 : Nat} {l : List (Int × ByteArray)} {S : List (List UInt8)} (h : KAt own w k0 l S) {x : Int} (hx : ∀ q ∈ l, q.1 ≠ x) (key : ByteArray) :
    Calls Tryz.prog 20 #[.pointer (some ⟨k0, 0, none⟩), .int .i64 x, .string key] w fun e w' => e = .returned (.tuple #[.string ⟨#[]⟩, .bool false, .int .i64 10]) ∧ Below w.heap.size w w' := by
  obtain ⟨k1, k2, k3, base, ha, hcap, F, h⟩ := h
  refine (outer_get h.outer (Q := fun s b n w' => (s = ⟨#[]⟩ ∧ b = false ∧ n = 10) ∧ Below w.heap.size w w') ((get_none k1 ha hcap l _ x key w h.inner (hown_rd h.heads) h.few h.rises hx).mono ?_)).mono ?_
  · rintro e w' ⟨rfl, b⟩
    exact ⟨_, _, _, rfl, ⟨rfl, rfl, rfl⟩, b⟩
  · rintro e w' ⟨s, b, n, rfl, ⟨rfl, rfl, rfl⟩, q2⟩
    exact ⟨rfl, q2⟩

theorem kat_kept {own : Nat → Prop} {w : World} {k0 : Nat} {l : List (Int × ByteArray)} {S : List (List UInt8)} (h : KAt own w k0 l S) :
    Calls Tryz.prog 19 #[.pointer (some ⟨k0, 0, none⟩)] w fun e w' => e = .returned (.int .i64 S.length) ∧ w' = w := by
  obtain ⟨k1, k2, k3, base, ha, hcap, F, h⟩ := h
  exact kept_any k0 k1 k2 k3 S.length _ F w h.outer h.inner h.cell h.store.1

/-- Drop, at a height that is trusted. -/
theorem kat_drop {own : Nat → Prop} {w : World} {k0 : Nat} {l : List (Int × ByteArray)} {S : List (List UInt8)} (h : KAt own w k0 l S) {x : Int} {p : Nat} (hp : p < l.length) (hpx : l[p].1 = x)
    (hreach : 1 < l.length → ∀ (r k2 k3 : Nat) (F : List UInt8 → Option Value), k2 ≠ r → ReachOk (fun k => own k ∨ k = r) k2 k3 r S F) :
    Calls Tryz.prog 22 #[.pointer (some ⟨k0, 0, none⟩), .int .i64 x] w fun e w' => e = .returned (.int .i64 0) ∧ KAt own w' k0 (l.eraseIdx p) (reachedFrom S (rootsB (l.eraseIdx p))) ∧ Turns own w w' := by
  obtain ⟨k1, k2, k3, base, ha, hcap, F, h⟩ := h
  have hlt := kat_lt ⟨k1, k2, k3, base, ha, hcap, F, h⟩
  have hhd := h.heads
  rcases hhd.2 with ⟨_, h0⟩ | ⟨g, cap', cur, hv, _⟩
  · omega
  simp only [Value.slice.injEq, true_and] at hv
  obtain ⟨rfl, rfl⟩ := hv
  have hfar := h.far g rfl
  have hler : (l.eraseIdx p).length = l.length - 1 := by rw [List.length_eraseIdx, if_pos hp]
  refine (outer_drop h.outer (Q := fun n w' => DropOk own k1 k2 base g hcap S l p w (.returned (.int .i64 n)) w') ((drop_any k1 k2 k3 base g hcap p S F l x w h.inner h.cell h.store h.heads hlt ((h.own k1).2 (.inr (.inl rfl))) ((h.own k2).2 (.inr (.inr (.inl rfl)))) ((h.own g).2 (.inr (.inr (.inr rfl)))) h.n12 hfar.2.1.symm hfar.2.2.symm h.few h.rises hp hpx (fun q hq => by rw [h.eight q hq]; decide) (fun h1 q hq => hreach h1 q k2 k3 F hq)).mono ?_)).mono ?_
  · rintro e w' ⟨rfl, q⟩
    exact ⟨0, rfl, rfl, q⟩
  · rintro e w' ⟨n, rfl, q⟩
    obtain ⟨e, k3', F', g1, g2, g3, g4, g5⟩ := q
    refine ⟨e, ⟨k1, k2, k3', base, some ⟨g, 0, none⟩, hcap, F', (g5.block _ (Array.getElem?_eq_some_iff.1 h.outer).1 (fun hq => ?_)).trans h.outer, by rw [hler]; exact g1, g3, by rw [hler]; exact g2, Nat.le_trans h.base g5.size, g4, fun k => ?_, h.n01, h.n02, h.n12, fun q hq => ?_, ?_, by rw [hler]; have := h.few; omega, fun q hq => h.eight q (List.mem_of_mem_eraseIdx hq), ?_⟩, g5.wider (fun k _ hk => (h.own k).2 ?_)⟩
    · rcases hq with hq | hq | hq
      · exact h.n01 hq
      · exact h.n02 hq
      · exact hfar.1 hq.symm
    · exact h.own k
    · exact h.far q hq
    · exact List.Pairwise.sublist (List.eraseIdx_sublist _ _) h.rises
    · exact Nat.le_trans (Tr.forget_len S (bl (rootsB (l.eraseIdx p)))) h.most
    · rcases hk with rfl | rfl | rfl
      · exact .inr (.inl rfl)
      · exact .inr (.inr (.inl rfl))
      · exact .inr (.inr (.inr rfl))
end Go.Proofs.YtbmohenjphmlgaaGreat

/- Texts that can be read are appended to a row of texts of a call's own: for a walk. -/
namespace Go.Proofs.YtbmohenjphmlgaaGreat
open Go.RowKit
set_option maxRecDepth 100000

theorem srd_cells {w : World} {l : List ByteArray} {B : Nat} {p : Addr} (h : SRd B w (some p) l) : ∀ j u, (tcells l)[j]? = some u → w.cell? (p.add j) = some u := by
  intro j u hu
  have hj : j < l.length := by rw [← tcells_len]; exact (List.getElem?_eq_some_iff.1 hu).1
  obtain ⟨b, off, e, _, c0⟩ := h j hj
  cases e
  have hadd : (⟨b, off, none⟩ : Addr).add j = ⟨b, off + j, none⟩ := by unfold Addr.add; split <;> simp_all
  rw [hadd]
  rw [tcells_at l j hj] at hu
  cases hu
  exact c0

theorem wpList_append_texts {ops : Array Oper} {rest : List Oper} {o : Oper} {act : Act} {Q : Exit → Act → World → Prop} (w : World) (hgd : o.guard = none) (s x : Operand)
    (hop : o.op = .call { callee := .builtin .append, args := #[s, x], argTypes := #[28, 28] })
    (base B : Nat) (v1 : Value) (a2 : Option Addr) (c2 : Nat) (l1 l2 : List ByteArray) (hs : act.eval s = v1) (hx : act.eval x = .slice a2 l2.length c2) (h1 : TOwn w base v1 l1) (h2 : SRd B w a2 l2) (hn : a2 = none → l2.length = 0 ∧ c2 = 0) (hlen : l1.length + l2.length ≤ 1000000) (hbase : base ≤ w.heap.size)
    (h : ∀ v' w', TOwn w' base v' (l1 ++ l2) → w.grownBy w' v1.ownBlock → Newer w v1 v' → wpList Tryz.prog ops Q rest (act.put o.dst v') w') :
    wpList Tryz.prog ops Q (o :: rest) act w := by
  obtain ⟨i0, hi, hz0, hz1, hz2⟩ := info_parts infoText
  cases a2 with
  | none =>
    obtain ⟨e1, e2⟩ := hn rfl
    obtain rfl : l2 = [] := List.eq_nil_of_length_eq_zero e1
    subst e2
    refine wpList_plain hgd fun K hK => ?_
    have hr := run_append_owned_none (P := Tryz.prog) w base 28 o.type 9 i0 1 Tryz.underlying28 hi v1 _ _ h1
    unfold Oper.wp execOp
    simp only [hop, resolve, invoke, builtin, Sem.run_bind, Sem.run_pure, Result.andThen_ok, List.map_toArray, List.map_cons, List.map_nil, hs, hx, List.length_nil, hr]
    exact hK _ _ (h v1 w (by rw [List.append_nil]; exact h1) (World.grownBy.refl _ _) (.inl rfl))
  | some p =>
    refine wpList_append_mine w hgd s x 28 hop base 9 i0 _ 1 16 Tryz.underlying28 hi hz0 hz1 hz2 rfl (by decide) v1 l1.length (tcells l1) hs h1 p l2.length c2 (tcells l2) hx (by rw [tcells_len, Nat.mul_one]) (srd_cells h2) (tcells_one l2) (by unfold maxLen; omega) (by omega) hbase ?_
    intro v' w' ho hg hn
    refine h v' w' ?_ hg hn
    unfold TOwn
    rw [List.length_append, show tcells (l1 ++ l2) = tcells l1 ++ tcells l2 by simp [tcells]]
    exact ho

theorem town_none {w : World} {b : Nat} {n cap : Nat} {a : Option Addr} {l : List ByteArray} (h : TOwn w b (.slice a n cap) l) : a = none → l.length = 0 ∧ cap = 0 := by
  intro ha
  rcases h.2 with ⟨hv, h0⟩ | ⟨g, cap', cur, hv, _⟩
  · simp only [Value.slice.injEq] at hv; exact ⟨h0, hv.2.2⟩
  · simp only [Value.slice.injEq] at hv; rw [ha] at hv; cases hv.1

theorem srd_take {B : Nat} {w : World} {a : Option Addr} {l : List ByteArray} (h : SRd B w a l) (i : Nat) : SRd B w a (l.take i) := by
  intro j hj
  obtain ⟨b, off, h1, h2, h3⟩ := h j (by rw [List.length_take] at hj; omega)
  exact ⟨b, off, h1, h2, by rw [List.getElem_take]; exact h3⟩

theorem srd_lone {w : World} (s : ByteArray) (O : TypeId) : SRd (w.heap.size + 1) (w.alloc (.cells #[.string s] O)) (some ⟨w.heap.size, 0, none⟩) [s] := by
  intro i hi
  have hi1 : i < 1 := hi
  obtain rfl : i = 0 := by omega
  exact ⟨w.heap.size, 0, rfl, by omega, cell_of_row _ _ 0 _ _ _ (heap_alloc_new w _)⟩
end Go.Proofs.YtbmohenjphmlgaaGreat
