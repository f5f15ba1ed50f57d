/- Part 24 of a proof: what the last text needs. -/
import Derived.Test.YtbmohenjphmlgabGreatPart21
import Derived.Test.YtbmohenjphmlgabGreatPart16
import Derived.Test.YtbmohenjphmlgabGreatPart23
/- The walks of Root, Prove, Verify, Offer that are refused (of the program). -/
namespace Go.Proofs.YtbmohenjphmlgabGreat
open Go.RowKit
set_option maxRecDepth 100000

theorem readAll_nil (a : Option Addr) (cap : Nat) (w : World) : Calls Tryz.prog 86 #[.slice a 0 cap] w fun e w' => e = .returned (.tuple #[.slice none 0 0, .bool true]) ∧ w' = w := by
  go_enter Tryz.func86, Tryz.ntmps86
  go_wp2_with fail
  go_loopw [4, 11] (fun u v wr => u = .slice none 0 0 ∧ v = .int .i64 0 ∧ wr = w) (fun _ _ _ => 0)
  case atStart => exact ⟨rfl, rfl, rfl⟩
  case round =>
    obtain ⟨rfl, rfl, rfl⟩ := hrel
    go_wp2_with fail
    go_ret2
    exact ⟨rfl, rfl⟩

/-- The finder of check where nothing is left. -/
theorem check1_nil (kb : Nat) (r : ByteArray) (y : Value) (w : World) (hb : w.heap[kb]? = some (.cells #[.slice none 0 0] 95 (0, 0))) :
    Calls Tryz.prog 87 #[.agg #[.string r, y], .pointer (some ⟨kb, 0, none⟩)] w fun e w' => e = .returned (.tuple #[.nilIface, .bool false]) ∧ Below w.heap.size w w' := by
  have hlt := (Array.getElem?_eq_some_iff.1 hb).1
  have c0 : (w.alloc (.cells #[.string r, y] 109)).cell? ⟨kb, 0, none⟩ = some (.slice none 0 0) := (World.cell?_of_block (w := w) (Below.heap_alloc _ _ _ hlt)).trans (cell_of_row _ _ 0 _ _ _ hb)
  have HB : Hid (Below w.heap.size w (w.alloc (.cells #[.string r, y] 109))) := (Below.refl _ _).alloc (Nat.le_refl _) _
  clear hb
  go_enter Tryz.func87, Tryz.ntmps87
  go_wp2_with fail
  generalize hW : w.alloc (.cells #[.string r, y] 109) = W at *
  go_quiet (fail)
  go_wp2_with fail
  go_ret2
  exact ⟨rfl, belowN HB.out⟩

set_option maxHeartbeats 1600000 in
/-- A proof of nothing. -/
theorem check_nil {root key : ByteArray} {a : Option Addr} {cap : Nat} {w : World} (h1 : root.size = 8) (h2 : key.size ≤ 6) :
    Calls Tryz.prog 59 #[.string root, .string key, .slice a 0 cap] w fun e w' => e = .returned (.tuple #[.slice none 0 0, .string ⟨#[]⟩, .int .i64 6]) ∧ Below w.heap.size w w' := by
  have HP : Hid (Calls Tryz.prog 85 #[.string root, .string key, .slice a 0 cap] w fun e w' => e = .returned (.int .i64 0) ∧ w' = w) := by
    have := proofFault_any root key a cap [] w (srd_nil _ _ _)
    rw [pfault_ok h1 (by omega) (by simp) (by simp)] at this
    exact this
  have HRA := hid (fun w => readAll_nil a cap w)
  have HD := hid (fun w => digitsOf_any key w (by omega))
  have HW := hid (fun d W hf => walk_none 87 #[.pointer (some ⟨w.heap.size, 0, none⟩)] root d W (enters_of Tryz.func87 (by kernel_rfl) rfl) hf)
  go_enter Tryz.func59, Tryz.ntmps59
  go_wp2_with fail
  refine HP.out.mono ?_
  rintro e w1 ⟨rfl, hw⟩
  obtain rfl := hw.symm
  go_wp2_with fail
  refine (HRA.out _).mono ?_
  rintro e w1 ⟨rfl, hw⟩
  obtain rfl := hw.symm
  go_wp2_with fail
  refine (HD.out _).mono ?_
  rintro e w2 ⟨rfl, b2⟩
  have HA : Hid (Below w.heap.size w (w.alloc (.cells #[.slice none 0 0] 95))) := (Below.refl _ _).alloc (Nat.le_refl _) _
  have HB2 : Hid (Below w.heap.size w w2) := HA.out.trans (b2.mono HA.out.size)
  have HX2 : Hid (w2.heap[w.heap.size]? = some (.cells #[.slice none 0 0] 95 (0, 0))) := (b2.block _ (by rw [alloc_size]; omega)).trans (heap_alloc_new w _)
  have HF : Hid (∀ W, Below w2.heap.size w2 W → Calls Tryz.prog 87 (#[.agg #[.string root, .nilIface]] ++ #[.pointer (some ⟨w.heap.size, 0, none⟩)]) W fun e w' => e = .returned (.tuple #[.nilIface, .bool false]) ∧ Below W.heap.size W w') := fun W hb => check1_nil _ _ _ _ ((hb.block _ (Array.getElem?_eq_some_iff.1 HX2.out).1).trans HX2.out)
  clear b2 HP HRA
  go_wp2_with fail
  refine (HW.out _ _ HF.out).mono ?_
  rintro e w3 ⟨rfl, b3⟩
  have HB3 : Hid (Below w.heap.size w w3) := HB2.out.trans (b3.mono HB2.out.size)
  clear b3
  go_wp2_with fail
  refine bodyPost_ret (v := .tuple #[.slice none 0 0, .string ⟨#[]⟩, .int .i64 6]) (by simp [results, Tryz.results59, go_sem]) rfl ?_
  exact ⟨rfl, HB3.out⟩

theorem verify_nil {root key : ByteArray} {a : Option Addr} {cap : Nat} {w : World} (h1 : root.size = 8) (h2 : key.size ≤ 6) :
    Calls Tryz.prog 21 #[.string root, .string key, .slice a 0 cap] w fun e w' => ∃ s b, e = .returned (.tuple #[.string s, .bool b, .int .i64 6]) ∧ Below w.heap.size w w' := by
  refine (verify_out (Q := fun s m w' => m = 6 ∧ Below w.heap.size w w') ((check_nil h1 h2).mono ?_)).mono ?_
  · rintro e w' ⟨rfl, hb⟩; exact ⟨_, _, _, _, _, rfl, rfl, hb⟩
  · rintro e w' ⟨s, m, rfl, rfl, hb⟩; exact ⟨s, _, rfl, hb⟩

theorem turns_cell {own : Nat → Prop} {w w' : World} {b off : Nat} (h : Turns own w w') (hb : b < w.heap.size) (ho : ¬ own b) : w'.cell? ⟨b, off, none⟩ = w.cell? ⟨b, off, none⟩ := World.cell?_of_block (w := w) (h.block b hb ho)

/-- Add of what check refuses. -/
theorem add_fault {k2 : Nat} {root key : ByteArray} {v : Value} {w : World} {N : Nat} (hN : N ≠ 0) (h : Calls Tryz.prog 59 #[.string root, .string key, v] w fun e w' => e = .returned (.tuple #[.slice none 0 0, .string ⟨#[]⟩, .int .i64 N]) ∧ Below w.heap.size w w') :
    Calls Tryz.prog 49 #[.pointer (some ⟨k2, 0, none⟩), .string root, .string key, v] w fun e w' => e = .returned (.int .i64 N) ∧ Below w.heap.size w w' := by
  have H := hid h
  have hN' : ¬ (N : Int) = 0 := by omega
  clear h hN
  go_enter Tryz.func49, Tryz.ntmps49
  go_wp2_with fail
  refine H.out.mono ?_
  rintro e w1 ⟨rfl, b1⟩
  have HB := hid b1
  clear b1
  go_wp2_with fail
  go_ret
  exact ⟨rfl, HB.out⟩

/-- Offer at a height that is trusted hands on to the store. -/
theorem offer_in {k1 k2 : Nat} {a : Option Addr} {cap : Nat} {l : List (Int × ByteArray)} {x : Int} {key r0 : ByteArray} {v : Value} {w : World} {Q : Int → World → Prop}
    (hk : w.heap[k1]? = some (.cells #[.slice a l.length cap, .pointer (some ⟨k2, 0, none⟩)] 77 (0, 0))) (hr : HRd w.heap.size w a l) (hl : l.length ≤ 8) (hs : Rises l) (hx : (x, r0) ∈ l) (hne : k1 ≠ k2) (hnb : ∀ b off, a = some ⟨b, off, none⟩ → b ≠ k2)
    (h : ∀ W, Below w.heap.size w W → Calls Tryz.prog 49 #[.pointer (some ⟨k2, 0, none⟩), .string r0, .string key, v] W fun e w' => ∃ n, e = .returned (.int .i64 n) ∧ Q n w' ∧ Turns (fun k => k = k2) W w') :
    Calls Tryz.prog 31 #[.pointer (some ⟨k1, 0, none⟩), .int .i64 x, .string key, v] w fun e w' => ∃ n, e = .returned (.int .i64 n) ∧ Q n w' ∧ Turns (fun k => k = k2) w w' := by
  have HP := hid (place_any k1 a cap l _ x w hk hr (by omega) hs)
  have HRD := hid hr
  have HS := hid hs
  have HX := hid hx
  have HK := hid hk
  have HT := hid h
  clear hk hr hs hx h
  go_enter Tryz.func31, Tryz.ntmps31
  go_wp2_with fail
  refine HP.out.mono ?_
  rintro e w2 ⟨⟨p, rfl, p1, p2, p3⟩, b2⟩
  obtain ⟨hp, hp1, hp2⟩ := found_at HS.out HX.out p2 p3
  rw [decide_eq_true (⟨hp, hp1⟩ : ∃ h : p < l.length, l[p].1 = x)]
  obtain ⟨b, off, rfl, hb, e0, e1⟩ := HRD.out p hp
  have hnb' := hnb b off rfl
  rw [hp2] at e1
  have f1 := (b2.cell (p := ⟨b, off + p * 2 + 1, none⟩) hb).trans e1
  have c0 := (b2.cell (p := ⟨k1, 0, none⟩) (Array.getElem?_eq_some_iff.1 HK.out).1).trans (cell_of_row _ _ 0 _ _ _ HK.out)
  have c1 := (b2.cell (p := ⟨k1, 1, none⟩) (Array.getElem?_eq_some_iff.1 HK.out).1).trans (cell_of_row _ _ 1 _ _ _ HK.out)
  have i1 : (0 : Int) ≤ (p : Int) := by omega
  have i2 : (p : Int) < (l.length : Int) := by omega
  have HB := hid b2
  have hk1 : k1 < w2.heap.size := Nat.lt_of_lt_of_le (Array.getElem?_eq_some_iff.1 HK.out).1 b2.size
  have hb1 : b < w2.heap.size := Nat.lt_of_lt_of_le hb b2.size
  clear e0 e1 p1 p2 p3 b2 hp1 hp2 hnb
  go_wp2_with fail
  go_region_held3 (fun w' => w'.cell? ⟨k1, 0, none⟩ = some (.slice (some ⟨b, off, none⟩) l.length cap) ∧ w'.cell? ⟨k1, 1, none⟩ = some (.pointer (some ⟨k2, 0, none⟩)) ∧ w'.cell? ⟨b, off + p * 2 + 1, none⟩ = some (.string r0)) (go_keep) ((go_at_call 49; refine (HT.out _ HB.out.drew).mono ?_; rintro e w3 ⟨n, rfl, q, b3⟩; have HQ := hid q; have HB3 : Hid (Turns (fun k => k = k2) w w3) := (Turns.of_below HB.out.drew).trans b3; have z0 := (turns_cell (off := 0) b3 hk1 hne).trans c0; have z1 := (turns_cell (off := 1) b3 hk1 hne).trans c1; have z2 := (turns_cell (off := off + p * 2 + 1) b3 hb1 hnb').trans f1; clear q b3))
  all_goals go_wp2_with fail
  all_goals go_ret
  all_goals exact ⟨n, rfl, HQ.out, HB3.out⟩

end Go.Proofs.YtbmohenjphmlgabGreat

/- The walks of ForgetAllBut and Drop (of the program), for what reach does. -/
namespace Go.Proofs.YtbmohenjphmlgabGreat
open Go.RowKit
set_option maxRecDepth 100000

/-- R is a part of the store S, with the same nodes. -/
def PartOf (S R : List (List UInt8)) (F G : List UInt8 → Option Value) : Prop :=
  Tr.Lone R ∧ (∀ e ∈ R, e ∈ S) ∧ (∀ s, Tr.find R s = none → G s = none) ∧ ∀ e ∈ R, G (Tr.sum e) = F (Tr.sum e)

theorem partOf_nil (S : List (List UInt8)) (F : List UInt8 → Option Value) : PartOf S [] F (fun _ => none) := ⟨Tr.lone_nil, fun e h => by simp at h, fun _ _ => rfl, fun e h => by simp at h⟩

theorem partOf_nodes {own : Nat → Prop} {C : Nat} {w : World} {S R : List (List UInt8)} {F G : List UInt8 → Option Value} (h : PartOf S R F G) (hn : NodesAt own C w S F) : NodesAt own C w R G := by
  refine ⟨h.1, h.2.2.1, fun e he => ?_⟩
  obtain ⟨v, t, lo, B, m, g1, g2⟩ := hn.2.2 e (h.2.1 e he)
  exact ⟨v, t, lo, B, m, (h.2.2.2 e he).trans g1, g2⟩

/-- What reach does. -/
def ReachOk (own : Nat → Prop) (k2 k3 r : Nat) (S : List (List UInt8)) (F : List UInt8 → Option Value) : Prop :=
  ∀ (f : Nat) (w : World) (s : ByteArray) (R : List (List UInt8)) (G : List UInt8 → Option Value), s.size ≤ 1000 → w.heap[k2]? = some (.cells #[.map (some k3)] 118 (0, 0)) → StoreAt own w k3 S F → MapAt Tryz.prog 9 w r R.length G → PartOf S R F G → Tr.missing S R ≤ f →
    Calls Tryz.prog 77 #[.pointer (some ⟨k2, 0, none⟩), .string s, .map (some r)] w fun e w' => e = .returned (.tuple #[]) ∧ ∃ G', MapAt Tryz.prog 9 w' r (Tr.dfs S f s.data.toList R).length G' ∧ PartOf S (Tr.dfs S f s.data.toList R) F G' ∧ Turns (fun k => k = r) w w'

/-- What is reached from some roots. -/
def reachedFrom (S : List (List UInt8)) (l : List ByteArray) : List (List UInt8) := (bl l).foldl (fun R r => Tr.dfs S S.length r R) []

theorem reachedFrom_snoc (S : List (List UInt8)) (l : List ByteArray) (s : ByteArray) : reachedFrom S (l ++ [s]) = Tr.dfs S S.length s.data.toList (reachedFrom S l) := by
  unfold reachedFrom
  rw [bl_append, List.foldl_append]
  rfl

def ForgetOk (own : Nat → Prop) (k2 : Nat) (S : List (List UInt8)) (l : List ByteArray) (w : World) (e : Ending) (w' : World) : Prop :=
  e = .returned (.tuple #[]) ∧ ∃ k3' F', w'.heap[k2]? = some (.cells #[.map (some k3')] 118 (0, 0)) ∧ StoreAt own w' k3' (reachedFrom S l) F' ∧ Turns (fun k => k = k2) w w'

set_option maxHeartbeats 1600000 in
theorem forget_any {own : Nat → Prop} (k2 k3 : Nat) (S : List (List UInt8)) (F : List UInt8 → Option Value) (l : List ByteArray) (a : Option Addr) (cap : Nat) (w : World) (h2 : w.heap[k2]? = some (.cells #[.map (some k3)] 118 (0, 0))) (h3 : StoreAt own w k3 S F) (hn : ∀ k, own k → k < w.heap.size) (hk2 : own k2) (hr : SRd w.heap.size w a l) (hz : ∀ s ∈ l, s.size ≤ 1000) (hl : l.length ≤ 1000)
    (hreach : l ≠ [] → ReachOk (fun k => own k ∨ k = w.heap.size) k2 k3 w.heap.size S F) :
    Calls Tryz.prog 52 #[.pointer (some ⟨k2, 0, none⟩), .slice a l.length cap] w (ForgetOk own k2 S l w) := by
  have hmm := @run_makeMap Tryz.prog
  have HR := hid hr
  have HZ := hid hz
  have HRE := hid hreach
  have H2 := hid h2
  have H3 := hid h3
  have HN := hid hn
  have HK2 := hid hk2
  clear hr hz hreach h2 h3 hn hk2
  go_enter Tryz.func52, Tryz.ntmps52
  go_wp2_with fail
  go_loopw [10] (fun i wr => ∃ k : Nat, i = .int .i64 k ∧ k ≤ l.length ∧ Hid (Below w.heap.size w wr ∧ ∃ G, MapAt Tryz.prog 9 wr w.heap.size (reachedFrom S (l.take k)).length G ∧ PartOf S (reachedFrom S (l.take k)) F G)) (fun i _ => l.length - (intOf i).toNat)
  case atStart => exact ⟨0, rfl, Nat.zero_le _, (Below.refl _ _).alloc (Nat.le_refl _) _, _, mapAt_new _ _ _, partOf_nil _ _⟩
  case round =>
    obtain ⟨k, rfl, hk, HH⟩ := hrel
    by_cases hlt : k < l.length
    · obtain ⟨b, off, rfl, hb, e0⟩ := HR.out k hlt
      have f0 := (HH.out.1.cell (p := ⟨b, off + k, none⟩) hb).trans e0
      have i1 : (0 : Int) ≤ (k : Int) := by omega
      have i2 : (k : Int) < (l.length : Int) := by omega
      have HTK : Hid (reachedFrom S (l.take (k + 1)) = Tr.dfs S S.length l[k].data.toList (reachedFrom S (l.take k))) := by rw [Hid, List.take_succ_eq_append_getElem hlt, reachedFrom_snoc]
      have HSZ : Hid (l[k].size ≤ 1000) := HZ.out _ (List.getElem_mem hlt)
      obtain ⟨hbl, G, hm, hp⟩ := HH.out
      have hst : StoreAt (fun k => own k ∨ k = w.heap.size) wr k3 S F := by
        obtain ⟨q1, q2, q3, q4, q5⟩ := H3.out
        refine ⟨mapAt_frame q1 (hbl.block _ (mapAt_lt q1)), fun h => ?_, q3, q4, fun e he => ?_⟩
        · rcases h with h | h
          · exact q2 h
          · have := mapAt_lt q1; omega
        · obtain ⟨v, t, lo, B, m, g1, g2, g3, g4, g5, g6⟩ := q5 e he
          refine ⟨v, t, lo, B, m, g1, g2, g3, Nat.le_trans g4 hbl.size, fun q hq => ?_, rn_later (hbl.mono g4) _ _ _ g6⟩
          rcases hq with hq | hq
          · exact g5 q hq
          · right; omega
      have HCALL := hid ((HRE.out (fun h => by rw [h] at hlt; simp at hlt)) S.length wr l[k] _ G HSZ.out ((hbl.block _ (Array.getElem?_eq_some_iff.1 H2.out).1).trans H2.out) hst hm hp (Tr.missing_le _ _))
      have HBL := hid hbl
      clear e0 hm hp hst hbl HH
      generalize l[k] = rk at *
      go_wp2_with fail
      refine HCALL.out.mono ?_
      rintro e w1 ⟨rfl, G', m1, p1, t1⟩
      have HM1 := hid m1
      have HP1 := hid p1
      have HB1 : Hid (Below w.heap.size w w1) := t1.below HBL.out HBL.out.size (fun k hk => Nat.le_of_eq hk.symm)
      clear m1 p1 t1
      go_wp2_with fail
      refine ⟨⟨k + 1, by go_num, by omega, HB1.out, G', ?_, ?_⟩, by simp [intOf]; omega⟩
      · rw [HTK.out]; exact HM1.out
      · rw [HTK.out]; exact HP1.out
    · obtain rfl : k = l.length := by omega
      have i2 : ¬ (l.length : Int) < (l.length : Int) := by omega
      rw [List.take_length] at HH
      obtain ⟨hbl, G, hm, hp⟩ := HH.out
      have HM := hid hm
      have HP := hid hp
      have HBL := hid hbl
      have hkr : wr.heap[k2]? = some (.cells #[.map (some k3)] 118 (0, 0)) := (hbl.block _ (Array.getElem?_eq_some_iff.1 H2.out).1).trans H2.out
      have z0 := cell_of_row _ _ 0 _ _ _ hkr
      have z1 := frozen_of_row _ _ 0 _ _ hkr
      have HKR := hid hkr
      clear hm hp hbl hkr HH hlt
      go_wp2_with fail
      refine bodyPost_ret (v := .tuple #[]) (by simp [results, Tryz.results52, go_sem]) rfl ?_
      refine ⟨rfl, w.heap.size, G, heap_setCell_same _ _ _ _ _ _ HKR.out, ?_, ?_⟩
      · have hst : StoreAt own wr w.heap.size (reachedFrom S l) G := ⟨HM.out, fun ho => Nat.lt_irrefl _ (HN.out _ ho), partOf_nodes HP.out (nodesAt_turns H3.out.2.2 HBL.out.size (fun q hq _ => HBL.out.block q hq))⟩
        exact storeAt_turns hst (by simp [World.setCell]) (fun q hq ho => Below.heap_setCell _ _ _ _ (fun e => ho (by rw [e]; exact HK2.out)))
      · have ht : Turns (fun q => q = k2) wr (wr.setCell ⟨k2, 0, none⟩ (.map (some w.heap.size))) := ⟨rfl, rfl, rfl, by simp [World.setCell], fun q hq ho => Below.heap_setCell _ _ _ _ ho⟩
        exact (Turns.of_below HBL.out).trans ht

/-- What Drop does at a height that is trusted. -/
def DropOk (own : Nat → Prop) (k1 k2 base g cap : Nat) (S : List (List UInt8)) (l : List (Int × ByteArray)) (p : Nat) (w : World) (e : Ending) (w' : World) : Prop :=
  e = .returned (.int .i64 0) ∧ ∃ k3' F', w'.heap[k1]? = some (.cells #[.slice (some ⟨g, 0, none⟩) (l.length - 1) cap, .pointer (some ⟨k2, 0, none⟩)] 77 (0, 0)) ∧ HOwn w' base (.slice (some ⟨g, 0, none⟩) (l.length - 1) cap) (l.eraseIdx p) ∧ w'.heap[k2]? = some (.cells #[.map (some k3')] 118 (0, 0)) ∧ StoreAt own w' k3' (reachedFrom S (rootsB (l.eraseIdx p))) F' ∧ Turns (fun k => k = k1 ∨ k = k2 ∨ k = g) w w'

set_option maxHeartbeats 3200000 in
theorem drop_any {own : Nat → Prop} (k1 k2 k3 base g cap p : Nat) (S : List (List UInt8)) (F : List UInt8 → Option Value) (l : List (Int × ByteArray)) (x : Int) (w : World)
    (h1 : w.heap[k1]? = some (.cells #[.slice (some ⟨g, 0, none⟩) l.length cap, .pointer (some ⟨k2, 0, none⟩)] 77 (0, 0))) (h2 : w.heap[k2]? = some (.cells #[.map (some k3)] 118 (0, 0))) (h3 : StoreAt own w k3 S F) (ho : HOwn w base (.slice (some ⟨g, 0, none⟩) l.length cap) l) (hn : ∀ k, own k → k < w.heap.size)
    (hk1 : own k1) (hk2 : own k2) (hg : own g) (n12 : k1 ≠ k2) (n1g : k1 ≠ g) (n2g : k2 ≠ g) (hl : l.length ≤ 8) (hs : Rises l) (hp : p < l.length) (hpx : l[p].1 = x) (hz : ∀ q ∈ l, q.2.size ≤ 1000)
    (hreach : 1 < l.length → ∀ r : Nat, k2 ≠ r → ReachOk (fun k => own k ∨ k = r) k2 k3 r S F) :
    Calls Tryz.prog 33 #[.pointer (some ⟨k1, 0, none⟩), .int .i64 x] w (DropOk own k1 k2 base g cap S l p w) := by
  have HP := hid (place_any k1 (some ⟨g, 0, none⟩) cap l _ x w h1 (hown_rd ho) (by omega) hs)
  have HD := hid (fun w' (h : HOwn w' base (.slice (some ⟨g, 0, none⟩) l.length cap) l) => deleteHead_any base g cap p l w' h hp (by omega))
  have HS := hid hs
  have H1 := hid h1
  have H2 := hid h2
  have H3 := hid h3
  have HO := hid ho
  have HN := hid hn
  have HOW := hid (And.intro hk1 (And.intro hk2 hg))
  have HNE := hid (And.intro n12 (And.intro n1g n2g))
  have HPX := hid hpx
  have HRE := hid hreach
  have HZ : Hid (∀ s ∈ rootsB (l.eraseIdx p), s.size ≤ 1000) := by
    intro s hs'
    obtain ⟨q, hq, rfl⟩ := List.mem_map.1 hs'
    exact hz q (List.mem_of_mem_eraseIdx hq)
  have HER : Hid ((l.eraseIdx p).length = l.length - 1) := by rw [Hid, List.length_eraseIdx, if_pos hp]
  have HRL : Hid (rootsB (l.eraseIdx p) ≠ [] → 1 < l.length) := by
    intro hne
    refine Decidable.byContradiction fun hc => hne ?_
    apply List.eq_nil_of_length_eq_zero
    show ((l.eraseIdx p).map (·.2)).length = 0
    rw [List.length_map, HER.out]
    omega
  clear h1 h2 h3 ho hn hs hpx hz hreach hk1 hk2 hg
  go_enter Tryz.func33, Tryz.ntmps33
  go_wp2_with fail
  refine HP.out.mono ?_
  rintro e w2 ⟨⟨p', rfl, p1, p2, p3⟩, b2⟩
  obtain rfl : p' = p := by
    obtain ⟨h, h1, _⟩ := found_at (r0 := l[p].2) HS.out (by rw [← HPX.out]; exact List.getElem_mem hp) p2 p3
    rcases Nat.lt_trichotomy p' p with h2 | h2 | h2
    · have := HS.out.at (i := p') (j := p) h2 hp
      have := HPX.out
      omega
    · exact h2
    · have := HS.out.at (i := p) (j := p') h2 h
      have := HPX.out
      omega
  rw [decide_eq_true (⟨hp, HPX.out⟩ : ∃ h : p' < l.length, l[p'].1 = x)]
  have HB2 := hid b2
  have k1w : Hid (w2.heap[k1]? = some (.cells #[.slice (some ⟨g, 0, none⟩) l.length cap, .pointer (some ⟨k2, 0, none⟩)] 77 (0, 0))) := (b2.block _ (Array.getElem?_eq_some_iff.1 H1.out).1).trans H1.out
  have c0 := cell_of_row _ _ 0 _ _ _ k1w.out
  have HO2 := hid (hown_later HO.out b2)
  clear p1 p2 p3 b2
  go_wp2_with fail
  refine (HD.out w2 HO2.out).mono ?_
  rintro e w3 ⟨rfl, ho3, t3⟩
  have k1z : Hid (w3.heap[k1]? = some (.cells #[.slice (some ⟨g, 0, none⟩) l.length cap, .pointer (some ⟨k2, 0, none⟩)] 77 (0, 0))) := (t3.block _ (Array.getElem?_eq_some_iff.1 k1w.out).1 HNE.out.2.1).trans k1w.out
  have c3 := cell_of_row _ _ 0 _ _ _ k1z.out
  have f3 := frozen_of_row _ _ 0 _ _ k1z.out
  obtain ⟨W, hW⟩ : ∃ W, W = w3.setCell ⟨k1, 0, none⟩ (.slice (some ⟨g, 0, none⟩) (l.length - 1) cap) := ⟨_, rfl⟩
  have HTW : Hid (Turns (fun k => k = k1 ∨ k = k2 ∨ k = g) w W) := by
    have h1 : Turns (fun k => k = k1 ∨ k = k2 ∨ k = g) w2 w3 := t3.wider (fun k _ hk => .inr (.inr hk))
    have h2 : Turns (fun k => k = k1 ∨ k = k2 ∨ k = g) w3 W := by
      rw [hW]
      exact ⟨rfl, rfl, rfl, by simp [World.setCell], fun q hq ho => Below.heap_setCell _ _ _ _ (fun e => ho (.inl e))⟩
    exact ((Turns.of_below HB2.out).trans h1).trans h2
  have HKW : Hid (W.heap[k1]? = some (.cells #[.slice (some ⟨g, 0, none⟩) (l.length - 1) cap, .pointer (some ⟨k2, 0, none⟩)] 77 (0, 0))) := by
    rw [Hid, hW]
    exact heap_setCell_same _ _ _ _ _ _ k1z.out
  have HOW3 : Hid (HOwn W base (.slice (some ⟨g, 0, none⟩) (l.length - 1) cap) (l.eraseIdx p')) := by
    rw [Hid, hW]
    refine hown_frame ho3 (fun q hq => ?_)
    cases hq
    exact Below.heap_setCell _ _ _ _ (fun e => HNE.out.2.1 e.symm)
  have HSW : Hid (StoreAt own W k3 S F) := storeAt_turns H3.out HTW.out.size (fun q hq ho => HTW.out.block q hq (fun h => ho (by
    rcases h with rfl | rfl | rfl
    · exact HOW.out.1
    · exact HOW.out.2.1
    · exact HOW.out.2.2)))
  have H2W : Hid (W.heap[k2]? = some (.cells #[.map (some k3)] 118 (0, 0))) := by
    rw [Hid, hW, Below.heap_setCell _ _ _ _ (fun e => HNE.out.1 e.symm), t3.block _ (Nat.lt_of_lt_of_le (Array.getElem?_eq_some_iff.1 H2.out).1 HB2.out.size) HNE.out.2.2, HB2.out.block _ (Array.getElem?_eq_some_iff.1 H2.out).1]
    exact H2.out
  clear ho3 t3 HO2 HD HP
  go_wp2_with fail
  rw [← hW]
  clear hW c3 f3 k1z k1w c0
  have hS : (fun w' : World => w'.heap[k1]? = some (.cells #[.slice (some ⟨g, 0, none⟩) (l.length - 1) cap, .pointer (some ⟨k2, 0, none⟩)] 77 (0, 0))) W.drew := HKW.out
  refine wp_region_held_drew (S := fun w' => w'.heap[k1]? = some (.cells #[.slice (some ⟨g, 0, none⟩) (l.length - 1) cap, .pointer (some ⟨k2, 0, none⟩)] 77 (0, 0))) (by kernel_rfl) hS (fun _ => ?_)
  refine wpAnyH_take (i := 0) (v := .pointer (some ⟨k1, 0, none⟩)) rfl (by kernel_rfl) (by kernel_rfl) (by kernel_rfl) (fun _ _ _ h => h) (Or.inl ⟨by kernel_rfl, ?_⟩) hS ?_
  · (intro w' hSw; go_simp)
  try simp only [Act.put]
  refine wpAnyH_take (i := 1) (v := .pointer (some ⟨k1, 0, none⟩)) rfl (by kernel_rfl) (by kernel_rfl) (by kernel_rfl) (fun _ _ _ h => h) (Or.inl ⟨by kernel_rfl, ?_⟩) hS ?_
  · (intro w' hSw; go_simp)
  try simp only [Act.put]
  refine wpAnyH_take (i := 2) (v := .pointer (some ⟨k1, 1, none⟩)) rfl (by kernel_rfl) (by kernel_rfl) (by kernel_rfl) (fun _ _ _ h => h) (Or.inl ⟨by kernel_rfl, ?_⟩) hS ?_
  · (intro w' hSw; go_simp)
  try simp only [Act.put]
  refine wpAnyH_take (i := 3) (v := .pointer (some ⟨k2, 0, none⟩)) rfl (by kernel_rfl) (by kernel_rfl) (by kernel_rfl) (fun _ _ _ h => h) (Or.inl ⟨by kernel_rfl, ?_⟩) hS ?_
  · (intro w' hSw; have z0 := (cell_of_row w' _ 1 _ _ _ hSw).trans rfl; go_simp)
  try simp only [Act.put]
  refine wpAnyH_take (i := 4) (v := .pointer (some ⟨k1, 0, none⟩)) rfl (by kernel_rfl) (by kernel_rfl) (by kernel_rfl) (fun _ _ _ h => h) (Or.inl ⟨by kernel_rfl, ?_⟩) hS ?_
  · (intro w' hSw; go_simp)
  try simp only [Act.put]
  refine wpAnyH_ready (rs := [5]) (by kernel_rfl) (by simp) ?_
  refine AllReadyH.cons rfl (fun K hK => ?_) AllReadyH.nil
  go_simp
  have HRA := roots_any k1 (some ⟨g, 0, none⟩) cap (l.eraseIdx p') (.pointer (some ⟨k2, 0, none⟩)) W.drew (by rw [HER.out]; exact HKW.out) (hown_rd HOW3.out) (by rw [HER.out]; omega)
  refine HRA.mono ?_
  rintro e w4 ⟨v4, rfl, ho4, b4⟩
  obtain ⟨a4, c4, rfl, _⟩ := town_shape ho4
  have hB4 : Below W.heap.size W w4 := ⟨b4.os, b4.tape, b4.output, b4.size, b4.block⟩
  have HB4 := hid hB4
  have hS4 : w4.heap[k1]? = some (.cells #[.slice (some ⟨g, 0, none⟩) (l.length - 1) cap, .pointer (some ⟨k2, 0, none⟩)] 77 (0, 0)) := kept_block hB4 HKW.out
  have HO4 := hid ho4
  clear ho4 b4 hB4
  refine hK.out _ _ hS4 (fun _ => ?_)
  clear hK K hS
  try simp only [Act.put]
  refine wpAnyH_ready (rs := [6]) (by kernel_rfl) (by simp) ?_
  refine AllReadyH.cons rfl (fun K hK => ?_) AllReadyH.nil
  go_simp
  have HFA := forget_any k2 k3 S F (rootsB (l.eraseIdx p')) a4 c4 w4 (kept_block HB4.out H2W.out) (storeAt_later HSW.out HB4.out) (fun k hk => Nat.lt_of_lt_of_le (Nat.lt_of_lt_of_le (HN.out k hk) HTW.out.size) HB4.out.size) HOW.out.2.1 (town_rd HO4.out) HZ.out (by show ((l.eraseIdx p').map (·.2)).length ≤ 1000; rw [List.length_map, HER.out]; omega) (fun h => HRE.out (HRL.out h) w4.heap.size (Nat.ne_of_lt (Nat.lt_of_lt_of_le (Array.getElem?_eq_some_iff.1 H2W.out).1 HB4.out.size)))
  refine HFA.mono ?_
  rintro e w5 ⟨rfl, k3', F', g1, g2, t5⟩
  have hk5 : w5.heap[k1]? = some (.cells #[.slice (some ⟨g, 0, none⟩) (l.length - 1) cap, .pointer (some ⟨k2, 0, none⟩)] 77 (0, 0)) := (t5.block _ (Array.getElem?_eq_some_iff.1 hS4).1 HNE.out.1).trans hS4
  have HEND : Hid (DropOk own k1 k2 base g cap S l p' w (.returned (.int .i64 0)) w5) := by
    refine ⟨rfl, k3', F', hk5, ?_, g1, g2, ?_⟩
    · refine hown_frame (hown_later HOW3.out HB4.out) (fun q hq => ?_)
      cases hq
      exact t5.block g (Nat.lt_of_lt_of_le (hown_lt HOW3.out g rfl).2 HB4.out.size) (fun e => HNE.out.2.2 e.symm)
    · exact (HTW.out.trans (Turns.of_below HB4.out)).trans (t5.wider (fun k _ hk => .inr (.inl hk)))
  refine hK.out _ _ hk5 (fun _ => ?_)
  clear hK K hS4 hk5 g1 g2 t5
  try simp only [Act.put]
  refine wpAnyH_done (by kernel_rfl) ?_ _
  go_wp2_with fail
  go_ret
  exact HEND.out
end Go.Proofs.YtbmohenjphmlgabGreat

/- What a keeper has that was offered proofs of two tables, and what it tells when one of them is dropped: no two elements have the same sum. -/
namespace Go.Proofs.YtbmohenjphmlgabGreat
set_option maxRecDepth 100000

/-- What is kept when proofs of two tables were offered for some keys. -/
def staysS (L M : List (ByteArray × ByteArray)) (ks : List ByteArray) : List (List UInt8) := ks.foldl (fun S k => Tr.addAll (Tr.addAll S (bl (proofB L (shortB k 6)))) (bl (proofB M (shortB k 6)))) []

theorem stays_snoc (L M : List (ByteArray × ByteArray)) (ks : List ByteArray) (k : ByteArray) : staysS L M (ks ++ [k]) = Tr.addAll (Tr.addAll (staysS L M ks) (bl (proofB L (shortB k 6)))) (bl (proofB M (shortB k 6))) := by
  unfold staysS
  rw [List.foldl_append]
  rfl

/-- By one key after the other. -/
theorem stays_ind {L M : List (ByteArray × ByteArray)} {P : List ByteArray → List (List UInt8) → Prop} (h0 : P [] []) (h1 : ∀ ks S k, P ks S → P (ks ++ [k]) (Tr.addAll (Tr.addAll S (bl (proofB L (shortB k 6)))) (bl (proofB M (shortB k 6))))) (ks : List ByteArray) : P ks (staysS L M ks) := by
  have : ∀ n (ks : List ByteArray), ks.length = n → P ks (staysS L M ks) := by
    intro n
    induction n with
    | zero =>
      intro ks hk
      obtain rfl : ks = [] := List.eq_nil_of_length_eq_zero hk
      exact h0
    | succ n ih =>
      intro ks hk
      have hne : ks ≠ [] := fun e => by rw [e] at hk; simp at hk
      obtain ⟨xs, x, rfl⟩ : ∃ xs x, ks = xs ++ [x] := ⟨ks.dropLast, ks.getLast hne, (List.dropLast_concat_getLast hne).symm⟩
      rw [stays_snoc]
      exact h1 xs _ x (ih xs (by simpa using hk))
  exact this ks.length ks rfl

theorem stays_lone (L M : List (ByteArray × ByteArray)) (ks : List ByteArray) : Tr.Lone (staysS L M ks) :=
  stays_ind (P := fun _ S => Tr.Lone S) Tr.lone_nil (fun _ _ _ h => Tr.addAll_lone _ (Tr.addAll_lone _ h)) ks

theorem stays_len {L M : List (ByteArray × ByteArray)} (hL : Fine L) (hM : Fine M) (ks : List ByteArray) : (staysS L M ks).length ≤ 28 * ks.length :=
  stays_ind (P := fun ks S => S.length ≤ 28 * ks.length) (by simp) (fun ks S k h => by
    have h1 := Tr.addAll_len (bl (proofB M (shortB k 6))) (Tr.addAll S (bl (proofB L (shortB k 6))))
    have h2 := Tr.addAll_len (bl (proofB L (shortB k 6))) S
    have h3 := proofB_len hL (shortB k 6)
    have h4 := proofB_len hM (shortB k 6)
    rw [bl_len] at h1 h2
    rw [List.length_append, List.length_singleton]
    omega) ks

theorem stays_mem (L M : List (ByteArray × ByteArray)) (ks : List ByteArray) : ∀ x ∈ staysS L M ks, ∃ y, (y ∈ allB L ks ∨ y ∈ allB M ks) ∧ y.data.toList = x :=
  stays_ind (P := fun ks S => ∀ x ∈ S, ∃ y, (y ∈ allB L ks ∨ y ∈ allB M ks) ∧ y.data.toList = x) (fun x hx => by simp at hx) (fun ks S k h x hx => by
    rcases Tr.addAll_mem _ hx with hx | hx
    · rcases Tr.addAll_mem _ hx with hx | hx
      · obtain ⟨y, hy, rfl⟩ := h x hx
        refine ⟨y, ?_, rfl⟩
        rcases hy with hy | hy
        · obtain ⟨k', hk', hp⟩ := allB_mem.1 hy
          exact .inl (allB_mem.2 ⟨k', List.mem_append_left _ hk', hp⟩)
        · obtain ⟨k', hk', hp⟩ := allB_mem.1 hy
          exact .inr (allB_mem.2 ⟨k', List.mem_append_left _ hk', hp⟩)
      · obtain ⟨y, hy, rfl⟩ := bl_mem.1 hx
        exact ⟨y, .inl (allB_mem.2 ⟨k, by simp, hy⟩), rfl⟩
    · obtain ⟨y, hy, rfl⟩ := bl_mem.1 hx
      exact ⟨y, .inr (allB_mem.2 ⟨k, by simp, hy⟩), rfl⟩) ks

theorem stays_has (L M : List (ByteArray × ByteArray)) (ks : List ByteArray) : ∀ k ∈ ks, ∀ s ∈ bl (proofB M (shortB k 6)), ∃ x ∈ staysS L M ks, Tr.sum x = Tr.sum s :=
  stays_ind (P := fun ks S => ∀ k ∈ ks, ∀ s ∈ bl (proofB M (shortB k 6)), ∃ x ∈ S, Tr.sum x = Tr.sum s) (fun k hk => by simp at hk) (fun ks S k h k' hk' s hs => by
    rcases List.mem_append.1 hk' with hk' | hk'
    · obtain ⟨x, hx, hsum⟩ := h k' hk' s hs
      exact ⟨x, Tr.addAll_sub _ (Tr.addAll_sub _ hx), hsum⟩
    · rw [List.mem_singleton.1 hk'] at hs
      exact Tr.addAll_has _ hs) ks

theorem stays_found {L M : List (ByteArray × ByteArray)} {ks W : List ByteArray} (hW : Apart2 W) (h1 : ∀ x ∈ allB L ks, x ∈ W) (h2 : ∀ x ∈ allB M ks, x ∈ W) {k : ByteArray} (hk : k ∈ ks) : ∀ s ∈ bl (proofB M (shortB k 6)), Tr.find (staysS L M ks) (Tr.sum s) = some s := by
  intro s hs
  obtain ⟨x, hx, hsum⟩ := stays_has L M ks k hk s hs
  obtain ⟨y, hy, rfl⟩ := stays_mem L M ks x hx
  obtain ⟨z, hz, rfl⟩ := bl_mem.1 hs
  have hzW : z ∈ W := h2 z (allB_mem.2 ⟨k, hk, hz⟩)
  have hyW : y ∈ W := by
    rcases hy with hy | hy
    · exact h1 y hy
    · exact h2 y hy
  obtain rfl := hW y hyW z hzW hsum
  exact (stays_lone L M ks).find hx

/-- What was proved of a table is found when all is forgotten that its root does not reach. -/
theorem stays_kept {M : List (ByteArray × ByteArray)} (hM : Fine M) {S : List (List UInt8)} (hS : Tr.Lone S) {key : ByteArray} (h : ∀ s ∈ bl (proofB M key), Tr.find S (Tr.sum s) = some s) : ∀ s ∈ bl (proofB M key), Tr.find (reachedFrom S [rootB M]) (Tr.sum s) = some s := by
  obtain ⟨w', h1, _⟩ := table_loop hM (key := key)
  obtain ⟨k1, k2, k3, k4⟩ := Tr.forget_kept S [(rootB M).data.toList]
  exact Tr.way_kept hS k1 k3 _ 0 _ w' h1 (Tr.digits_lt _) h (k4 _ (List.mem_singleton.2 rfl))

theorem reached_len (S : List (List UInt8)) (l : List ByteArray) : (reachedFrom S l).length ≤ S.length := Tr.forget_len S (bl l)

theorem moreFine {L : List (ByteArray × ByteArray)} (h : Fine L) (hl : L.length ≤ 30) (k v : ByteArray) : Fine (L ++ [(shortB k 6, shortB v 40)]) := by
  refine ⟨by rw [List.length_append, List.length_singleton]; omega, fun p hp => ?_⟩
  rcases List.mem_append.1 hp with hp | hp
  · exact h.2 p hp
  · rw [List.mem_singleton.1 hp]; exact ⟨shortB_size _ _, shortB_size _ _⟩
end Go.Proofs.YtbmohenjphmlgabGreat
