/- The walk of Root (of the program). -/
import Derived.Test.YtbmohenjphmlgaaPrFault2
import Derived.Test.YtbmohenjphmlgaaPrTab2
import Derived.Test.YtbmohenjphmlgaaPrBuild2
namespace Go.Proofs.Ytbmohenjphmlgaa
open Go.RowKit
set_option maxRecDepth 100000

theorem ba_len2 (s : ByteArray) : s.data.toList.length = s.size := ba_len s

theorem tfault_fault (l : List (ByteArray × ByteArray)) (key : ByteArray) : tfault l key = Tr.fault (lists l) key.data.toList := by
  have e1 : (lists l).length = l.length := by simp [lists]
  have e2 : (∃ p ∈ lists l, 6 < p.1.length) ↔ ∃ p ∈ l, 6 < p.1.size := by
    unfold lists
    simp only [List.mem_map]
    constructor
    · rintro ⟨p, ⟨q, hq, rfl⟩, h⟩; exact ⟨q, hq, by rw [← ba_len q.1]; exact h⟩
    · rintro ⟨q, hq, h⟩; exact ⟨_, ⟨q, hq, rfl⟩, by rw [ba_len]; exact h⟩
  have e3 : (∃ p ∈ lists l, 40 < p.2.length) ↔ ∃ p ∈ l, 40 < p.2.size := by
    unfold lists
    simp only [List.mem_map]
    constructor
    · rintro ⟨p, ⟨q, hq, rfl⟩, h⟩; exact ⟨q, hq, by rw [← ba_len q.2]; exact h⟩
    · rintro ⟨q, hq, h⟩; exact ⟨_, ⟨q, hq, rfl⟩, by rw [ba_len]; exact h⟩
  unfold tfault Tr.fault
  simp only [e1, e2, e3, ba_len]

/-- Pairs with which nothing is wrong. -/
theorem fault_none {l : List (ByteArray × ByteArray)} {key : ByteArray} (h : tfault l key = 0) : l.length ≤ 60 ∧ (∀ p ∈ l, p.1.size ≤ 6) ∧ key.size ≤ 6 ∧ (∀ p ∈ l, p.2.size ≤ 40) := by
  unfold tfault at h
  by_cases h1 : 60 < l.length
  · rw [if_pos h1] at h; omega
  · rw [if_neg h1] at h
    by_cases h2 : (∃ p ∈ l, 6 < p.1.size) ∨ 6 < key.size
    · rw [if_pos h2] at h; omega
    · rw [if_neg h2] at h
      by_cases h3 : ∃ p ∈ l, 40 < p.2.size
      · rw [if_pos h3] at h; omega
      · rw [not_or] at h2
        exact ⟨by omega, fun p hp => Classical.byContradiction fun hh => h2.1 ⟨p, hp, by omega⟩, by have := h2.2; omega, fun p hp => Classical.byContradiction fun hh => h3 ⟨p, hp, by omega⟩⟩

theorem lists_ok {l : List (ByteArray × ByteArray)} (h1 : ∀ p ∈ l, p.1.size ≤ 6) (h2 : ∀ p ∈ l, p.2.size ≤ 40) : (∀ p ∈ lists l, p.1.length ≤ 6) ∧ (∀ p ∈ lists l, p.2.length ≤ 40) := by
  unfold lists
  constructor
  · intro p hp
    obtain ⟨q, hq, rfl⟩ := List.mem_map.1 hp
    rw [ba_len]; exact h1 q hq
  · intro p hp
    obtain ⟨q, hq, rfl⟩ := List.mem_map.1 hp
    rw [ba_len]; exact h2 q hq

/-- The tree of a table. -/
theorem tree_any (a : Option Addr) (cap : Nat) (l : List (ByteArray × ByteArray)) (w : World) (hr : PRd w.heap.size w a (tabTo l l.length)) (hl : l.length ≤ 60) (h1 : ∀ p ∈ l, p.1.size ≤ 6) (h2 : ∀ p ∈ l, p.2.size ≤ 40) :
    Calls Try.prog 73 #[.slice a (tabTo l l.length).length cap] w fun e w' => ∃ v, e = .returned v ∧ BT w.heap.size w' 13 v (Tr.table (lists l)) ∧ Below w.heap.size w w' := by
  have hk := lists_ok h1 h2
  have := (builds_ok 13 (by decide)).1 w a cap (tabTo l l.length) hr (Nat.le_trans (tabTo_le l _) (by omega)) (by rw [tabTo_table]; exact Tr.table_fits _ hk.1 hk.2) (by rw [tabTo_table]; exact Tr.table_apart _)
  rw [tabTo_table] at this
  exact this

set_option maxHeartbeats 1600000 in
theorem treeRoot_ok (a : Option Addr) (cap : Nat) (l : List (ByteArray × ByteArray)) (w : World) (hr : PRd w.heap.size w a l) (hf : tfault l ⟨#[]⟩ = 0) :
    Calls Try.prog 53 #[.slice a l.length cap] w fun e w' => e = .returned (.tuple #[.string ⟨(Tr.sum (Itm.enc (Tr.node 13 (Tr.table (lists l))))).toArray⟩, .int .i64 0]) ∧ Below w.heap.size w w' := by
  have hft := tableFault_any ⟨#[]⟩ a cap l w hr
  rw [hf] at hft
  have HFT := hid hft
  obtain ⟨h1, h2, _, h4⟩ := fault_none hf
  have HTO := hid (fun w h => tableOf_any a cap l w h (by omega) (fun p hp => by have := h2 p hp; omega))
  have HTR := hid (fun a cap w h => tree_any a cap l w h h1 h2 h4)
  have hk := lists_ok h2 h4
  have HSM := hid (node_small 13 _ (by decide) (Tr.table_fits _ hk.1 hk.2))
  have HR := hid hr
  clear hft hf h2 h4 hk hr
  go_enter Try.func53, Try.ntmps53
  go_wp2_with fail
  refine HFT.out.mono ?_
  rintro e w1 ⟨rfl, b1⟩
  have HB1 := hid b1
  clear b1
  go_wp2_with fail
  refine (HTO.out _ ((HR.out.later HB1.out).wider HB1.out.size)).mono ?_
  rintro e w2 ⟨v2, rfl, o2, b2⟩
  obtain ⟨a2, c2, hv2, p2⟩ := prd_of_pown o2
  subst hv2
  have HB2 : Hid (Below w.heap.size w w2) := HB1.out.trans (b2.mono HB1.out.size)
  have HP2 := hid p2
  clear o2 b2 p2
  go_wp2_with fail
  refine (HTR.out _ _ _ HP2.out).mono ?_
  rintro e w3 ⟨v3, rfl, t3, b3⟩
  have HB3 : Hid (Below w.heap.size w w3) := HB2.out.trans (b3.mono HB2.out.size)
  obtain ⟨k, l0, s, aa, nn, cc, hnd, hrep⟩ := bt_nd t3
  have HCS := hid (commonSum_any k aa nn cc l0 s _ _ w3 HSM.out (repW_rep _ _ _ hrep))
  obtain ⟨T, A, rfl, _, _, _, hm⟩ := nd_call hnd
  clear t3 b3 hrep hnd
  go_wp2_with fail
  refine HCS.out.mono ?_
  rintro e w4 ⟨rfl, b4⟩
  have HB4 : Hid (Below w.heap.size w w4) := HB3.out.trans (b4.mono HB3.out.size)
  clear b4
  go_wp2_with fail
  go_ret2
  exact ⟨rfl, HB4.out⟩

/-- Root answers as the document says. -/
theorem root_any (a : Option Addr) (cap : Nat) (l : List (ByteArray × ByteArray)) (w : World) (hr : PRd w.heap.size w a l) :
    Calls Try.prog 24 #[.slice a l.length cap] w fun e w' => e = .returned (.tuple #[.string ⟨(Tr.root (lists l)).1.toArray⟩, .int .i64 ((Tr.root (lists l)).2 : Nat)]) ∧ Below w.heap.size w w' := by
  by_cases hf : tfault l ⟨#[]⟩ = 0
  · have e : Tr.root (lists l) = (Tr.sum (Itm.enc (Tr.node 13 (Tr.table (lists l)))), 0) := by
      unfold Tr.root
      rw [if_pos (by rw [← hf, tfault_fault])]
    rw [e]
    have H := hid (treeRoot_ok a cap l w hr hf)
    clear hr hf e
    go_enter Try.func24, Try.ntmps24
    go_wp2_with fail
    refine H.out.mono ?_
    rintro e w1 ⟨rfl, b1⟩
    have HB := hid b1
    clear b1
    go_wp2_with fail
    go_ret2
    exact ⟨rfl, HB.out⟩
  · have e : Tr.root (lists l) = ([], tfault l ⟨#[]⟩) := by
      have e2 : tfault l ⟨#[]⟩ = Tr.fault (lists l) [] := tfault_fault l ⟨#[]⟩
      unfold Tr.root
      rw [← e2, if_neg hf]
    rw [e]
    exact root_fault hf (tableFault_any ⟨#[]⟩ a cap l w hr)

end Go.Proofs.Ytbmohenjphmlgaa
