/- The walk of 'depth': an item that lies in memory has the depth that 'deep' says. -/
import Derived.Test.YtbmohenjphmlgaaFirst
import Derived.Test.YtbmohenjphmlgaaRep
namespace Go.Proofs.Ytbmohenjphmlgaa
open Go.RowKit
set_option maxRecDepth 100000

/-- The greatest depth among the first k items. -/
def topTo (t : Itm) (k : Nat) : Nat := Itm.top ((t.items.take k).map Itm.deep)

theorem topTo_zero (t : Itm) : topTo t 0 = 0 := by simp [topTo, Itm.top_nil]

theorem topTo_succ (t : Itm) (k : Nat) (h : k < t.items.length) : topTo t (k + 1) = max (topTo t k) (Itm.deep t.items[k]) := by
  unfold topTo
  rw [List.take_succ_eq_append_getElem h, List.map_append, Itm.top_append]
  simp [Itm.top_cons, Itm.top_nil]

theorem topTo_all (t : Itm) (h : t.list = true) : Itm.deep t = topTo t t.items.length + 1 := by
  rw [Itm.deep_eq, if_pos h]
  simp [topTo]

theorem topTo_le (t : Itm) (k : Nat) (h : t.list = true) : topTo t k + 1 ≤ Itm.deep t := by
  rw [Itm.deep_eq, if_pos h]
  unfold topTo
  have : Itm.top ((t.items.take k).map Itm.deep) ≤ Itm.top (t.items.map Itm.deep) := by
    refine Itm.top_le fun x hx => Itm.le_top ?_
    simp only [List.mem_map] at hx ⊢
    obtain ⟨y, hy, rfl⟩ := hx
    exact ⟨y, List.mem_of_mem_take hy, rfl⟩
  omega

theorem deep_kid (t : Itm) (k : Nat) (hk : k < t.items.length) (h : t.list = true) : Itm.deep t.items[k] < Itm.deep t := by
  have h1 := topTo_le t (k + 1) h
  rw [topTo_succ t k hk] at h1
  omega

/-- An item that could be read in w can be read in any later world. -/
theorem rep_in {w w' : World} {n : Nat} {v : Value} {t : Itm} (h : Rep w.heap.size w n v t) (hb : Below w.heap.size w w') : Rep w'.heap.size w' n v t := rep_later hb h

set_option maxHeartbeats 800000 in
theorem depth_any (n : Nat) : ∀ (v : Value) (t : Itm) (w : World), Rep w.heap.size w n v t → Itm.deep t ≤ 1000000000 →
    Calls Try.prog 68 #[v] w fun e w' => e = .returned (.int .i64 (Itm.deep t)) ∧ Below w.heap.size w w' := by
  induction n with
  | zero => intro v t w h; exact h.elim
  | succ n ih =>
    intro v t w hrep hd
    obtain ⟨a, cap, rfl, hm, hkids⟩ := hrep
    by_cases hl : t.list
    · have hl' : t.list = true := hl
      have HK := hid hkids
      have IH := hid ih
      have HD := hid hd
      clear hkids ih hd hl
      unfold maxLen at hm
      have HL := hid hl'
      rw [hl']
      clear hl'
      go_enter Try.func68, Try.ntmps68
      go_wp2_with fail
      go_loopw [3, 12] (fun d i wr => ∃ k : Nat, k ≤ t.items.length ∧ i = .int .i64 k ∧ d = .int .i64 (topTo t k) ∧ Hid (Below w.heap.size w wr)) (fun _ i _ => t.items.length - (intOf i).toNat)
      case atStart => exact ⟨0, Nat.zero_le _, rfl, by rw [topTo_zero]; rfl, (Below.refl _ _).alloc (Nat.le_refl _) _⟩
      case round =>
        obtain ⟨k, hk, rfl, rfl, HB⟩ := hrel
        have htb : topTo t k + 1 ≤ 1000000000 := Nat.le_trans (topTo_le t k HL.out) HD.out
        by_cases hlt : k < t.items.length
        · obtain ⟨b, off, c0, c1, c2, rfl, hbl, e0, e1, e2, hr⟩ := HK.out k hlt
          obtain ⟨a2, cap2, rfl, rfl, rfl⟩ := rep_shape hr
          have f0 := (HB.out.cell (p := ⟨b, off + k * 3, none⟩) hbl).trans e0
          have f1 := (HB.out.cell (p := ⟨b, off + k * 3 + 1, none⟩) hbl).trans e1
          have f2 := (HB.out.cell (p := ⟨b, off + k * 3 + 2, none⟩) hbl).trans e2
          have HR := hid hr
          have hdk := deep_kid t k hlt HL.out
          have hdk2 : Itm.deep t.items[k] ≤ 1000000000 := by have := HD.out; omega
          have HT := hid (topTo_succ t k hlt)
          clear e0 e1 e2 hr hdk
          go_wp2_with fail
          have hbw := HB.out.alloc HB.out.size (Obj.cells #[Value.bool t.items[k].list, Value.string { data := t.items[k].bytes.toArray }, Value.slice a2 t.items[k].items.length cap2] 24)
          refine (IH.out _ t.items[k] _ (rep_in HR.out hbw) hdk2).mono ?_
          rintro e w1 ⟨rfl, hbel⟩
          have HB1 := hid hbel
          have HB0 := hid hbw
          clear hbel hbw
          go_wp2_with fail
          refine ⟨⟨k + 1, by omega, by go_num, congrArg (Value.int .i64) (by rw [HT.out]; omega), HB0.out.trans (HB1.out.mono HB0.out.size)⟩, by simp [intOf]; omega⟩
        · go_wp2_with fail
          go_ret
          refine ⟨?_, HB.out⟩
          have hke : k = t.items.length := by omega
          subst hke
          rw [topTo_all t HL.out]
          simp
    · have hl' : t.list = false := by simpa using hl
      rw [hl']
      have hd0 : Itm.deep t = 0 := by rw [Itm.deep_eq, hl']; rfl
      rw [hd0]
      clear ih hkids hd hd0 hl hl'
      go_enter Try.func68, Try.ntmps68
      go_wp2_with fail
      go_ret
      exact ⟨rfl, (Below.refl _ _).alloc (Nat.le_refl _) _⟩
end Go.Proofs.Ytbmohenjphmlgaa
