/- Part 26 of a proof: what the last text needs. -/
import Derived.Test.YtbmohenjphmlgaaPart11
import Derived.Test.YtbmohenjphmlgaaPart25
import Derived.Test.YtbmohenjphmlgaaRows
import Derived.Test.YtbmohenjphmlgaaPart5
import Derived.ProofKit
import Derived.OpenShut
import Derived.ShutString
import Derived.ChangeOld
import Derived.Carry
import Derived.Deep.SlicePairs
/- The walk of the statement Roots. -/
namespace Go.Proofs.Ytbmohenjphmlgaa
open Go.RowKit
set_option maxRecDepth 100000

theorem handP_rd {w : World} {g : Nat} {l : List (ByteArray × ByteArray)} (h : w.heap[g]? = some (.cells (handP l).toArray 72 (0, 0))) : PRd w.heap.size w (some ⟨g, 0, none⟩) l := by
  intro i hi
  obtain ⟨h1, h2⟩ := handP_pair l i hi
  refine ⟨g, 0, rfl, (Array.getElem?_eq_some_iff.1 h).1, ?_, ?_⟩
  · rw [Nat.zero_add, list_getD_cell h, h1]
  · rw [Nat.zero_add, list_getD_cell h, h2]

set_option maxHeartbeats 3200000 in
theorem roots_any (a : Option Addr) (cap : Nat) (l : List (ByteArray × ByteArray)) (w : World) (hr : PRd w.heap.size w a l) (hl : l.length ≤ 4398046511104) :
    Calls Try.prog 5 #[.slice a l.length cap] w fun e w' => e = .returned (.bool true) ∧ Below w.heap.size w w' := by
  have HH := hid (handedPairs_any a cap l w hr hl)
  have HV := hid (fun a cap w h => root_any a cap l w h)
  have HU := hid (fun g w h1 h2 => untouchedPairs_any g a cap l w h1 h2 hl)
  have HRV := hid (fun w h => refRoot_any a cap l w h hl)
  have HR := hid hr
  have HNU := hid num_any
  clear hr
  go_enter Try.func5, Try.ntmps5
  go_wp2_with fail
  refine HH.out.mono ?_
  rintro e w1 ⟨rfl, hg1, b1⟩
  have HG1 := hid hg1
  have HB1 := hid b1
  clear hg1 b1 HH
  obtain ⟨V, N, hT⟩ : ∃ V N, Tr.root (lists l) = (V, N) := ⟨_, _, rfl⟩
  rw [hT] at HV HRV
  clear hT
  go_wp2_with fail
  refine (HV.out _ _ _ (handP_rd HG1.out)).mono ?_
  rintro e w2 ⟨rfl, b2⟩
  have hg : w.heap.size < w1.heap.size := (Array.getElem?_eq_some_iff.1 HG1.out).1
  have HG2 := hid ((b2.block _ hg).trans HG1.out)
  have HB2 : Hid (Below w.heap.size w w2) := HB1.out.trans (b2.mono HB1.out.size)
  clear b2
  go_wp2_with fail
  refine (HU.out _ _ HG2.out (HR.out.later HB2.out)).mono ?_
  rintro e w3 ⟨rfl, o3⟩
  have HB3 : Hid (Below w.heap.size w w3) := HB2.out.trans (o3.below HB2.out.size)
  clear o3
  go_wp2_with fail
  refine (HRV.out _ ((HR.out.later HB3.out).wider HB3.out.size)).mono ?_
  rintro e w4 ⟨rfl, b4⟩
  have HB4 : Hid (Below w.heap.size w w4) := HB3.out.trans (b4.mono HB3.out.size)
  clear b4
  go_wp2_with fail
  refine (HNU.out _ _).mono ?_
  rintro e w5 ⟨rfl, hw⟩
  obtain rfl := hw.symm
  clear hw
  go_wp2_with fail
  go_ret
  exact ⟨rfl, HB4.out⟩
end Go.Proofs.Ytbmohenjphmlgaa

/- A row of pairs that was handed in, opened. -/
namespace Go.Proofs.Ytbmohenjphmlgaa
open Go.ChangeShapes Go.WideShapes Go.ChangeAt Go.RowKit
set_option maxRecDepth 100000

theorem open_apairs {H : Type} {enc : TypeId × Value → H} {W : World} {r : Reach} {b0 : Nat} {sp : Nat → Bool} {v : Value} {d : DataW H} {ps : List MemPlace} (hval : Value.okWide Try.prog W r b0 47 v)
    (hd : DataW.Trod enc Try.prog W 0 sp true 47 v d ps) : ∃ a cap l, v = .slice a l.length cap ∧ PRd W.heap.size W a l ∧ l.length ≤ maxLen := by
  obtain ⟨a, len, cap, rfl⟩ := okWide_slice Try.underlying47 hval
  obtain ⟨fuel, hf⟩ := hd
  rcases Go.Deep.open_slice_pairs Try.underlying47 Try.underlying72 (by kernel_rfl) rfl rfl (by kernel_rfl) (by kernel_rfl) hf with ⟨h0, _⟩ | ⟨a', len', cap', m, n, V0, V1, D0, D1, P0, P1, h0, _, hl, hm, hmm, _, hc⟩
  · simp only [Value.cells, List.cons.injEq, and_true, Value.slice.injEq] at h0
    obtain ⟨rfl, rfl, rfl⟩ := h0
    exact ⟨none, 0, [], rfl, fun i hi => by simp at hi, Nat.zero_le _⟩
  · simp only [Value.cells, List.cons.injEq, and_true, Value.slice.injEq] at h0
    obtain ⟨rfl, rfl, rfl⟩ := h0
    have hlm : len ≤ m := by rw [hmm]; split <;> omega
    have str : ∀ i, i < len → ∃ s0 s1 : ByteArray, V0 i = .string s0 ∧ V1 i = .string s1 := by
      intro i hi
      obtain ⟨_, _, t0, t1⟩ := hc i (by omega)
      obtain ⟨s0, e0, _⟩ := DataW.trod_string Try.underlying9 t0
      obtain ⟨s1, e1, _⟩ := DataW.trod_string Try.underlying9 t1
      simp only [List.cons.injEq, and_true] at e0 e1
      exact ⟨s0, s1, e0, e1⟩
    let f : Nat → ByteArray × ByteArray := fun i => ((match V0 i with | .string s => s | _ => ⟨#[]⟩), (match V1 i with | .string s => s | _ => ⟨#[]⟩))
    refine ⟨some a', cap, (List.range len).map f, by rw [List.length_map, List.length_range], fun i hi => ?_, by rw [List.length_map, List.length_range]; omega⟩
    rw [List.length_map, List.length_range] at hi
    obtain ⟨c0, c1, _, _⟩ := hc i (by omega)
    obtain ⟨s0, s1, e0, e1⟩ := str i hi
    obtain ⟨b, off, spot⟩ := a'
    have hspot : spot = none := by simpa [Addr.add] using World.cell?_spot (hc 0 (by omega)).1
    subst hspot
    rw [Go.WideShapes.add_plain] at c0 c1
    refine ⟨b, off, rfl, World.block_lt_of_cell? W _ c0, ?_, ?_⟩
    · rw [c0, List.getElem_map, List.getElem_range]; simp only [f, e0]
    · rw [show off + i * 2 + 1 = off + (i * 2 + 1) by omega, c1, List.getElem_map, List.getElem_range]; simp only [f, e1]

end Go.Proofs.Ytbmohenjphmlgaa
