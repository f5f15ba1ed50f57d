/- Part 34 of a proof: what the last text needs. -/
import Derived.Test.YtbmohenjphmlgaaPart18
import Derived.Test.YtbmohenjphmlgaaPart32
import Derived.Test.YtbmohenjphmlgaaPart33
import Derived.Test.YtbmohenjphmlgaaRows
import Derived.Test.YtbmohenjphmlgaaPart14
import Derived.ProofKit
import Derived.OpenShut
import Derived.ShutString
import Derived.ChangeOld
import Derived.Carry
import Derived.Deep.SlicePairs
import Derived.Test.YtbmohenjphmlgaaPart15
import Derived.JoinedCond
import Derived.Lib.SmallJoins
import Derived.SliceStrings
/- The walk of the statement Proves. -/
namespace Go.Proofs.Ytbmohenjphmlgaa
open Go.RowKit
set_option maxRecDepth 100000

/-- What is proved of a key. -/
def plist (l : List (ByteArray × ByteArray)) (key : ByteArray) : List ByteArray := if tfault l key = 0 then (Tr.prove (lists l) key.data.toList).map toB else []

theorem plist_len (l : List (ByteArray × ByteArray)) (key : ByteArray) : (plist l key).length ≤ 1000 := by
  unfold plist
  split
  · rename_i hf
    obtain ⟨h1, h2, _, h4⟩ := fault_none hf
    have hkk := lists_ok h2 h4
    rw [List.length_map]
    exact Nat.le_trans (Tr.prove_len _ _ hkk.1 hkk.2) (by decide)
  · simp

/-- Both ways to prove a key. -/
def PvBoth (L : List ByteArray) (n : Nat) (w : World) (e : Ending) (w' : World) : Prop := ∃ a cap, e = .returned (.tuple #[.slice a L.length cap, .int .i64 (n : Int)]) ∧ TOwn w' w.heap.size (.slice a L.length cap) L ∧ Below w.heap.size w w'

theorem pvBoth_of {L : List ByteArray} {n : Nat} {w w' : World} {e : Ending} (h : ∃ r, e = .returned (.tuple #[r, .int .i64 (n : Nat)]) ∧ TOwn w' w.heap.size r L ∧ Below w.heap.size w w') : PvBoth L n w e w' := by
  obtain ⟨r, rfl, ho, hb⟩ := h
  obtain ⟨a, cap, rfl, _⟩ := town_shape ho
  exact ⟨a, cap, rfl, ho, hb⟩

set_option maxHeartbeats 6400000 in
theorem proves_any (W : World) (a : Option Addr) (cap : Nat) (l : List (ByteArray × ByteArray)) (ak : Option Addr) (ck : Nat) (ks : List ByteArray) (hr : PRd W.heap.size W a l) (hl : l.length ≤ 4398046511104) (hk : SRd W.heap.size W ak ks) (hn : ks.length ≤ 2000000) :
    Calls Try.prog 6 #[.slice a l.length cap, .slice ak ks.length ck] W fun e w' => e = .returned (.bool true) ∧ Below W.heap.size W w' := by
  have HR := hid hr
  have HK := hid hk
  have HN := hid hn
  have HH := hid (fun w h => handedPairs_any a cap l w h hl)
  have HU := hid (fun g w h1 h2 => untouchedPairs_any g a cap l w h1 h2 hl)
  have HP := hid (fun a cap key w h => (prove_any a cap l key w h).mono fun e w' h => pvBoth_of h)
  have HRP := hid (fun key w h => (refProve_any a cap l key w h hl).mono fun e w' h => pvBoth_of h)
  have HNU := hid num_any
  clear hr hk
  go_enter Try.func6, Try.ntmps6
  go_wp2_with fail
  go_loopw [6] (fun i wr => ∃ (j : Nat) (c : Nat → Nat) (it wi we : Value) (Q : Nat) (lw : List (List ByteArray)), i = .int .i64 j ∧ j ≤ ks.length ∧ Hid (FlT.RoundSt W W.heap.size j wr c it wi we Q lw)) (fun i _ => ks.length - (intOf i).toNat)
  case atStart => exact ⟨0, _, _, _, _, _, _, rfl, Nat.zero_le _, FlT.round_start W⟩
  case round =>
    obtain ⟨j, c, it, wi, we, Q, lw, rfl, hj, HS⟩ := hrel
    by_cases hlt : j < ks.length
    · obtain ⟨b, off, rfl, hb, hcell⟩ := HK.out j hlt
      have hx0 := (HS.out.old.cell (p := ⟨b, off + j, none⟩) hb).trans hcell
      have i1 : (0 : Int) ≤ (j : Int) := by omega
      have i2 : (j : Int) < (ks.length : Int) := by omega
      generalize ks[j] = key at hcell hx0
      have hbr : b < wr.heap.size := Nat.lt_of_lt_of_le hb HS.out.old.size
      obtain ⟨L, hLL⟩ : ∃ L, L = plist l key := ⟨_, rfl⟩
      have hLlen : L.length ≤ 1000 := by rw [hLL]; exact plist_len l key
      have HPk := hid (fun a cap w h => HP.out a cap key w h)
      have HRk := hid (fun w h => HRP.out key w h)
      have hpl : (if tfault l key = 0 then (Tr.prove (lists l) key.data.toList).map toB else []) = L := hLL.symm
      rw [hpl] at HPk HRk
      generalize tfault l key = N at *
      have HLL := hid hLlen
      clear hcell hLL hpl hLlen
      go_wp2_with fail
      refine (HH.out _ ((HR.out.later HS.out.old).wider HS.out.old.size)).mono ?_
      rintro e w1 ⟨rfl, hg1, b1⟩
      have HG1 := hid hg1
      have HB1 := hid b1
      have hb1 : b < w1.heap.size := Nat.lt_of_lt_of_le hbr b1.size
      have y1 := (b1.cell (p := ⟨b, off + j, none⟩) hbr).trans hx0
      have hgw : wr.heap.size < w1.heap.size := (Array.getElem?_eq_some_iff.1 hg1).1
      clear hg1 b1
      go_wp2_with fail
      refine (HPk.out _ _ _ (handP_rd HG1.out)).mono ?_
      rintro e w2 ⟨ax, cx, rfl, o2, b2⟩
      have HO2 := hid o2
      have HB2 : Hid (Below wr.heap.size wr w2) := HB1.out.trans (b2.mono HB1.out.size)
      have HBX2 := hid b2
      have HG2 := hid ((b2.block _ hgw).trans HG1.out)
      have hb2 : b < w2.heap.size := Nat.lt_of_lt_of_le hbr HB2.out.size
      have y2 := (HB2.out.cell (p := ⟨b, off + j, none⟩) hbr).trans hx0
      clear o2 b2 y1 hb1
      go_wp2_with fail
      refine (HPk.out _ _ _ (handP_rd HG2.out)).mono ?_
      rintro e w3 ⟨az, cz, rfl, o3, b3⟩
      have HO3 := hid o3
      have HBX3 := hid b3
      have HB3 : Hid (Below wr.heap.size wr w3) := HB2.out.trans (b3.mono HB2.out.size)
      have HG3 := hid ((b3.block _ (Nat.lt_of_lt_of_le hgw HBX2.out.size)).trans HG2.out)
      have HPR3 := hid (HR.out.later (HS.out.old.trans (HB3.out.mono HS.out.old.size)))
      clear o3 b3 y2 hb2
      go_wp2_with fail
      refine (HU.out _ _ HG3.out (HPR3.out.wider HS.out.old.size)).mono ?_
      rintro e w4 ⟨rfl, o4⟩
      have HON := hid o4
      have HB4 : Hid (Below wr.heap.size wr w4) := HB3.out.trans (o4.below HB3.out.size)
      have hb4 : b < w4.heap.size := Nat.lt_of_lt_of_le hbr HB4.out.size
      have y4 := (HB4.out.cell (p := ⟨b, off + j, none⟩) hbr).trans hx0
      have HOL4 : Hid (Below W.heap.size W w4) := HS.out.old.trans (HB4.out.mono HS.out.old.size)
      clear o4
      go_wp2_with fail
      refine (HRk.out _ ((HR.out.later HOL4.out).wider HOL4.out.size)).mono ?_
      rintro e w5 ⟨am, cm, rfl, o5, b5⟩
      have HO5 := hid o5
      have HBX5 := hid b5
      have HB5 : Hid (Below wr.heap.size wr w5) := HB4.out.trans (b5.mono HB4.out.size)
      have hs2 := HBX2.out.size
      have hs3 := HBX3.out.size
      have hs4 := HON.out.size
      have hs5 := b5.size
      have HX5 : Hid (TOwn w5 w1.heap.size (.slice ax L.length cx) L) := town_frame HO2.out (fun g hg => by
        have hg2 := town_lt HO2.out g hg
        rw [HBX5.out.block g (by omega), HON.out.block g (by omega) (.inr (by omega)), HBX3.out.block g hg2.2])
      have HZ5 : Hid (TOwn w5 w2.heap.size (.slice az L.length cz) L) := town_frame HO3.out (fun g hg => by
        have hg2 := town_lt HO3.out g hg
        rw [HBX5.out.block g (by omega), HON.out.block g hg2.2 (.inr (by omega))])
      have HXB : Hid (∀ g, (Value.slice ax L.length cx).ownBlock = some g → g < w2.heap.size) := fun g hg => (town_lt HO2.out g hg).2
      clear o5 b5 y4 hb4 HO2 HO3 HBX3 HON HG1 HG2 HG3 HPR3 HBX5
      have HSM := hid (FlT.same_any ax am cx cm L w5 (town_rd HX5.out) (town_rd HO5.out) (by have := HLL.out; omega))
      go_wp2_with fail
      refine HSM.out.mono ?_
      rintro e w6 ⟨rfl, b6⟩
      have HB6 := hid b6
      have HZ6 := hid (town_later HZ5.out b6)
      have HX6 := hid (town_later HX5.out b6)
      have HO6 := hid (town_later HO5.out b6)
      have HBR6 : Hid (Below wr.heap.size wr w6) := HB5.out.trans (b6.mono HB5.out.size)
      clear b6 HSM HX5 HZ5 HO5
      have HSM := hid (FlT.same_any az am cz cm L w6 (town_rd HZ6.out) (town_rd HO6.out) (by have := HLL.out; omega))
      go_wp2_with fail
      refine HSM.out.mono ?_
      rintro e w7 ⟨rfl, b7⟩
      have HBR7 : Hid (Below wr.heap.size wr w7) := HBR6.out.trans (b7.mono HBR6.out.size)
      have RM := hid (FlT.round_mid HS.out HBR7.out (by omega) (by omega) (town_later HX6.out b7) HXB.out (town_later HZ6.out b7))
      clear b7 HSM HX6 HZ6 HO6 HB6 HBR6 HBR7 HXB HB5 HB4 HB3 HB2 HB1 HOL4 HS
      go_wp2_with fail
      refine (RM.out.keepX HLL.out).mono ?_
      rintro e w8 hk
      obtain ⟨rfl, c6, k4, hcall⟩ := RM.out.keepZ HLL.out hk
      have HK4 := hid k4
      have HCALL := hid hcall
      clear hk k4 hcall
      go_wp2_with fail
      refine HCALL.out.mono ?_
      rintro e w9 hk2
      obtain ⟨rfl, hlook⟩ := RM.out.looks HLL.out (by have := HN.out; omega) HK4.out hk2
      have HLK := hid hlook
      clear hk2 hlook HCALL
      go_wp2_with fail
      refine HLK.out.mono ?_
      rintro e w10 ⟨rfl, c8, it8, wi8, we8, Q8, l8, hR⟩
      have HR8 := hid hR
      clear hR HLK RM HK4
      go_wp2_with fail
      refine (HNU.out _ _).mono ?_
      rintro e w11 ⟨rfl, hw⟩
      obtain rfl := hw.symm
      clear hw
      go_wp2_with fail
      refine (HNU.out _ _).mono ?_
      rintro e w12 ⟨rfl, hw⟩
      obtain rfl := hw.symm
      clear hw
      go_wp2_with fail
      exact ⟨⟨j + 1, c8, it8, wi8, we8, Q8, l8, by go_num, by omega, HR8.out⟩, by simp [intOf]; omega⟩
    · have hlt' : ¬ (j : Int) < (ks.length : Int) := by omega
      have HE := hid (HS.out.ends (by have := HN.out; omega))
      clear HS
      go_wp2_with fail
      refine HE.out.mono ?_
      rintro e w' ⟨rfl, hbel⟩
      go_wp2_with fail
      go_ret
      exact ⟨rfl, hbel⟩
end Go.Proofs.Ytbmohenjphmlgaa

/- A row of pairs that was handed in, opened. -/
namespace Go.Proofs.Ytbmohenjphmlgaa
open Go.ChangeShapes Go.WideShapes Go.ChangeAt Go.RowKit
set_option maxRecDepth 100000

theorem open_apairs {H : Type} {enc : TypeId × Value → H} {W : World} {r : Reach} {b0 : Nat} {sp : Nat → Bool} {v : Value} {d : DataW H} {ps : List MemPlace} (hval : Value.okWide Try.prog W r b0 47 v)
    (hd : DataW.Trod enc Try.prog W 0 sp true 47 v d ps) : ∃ a cap l, v = .slice a l.length cap ∧ PRd W.heap.size W a l ∧ l.length ≤ maxLen := by
  obtain ⟨a, len, cap, rfl⟩ := okWide_slice Try.underlying47 hval
  obtain ⟨fuel, hf⟩ := hd
  rcases Go.Deep.open_slice_pairs Try.underlying47 Try.underlying72 (by kernel_rfl) rfl rfl (by kernel_rfl) (by kernel_rfl) hf with ⟨h0, _⟩ | ⟨a', len', cap', m, n, V0, V1, D0, D1, P0, P1, h0, _, hl, hm, hmm, _, hc⟩
  · simp only [Value.cells, List.cons.injEq, and_true, Value.slice.injEq] at h0
    obtain ⟨rfl, rfl, rfl⟩ := h0
    exact ⟨none, 0, [], rfl, fun i hi => by simp at hi, Nat.zero_le _⟩
  · simp only [Value.cells, List.cons.injEq, and_true, Value.slice.injEq] at h0
    obtain ⟨rfl, rfl, rfl⟩ := h0
    have hlm : len ≤ m := by rw [hmm]; split <;> omega
    have str : ∀ i, i < len → ∃ s0 s1 : ByteArray, V0 i = .string s0 ∧ V1 i = .string s1 := by
      intro i hi
      obtain ⟨_, _, t0, t1⟩ := hc i (by omega)
      obtain ⟨s0, e0, _⟩ := DataW.trod_string Try.underlying9 t0
      obtain ⟨s1, e1, _⟩ := DataW.trod_string Try.underlying9 t1
      simp only [List.cons.injEq, and_true] at e0 e1
      exact ⟨s0, s1, e0, e1⟩
    let f : Nat → ByteArray × ByteArray := fun i => ((match V0 i with | .string s => s | _ => ⟨#[]⟩), (match V1 i with | .string s => s | _ => ⟨#[]⟩))
    refine ⟨some a', cap, (List.range len).map f, by rw [List.length_map, List.length_range], fun i hi => ?_, by rw [List.length_map, List.length_range]; omega⟩
    rw [List.length_map, List.length_range] at hi
    obtain ⟨c0, c1, _, _⟩ := hc i (by omega)
    obtain ⟨s0, s1, e0, e1⟩ := str i hi
    obtain ⟨b, off, spot⟩ := a'
    have hspot : spot = none := by simpa [Addr.add] using World.cell?_spot (hc 0 (by omega)).1
    subst hspot
    rw [Go.WideShapes.add_plain] at c0 c1
    refine ⟨b, off, rfl, World.block_lt_of_cell? W _ c0, ?_, ?_⟩
    · rw [c0, List.getElem_map, List.getElem_range]; simp only [f, e0]
    · rw [show off + i * 2 + 1 = off + (i * 2 + 1) by omega, c1, List.getElem_map, List.getElem_range]; simp only [f, e1]

end Go.Proofs.Ytbmohenjphmlgaa

/- A row of texts that was handed in, opened; it is no longer than its bulk. -/
namespace Go.Proofs.Ytbmohenjphmlgaa
open Go.RowKit
open Go.ChangeShapes Go.WideShapes Go.ChangeAt Go.Joins
set_option maxRecDepth 100000

theorem cellsText : Try.prog.cellsOf 9 = 1 := by kernel_rfl

theorem spot_plain {W : World} {a : Addr} {c : Value} (h : W.cell? a = some c) : a.spot = none := World.cell?_spot h

theorem bulk_texts {Hd : Type} : ∀ l : List ByteArray, l.length ≤ Rows.uptoBulkAll (strs (H := Hd) l) := by
  intro l
  induction l with
  | nil => simp
  | cons x l ih =>
    simp only [strs, List.map_cons, Rows.uptoBulkAll, Rows.uptoBulk, List.length_cons]
    simp only [strs] at ih
    omega

theorem open_texts {Hd : Type} {enc : TypeId × Value → Hd} {W : World} {r : Reach} {b0 : Nat} {sp : Nat → Bool} {v : Value} {d : DataW Hd} {ps : List MemPlace} (hval : Value.okWide Try.prog W r b0 34 v)
    (hd : DataW.Trod enc Try.prog W 0 sp true 34 v d ps) : ∃ a cap ss, v = .slice a ss.length cap ∧ SRd W.heap.size W a ss ∧ (a = none → ss.length = 0) ∧ ss.length ≤ Rows.uptoBulk d ∧ (ss = [] ∨ ∃ e s, d = .slice e s ∧ e.length = ss.length) := by
  obtain ⟨a0, len, cap, rfl⟩ := okWide_slice Try.underlying34 hval
  obtain ⟨fuel, hf⟩ := hd
  rcases open_strings Try.underlying34 Try.underlying9 cellsText hf with ⟨hcs, hx⟩ | ⟨a, len', cap', ss, hcs, _, hl, hm, hz, hx, hcell, hsz⟩
  · simp [Value.cells] at hcs
    obtain ⟨rfl, rfl, rfl⟩ := hcs
    exact ⟨none, 0, [], rfl, fun i h => (by simp at h), fun _ => rfl, Nat.zero_le _, .inl rfl⟩
  · simp [Value.cells] at hcs
    obtain ⟨rfl, rfl, rfl⟩ := hcs
    have hlen : len ≤ ss.length := by rw [hz]; split <;> omega
    have hlt : (ss.take len).length = len := by simp; omega
    refine ⟨some a, cap, ss.take len, by rw [hlt], ?_, (fun h => by cases h), ?_, .inr ⟨_, _, congrArg Prod.fst hx, by simp [strs]⟩⟩
    · intro i hi
      have hi' : i < len := by omega
      have hc := hcell i (by omega)
      have hsp := spot_plain (hcell 0 (by omega))
      obtain ⟨ab, ao, asp⟩ := a
      simp [Addr.add] at hsp
      subst hsp
      rw [Go.WideShapes.add_plain] at hc
      refine ⟨ab, ao, rfl, World.block_lt_of_cell? W _ hc, ?_⟩
      rw [hc, List.getElem_take]
      simp [List.getD_eq_getElem?_getD, List.getElem?_eq_getElem (show i < ss.length by omega)]
    · have h1 : d = .slice (strs (ss.take len)) (strs (ss.drop len)) := congrArg Prod.fst hx
      subst h1
      simp only [Rows.uptoBulk]
      have h3 := bulk_texts (Hd := Hd) (ss.take len)
      omega
end Go.Proofs.Ytbmohenjphmlgaa
