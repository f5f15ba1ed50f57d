/- Part 17 of a proof: what the last text needs. -/
import Derived.Test.YtbmohenjphmlgabGreatPart9
import Derived.Test.YtbmohenjphmlgabGreatPart11
import Derived.Test.YtbmohenjphmlgabGreatPart16
/- The walk of buildBranch (of the program), once build of what is behind each digit is known. -/
namespace Go.Proofs.YtbmohenjphmlgabGreat
open Go.RowKit
set_option maxRecDepth 100000

/-- build answers with the tree of these pairs. -/
def BuildOk (f : Nat) : Prop := ∀ (w : World) (a : Option Addr) (cap : Nat) (l : List (ByteArray × ByteArray)), PRd w.heap.size w a l → l.length ≤ 1000 → Tr.Fits f (ents l) → Tr.Apart (ents l) →
  Calls Tryz.prog 40 #[.slice a l.length cap] w fun e w' => ∃ v, e = .returned v ∧ BT w.heap.size w' f v (ents l) ∧ Below w.heap.size w w'

def BranchOk (f : Nat) : Prop := ∀ (w : World) (a : Option Addr) (cap : Nat) (l : List (ByteArray × ByteArray)), PRd w.heap.size w a l → l.length ≤ 1000 → Tr.Fits f (ents l) → Tr.Apart (ents l) → Tr.Forks (ents l) →
  Calls Tryz.prog 66 #[.slice a l.length cap] w fun e w' => ∃ a2 c2 cs x, e = .returned (.agg (branchCells a2 c2 cs x)) ∧ BT w.heap.size w' f (branchV a2 c2 cs x) (ents l) ∧ Below w.heap.size w w'

/-- The row of references, of which the first k are there. -/
def RefsTo (lo : Nat) (w : World) (f : Nat) (l : List Tr.Ent) (k : Nat) (cs : Array Value) : Prop :=
  cs.size = 32 ∧ ∀ d, d < k → ∃ vd, cs[2 * d]? = some (.string (refSum (Tr.node f (Tr.behind [UInt8.ofNat d] l)))) ∧ cs[2 * d + 1]? = some vd ∧ BT lo w f vd (Tr.behind [UInt8.ofNat d] l)

def refsZero : Array Value := #[.string ⟨#[]⟩, .nilIface, .string ⟨#[]⟩, .nilIface, .string ⟨#[]⟩, .nilIface, .string ⟨#[]⟩, .nilIface, .string ⟨#[]⟩, .nilIface, .string ⟨#[]⟩, .nilIface, .string ⟨#[]⟩, .nilIface, .string ⟨#[]⟩, .nilIface, .string ⟨#[]⟩, .nilIface, .string ⟨#[]⟩, .nilIface, .string ⟨#[]⟩, .nilIface, .string ⟨#[]⟩, .nilIface, .string ⟨#[]⟩, .nilIface, .string ⟨#[]⟩, .nilIface, .string ⟨#[]⟩, .nilIface, .string ⟨#[]⟩, .nilIface]

theorem refsTo_zero (lo : Nat) (w : World) (f : Nat) (l : List Tr.Ent) : RefsTo lo w f l 0 refsZero := ⟨rfl, fun d hd => by omega⟩

/-- One reference more. -/
theorem refsTo_succ {lo : Nat} {w w' : World} {f : Nat} {l : List Tr.Ent} {k : Nat} {cs : Array Value} {T : TypeId} {A : Array Value} (h : RefsTo lo w f l k cs) (hk : k < 16) (hs : w.heap.size ≤ w'.heap.size) (hb : ∀ k, lo ≤ k → k < w.heap.size → w'.heap[k]? = w.heap[k]?)
    (hv : BT lo w' f (.iface T (.agg A)) (Tr.behind [UInt8.ofNat k] l)) : RefsTo lo w' f l (k + 1) ((cs.setIfInBounds (k * 2) (.string (refSum (Tr.node f (Tr.behind [UInt8.ofNat k] l))))).setIfInBounds (k * 2 + 1) (.iface T (.agg A))) := by
  obtain ⟨h1, h3⟩ := h
  refine ⟨by simp [h1], ?_⟩
  intro d hd
  by_cases e : d = k
  · subst e
    refine ⟨_, ?_, ?_, hv⟩
    · rw [Array.getElem?_setIfInBounds, if_neg (by omega), Array.getElem?_setIfInBounds, if_pos (by omega), if_pos (by omega)]
    · rw [Array.getElem?_setIfInBounds, if_pos (by omega), if_pos (by simp; omega)]
  · obtain ⟨vd, g1, g2, g3⟩ := h3 d (by omega)
    refine ⟨vd, ?_, ?_, bt_turn (Nat.le_refl _) hs hb _ _ _ g3⟩
    · rw [Array.getElem?_setIfInBounds, if_neg (by omega), Array.getElem?_setIfInBounds, if_neg (by omega)]; exact g1
    · rw [Array.getElem?_setIfInBounds, if_neg (by omega), Array.getElem?_setIfInBounds, if_neg (by omega)]; exact g2

theorem two_set_at {W : World} {g i : Nat} {cs : Array Value} {a b : Value} {e : TypeId} {fz : Nat × Nat} (h : W.heap[g]? = some (.cells cs e fz)) : ((W.setCell ⟨g, i, none⟩ a).setCell ⟨g, i + 1, none⟩ b).heap[g]? = some (.cells ((cs.setIfInBounds i a).setIfInBounds (i + 1) b) e fz) := by
  simp [World.setCell, Array.getElem?_modify, h]

theorem two_set_other {W : World} {g i k : Nat} {a b : Value} (h : k ≠ g) : ((W.setCell ⟨g, i, none⟩ a).setCell ⟨g, i + 1, none⟩ b).heap[k]? = W.heap[k]? := by
  simp [World.setCell, Array.getElem?_modify, Ne.symm h]

/-- What stands while the references are made. -/
structure Mid (w : World) (f : Nat) (l : List Tr.Ent) (k : Nat) (wr : World) (cs : Array Value) : Prop where
  below : Below w.heap.size w wr
  res : wr.heap[w.heap.size]? = some (.cells branchZero 112 (0, 0))
  row : wr.heap[w.heap.size + 1]? = some (.cells cs 110 (0, 0))
  refs : RefsTo (w.heap.size + 1 + 1) wr f l k cs

theorem mid_start {w : World} {f : Nat} {l : List Tr.Ent} : Mid w f l 0 ((w.alloc (.cells branchZero 112)).alloc (.cells refsZero 110)) refsZero :=
  ⟨((Below.refl _ _).alloc (Nat.le_refl _) _).alloc (by rw [alloc_size]; omega) _, (Below.heap_alloc _ _ _ (by rw [alloc_size]; omega)).trans (heap_alloc_new w _), by
    have := heap_alloc_new (w.alloc (.cells branchZero 112)) (.cells refsZero 110)
    rwa [alloc_size] at this, refsTo_zero _ _ _ _⟩

theorem mid_next {w wr w5 : World} {f k : Nat} {l : List Tr.Ent} {cs A : Array Value} {T : TypeId} (h : Mid w f l k wr cs) (hk : k < 16) (hb : Below wr.heap.size wr w5) (hv : BT (w.heap.size + 1 + 1) w5 f (.iface T (.agg A)) (Tr.behind [UInt8.ofNat k] l)) :
    ∃ cs', Mid w f l (k + 1) ((w5.setCell ⟨w.heap.size + 1, k * 2, none⟩ (.string (refSum (Tr.node f (Tr.behind [UInt8.ofNat k] l))))).setCell ⟨w.heap.size + 1, k * 2 + 1, none⟩ (.iface T (.agg A))) cs' := by
  have r5 := (hb.block _ (Array.getElem?_eq_some_iff.1 h.row).1).trans h.row
  have z5 := (hb.block _ (Array.getElem?_eq_some_iff.1 h.res).1).trans h.res
  have hsz : ((w5.setCell ⟨w.heap.size + 1, k * 2, none⟩ (.string (refSum (Tr.node f (Tr.behind [UInt8.ofNat k] l))))).setCell ⟨w.heap.size + 1, k * 2 + 1, none⟩ (.iface T (.agg A))).heap.size = w5.heap.size := by simp [World.setCell]
  refine ⟨_, ⟨?_, ?_, two_set_at r5, refsTo_succ h.refs hk (by rw [hsz]; exact hb.size) (fun j hj hj2 => ?_) (bt_turn (Nat.le_refl _) (by rw [hsz]; exact Nat.le_refl _) (fun j hj _ => two_set_other (by omega)) _ _ _ hv)⟩⟩
  · exact ((h.below.trans (hb.mono h.below.size)).setCell (p := ⟨w.heap.size + 1, k * 2, none⟩) (Nat.le_succ _) _).setCell (p := ⟨w.heap.size + 1, k * 2 + 1, none⟩) (Nat.le_succ _) _
  · rw [two_set_other (by omega)]; exact z5
  · rw [two_set_other (by omega)]; exact hb.block j hj2

theorem Mid.later {w wr w' : World} {f k : Nat} {l : List Tr.Ent} {cs : Array Value} (h : Mid w f l k wr cs) (hb : Below wr.heap.size wr w') : Mid w f l k w' cs :=
  ⟨h.below.trans (hb.mono h.below.size), (hb.block _ (Array.getElem?_eq_some_iff.1 h.res).1).trans h.res, (hb.block _ (Array.getElem?_eq_some_iff.1 h.row).1).trans h.row, h.refs.1, fun d hd => by
    obtain ⟨vd, g1, g2, g3⟩ := h.refs.2 d hd
    exact ⟨vd, g1, g2, bt_later g3 hb⟩⟩

theorem valOf_take (l : List (ByteArray × ByteArray)) (k : Nat) (h : k < l.length) : Tr.valOf (ents (l.take (k + 1))) = if l[k].1.data.toList = [] then l[k].2.data.toList else Tr.valOf (ents (l.take k)) := by
  unfold ents Tr.valOf
  rw [List.take_succ_eq_append_getElem h, List.map_append, List.foldl_append]
  rfl

theorem mid_refs {w wr : World} {f : Nat} {l : List Tr.Ent} {cs : Array Value} (h : Mid w f l 16 wr cs) : Refs (w.heap.size + 1 + 1) wr (f + 1) cs ((List.range 16).map fun d => Tr.node f (Tr.behind [UInt8.ofNat d] l)) := by
  refine ⟨h.refs.1, by simp, fun d hd => ?_⟩
  have hd16 : d < 16 := by simpa using hd
  obtain ⟨vd, g1, g2, g3⟩ := h.refs.2 d hd16
  obtain ⟨k, l0, s, a, n, cap, hn, hr⟩ := bt_nd g3
  refine ⟨vd, k, l0, s, a, n, cap, ?_, g2, hn, ?_⟩
  · simpa using g1
  · simpa using hr

/-- What comes out. -/
theorem mid_end {w wr w5 : World} {f : Nat} {l : List Tr.Ent} {cs BB : Array Value} {a2 : Option Addr} {c2 : Nat} {x : ByteArray} (h : Mid w f l 16 wr cs) (hfk : Tr.Forks l) (hx : x.data.toList = Tr.valOf l) (hb : Below wr.heap.size wr w5)
    (hr : RepW (w.heap.size + 1 + 1) w5.heap.size w5 (f + 1 + 2) (.agg #[.bool true, .string ⟨#[]⟩, .slice a2 17 c2]) (Tr.itL (((List.range 16).map fun d => Tr.node f (Tr.behind [UInt8.ofNat d] l)).map Tr.ref ++ [Tr.itB x.data.toList]))) :
    BT w.heap.size (w5.setRow w.heap.size BB) (f + 1) (branchV a2 c2 cs x) l ∧ Below w.heap.size w (w5.setRow w.heap.size BB) := by
  have hsz : (w5.setRow w.heap.size BB).heap.size = w5.heap.size := by simp [World.setRow]
  have hn : Tr.node (f + 1) l = Tr.itL (((List.range 16).map fun d => Tr.node f (Tr.behind [UInt8.ofNat d] l)).map Tr.ref ++ [Tr.itB x.data.toList]) := by
    rw [Tr.node_fork f hfk, hx, List.map_map]; rfl
  refine ⟨.inr (.inr (.inr ⟨hfk, a2, c2, cs, x, rfl, h.refs.1, hx, ?_, fun d hd => ?_⟩)), setRow_below (h.below.trans (hb.mono h.below.size)) (Nat.le_refl _)⟩
  · rw [hn]
    exact repW_turn (by omega) (by rw [hsz]; exact Nat.le_refl _) (fun j hj _ => setRow_other _ _ _ _ (by omega)) _ _ _ hr
  · obtain ⟨vd, g1, g2, g3⟩ := h.refs.2 d hd
    exact ⟨vd, g1, g2, bt_turn (by omega) (by rw [hsz]; exact hb.size) (fun j hj hj2 => by rw [setRow_other _ _ _ _ (by omega)]; exact hb.block j hj2) _ _ _ g3⟩

set_option maxHeartbeats 6400000 in
theorem branch_ok (f : Nat) (hf : f ≤ 50) (hP : BuildOk f) : BranchOk (f + 1) := by
  intro w a cap l hr hl hfit hap hfk
  have HR := hid hr
  have HPF := hid hP
  have HOD := hid (fun n w h => oneDigit_any n w h)
  have HBH := hid (fun p a cap l w h1 h2 => behindP_any p a cap l w h1 h2)
  have HFIT := hid hfit
  have HAP := hid hap
  have HFK := hid hfk
  clear hr hP hfit hap hfk
  go_enter Tryz.func66, Tryz.ntmps66
  go_upto_region 2 with fail
  have HM0 : Hid (Mid w f (ents l) 0 ((w.alloc (.cells #[.int .i64 0, .bool false, .string ⟨#[]⟩, .slice none 0 0, .string ⟨#[]⟩, .nilIface, .string ⟨#[]⟩, .nilIface, .string ⟨#[]⟩, .nilIface, .string ⟨#[]⟩, .nilIface, .string ⟨#[]⟩, .nilIface, .string ⟨#[]⟩, .nilIface, .string ⟨#[]⟩, .nilIface, .string ⟨#[]⟩, .nilIface, .string ⟨#[]⟩, .nilIface, .string ⟨#[]⟩, .nilIface, .string ⟨#[]⟩, .nilIface, .string ⟨#[]⟩, .nilIface, .string ⟨#[]⟩, .nilIface, .string ⟨#[]⟩, .nilIface, .string ⟨#[]⟩, .nilIface, .string ⟨#[]⟩, .nilIface, .string ⟨#[]⟩] 112)).alloc (.cells #[.string ⟨#[]⟩, .nilIface, .string ⟨#[]⟩, .nilIface, .string ⟨#[]⟩, .nilIface, .string ⟨#[]⟩, .nilIface, .string ⟨#[]⟩, .nilIface, .string ⟨#[]⟩, .nilIface, .string ⟨#[]⟩, .nilIface, .string ⟨#[]⟩, .nilIface, .string ⟨#[]⟩, .nilIface, .string ⟨#[]⟩, .nilIface, .string ⟨#[]⟩, .nilIface, .string ⟨#[]⟩, .nilIface, .string ⟨#[]⟩, .nilIface, .string ⟨#[]⟩, .nilIface, .string ⟨#[]⟩, .nilIface, .string ⟨#[]⟩, .nilIface] 110)) refsZero) := mid_start
  generalize (w.alloc (.cells #[.int .i64 0, .bool false, .string ⟨#[]⟩, .slice none 0 0, .string ⟨#[]⟩, .nilIface, .string ⟨#[]⟩, .nilIface, .string ⟨#[]⟩, .nilIface, .string ⟨#[]⟩, .nilIface, .string ⟨#[]⟩, .nilIface, .string ⟨#[]⟩, .nilIface, .string ⟨#[]⟩, .nilIface, .string ⟨#[]⟩, .nilIface, .string ⟨#[]⟩, .nilIface, .string ⟨#[]⟩, .nilIface, .string ⟨#[]⟩, .nilIface, .string ⟨#[]⟩, .nilIface, .string ⟨#[]⟩, .nilIface, .string ⟨#[]⟩, .nilIface, .string ⟨#[]⟩, .nilIface, .string ⟨#[]⟩, .nilIface, .string ⟨#[]⟩] 112)).alloc (.cells #[.string ⟨#[]⟩, .nilIface, .string ⟨#[]⟩, .nilIface, .string ⟨#[]⟩, .nilIface, .string ⟨#[]⟩, .nilIface, .string ⟨#[]⟩, .nilIface, .string ⟨#[]⟩, .nilIface, .string ⟨#[]⟩, .nilIface, .string ⟨#[]⟩, .nilIface, .string ⟨#[]⟩, .nilIface, .string ⟨#[]⟩, .nilIface, .string ⟨#[]⟩, .nilIface, .string ⟨#[]⟩, .nilIface, .string ⟨#[]⟩, .nilIface, .string ⟨#[]⟩, .nilIface, .string ⟨#[]⟩, .nilIface, .string ⟨#[]⟩, .nilIface] 110) = W at *
  go_wp2_with fail
  go_loopw [8] (fun i wr => ∃ k : Nat, i = .int .i64 k ∧ k ≤ 16 ∧ Hid (∃ cs, Mid w f (ents l) k wr cs)) (fun i _ => 16 - (intOf i).toNat)
  case atStart => exact ⟨0, rfl, Nat.zero_le _, _, HM0.out⟩
  case round =>
    obtain ⟨k, rfl, hk, HH⟩ := hrel
    by_cases hlt : k < 16
    · have i1 : (0 : Int) ≤ (k : Int) := by omega
      have i2 : (k : Int) < 16 := by omega
      go_wp2_with fail
      refine (HOD.out _ _ (by omega)).mono ?_
      rintro e w1 ⟨rfl, b1⟩
      have HB1 := hid b1
      clear b1
      go_wp2_with fail
      have HB1W : Hid (Below w.heap.size w w1) := HH.out.elim fun _ h => h.below.trans (HB1.out.mono h.below.size)
      refine (HBH.out _ _ _ _ _ ((HR.out.later HB1W.out).wider HB1W.out.size) (by omega)).mono ?_
      rintro e w2 ⟨v2, rfl, o2, b2⟩
      obtain ⟨a2, c2, hv2, p2⟩ := prd_of_pown o2
      subst hv2
      have HP2 := hid p2
      have HB2 : Hid (Below wr.heap.size wr w2) := HB1.out.trans (b2.mono HB1.out.size)
      have HE2 : Hid (ents (behindB ⟨#[UInt8.ofNat k]⟩ l) = Tr.behind [UInt8.ofNat k] (ents l)) := behindB_ents _ _
      have HL2 : Hid ((behindB ⟨#[UInt8.ofNat k]⟩ l).length ≤ 1000) := Nat.le_trans (behindB_le _ _) hl
      clear b2 o2 p2
      generalize behindB ⟨#[UInt8.ofNat k]⟩ l = lk at *
      go_wp2_with fail
      refine (HPF.out _ _ _ _ HP2.out HL2.out (by rw [HE2.out]; exact HFIT.out.behind (by simp)) (by rw [HE2.out]; exact HAP.out.behind)).mono ?_
      rintro e w3 ⟨v3, rfl, t3, b3⟩
      have HB3 : Hid (Below wr.heap.size wr w3) := HB2.out.trans (b3.mono HB2.out.size)
      rw [HE2.out] at t3
      have HT3 : Hid (BT (w.heap.size + 1 + 1) w3 f v3 (Tr.behind [UInt8.ofNat k] (ents l))) := bt_low t3 (by obtain ⟨_, hmid⟩ := HH.out; have := (Array.getElem?_eq_some_iff.1 hmid.row).1; have := HB2.out.size; omega)
      obtain ⟨kk, l0, s0, aa, nn, cc, hnd, hrep⟩ := bt_nd t3
      have HRT := hid (referenceTo_any w3 hnd (node_small f _ (by omega) (HFIT.out.behind (s := [UInt8.ofNat k]) (by simp))) (repW_rep _ _ _ hrep))
      obtain ⟨T, A, _, rfl, _⟩ := hnd
      clear t3 b3 hrep
      go_wp2_with fail
      refine HRT.out.mono ?_
      rintro e w4 ⟨rfl, b4⟩
      have HB4 : Hid (Below wr.heap.size wr w4) := HB3.out.trans (b4.mono HB3.out.size)
      have HT4 : Hid (BT (w.heap.size + 1 + 1) w4 f (.iface T (.agg A)) (Tr.behind [UInt8.ofNat k] (ents l))) := bt_later HT3.out b4
      obtain ⟨cs, hmid⟩ := HH.out
      have HRW : Hid (w4.heap[w.heap.size + 1]? = some (.cells cs 110 (0, 0))) := (HB4.out.block _ (Array.getElem?_eq_some_iff.1 hmid.row).1).trans hmid.row
      obtain ⟨u0, hu0⟩ : ∃ u, cs[k * 2]? = some u := ⟨_, Array.getElem?_eq_getElem (by rw [hmid.refs.1]; omega)⟩
      obtain ⟨u1, hu1⟩ : ∃ u, cs[k * 2 + 1]? = some u := ⟨_, Array.getElem?_eq_getElem (by rw [hmid.refs.1]; omega)⟩
      have q0 := (cell_of_row _ _ (k * 2) _ _ _ HRW.out).trans hu0
      have q1 := (cell_of_row _ _ (k * 2 + 1) _ _ _ HRW.out).trans hu1
      have f0 := frozen_of_row _ _ (k * 2) _ _ HRW.out
      have f1 := frozen_of_row _ _ (k * 2 + 1) _ _ HRW.out
      have HN := hid (mid_next hmid hlt HB4.out HT4.out)
      clear b4 hmid hu0 hu1
      generalize refSum (Tr.node f (Tr.behind [UInt8.ofNat k] (ents l))) = sk at *
      go_wp2_with fail
      exact ⟨⟨k + 1, by go_num, by omega, HN.out⟩, by simp [intOf]; omega⟩
    · have i2 : ¬ (k : Int) < 16 := by omega
      obtain rfl : k = 16 := by omega
      obtain ⟨cs, hmid⟩ := HH.out
      have HMD := hid hmid
      clear HH hmid hk hlt
      go_wp2_with fail
      go_loopw [5, 22] (fun v i wx => ∃ (m : Nat) (x : ByteArray), v = .string x ∧ i = .int .i64 m ∧ m ≤ l.length ∧ Hid (x.data.toList = Tr.valOf (ents (l.take m)) ∧ Mid w f (ents l) 16 wx cs)) (fun _ i _ => l.length - (intOf i).toNat)
      case atStart => exact ⟨0, ⟨#[]⟩, rfl, rfl, Nat.zero_le _, rfl, HMD.out⟩
      case round =>
        obtain ⟨m, x, rfl, rfl, hm, HV⟩ := hrel
        by_cases hlt : m < l.length
        · obtain ⟨b, off, rfl, hb, e0, e1⟩ := HR.out m hlt
          have g0 := (HV.out.2.below.cell (p := ⟨b, off + m * 2, none⟩) hb).trans e0
          have g1 := (HV.out.2.below.cell (p := ⟨b, off + m * 2 + 1, none⟩) hb).trans e1
          have j1 : (0 : Int) ≤ (m : Int) := by omega
          have j2 : (m : Int) < (l.length : Int) := by omega
          have HVT := hid (valOf_take l m hlt)
          clear e0 e1
          by_cases hz : l[m].1.data.toList = []
          · have hz' : (l[m].1.toList == []) = true := by rw [ByteArray.toList_eq, hz]; rfl
            have HX : Hid (l[m].2.data.toList = Tr.valOf (ents (l.take (m + 1)))) := by rw [Hid, HVT.out, if_pos hz]
            clear hz
            go_wp2_with fail
            exact ⟨⟨m + 1, _, rfl, by go_num, by omega, HX.out, HV.out.2.later ((Below.refl _ _).alloc (Nat.le_refl _) _)⟩, by simp [intOf]; omega⟩
          · have hz' : (l[m].1.toList == []) = false := by rw [ByteArray.toList_eq, beq_eq_false_iff_ne]; exact hz
            have HX : Hid (x.data.toList = Tr.valOf (ents (l.take (m + 1)))) := by rw [Hid, HVT.out, if_neg hz]; exact HV.out.1
            clear hz
            go_wp2_with fail
            exact ⟨⟨m + 1, _, rfl, by go_num, by omega, HX.out, HV.out.2.later ((Below.refl _ _).alloc (Nat.le_refl _) _)⟩, by simp [intOf]; omega⟩
        · have j2 : ¬ (m : Int) < (l.length : Int) := by omega
          have HX : Hid (x.data.toList = Tr.valOf (ents l)) := by
            have := HV.out.1
            rwa [List.take_of_length_le (by omega)] at this
          have HM2 := hid HV.out.2
          clear HV hm
          go_upto_region 14 with fail
          refine wp_region_list ?_
          refine wpList_load_row rfl 110 (.tmp 3) rfl (w.heap.size + 1) rfl 110 cs (0, 0) _ HM2.out.row Tryz.underlying110 rfl (by rw [HM2.out.refs.1]; kernel_rfl) ?_
          try simp only [Act.put]
          go_wp2_with fail
          have HNB := hid (newBranch_any cs x _ (f + 1) (w.heap.size + 1 + 1) _ (by have := (Array.getElem?_eq_some_iff.1 HM2.out.row).1; omega) (mid_refs HM2.out))
          refine HNB.out.mono ?_
          rintro e w5 ⟨a2, c2, rfl, r5, b5⟩
          have HSZ := hid (branchCells_size a2 c2 cs x HM2.out.refs.1)
          have HONE := hid (branchCells_one a2 c2 cs x (refs_one (mid_refs HM2.out)))
          have HZ5 : Hid (w5.heap[w.heap.size]? = some (.cells branchZero 112 (0, 0))) := (b5.block _ (Array.getElem?_eq_some_iff.1 HM2.out.res).1).trans HM2.out.res
          have HE := hid (mid_end (BB := branchCells a2 c2 cs x) HM2.out HFK.out HX.out b5 r5)
          have HGE : Hid ((w5.setRow w.heap.size (branchCells a2 c2 cs x)).heap[w.heap.size]? = some (.cells (branchCells a2 c2 cs x) 112 (0, 0))) := setRow_heap _ _ _ _ _ _ HZ5.out
          clear b5 r5 HNB
          have HBV : Hid (branchV a2 c2 cs x = branchV a2 c2 cs x) := rfl
          obtain ⟨BB, hBB⟩ : ∃ B, B = branchCells a2 c2 cs x := ⟨_, rfl⟩
          have HBB : Hid (BB = branchCells a2 c2 cs x) := hBB
          rw [← hBB] at HSZ HONE HE HGE ⊢
          clear hBB HMD HM2 HBV
          go_wp2_with (refine wpList_store_row rfl 112 (.tmp 2) (.tmp 34) rfl w.heap.size BB rfl rfl 112 branchZero HZ5.out (by rw [HSZ.out]; kernel_rfl) (by rw [HSZ.out]; rfl) HONE.out ?_)
          refine bodyPost_ret (v := .agg BB) (results_cell_row Tryz.results66 _ _ w.heap.size 112 BB (0, 0) _ rfl HGE.out Tryz.underlying112 rfl (by rw [HSZ.out]; kernel_rfl)) rfl ?_
          exact ⟨a2, c2, cs, x, by rw [HBB.out], HE.out.1, HE.out.2⟩
end Go.Proofs.YtbmohenjphmlgabGreat

/- The walk of build (of the program): the tree of pairs. -/
namespace Go.Proofs.YtbmohenjphmlgabGreat
open Go.RowKit
set_option maxRecDepth 100000

theorem ents_len (l : List (ByteArray × ByteArray)) : (ents l).length = l.length := by simp [ents]

theorem ents_nil {l : List (ByteArray × ByteArray)} (h : ents l = []) : l = [] := by
  have := ents_len l
  rw [h] at this
  exact List.eq_nil_of_length_eq_zero this.symm

theorem ents_two {l : List (ByteArray × ByteArray)} (h : 1 < l.length) : ∃ p q r, ents l = p :: q :: r := by
  match l, h with
  | a :: b :: r, _ => exact ⟨_, _, _, rfl⟩

/-- No pairs. -/
theorem build_none (f : Nat) (w : World) (a : Option Addr) (cap : Nat) : Calls Tryz.prog 40 #[.slice a 0 cap] w fun e w' => ∃ v, e = .returned v ∧ BT w.heap.size w' f v [] ∧ Below w.heap.size w w' := by
  have HE := hid (fun w => newEmpty_any w)
  go_enter Tryz.func40, Tryz.ntmps40
  go_wp2_with fail
  refine (HE.out _).mono ?_
  rintro e w1 ⟨rfl, b1⟩
  have HB := hid b1
  clear b1
  go_wp2_with fail
  go_ret
  refine ⟨_, rfl, ?_, HB.out⟩
  cases f with
  | zero => exact ⟨rfl, rfl⟩
  | succ f => exact .inl ⟨rfl, rfl⟩

set_option maxHeartbeats 1600000 in
/-- One pair. -/
theorem build_one (f : Nat) (p : ByteArray × ByteArray) (w : World) (a : Option Addr) (cap : Nat) (hr : PRd w.heap.size w a [p]) (hfit : Tr.Fits (f + 1) (ents [p])) (hf : f ≤ 50) : Calls Tryz.prog 40 #[.slice a 1 cap] w fun e w' => ∃ v, e = .returned v ∧ BT w.heap.size w' (f + 1) v (ents [p]) ∧ Below w.heap.size w w' := by
  obtain ⟨b, off, rfl, hb, c0, c1⟩ := hr 0 (by simp)
  obtain ⟨g1, g2, g3⟩ := hfit _ (List.mem_singleton.2 rfl)
  have hsz : p.1.size ≤ 10000000 := by
    have : p.1.data.toList.length < f + 1 := g1
    rw [ba_len] at this; omega
  have d0 : w.cell? ⟨b, off, none⟩ = some (.string p.1) := by simpa using c0
  have d1 : w.cell? ⟨b, off + 1, none⟩ = some (.string p.2) := by simpa using c1
  have HL := hid (fun w => newLeaf_any p.1 p.2 (f + 1) w hsz g2)
  clear c0 c1 g1 g2 g3 hfit hr
  go_enter Tryz.func40, Tryz.ntmps40
  go_wp2_with fail
  go_region_held3 (fun w' => w'.cell? ⟨b, off, none⟩ = some (.string p.1) ∧ w'.cell? ⟨b, off + 1, none⟩ = some (.string p.2)) (go_keep) ((go_at_call 63; refine (HL.out _).mono ?_; rintro e w3 ⟨a3, c3, rfl, r3, b3⟩; have HR3 := hid r3; have HB3 : Hid (Below w.heap.size w w3) := ⟨b3.os, b3.tape, b3.output, b3.size, b3.block⟩; have z0 := (b3.cell (p := ⟨b, off, none⟩) hb).trans d0; have z1 := (b3.cell (p := ⟨b, off + 1, none⟩) hb).trans d1; clear r3 b3))
  all_goals go_wp2_with fail
  all_goals go_ret
  all_goals exact ⟨_, rfl, .inr (.inl ⟨_, a3, c3, p.1, p.2, rfl, rfl, rfl, rfl, HR3.out⟩), HB3.out⟩

theorem branchV_inj {a a' : Option Addr} {cap cap' : Nat} {cs cs' : Array Value} {x x' : ByteArray} (h : branchV a cap cs x = branchV a' cap' cs' x') : a = a' ∧ cap = cap' ∧ cs = cs' ∧ x = x' := by
  unfold branchV branchCells at h
  simp only [Value.iface.injEq, Value.agg.injEq, true_and] at h
  have h' := congrArg Array.toList h
  simp only [Array.toList_append, List.cons_append, List.nil_append, List.cons.injEq, Value.slice.injEq, true_and] at h'
  obtain ⟨⟨h1, h2⟩, h3⟩ := h'
  have h4 := List.append_inj' h3 rfl
  refine ⟨h1, h2, Array.toList_inj.1 h4.1, ?_⟩
  have := h4.2
  simpa using this

/-- What newExtension asks of the branch below. -/
theorem ext_call {lo : Nat} {w : World} {f : Nat} {a : Option Addr} {cap : Nat} {cs : Array Value} {x : ByteArray} {l : List Tr.Ent} (h : BT lo w f (branchV a cap cs x) l) (hfit : Tr.Fits f l) (hf : f ≤ 50) : cs.size = 32 ∧ Small (Tr.node f l) ∧ ¬ (Itm.enc (Tr.node f l)).length < 8 ∧ Rep w.heap.size w (f + 1 + 1) (.agg #[.bool true, .string ⟨#[]⟩, .slice a 17 cap]) (Tr.node f l) := by
  cases f with
  | zero => obtain ⟨_, h⟩ := h; simp [branchV, emptyV] at h
  | succ f =>
    rcases h with ⟨_, h⟩ | ⟨e, _, _, _, _, _, h, _⟩ | ⟨_, _, _, _, _, _, _, _, _, _, _, _, h, _⟩ | ⟨h1, a', cap', cs', x', h2, h3, h4, h5, h6⟩
    · simp [branchV, emptyV] at h
    · simp [branchV, leafV] at h
    · simp [branchV, extV] at h
    · have e := branchV_inj h2
      obtain ⟨rfl, rfl, rfl, rfl⟩ := e
      exact ⟨h3, node_small _ _ (by omega) hfit, Tr.fork_long f h1, repW_rep _ _ _ h5⟩

set_option maxHeartbeats 3200000 in
/-- Several pairs. -/
theorem build_more (f : Nat) (hf : f ≤ 50) (hQ : BranchOk f) (hQ1 : BranchOk (f + 1)) (w : World) (a : Option Addr) (cap : Nat) (l : List (ByteArray × ByteArray)) (hr : PRd w.heap.size w a l) (hl : l.length ≤ 1000) (h1 : 1 < l.length) (hfit : Tr.Fits (f + 1) (ents l)) (hap : Tr.Apart (ents l)) :
    Calls Tryz.prog 40 #[.slice a l.length cap] w fun e w' => ∃ v, e = .returned v ∧ BT w.heap.size w' (f + 1) v (ents l) ∧ Below w.heap.size w w' := by
  have hz : ∀ x ∈ l, x.1.size ≤ 1000000 := fun x hx => by
    have := (hfit (toEnt x) (List.mem_map.2 ⟨x, hx, rfl⟩)).1
    have : x.1.data.toList.length < f + 1 := this
    rw [ba_len] at this; omega
  have HSS := hid (sharedStart_any a cap l w hr (by omega) (by omega) hz)
  have HBH := hid (fun p w h => behindP_any p a cap l w h (by omega))
  have HQ := hid hQ
  have HQ1 := hid hQ1
  have HR := hid hr
  have HFIT := hid hfit
  have HAP := hid hap
  have HTW := hid (ents_two h1)
  have i0 : ¬ (l.length : Int) = 0 := by omega
  have i1 : ¬ (l.length : Int) = 1 := by omega
  have HL := hid hl
  clear hz hQ hQ1 hr hfit hap h1 hl
  go_enter Tryz.func40, Tryz.ntmps40
  go_wp2_with fail
  refine HSS.out.mono ?_
  rintro e w1 ⟨t, rfl, ht, b1⟩
  have HT := hid ht
  have HB1 := hid b1
  clear ht b1
  by_cases hn : t.data.toList = []
  · have hn' : (t.toList == []) = true := by rw [ByteArray.toList_eq, hn]; rfl
    have HF : Hid (Tr.Forks (ents l)) := by
      obtain ⟨p, q, r, e⟩ := HTW.out
      exact ⟨p, q, r, e, by rw [← HT.out, hn]⟩
    clear hn
    go_wp2_with fail
    refine (HQ1.out _ _ _ _ ((HR.out.later HB1.out).wider HB1.out.size) HL.out HFIT.out HAP.out HF.out).mono ?_
    rintro e w2 ⟨a2, c2, cs, x, rfl, t2, b2⟩
    have HT2 := hid (bt_low t2 HB1.out.size)
    have HB2 : Hid (Below w.heap.size w w2) := HB1.out.trans (b2.mono HB1.out.size)
    clear t2 b2
    obtain ⟨BB, hBB⟩ : ∃ B, B = branchCells a2 c2 cs x := ⟨_, rfl⟩
    have HBB : Hid (BB = branchCells a2 c2 cs x) := hBB
    rw [← hBB]
    clear hBB
    go_wp2_with fail
    go_ret
    exact ⟨branchV a2 c2 cs x, by rw [branchV, ← HBB.out]; rfl, HT2.out, HB2.out⟩
  · have hn' : (t.toList == []) = false := by rw [ByteArray.toList_eq, beq_eq_false_iff_ne]; exact hn
    have HN : Hid (Tr.shared (ents l) ≠ []) := by rw [Hid, ← HT.out]; exact hn
    clear hn
    go_wp2_with fail
    refine (HBH.out _ _ ((HR.out.later HB1.out).wider HB1.out.size)).mono ?_
    rintro e w2 ⟨v2, rfl, o2, b2⟩
    obtain ⟨a2, c2, hv2, p2⟩ := prd_of_pown o2
    subst hv2
    have HP2 := hid p2
    have HB2 : Hid (Below w.heap.size w w2) := HB1.out.trans (b2.mono HB1.out.size)
    have HE2 : Hid (ents (behindB t l) = Tr.behind (Tr.shared (ents l)) (ents l)) := by rw [Hid, behindB_ents, HT.out]
    have HL2 : Hid ((behindB t l).length ≤ 1000) := Nat.le_trans (behindB_le _ _) HL.out
    clear b2 o2 p2
    generalize behindB t l = lk at *
    go_wp2_with fail
    refine (HQ.out _ _ _ _ HP2.out HL2.out (by rw [HE2.out]; exact HFIT.out.behind HN.out) (by rw [HE2.out]; exact HAP.out.behind) (by rw [HE2.out]; obtain ⟨p, q, r, e⟩ := HTW.out; exact Tr.forks_behind e)).mono ?_
    rintro e w3 ⟨a3, c3, cs, x, rfl, t3, b3⟩
    rw [HE2.out] at t3
    have HT3 := hid (bt_low t3 HB2.out.size)
    have HB3 : Hid (Below w.heap.size w w3) := HB2.out.trans (b3.mono HB2.out.size)
    clear t3 b3
    have HX := hid (ext_call HT3.out (HFIT.out.behind HN.out) hf)
    have HNE := hid (newExtension_any (m := f + 1) (a := a3) (cap := c3) (cs := cs) (x := x) t w3 (by
        obtain ⟨p, q, r, e⟩ := HTW.out
        have h1 := (Tr.shared_pre (ents l) p (by rw [e]; simp)).length_le
        have h2 := (HFIT.out p (by rw [e]; simp)).1
        have h3 : t.data.toList.length ≤ p.dig.length := by rw [HT.out]; exact h1
        rw [ba_len] at h3; omega) (fun c hc => by
        obtain ⟨p, q, r, e⟩ := HTW.out
        rw [HT.out] at hc
        exact (HFIT.out p (by rw [e]; simp)).2.1 c ((Tr.shared_pre (ents l) p (by rw [e]; simp)).subset hc)) HX.out.1 HX.out.2.1 HX.out.2.2.1 HX.out.2.2.2)
    obtain ⟨BB, hBB⟩ : ∃ B, B = branchCells a3 c3 cs x := ⟨_, rfl⟩
    have HBB : Hid (BB = branchCells a3 c3 cs x) := hBB
    rw [← hBB] at HNE ⊢
    clear hBB
    go_wp2_with fail
    refine HNE.out.mono ?_
    rintro e w4 ⟨a4, c4, rfl, r4, b4⟩
    have HR4 := hid r4
    have HB4 := hid b4
    clear r4 b4
    generalize hrs : refSum (Tr.node f (Tr.behind (Tr.shared (ents l)) (ents l))) = S at *
    have HRS : Hid (refSum (Tr.node f (Tr.behind (Tr.shared (ents l)) (ents l))) = S) := hrs
    clear hrs
    go_wp2_with fail
    go_ret
    obtain ⟨p, q, r, e⟩ := HTW.out
    have hnode : Tr.node (f + 1) (ents l) = Tr.itL [Tr.itB (Tr.path t.data.toList false), Tr.ref (Tr.node f (Tr.behind (Tr.shared (ents l)) (ents l)))] := by rw [Tr.node_ext f e HN.out, HT.out]
    refine ⟨extV a4 c4 t S (branchV a3 c3 cs x), by rw [extV, branchV, ← HBB.out]; rfl, .inr (.inr (.inl ⟨p, q, r, e, HN.out, a4, c4, t, a3, c3, cs, x, by rw [HRS.out], HT.out, ?_, bt_later HT3.out HB4.out⟩)), HB3.out.trans (HB4.out.mono HB3.out.size)⟩
    rw [hnode]
    exact repW_turn HB3.out.size (Nat.le_refl _) (fun _ _ _ => rfl) _ _ _ HR4.out

theorem build_ok (f : Nat) (hf : f ≤ 50) (hQ : BranchOk f) (hQ1 : BranchOk (f + 1)) : BuildOk (f + 1) := by
  intro w a cap l hr hl hfit hap
  match l, hr, hl, hfit, hap with
  | [], _, _, _, _ => exact build_none (f + 1) w a cap
  | [p], hr, _, hfit, _ => exact build_one f p w a cap hr hfit hf
  | p :: q :: r, hr, hl, hfit, hap => exact build_more f hf hQ hQ1 w a cap _ hr hl (by simp) hfit hap

/-- build and buildBranch, at every depth that a table has. -/
theorem builds_ok : ∀ f, f ≤ 50 → BuildOk f ∧ BranchOk f := by
  intro f
  induction f with
  | zero =>
    intro _
    refine ⟨fun w a cap l _ _ hfit _ => ?_, fun w a cap l _ _ hfit _ hfk => ?_⟩
    · have : l = [] := by
        match l, hfit with
        | [], _ => rfl
        | x :: r, hfit => have := (hfit (toEnt x) (by simp [ents])).1; omega
      subst this
      exact build_none 0 w a cap
    · obtain ⟨x, y, r, e, _⟩ := hfk
      have := (hfit x (by rw [e]; simp)).1
      omega
  | succ f ih =>
    intro hf
    have h := ih (by omega)
    have hb := branch_ok f (by omega) h.1
    exact ⟨build_ok f (by omega) h.2 hb, hb⟩

end Go.Proofs.YtbmohenjphmlgabGreat

/- The walk of Root (of the program). -/
namespace Go.Proofs.YtbmohenjphmlgabGreat
open Go.RowKit
set_option maxRecDepth 100000

theorem ba_len2 (s : ByteArray) : s.data.toList.length = s.size := ba_len s

theorem tfault_fault (l : List (ByteArray × ByteArray)) (key : ByteArray) : tfault l key = Tr.fault (lists l) key.data.toList := by
  have e1 : (lists l).length = l.length := by simp [lists]
  have e2 : (∃ p ∈ lists l, 6 < p.1.length) ↔ ∃ p ∈ l, 6 < p.1.size := by
    unfold lists
    simp only [List.mem_map]
    constructor
    · rintro ⟨p, ⟨q, hq, rfl⟩, h⟩; exact ⟨q, hq, by rw [← ba_len q.1]; exact h⟩
    · rintro ⟨q, hq, h⟩; exact ⟨_, ⟨q, hq, rfl⟩, by rw [ba_len]; exact h⟩
  have e3 : (∃ p ∈ lists l, 40 < p.2.length) ↔ ∃ p ∈ l, 40 < p.2.size := by
    unfold lists
    simp only [List.mem_map]
    constructor
    · rintro ⟨p, ⟨q, hq, rfl⟩, h⟩; exact ⟨q, hq, by rw [← ba_len q.2]; exact h⟩
    · rintro ⟨q, hq, h⟩; exact ⟨_, ⟨q, hq, rfl⟩, by rw [ba_len]; exact h⟩
  unfold tfault Tr.fault
  simp only [e1, e2, e3, ba_len]

/-- Pairs with which nothing is wrong. -/
theorem fault_none {l : List (ByteArray × ByteArray)} {key : ByteArray} (h : tfault l key = 0) : l.length ≤ 60 ∧ (∀ p ∈ l, p.1.size ≤ 6) ∧ key.size ≤ 6 ∧ (∀ p ∈ l, p.2.size ≤ 40) := by
  unfold tfault at h
  by_cases h1 : 60 < l.length
  · rw [if_pos h1] at h; omega
  · rw [if_neg h1] at h
    by_cases h2 : (∃ p ∈ l, 6 < p.1.size) ∨ 6 < key.size
    · rw [if_pos h2] at h; omega
    · rw [if_neg h2] at h
      by_cases h3 : ∃ p ∈ l, 40 < p.2.size
      · rw [if_pos h3] at h; omega
      · rw [not_or] at h2
        exact ⟨by omega, fun p hp => Classical.byContradiction fun hh => h2.1 ⟨p, hp, by omega⟩, by have := h2.2; omega, fun p hp => Classical.byContradiction fun hh => h3 ⟨p, hp, by omega⟩⟩

theorem lists_ok {l : List (ByteArray × ByteArray)} (h1 : ∀ p ∈ l, p.1.size ≤ 6) (h2 : ∀ p ∈ l, p.2.size ≤ 40) : (∀ p ∈ lists l, p.1.length ≤ 6) ∧ (∀ p ∈ lists l, p.2.length ≤ 40) := by
  unfold lists
  constructor
  · intro p hp
    obtain ⟨q, hq, rfl⟩ := List.mem_map.1 hp
    rw [ba_len]; exact h1 q hq
  · intro p hp
    obtain ⟨q, hq, rfl⟩ := List.mem_map.1 hp
    rw [ba_len]; exact h2 q hq

/-- The tree of a table. -/
theorem tree_any (a : Option Addr) (cap : Nat) (l : List (ByteArray × ByteArray)) (w : World) (hr : PRd w.heap.size w a (tabTo l l.length)) (hl : l.length ≤ 60) (h1 : ∀ p ∈ l, p.1.size ≤ 6) (h2 : ∀ p ∈ l, p.2.size ≤ 40) :
    Calls Tryz.prog 40 #[.slice a (tabTo l l.length).length cap] w fun e w' => ∃ v, e = .returned v ∧ BT w.heap.size w' 13 v (Tr.table (lists l)) ∧ Below w.heap.size w w' := by
  have hk := lists_ok h1 h2
  have := (builds_ok 13 (by decide)).1 w a cap (tabTo l l.length) hr (Nat.le_trans (tabTo_le l _) (by omega)) (by rw [tabTo_table]; exact Tr.table_fits _ hk.1 hk.2) (by rw [tabTo_table]; exact Tr.table_apart _)
  rw [tabTo_table] at this
  exact this

set_option maxHeartbeats 1600000 in
theorem treeRoot_ok (a : Option Addr) (cap : Nat) (l : List (ByteArray × ByteArray)) (w : World) (hr : PRd w.heap.size w a l) (hf : tfault l ⟨#[]⟩ = 0) :
    Calls Tryz.prog 25 #[.slice a l.length cap] w fun e w' => e = .returned (.tuple #[.string ⟨(Tr.sum (Itm.enc (Tr.node 13 (Tr.table (lists l))))).toArray⟩, .int .i64 0]) ∧ Below w.heap.size w w' := by
  have hft := tableFault_any ⟨#[]⟩ a cap l w hr
  rw [hf] at hft
  have HFT := hid hft
  obtain ⟨h1, h2, _, h4⟩ := fault_none hf
  have HTO := hid (fun w h => tableOf_any a cap l w h (by omega) (fun p hp => by have := h2 p hp; omega))
  have HTR := hid (fun a cap w h => tree_any a cap l w h h1 h2 h4)
  have hk := lists_ok h2 h4
  have HSM := hid (node_small 13 _ (by decide) (Tr.table_fits _ hk.1 hk.2))
  have HR := hid hr
  clear hft hf h2 h4 hk hr
  go_enter Tryz.func25, Tryz.ntmps25
  go_wp2_with fail
  refine HFT.out.mono ?_
  rintro e w1 ⟨rfl, b1⟩
  have HB1 := hid b1
  clear b1
  go_wp2_with fail
  refine (HTO.out _ ((HR.out.later HB1.out).wider HB1.out.size)).mono ?_
  rintro e w2 ⟨v2, rfl, o2, b2⟩
  obtain ⟨a2, c2, hv2, p2⟩ := prd_of_pown o2
  subst hv2
  have HB2 : Hid (Below w.heap.size w w2) := HB1.out.trans (b2.mono HB1.out.size)
  have HP2 := hid p2
  clear o2 b2 p2
  go_wp2_with fail
  refine (HTR.out _ _ _ HP2.out).mono ?_
  rintro e w3 ⟨v3, rfl, t3, b3⟩
  have HB3 : Hid (Below w.heap.size w w3) := HB2.out.trans (b3.mono HB2.out.size)
  obtain ⟨k, l0, s, aa, nn, cc, hnd, hrep⟩ := bt_nd t3
  have HCS := hid (commonSum_any k aa nn cc l0 s _ _ w3 HSM.out (repW_rep _ _ _ hrep))
  obtain ⟨T, A, rfl, _, _, _, hm⟩ := nd_call hnd
  clear t3 b3 hrep hnd
  go_wp2_with fail
  refine HCS.out.mono ?_
  rintro e w4 ⟨rfl, b4⟩
  have HB4 : Hid (Below w.heap.size w w4) := HB3.out.trans (b4.mono HB3.out.size)
  clear b4
  go_wp2_with fail
  go_ret2
  exact ⟨rfl, HB4.out⟩

/-- Root answers as the document says. -/
theorem root_any (a : Option Addr) (cap : Nat) (l : List (ByteArray × ByteArray)) (w : World) (hr : PRd w.heap.size w a l) :
    Calls Tryz.prog 7 #[.slice a l.length cap] w fun e w' => e = .returned (.tuple #[.string ⟨(Tr.root (lists l)).1.toArray⟩, .int .i64 ((Tr.root (lists l)).2 : Nat)]) ∧ Below w.heap.size w w' := by
  by_cases hf : tfault l ⟨#[]⟩ = 0
  · have e : Tr.root (lists l) = (Tr.sum (Itm.enc (Tr.node 13 (Tr.table (lists l)))), 0) := by
      unfold Tr.root
      rw [if_pos (by rw [← hf, tfault_fault])]
    rw [e]
    have H := hid (treeRoot_ok a cap l w hr hf)
    clear hr hf e
    go_enter Tryz.func7, Tryz.ntmps7
    go_wp2_with fail
    refine H.out.mono ?_
    rintro e w1 ⟨rfl, b1⟩
    have HB := hid b1
    clear b1
    go_wp2_with fail
    go_ret2
    exact ⟨rfl, HB.out⟩
  · have e : Tr.root (lists l) = ([], tfault l ⟨#[]⟩) := by
      have e2 : tfault l ⟨#[]⟩ = Tr.fault (lists l) [] := tfault_fault l ⟨#[]⟩
      unfold Tr.root
      rw [← e2, if_neg hf]
    rw [e]
    exact root_fault hf (tableFault_any ⟨#[]⟩ a cap l w hr)

end Go.Proofs.YtbmohenjphmlgabGreat
