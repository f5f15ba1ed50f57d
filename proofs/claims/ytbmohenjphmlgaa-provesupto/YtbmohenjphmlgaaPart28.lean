/- Part 28 of a proof: what the last text needs. -/
import Derived.Test.YtbmohenjphmlgaaPart27
/- The walk of buildBranch (of the program), once build of what is behind each digit is known. -/
namespace Go.Proofs.Ytbmohenjphmlgaa
open Go.RowKit
set_option maxRecDepth 100000

/-- build answers with the tree of these pairs. -/
def BuildOk (f : Nat) : Prop := ∀ (w : World) (a : Option Addr) (cap : Nat) (l : List (ByteArray × ByteArray)), PRd w.heap.size w a l → l.length ≤ 1000 → Tr.Fits f (ents l) → Tr.Apart (ents l) →
  Calls Try.prog 73 #[.slice a l.length cap] w fun e w' => ∃ v, e = .returned v ∧ BT w.heap.size w' f v (ents l) ∧ Below w.heap.size w w'

def BranchOk (f : Nat) : Prop := ∀ (w : World) (a : Option Addr) (cap : Nat) (l : List (ByteArray × ByteArray)), PRd w.heap.size w a l → l.length ≤ 1000 → Tr.Fits f (ents l) → Tr.Apart (ents l) → Tr.Forks (ents l) →
  Calls Try.prog 99 #[.slice a l.length cap] w fun e w' => ∃ a2 c2 cs x, e = .returned (.agg (branchCells a2 c2 cs x)) ∧ BT w.heap.size w' f (branchV a2 c2 cs x) (ents l) ∧ Below w.heap.size w w'

/-- The row of references, of which the first k are there. -/
def RefsTo (lo : Nat) (w : World) (f : Nat) (l : List Tr.Ent) (k : Nat) (cs : Array Value) : Prop :=
  cs.size = 32 ∧ ∀ d, d < k → ∃ vd, cs[2 * d]? = some (.string (refSum (Tr.node f (Tr.behind [UInt8.ofNat d] l)))) ∧ cs[2 * d + 1]? = some vd ∧ BT lo w f vd (Tr.behind [UInt8.ofNat d] l)

def refsZero : Array Value := #[.string ⟨#[]⟩, .nilIface, .string ⟨#[]⟩, .nilIface, .string ⟨#[]⟩, .nilIface, .string ⟨#[]⟩, .nilIface, .string ⟨#[]⟩, .nilIface, .string ⟨#[]⟩, .nilIface, .string ⟨#[]⟩, .nilIface, .string ⟨#[]⟩, .nilIface, .string ⟨#[]⟩, .nilIface, .string ⟨#[]⟩, .nilIface, .string ⟨#[]⟩, .nilIface, .string ⟨#[]⟩, .nilIface, .string ⟨#[]⟩, .nilIface, .string ⟨#[]⟩, .nilIface, .string ⟨#[]⟩, .nilIface, .string ⟨#[]⟩, .nilIface]

theorem refsTo_zero (lo : Nat) (w : World) (f : Nat) (l : List Tr.Ent) : RefsTo lo w f l 0 refsZero := ⟨rfl, fun d hd => by omega⟩

/-- One reference more. -/
theorem refsTo_succ {lo : Nat} {w w' : World} {f : Nat} {l : List Tr.Ent} {k : Nat} {cs : Array Value} {T : TypeId} {A : Array Value} (h : RefsTo lo w f l k cs) (hk : k < 16) (hs : w.heap.size ≤ w'.heap.size) (hb : ∀ k, lo ≤ k → k < w.heap.size → w'.heap[k]? = w.heap[k]?)
    (hv : BT lo w' f (.iface T (.agg A)) (Tr.behind [UInt8.ofNat k] l)) : RefsTo lo w' f l (k + 1) ((cs.setIfInBounds (k * 2) (.string (refSum (Tr.node f (Tr.behind [UInt8.ofNat k] l))))).setIfInBounds (k * 2 + 1) (.iface T (.agg A))) := by
  obtain ⟨h1, h3⟩ := h
  refine ⟨by simp [h1], ?_⟩
  intro d hd
  by_cases e : d = k
  · subst e
    refine ⟨_, ?_, ?_, hv⟩
    · rw [Array.getElem?_setIfInBounds, if_neg (by omega), Array.getElem?_setIfInBounds, if_pos (by omega), if_pos (by omega)]
    · rw [Array.getElem?_setIfInBounds, if_pos (by omega), if_pos (by simp; omega)]
  · obtain ⟨vd, g1, g2, g3⟩ := h3 d (by omega)
    refine ⟨vd, ?_, ?_, bt_turn (Nat.le_refl _) hs hb _ _ _ g3⟩
    · rw [Array.getElem?_setIfInBounds, if_neg (by omega), Array.getElem?_setIfInBounds, if_neg (by omega)]; exact g1
    · rw [Array.getElem?_setIfInBounds, if_neg (by omega), Array.getElem?_setIfInBounds, if_neg (by omega)]; exact g2

theorem two_set_at {W : World} {g i : Nat} {cs : Array Value} {a b : Value} {e : TypeId} {fz : Nat × Nat} (h : W.heap[g]? = some (.cells cs e fz)) : ((W.setCell ⟨g, i, none⟩ a).setCell ⟨g, i + 1, none⟩ b).heap[g]? = some (.cells ((cs.setIfInBounds i a).setIfInBounds (i + 1) b) e fz) := by
  simp [World.setCell, Array.getElem?_modify, h]

theorem two_set_other {W : World} {g i k : Nat} {a b : Value} (h : k ≠ g) : ((W.setCell ⟨g, i, none⟩ a).setCell ⟨g, i + 1, none⟩ b).heap[k]? = W.heap[k]? := by
  simp [World.setCell, Array.getElem?_modify, Ne.symm h]

/-- What stands while the references are made. -/
structure Mid (w : World) (f : Nat) (l : List Tr.Ent) (k : Nat) (wr : World) (cs : Array Value) : Prop where
  below : Below w.heap.size w wr
  res : wr.heap[w.heap.size]? = some (.cells branchZero 143 (0, 0))
  row : wr.heap[w.heap.size + 1]? = some (.cells cs 141 (0, 0))
  refs : RefsTo (w.heap.size + 1 + 1) wr f l k cs

theorem mid_start {w : World} {f : Nat} {l : List Tr.Ent} : Mid w f l 0 ((w.alloc (.cells branchZero 143)).alloc (.cells refsZero 141)) refsZero :=
  ⟨((Below.refl _ _).alloc (Nat.le_refl _) _).alloc (by rw [alloc_size]; omega) _, (Below.heap_alloc _ _ _ (by rw [alloc_size]; omega)).trans (heap_alloc_new w _), by
    have := heap_alloc_new (w.alloc (.cells branchZero 143)) (.cells refsZero 141)
    rwa [alloc_size] at this, refsTo_zero _ _ _ _⟩

theorem mid_next {w wr w5 : World} {f k : Nat} {l : List Tr.Ent} {cs A : Array Value} {T : TypeId} (h : Mid w f l k wr cs) (hk : k < 16) (hb : Below wr.heap.size wr w5) (hv : BT (w.heap.size + 1 + 1) w5 f (.iface T (.agg A)) (Tr.behind [UInt8.ofNat k] l)) :
    ∃ cs', Mid w f l (k + 1) ((w5.setCell ⟨w.heap.size + 1, k * 2, none⟩ (.string (refSum (Tr.node f (Tr.behind [UInt8.ofNat k] l))))).setCell ⟨w.heap.size + 1, k * 2 + 1, none⟩ (.iface T (.agg A))) cs' := by
  have r5 := (hb.block _ (Array.getElem?_eq_some_iff.1 h.row).1).trans h.row
  have z5 := (hb.block _ (Array.getElem?_eq_some_iff.1 h.res).1).trans h.res
  have hsz : ((w5.setCell ⟨w.heap.size + 1, k * 2, none⟩ (.string (refSum (Tr.node f (Tr.behind [UInt8.ofNat k] l))))).setCell ⟨w.heap.size + 1, k * 2 + 1, none⟩ (.iface T (.agg A))).heap.size = w5.heap.size := by simp [World.setCell]
  refine ⟨_, ⟨?_, ?_, two_set_at r5, refsTo_succ h.refs hk (by rw [hsz]; exact hb.size) (fun j hj hj2 => ?_) (bt_turn (Nat.le_refl _) (by rw [hsz]; exact Nat.le_refl _) (fun j hj _ => two_set_other (by omega)) _ _ _ hv)⟩⟩
  · exact ((h.below.trans (hb.mono h.below.size)).setCell (p := ⟨w.heap.size + 1, k * 2, none⟩) (Nat.le_succ _) _).setCell (p := ⟨w.heap.size + 1, k * 2 + 1, none⟩) (Nat.le_succ _) _
  · rw [two_set_other (by omega)]; exact z5
  · rw [two_set_other (by omega)]; exact hb.block j hj2

theorem Mid.later {w wr w' : World} {f k : Nat} {l : List Tr.Ent} {cs : Array Value} (h : Mid w f l k wr cs) (hb : Below wr.heap.size wr w') : Mid w f l k w' cs :=
  ⟨h.below.trans (hb.mono h.below.size), (hb.block _ (Array.getElem?_eq_some_iff.1 h.res).1).trans h.res, (hb.block _ (Array.getElem?_eq_some_iff.1 h.row).1).trans h.row, h.refs.1, fun d hd => by
    obtain ⟨vd, g1, g2, g3⟩ := h.refs.2 d hd
    exact ⟨vd, g1, g2, bt_later g3 hb⟩⟩

theorem valOf_take (l : List (ByteArray × ByteArray)) (k : Nat) (h : k < l.length) : Tr.valOf (ents (l.take (k + 1))) = if l[k].1.data.toList = [] then l[k].2.data.toList else Tr.valOf (ents (l.take k)) := by
  unfold ents Tr.valOf
  rw [List.take_succ_eq_append_getElem h, List.map_append, List.foldl_append]
  rfl

theorem mid_refs {w wr : World} {f : Nat} {l : List Tr.Ent} {cs : Array Value} (h : Mid w f l 16 wr cs) : Refs (w.heap.size + 1 + 1) wr (f + 1) cs ((List.range 16).map fun d => Tr.node f (Tr.behind [UInt8.ofNat d] l)) := by
  refine ⟨h.refs.1, by simp, fun d hd => ?_⟩
  have hd16 : d < 16 := by simpa using hd
  obtain ⟨vd, g1, g2, g3⟩ := h.refs.2 d hd16
  obtain ⟨k, l0, s, a, n, cap, hn, hr⟩ := bt_nd g3
  refine ⟨vd, k, l0, s, a, n, cap, ?_, g2, hn, ?_⟩
  · simpa using g1
  · simpa using hr

/-- What comes out. -/
theorem mid_end {w wr w5 : World} {f : Nat} {l : List Tr.Ent} {cs BB : Array Value} {a2 : Option Addr} {c2 : Nat} {x : ByteArray} (h : Mid w f l 16 wr cs) (hfk : Tr.Forks l) (hx : x.data.toList = Tr.valOf l) (hb : Below wr.heap.size wr w5)
    (hr : RepW (w.heap.size + 1 + 1) w5.heap.size w5 (f + 1 + 2) (.agg #[.bool true, .string ⟨#[]⟩, .slice a2 17 c2]) (Tr.itL (((List.range 16).map fun d => Tr.node f (Tr.behind [UInt8.ofNat d] l)).map Tr.ref ++ [Tr.itB x.data.toList]))) :
    BT w.heap.size (w5.setRow w.heap.size BB) (f + 1) (branchV a2 c2 cs x) l ∧ Below w.heap.size w (w5.setRow w.heap.size BB) := by
  have hsz : (w5.setRow w.heap.size BB).heap.size = w5.heap.size := by simp [World.setRow]
  have hn : Tr.node (f + 1) l = Tr.itL (((List.range 16).map fun d => Tr.node f (Tr.behind [UInt8.ofNat d] l)).map Tr.ref ++ [Tr.itB x.data.toList]) := by
    rw [Tr.node_fork f hfk, hx, List.map_map]; rfl
  refine ⟨.inr (.inr (.inr ⟨hfk, a2, c2, cs, x, rfl, h.refs.1, hx, ?_, fun d hd => ?_⟩)), setRow_below (h.below.trans (hb.mono h.below.size)) (Nat.le_refl _)⟩
  · rw [hn]
    exact repW_turn (by omega) (by rw [hsz]; exact Nat.le_refl _) (fun j hj _ => setRow_other _ _ _ _ (by omega)) _ _ _ hr
  · obtain ⟨vd, g1, g2, g3⟩ := h.refs.2 d hd
    exact ⟨vd, g1, g2, bt_turn (by omega) (by rw [hsz]; exact hb.size) (fun j hj hj2 => by rw [setRow_other _ _ _ _ (by omega)]; exact hb.block j hj2) _ _ _ g3⟩

set_option maxHeartbeats 6400000 in
theorem branch_ok (f : Nat) (hf : f ≤ 50) (hP : BuildOk f) : BranchOk (f + 1) := by
  intro w a cap l hr hl hfit hap hfk
  have HR := hid hr
  have HPF := hid hP
  have HOD := hid (fun n w h => oneDigit_any n w h)
  have HBH := hid (fun p a cap l w h1 h2 => behindP_any p a cap l w h1 h2)
  have HFIT := hid hfit
  have HAP := hid hap
  have HFK := hid hfk
  clear hr hP hfit hap hfk
  go_enter Try.func99, Try.ntmps99
  go_upto_region 2 with fail
  have HM0 : Hid (Mid w f (ents l) 0 ((w.alloc (.cells #[.int .i64 0, .bool false, .string ⟨#[]⟩, .slice none 0 0, .string ⟨#[]⟩, .nilIface, .string ⟨#[]⟩, .nilIface, .string ⟨#[]⟩, .nilIface, .string ⟨#[]⟩, .nilIface, .string ⟨#[]⟩, .nilIface, .string ⟨#[]⟩, .nilIface, .string ⟨#[]⟩, .nilIface, .string ⟨#[]⟩, .nilIface, .string ⟨#[]⟩, .nilIface, .string ⟨#[]⟩, .nilIface, .string ⟨#[]⟩, .nilIface, .string ⟨#[]⟩, .nilIface, .string ⟨#[]⟩, .nilIface, .string ⟨#[]⟩, .nilIface, .string ⟨#[]⟩, .nilIface, .string ⟨#[]⟩, .nilIface, .string ⟨#[]⟩] 143)).alloc (.cells #[.string ⟨#[]⟩, .nilIface, .string ⟨#[]⟩, .nilIface, .string ⟨#[]⟩, .nilIface, .string ⟨#[]⟩, .nilIface, .string ⟨#[]⟩, .nilIface, .string ⟨#[]⟩, .nilIface, .string ⟨#[]⟩, .nilIface, .string ⟨#[]⟩, .nilIface, .string ⟨#[]⟩, .nilIface, .string ⟨#[]⟩, .nilIface, .string ⟨#[]⟩, .nilIface, .string ⟨#[]⟩, .nilIface, .string ⟨#[]⟩, .nilIface, .string ⟨#[]⟩, .nilIface, .string ⟨#[]⟩, .nilIface, .string ⟨#[]⟩, .nilIface] 141)) refsZero) := mid_start
  generalize (w.alloc (.cells #[.int .i64 0, .bool false, .string ⟨#[]⟩, .slice none 0 0, .string ⟨#[]⟩, .nilIface, .string ⟨#[]⟩, .nilIface, .string ⟨#[]⟩, .nilIface, .string ⟨#[]⟩, .nilIface, .string ⟨#[]⟩, .nilIface, .string ⟨#[]⟩, .nilIface, .string ⟨#[]⟩, .nilIface, .string ⟨#[]⟩, .nilIface, .string ⟨#[]⟩, .nilIface, .string ⟨#[]⟩, .nilIface, .string ⟨#[]⟩, .nilIface, .string ⟨#[]⟩, .nilIface, .string ⟨#[]⟩, .nilIface, .string ⟨#[]⟩, .nilIface, .string ⟨#[]⟩, .nilIface, .string ⟨#[]⟩, .nilIface, .string ⟨#[]⟩] 143)).alloc (.cells #[.string ⟨#[]⟩, .nilIface, .string ⟨#[]⟩, .nilIface, .string ⟨#[]⟩, .nilIface, .string ⟨#[]⟩, .nilIface, .string ⟨#[]⟩, .nilIface, .string ⟨#[]⟩, .nilIface, .string ⟨#[]⟩, .nilIface, .string ⟨#[]⟩, .nilIface, .string ⟨#[]⟩, .nilIface, .string ⟨#[]⟩, .nilIface, .string ⟨#[]⟩, .nilIface, .string ⟨#[]⟩, .nilIface, .string ⟨#[]⟩, .nilIface, .string ⟨#[]⟩, .nilIface, .string ⟨#[]⟩, .nilIface, .string ⟨#[]⟩, .nilIface] 141) = W at *
  go_wp2_with fail
  go_loopw [8] (fun i wr => ∃ k : Nat, i = .int .i64 k ∧ k ≤ 16 ∧ Hid (∃ cs, Mid w f (ents l) k wr cs)) (fun i _ => 16 - (intOf i).toNat)
  case atStart => exact ⟨0, rfl, Nat.zero_le _, _, HM0.out⟩
  case round =>
    obtain ⟨k, rfl, hk, HH⟩ := hrel
    by_cases hlt : k < 16
    · have i1 : (0 : Int) ≤ (k : Int) := by omega
      have i2 : (k : Int) < 16 := by omega
      go_wp2_with fail
      refine (HOD.out _ _ (by omega)).mono ?_
      rintro e w1 ⟨rfl, b1⟩
      have HB1 := hid b1
      clear b1
      go_wp2_with fail
      have HB1W : Hid (Below w.heap.size w w1) := HH.out.elim fun _ h => h.below.trans (HB1.out.mono h.below.size)
      refine (HBH.out _ _ _ _ _ ((HR.out.later HB1W.out).wider HB1W.out.size) (by omega)).mono ?_
      rintro e w2 ⟨v2, rfl, o2, b2⟩
      obtain ⟨a2, c2, hv2, p2⟩ := prd_of_pown o2
      subst hv2
      have HP2 := hid p2
      have HB2 : Hid (Below wr.heap.size wr w2) := HB1.out.trans (b2.mono HB1.out.size)
      have HE2 : Hid (ents (behindB ⟨#[UInt8.ofNat k]⟩ l) = Tr.behind [UInt8.ofNat k] (ents l)) := behindB_ents _ _
      have HL2 : Hid ((behindB ⟨#[UInt8.ofNat k]⟩ l).length ≤ 1000) := Nat.le_trans (behindB_le _ _) hl
      clear b2 o2 p2
      generalize behindB ⟨#[UInt8.ofNat k]⟩ l = lk at *
      go_wp2_with fail
      refine (HPF.out _ _ _ _ HP2.out HL2.out (by rw [HE2.out]; exact HFIT.out.behind (by simp)) (by rw [HE2.out]; exact HAP.out.behind)).mono ?_
      rintro e w3 ⟨v3, rfl, t3, b3⟩
      have HB3 : Hid (Below wr.heap.size wr w3) := HB2.out.trans (b3.mono HB2.out.size)
      rw [HE2.out] at t3
      have HT3 : Hid (BT (w.heap.size + 1 + 1) w3 f v3 (Tr.behind [UInt8.ofNat k] (ents l))) := bt_low t3 (by obtain ⟨_, hmid⟩ := HH.out; have := (Array.getElem?_eq_some_iff.1 hmid.row).1; have := HB2.out.size; omega)
      obtain ⟨kk, l0, s0, aa, nn, cc, hnd, hrep⟩ := bt_nd t3
      have HRT := hid (referenceTo_any w3 hnd (node_small f _ (by omega) (HFIT.out.behind (s := [UInt8.ofNat k]) (by simp))) (repW_rep _ _ _ hrep))
      obtain ⟨T, A, _, rfl, _⟩ := hnd
      clear t3 b3 hrep
      go_wp2_with fail
      refine HRT.out.mono ?_
      rintro e w4 ⟨rfl, b4⟩
      have HB4 : Hid (Below wr.heap.size wr w4) := HB3.out.trans (b4.mono HB3.out.size)
      have HT4 : Hid (BT (w.heap.size + 1 + 1) w4 f (.iface T (.agg A)) (Tr.behind [UInt8.ofNat k] (ents l))) := bt_later HT3.out b4
      obtain ⟨cs, hmid⟩ := HH.out
      have HRW : Hid (w4.heap[w.heap.size + 1]? = some (.cells cs 141 (0, 0))) := (HB4.out.block _ (Array.getElem?_eq_some_iff.1 hmid.row).1).trans hmid.row
      obtain ⟨u0, hu0⟩ : ∃ u, cs[k * 2]? = some u := ⟨_, Array.getElem?_eq_getElem (by rw [hmid.refs.1]; omega)⟩
      obtain ⟨u1, hu1⟩ : ∃ u, cs[k * 2 + 1]? = some u := ⟨_, Array.getElem?_eq_getElem (by rw [hmid.refs.1]; omega)⟩
      have q0 := (cell_of_row _ _ (k * 2) _ _ _ HRW.out).trans hu0
      have q1 := (cell_of_row _ _ (k * 2 + 1) _ _ _ HRW.out).trans hu1
      have f0 := frozen_of_row _ _ (k * 2) _ _ HRW.out
      have f1 := frozen_of_row _ _ (k * 2 + 1) _ _ HRW.out
      have HN := hid (mid_next hmid hlt HB4.out HT4.out)
      clear b4 hmid hu0 hu1
      generalize refSum (Tr.node f (Tr.behind [UInt8.ofNat k] (ents l))) = sk at *
      go_wp2_with fail
      exact ⟨⟨k + 1, by go_num, by omega, HN.out⟩, by simp [intOf]; omega⟩
    · have i2 : ¬ (k : Int) < 16 := by omega
      obtain rfl : k = 16 := by omega
      obtain ⟨cs, hmid⟩ := HH.out
      have HMD := hid hmid
      clear HH hmid hk hlt
      go_wp2_with fail
      go_loopw [5, 22] (fun v i wx => ∃ (m : Nat) (x : ByteArray), v = .string x ∧ i = .int .i64 m ∧ m ≤ l.length ∧ Hid (x.data.toList = Tr.valOf (ents (l.take m)) ∧ Mid w f (ents l) 16 wx cs)) (fun _ i _ => l.length - (intOf i).toNat)
      case atStart => exact ⟨0, ⟨#[]⟩, rfl, rfl, Nat.zero_le _, rfl, HMD.out⟩
      case round =>
        obtain ⟨m, x, rfl, rfl, hm, HV⟩ := hrel
        by_cases hlt : m < l.length
        · obtain ⟨b, off, rfl, hb, e0, e1⟩ := HR.out m hlt
          have g0 := (HV.out.2.below.cell (p := ⟨b, off + m * 2, none⟩) hb).trans e0
          have g1 := (HV.out.2.below.cell (p := ⟨b, off + m * 2 + 1, none⟩) hb).trans e1
          have j1 : (0 : Int) ≤ (m : Int) := by omega
          have j2 : (m : Int) < (l.length : Int) := by omega
          have HVT := hid (valOf_take l m hlt)
          clear e0 e1
          by_cases hz : l[m].1.data.toList = []
          · have hz' : (l[m].1.toList == []) = true := by rw [ByteArray.toList_eq, hz]; rfl
            have HX : Hid (l[m].2.data.toList = Tr.valOf (ents (l.take (m + 1)))) := by rw [Hid, HVT.out, if_pos hz]
            clear hz
            go_wp2_with fail
            exact ⟨⟨m + 1, _, rfl, by go_num, by omega, HX.out, HV.out.2.later ((Below.refl _ _).alloc (Nat.le_refl _) _)⟩, by simp [intOf]; omega⟩
          · have hz' : (l[m].1.toList == []) = false := by rw [ByteArray.toList_eq, beq_eq_false_iff_ne]; exact hz
            have HX : Hid (x.data.toList = Tr.valOf (ents (l.take (m + 1)))) := by rw [Hid, HVT.out, if_neg hz]; exact HV.out.1
            clear hz
            go_wp2_with fail
            exact ⟨⟨m + 1, _, rfl, by go_num, by omega, HX.out, HV.out.2.later ((Below.refl _ _).alloc (Nat.le_refl _) _)⟩, by simp [intOf]; omega⟩
        · have j2 : ¬ (m : Int) < (l.length : Int) := by omega
          have HX : Hid (x.data.toList = Tr.valOf (ents l)) := by
            have := HV.out.1
            rwa [List.take_of_length_le (by omega)] at this
          have HM2 := hid HV.out.2
          clear HV hm
          go_upto_region 14 with fail
          refine wp_region_list ?_
          refine wpList_load_row rfl 141 (.tmp 3) rfl (w.heap.size + 1) rfl 141 cs (0, 0) _ HM2.out.row Try.underlying141 rfl (by rw [HM2.out.refs.1]; kernel_rfl) ?_
          try simp only [Act.put]
          go_wp2_with fail
          have HNB := hid (newBranch_any cs x _ (f + 1) (w.heap.size + 1 + 1) _ (by have := (Array.getElem?_eq_some_iff.1 HM2.out.row).1; omega) (mid_refs HM2.out))
          refine HNB.out.mono ?_
          rintro e w5 ⟨a2, c2, rfl, r5, b5⟩
          have HSZ := hid (branchCells_size a2 c2 cs x HM2.out.refs.1)
          have HONE := hid (branchCells_one a2 c2 cs x (refs_one (mid_refs HM2.out)))
          have HZ5 : Hid (w5.heap[w.heap.size]? = some (.cells branchZero 143 (0, 0))) := (b5.block _ (Array.getElem?_eq_some_iff.1 HM2.out.res).1).trans HM2.out.res
          have HE := hid (mid_end (BB := branchCells a2 c2 cs x) HM2.out HFK.out HX.out b5 r5)
          have HGE : Hid ((w5.setRow w.heap.size (branchCells a2 c2 cs x)).heap[w.heap.size]? = some (.cells (branchCells a2 c2 cs x) 143 (0, 0))) := setRow_heap _ _ _ _ _ _ HZ5.out
          clear b5 r5 HNB
          have HBV : Hid (branchV a2 c2 cs x = branchV a2 c2 cs x) := rfl
          obtain ⟨BB, hBB⟩ : ∃ B, B = branchCells a2 c2 cs x := ⟨_, rfl⟩
          have HBB : Hid (BB = branchCells a2 c2 cs x) := hBB
          rw [← hBB] at HSZ HONE HE HGE ⊢
          clear hBB HMD HM2 HBV
          go_wp2_with (refine wpList_store_row rfl 143 (.tmp 2) (.tmp 34) rfl w.heap.size BB rfl rfl 143 branchZero HZ5.out (by rw [HSZ.out]; kernel_rfl) (by rw [HSZ.out]; rfl) HONE.out ?_)
          refine bodyPost_ret (v := .agg BB) (results_cell_row Try.results99 _ _ w.heap.size 143 BB (0, 0) _ rfl HGE.out Try.underlying143 rfl (by rw [HSZ.out]; kernel_rfl)) rfl ?_
          exact ⟨a2, c2, cs, x, by rw [HBB.out], HE.out.1, HE.out.2⟩
end Go.Proofs.Ytbmohenjphmlgaa

/- The walk of newExtension (of the program). -/
namespace Go.Proofs.Ytbmohenjphmlgaa
open Go.RowKit
set_option maxRecDepth 100000

theorem exec_load_row {P : Program} {o : Oper} {ρ : Operand → Value} {w : World} (ty : TypeId) (x : Operand) (ho : o.op = .load ty x)
    (g : Nat) (hx : ρ x = .pointer (some ⟨g, 0, none⟩)) (t : TypeId) (cs : Array Value) (fr : Nat × Nat) (d : TypeDesc) (hg : w.heap[g]? = some (.cells cs t fr))
    (hu : P.underlying ty = some d) (hd : (match d with | .struct _ | .array _ _ => true | _ => false) = true) (hi : (P.info? ty).map (·.size) = some cs.size) : Sem.run P (execOp ρ o) w = .ok (.value (.agg cs)) w := by
  unfold execOp
  simp only [ho, hx, Instr.loadAt, Instr.sureAddr, Sem.run_bind, Sem.run_pure, Result.andThen_ok, run_loadVar_row w g t ty cs fr d hg hu hd hi]

/-- What a step of a region leaves: a reference in block g. -/
theorem two_set {W : World} {g : Nat} {x0 x1 a b : Value} {e : TypeId} {fz : Nat × Nat} (h : W.heap[g]? = some (.cells #[x0, x1] e fz)) : ((W.setCell ⟨g, 0, none⟩ a).setCell ⟨g, 1, none⟩ b).heap[g]? = some (.cells #[a, b] e fz) := by
  simp [World.setCell, Array.getElem?_modify, h]

theorem ext_end {w F : World} {r m : Nat} {t : Itm} {b : Bool} {s' : ByteArray} {a : Option Addr} {n cap : Nat} (p : List UInt8) (d y : Value) (hf : t.items = []) (hr : Rep w.heap.size w (m + 1) (.agg #[.bool b, .string s', .slice a n cap]) t) (hb : Below w.heap.size w F)
    (hrow : F.heap[r]? = some (.cells #[.bool false, .string ⟨p.toArray⟩, .slice none 0 0, .bool b, .string s', .slice a n cap] 24 (0, 0))) (hle : w.heap.size ≤ r) {x : Value} :
    ∃ a' cap', Ending.returned (.iface 165 (.agg #[.int .i64 2, .bool true, .string ⟨#[]⟩, .slice (some ⟨r, 0, none⟩) 2 2, d, x, y])) = .returned (.iface 165 (.agg #[.int .i64 2, .bool true, .string ⟨#[]⟩, .slice a' 2 cap', d, x, y])) ∧
      RepW w.heap.size F.heap.size F (m + 2) (.agg #[.bool true, .string ⟨#[]⟩, .slice a' 2 cap']) (Tr.itL [Tr.itB p, t]) ∧ Below w.heap.size w F :=
  ⟨_, _, rfl, repW_flat (rowR_rep (rowR_of_block hrow hle (rep_bytes _ _ _ _) (rep_frame hb _ _ _ hr)) hb.size (by simp [maxLen])) (fun u hu => by
    simp only [Tr.itL, List.mem_cons, List.not_mem_nil, or_false] at hu
    rcases hu with rfl | rfl
    · rfl
    · exact hf) (fun b off e => by cases e; exact hle), hb⟩

theorem far1 {w : World} {g : Nat} {O : Obj} (h : w.heap[g]? = some O) : (¬ g = w.heap.size) ∧ (¬ w.heap.size = g) ∧ g < w.heap.size ∧ (¬ g = w.heap.size + 1) ∧ (¬ w.heap.size + 1 = g) := by
  have := (Array.getElem?_eq_some_iff.1 h).1
  exact ⟨by omega, by omega, this, by omega, by omega⟩

set_option maxHeartbeats 6400000 in
theorem newExtension_any {a : Option Addr} {cap m : Nat} {cs : Array Value} {x : ByteArray} {t : Itm} (d : ByteArray) (w : World) (hsz : d.size ≤ 10000000) (hd : ∀ c ∈ d.data.toList, c.toNat < 16) (hcs : cs.size = 32) (hs : Small t) (h8 : ¬ (Itm.enc t).length < 8) (hr : Rep w.heap.size w (m + 1) (.agg #[.bool true, .string ⟨#[]⟩, .slice a 17 cap]) t) :
    Calls Try.prog 98 #[.string d, .agg (branchCells a cap cs x)] w fun e w' => ∃ a' cap', e = .returned (.iface 165 (.agg #[.int .i64 2, .bool true, .string ⟨#[]⟩, .slice a' 2 cap', .string d, .string (refSum t), .iface 143 (.agg (branchCells a cap cs x))])) ∧ RepW w.heap.size w'.heap.size w' (m + 2) (.agg #[.bool true, .string ⟨#[]⟩, .slice a' 2 cap']) (Tr.itL [Tr.itB (Tr.path d.data.toList false), Tr.ref t]) ∧ Below w.heap.size w w' := by
  have HP := hid (fun w => pathOf_any d false w hsz hd)
  have HBI := hid (fun s w => bytesItem_any s w)
  have HLI := hid (fun a n cap w => listItem_any a n cap w)
  have HRI := hid (fun w' => refItem_any w' w (nd_branch a cap cs x) hr)
  have HSM := hid (fun w h => commonSum_any 3 a 17 cap true ⟨#[]⟩ m t w hs h)
  have HR := hid hr
  have HRS := hid (refSum_some h8)
  have HFL : Hid ((Tr.ref t).items = []) := by rw [Hid, Tr.ref_long h8]; rfl
  obtain ⟨k0, k1, k2, k3⟩ := branchCells_at a cap cs x
  have hsize := branchCells_size a cap cs x hcs
  generalize branchCells a cap cs x = BB at *
  clear hr h8 hd
  go_enter Try.func98, Try.ntmps98
  go_upto_region 1 with fail
  have HG : Hid ((w.alloc (.cells BB 143)).heap[w.heap.size]? = some (.cells BB 143 (0, 0))) := heap_alloc_new w _
  refine wp_region_L (fun w' => w'.heap[w.heap.size]? = some (.cells BB 143 (0, 0))) 7 (by kernel_rfl) ?_
  have hS : (fun w' : World => w'.heap[w.heap.size]? = some (.cells BB 143 (0, 0))) (w.alloc (.cells BB 143)).drew := HG.out
  refine wpAnyL_take (i := 0) (v := .pointer (some ⟨w.heap.size, 0, none⟩)) rfl (by kernel_rfl) (by kernel_rfl) (by kernel_rfl) (by kernel_rfl) (by kernel_rfl) (fun _ _ _ h => h) hS (Or.inl ⟨by kernel_rfl, ?_⟩) ?_
  · (intro w' hSw; go_simp)
  try simp only [Act.put]
  refine wpAnyL_take (i := 1) (v := .agg #[.int .i64 3, .bool true, .string ⟨#[]⟩, .slice a 17 cap]) rfl (by kernel_rfl) (by kernel_rfl) (by kernel_rfl) (by kernel_rfl) (by kernel_rfl) (fun _ _ _ h => h) hS (Or.inl ⟨by kernel_rfl, ?_⟩) ?_
  · intro w' hSw
    have z0 := (cell_of_row w' _ 0 _ _ _ hSw).trans k0
    have z1 := (cell_of_row w' _ 1 _ _ _ hSw).trans k1
    have z2 := (cell_of_row w' _ 2 _ _ _ hSw).trans k2
    have z3 := (cell_of_row w' _ 3 _ _ _ hSw).trans k3
    go_simp
  try simp only [Act.put]
  refine wpAnyL_take (i := 3) (v := .agg BB) rfl (by kernel_rfl) (by kernel_rfl) (by kernel_rfl) (by kernel_rfl) (by kernel_rfl) (fun _ _ _ h => h) hS (Or.inl ⟨by kernel_rfl, ?_⟩) ?_
  · intro w' hSw
    exact exec_load_row 143 (.tmp 3) rfl w.heap.size rfl 143 BB (0, 0) _ hSw Try.underlying143 rfl (by rw [hsize]; kernel_rfl)
  try simp only [Act.put]
  refine wpAnyL_take (i := 4) (v := .iface 143 (.agg BB)) rfl (by kernel_rfl) (by kernel_rfl) (by kernel_rfl) (by kernel_rfl) (by kernel_rfl) (fun _ _ _ h => h) hS (Or.inl ⟨by kernel_rfl, ?_⟩) ?_
  · (intro w' hSw; go_simp)
  try simp only [Act.put]
  have HWB : Hid (Below w.heap.size w (w.alloc (.cells BB 143))) := (Below.refl _ _).alloc (Nat.le_refl _) _
  refine wpAnyL_ready (rs := [2, 6]) (by kernel_rfl) (by simp) ?_
  refine AllReadyL.cons rfl (fun K hK => ?_) (AllReadyL.cons rfl (fun K hK => ?_) AllReadyL.nil)
  · go_simp
    refine (HSM.out _ (rep_later HWB.out.drew HR.out)).mono ?_
    rintro e w1 ⟨rfl, b1⟩
    have hS1 : w1.heap[w.heap.size]? = some (.cells BB 143 (0, 0)) := (b1.block _ (by show w.heap.size < (w.alloc (.cells BB 143)).heap.size; rw [alloc_size]; omega)).trans HG.out
    have HB1 : Hid (Below w.heap.size w w1) := HWB.out.drew.trans (b1.mono (by show w.heap.size ≤ (w.alloc (.cells BB 143)).heap.size; rw [alloc_size]; omega))
    clear b1
    refine hK.out _ _ hS1 ?_
    clear hK K
    try simp only [Act.put]
    refine wpAnyL_take (i := 5) (v := .agg #[.string ⟨(Tr.sum (Itm.enc t)).toArray⟩, .iface 143 (.agg BB)]) rfl (by kernel_rfl) (by kernel_rfl) (by kernel_rfl) (by kernel_rfl) (by kernel_rfl) (fun _ _ _ h => h) hS1 (Or.inl ⟨by kernel_rfl, ?_⟩) ?_
    · (intro w' hSw; go_simp)
    try simp only [Act.put]
    refine wpAnyL_ready (rs := [6]) (by kernel_rfl) (by simp) ?_
    refine AllReadyL.cons rfl (fun K hK => ?_) AllReadyL.nil
    go_simp
    refine hK.out _ _ ((Below.heap_alloc _ _ _ (Array.getElem?_eq_some_iff.1 hS1).1).trans hS1) ?_
    clear hK K
    try simp only [Act.put]
    refine wpAnyL_ready (rs := [7]) (by kernel_rfl) (by simp) ?_
    refine AllReadyL.last rfl (fun K hK => ?_)
    go_simp
    refine hK.out _ _ ?_
    clear hK K
    try simp only [Act.put]
    refine wpAny_done (by kernel_rfl) ?_ _
    have HBW' : Hid (Below w.heap.size w (w1.alloc (.cells #[.string ⟨(Tr.sum (Itm.enc t)).toArray⟩, .iface 143 (.agg BB)] 140))) := HB1.out.alloc HB1.out.size _
    have HKW' := hid (heap_alloc_new w1 (.cells #[.string ⟨(Tr.sum (Itm.enc t)).toArray⟩, .iface 143 (.agg BB)] 140))
    rw [← HRS.out] at HKW' HBW' ⊢
    obtain ⟨S, hSS⟩ : ∃ S, S = refSum t := ⟨_, rfl⟩
    have HSS : Hid (S = refSum t) := hSS
    rw [← hSS] at HKW' HBW' HRI ⊢
    clear hSS
    generalize hg : w1.heap.size = g at *
    generalize w1.alloc (.cells #[.string S, .iface 143 (.agg BB)] 140) = W at *
    have HKW := HKW'
    have HBW := HBW'
    clear hg HKW' HBW' hS1 HB1 hS HG HWB HSM HR HRS k0 k1 k2 k3
    have g0 := cell_of_row _ _ 0 _ _ _ HKW.out
    have g1 := cell_of_row _ _ 1 _ _ _ HKW.out
    obtain ⟨p1, p2, p3, p4, p5⟩ := far1 HKW.out
    go_wp2_with fail
    go_region_held3 (fun w' => w'.cell? ⟨g, 0, none⟩ = some (.string S) ∧ w'.cell? ⟨g, 1, none⟩ = some (.iface 143 (.agg BB))) (go_keep)
      ((first
        | (go_at_call 114; refine (HP.out _).mono ?_; rintro e w2 ⟨rfl, b2⟩; (first | (have HK2 : Hid (w2.heap[g]? = some (.cells #[.string S, .iface 143 (.agg BB)] 140 (0, 0))) := kept_block b2 (block_alloc HKW.out); have HV2 : Hid (w2.heap[W.heap.size]? = some (.cells #[.bool false, .string ⟨#[]⟩, .slice none 0 0] 24 (0, 0))) := kept_block b2 (heap_alloc_new W _); have HB2 : Hid (Below w.heap.size w w2) := belowC (belowA HBW.out.drew _) b2; have hgw := HBW.out.size) | (have HK2 : Hid (w2.heap[g]? = some (.cells #[.string S, .iface 143 (.agg BB)] 140 (0, 0))) := kept_block b2 HKW.out; have HB2 : Hid (Below w.heap.size w w2) := belowC HBW.out.drew b2)); obtain ⟨x1, x2, x3, x4, x5⟩ := far1 HK2.out; obtain ⟨m20, m21⟩ := pair_cells HK2.out; clear b2)
        | (go_at_call 112; refine (HBI.out _ _).mono ?_; rintro e w3 ⟨rfl, b3⟩; (first | (have HK3 : Hid (w3.heap[g]? = some (.cells #[.string S, .iface 143 (.agg BB)] 140 (0, 0))) := kept_block b3 (block_alloc HK2.out); have HV3 : Hid (w3.heap[w2.heap.size]? = some (.cells #[.bool false, .string ⟨#[]⟩, .slice none 0 0] 24 (0, 0))) := kept_block b3 (heap_alloc_new w2 _); have HB3 : Hid (Below w.heap.size w w3) := belowC (belowA HB2.out _) b3; have hgw := HB2.out.size) | (have HK3 : Hid (w3.heap[g]? = some (.cells #[.string S, .iface 143 (.agg BB)] 140 (0, 0))) := kept_block b3 HK2.out; have HB3 : Hid (Below w.heap.size w w3) := belowC HB2.out b3; (first | (have HV3 := hid (kept_block b3 HV2.out)) | skip))); obtain ⟨y1, y2, y3, y4, y5⟩ := far1 HK3.out; obtain ⟨m30, m31⟩ := pair_cells HK3.out; clear b3)
        | (go_at_call 117; refine (HRI.out _).mono ?_; rintro e w4 ⟨l', s', a', n', cap', rfl, r4, b4⟩; (first | (have HK4 : Hid (w4.heap[g]? = some (.cells #[.string S, .iface 143 (.agg BB)] 140 (0, 0))) := kept_block b4 (block_alloc HK3.out); have HV4 : Hid (w4.heap[w3.heap.size]? = some (.cells #[.bool false, .string ⟨#[]⟩, .slice none 0 0] 24 (0, 0))) := kept_block b4 (heap_alloc_new w3 _); have HB4 : Hid (Below w.heap.size w w4) := belowC (belowA HB3.out _) b4; have hgw := HB3.out.size) | (have HK4 : Hid (w4.heap[g]? = some (.cells #[.string S, .iface 143 (.agg BB)] 140 (0, 0))) := kept_block b4 HK3.out; have HB4 : Hid (Below w.heap.size w w4) := belowC HB3.out b4; (first | (have HV4 := hid (kept_block b4 HV3.out)) | skip))); obtain ⟨z1, z2, z3, z4, z5⟩ := far1 HK4.out; obtain ⟨m40, m41⟩ := pair_cells HK4.out; have HR4 := hid r4; clear r4; clear b4)
        | (go_at_call 113; refine (HLI.out _ _ _ _).mono ?_; rintro e w5 ⟨rfl, b5⟩; (first | (have HV5 : Hid (w5.heap[w4.heap.size + 1]? = some (.cells #[.bool false, .string ⟨#[]⟩, .slice none 0 0] 24 (0, 0))) := kept_block b5 (block_alloc2 w4 _ _); have HK5 : Hid (w5.heap[g]? = some (.cells #[.string S, .iface 143 (.agg BB)] 140 (0, 0))) := kept_block b5 (block_alloc (block_alloc HK4.out)); have hgw := Nat.le_succ_of_le HB4.out.size; have HB5 := hid b5; have n50 := cell_of_row _ _ 0 _ _ _ HV5.out; have n51 := cell_of_row _ _ 1 _ _ _ HV5.out; have n52 := cell_of_row _ _ 2 _ _ _ HV5.out; have o50 := frozen_of_row _ _ 0 _ _ HV5.out; have o51 := frozen_of_row _ _ 1 _ _ HV5.out; have o52 := frozen_of_row _ _ 2 _ _ HV5.out) | (have HV5 : Hid (w5.heap[w4.heap.size]? = some (.cells #[.bool false, .string ⟨#[]⟩, .slice none 0 0] 24 (0, 0))) := kept_block b5 (block_alloc (heap_alloc_new w4 _)); have HK5 : Hid (w5.heap[g]? = some (.cells #[.string S, .iface 143 (.agg BB)] 140 (0, 0))) := kept_block b5 (block_alloc (block_alloc HK4.out)); have hgw := HB4.out.size; have HB5 := hid b5; have n50 := cell_of_row _ _ 0 _ _ _ HV5.out; have n51 := cell_of_row _ _ 1 _ _ _ HV5.out; have n52 := cell_of_row _ _ 2 _ _ _ HV5.out; have o50 := frozen_of_row _ _ 0 _ _ HV5.out; have o51 := frozen_of_row _ _ 1 _ _ HV5.out; have o52 := frozen_of_row _ _ 2 _ _ HV5.out) | (have HV5 := hid (kept_block b5 (block_alloc HV4.out)); have HK5 : Hid (w5.heap[g]? = some (.cells #[.string S, .iface 143 (.agg BB)] 140 (0, 0))) := kept_block b5 (block_alloc HK4.out); have HB5 := hid b5; have n50 := cell_of_row _ _ 0 _ _ _ HV5.out; have n51 := cell_of_row _ _ 1 _ _ _ HV5.out; have n52 := cell_of_row _ _ 2 _ _ _ HV5.out; have o50 := frozen_of_row _ _ 0 _ _ HV5.out; have o51 := frozen_of_row _ _ 1 _ _ HV5.out; have o52 := frozen_of_row _ _ 2 _ _ HV5.out) | (have HK5 : Hid (w5.heap[g]? = some (.cells #[.string S, .iface 143 (.agg BB)] 140 (0, 0))) := kept_block b5 (block_alloc HK4.out); have HB5 := hid b5)); obtain ⟨q1, q2, q3, q4, q5⟩ := far1 HK5.out; obtain ⟨m50, m51⟩ := pair_cells HK5.out; clear b5)))
    all_goals go_wp2_with fail
    all_goals go_ret
    all_goals rw [← HSS.out]
    all_goals first
      | exact ext_end _ _ _ HFL.out HR4.out (belowA (belowC (belowA HB4.out _) HB5.out) _) (block_alloc (kept_block HB5.out (heap_alloc_new w4 _))) HB4.out.size
      | exact ext_end _ _ _ HFL.out HR4.out (three_below (belowC (belowA (belowA HB4.out _) _) HB5.out) hgw _ _ _) (set3_other (kept_block HB5.out (block_alloc (heap_alloc_new w4 _))) (Nat.ne_of_gt (Nat.lt_succ_self _))) HB4.out.size
      | exact ext_end _ _ _ HFL.out HR4.out (three_below (belowC (belowA (belowA HB4.out _) _) HB5.out) hgw _ _ _) (set3_other (kept_block HB5.out (block_alloc2 w4 _ _)) (Nat.ne_of_lt (Nat.lt_succ_self _))) (Nat.le_succ_of_le HB4.out.size)
      | exact ext_end _ _ _ HFL.out HR4.out (three_below (belowC (belowA HB4.out _) HB5.out) hgw _ _ _) (set3_other (kept_block HB5.out (heap_alloc_new w4 _)) (far_ne HV4.out).2.2.1) HB4.out.size
  · go_simp
    have HG2 : Hid (((w.alloc (.cells BB 143)).alloc (.cells #[.string ⟨#[]⟩, .nilIface] 140)).drew.heap[w.heap.size]? = some (.cells BB 143 (0, 0))) := (Below.heap_alloc _ _ _ (by rw [alloc_size]; omega)).trans HG.out
    have HX2 : Hid (((w.alloc (.cells BB 143)).alloc (.cells #[.string ⟨#[]⟩, .nilIface] 140)).drew.heap[w.heap.size + 1]? = some (.cells #[.string ⟨#[]⟩, .nilIface] 140 (0, 0))) := block_alloc2 w _ _
    have HW2 : Hid (Below w.heap.size w ((w.alloc (.cells BB 143)).alloc (.cells #[.string ⟨#[]⟩, .nilIface] 140)).drew) := (HWB.out.alloc HWB.out.size _).drew
    refine hK.out _ _ HG2.out ?_
    clear hK K
    try simp only [Act.put]
    refine wpAnyL_ready (rs := [2]) (by kernel_rfl) (by simp) ?_
    refine AllReadyL.cons rfl (fun K hK => ?_) AllReadyL.nil
    go_simp
    refine (HSM.out _ (rep_later HW2.out HR.out)).mono ?_
    rintro e w1 ⟨rfl, b1⟩
    have hS1 : w1.heap[w.heap.size]? = some (.cells BB 143 (0, 0)) := kept_block b1 HG2.out
    have HX1 : Hid (w1.heap[w.heap.size + 1]? = some (.cells #[.string ⟨#[]⟩, .nilIface] 140 (0, 0))) := kept_block b1 HX2.out
    have HB1 : Hid (Below w.heap.size w w1) := HW2.out.trans (b1.mono HW2.out.size)
    clear b1
    refine hK.out _ _ hS1 ?_
    clear hK K
    try simp only [Act.put]
    refine wpAnyL_take (i := 5) (v := .agg #[.string ⟨(Tr.sum (Itm.enc t)).toArray⟩, .iface 143 (.agg BB)]) rfl (by kernel_rfl) (by kernel_rfl) (by kernel_rfl) (by kernel_rfl) (by kernel_rfl) (fun _ _ _ h => h) hS1 (Or.inl ⟨by kernel_rfl, ?_⟩) ?_
    · (intro w' hSw; go_simp)
    try simp only [Act.put]
    have x0 := cell_of_row _ _ 0 _ _ _ HX1.out
    have x1 := cell_of_row _ _ 1 _ _ _ HX1.out
    have f0 := frozen_of_row _ _ 0 _ _ HX1.out
    have f1 := frozen_of_row _ _ 1 _ _ HX1.out
    refine wpAnyL_ready (rs := [7]) (by kernel_rfl) (by simp) ?_
    refine AllReadyL.last rfl (fun K hK => ?_)
    go_simp
    refine hK.out _ _ ?_
    clear hK K
    try simp only [Act.put]
    refine wpAny_done (by kernel_rfl) ?_ _
    have HKW' := hid (two_set (a := .string ⟨(Tr.sum (Itm.enc t)).toArray⟩) (b := .iface 143 (.agg BB)) HX1.out)
    have HBW' : Hid (Below w.heap.size w ((w1.setCell ⟨w.heap.size + 1, 0, none⟩ (.string ⟨(Tr.sum (Itm.enc t)).toArray⟩)).setCell ⟨w.heap.size + 1, 1, none⟩ (.iface 143 (.agg BB)))) := (HB1.out.setCell (p := ⟨w.heap.size + 1, 0, none⟩) (Nat.le_succ _) _).setCell (p := ⟨w.heap.size + 1, 1, none⟩) (Nat.le_succ _) _
    rw [← HRS.out] at HKW' HBW' ⊢
    obtain ⟨S, hSS⟩ : ∃ S, S = refSum t := ⟨_, rfl⟩
    have HSS : Hid (S = refSum t) := hSS
    rw [← hSS] at HKW' HBW' HRI ⊢
    clear hSS
    clear x0 x1 f0 f1 hS1 HB1 hS HG HWB HSM HR HRS k0 k1 k2 k3 HG2 HX2 HW2 HX1
    generalize (w1.setCell ⟨w.heap.size + 1, 0, none⟩ (.string S)).setCell ⟨w.heap.size + 1, 1, none⟩ (.iface 143 (.agg BB)) = W at *
    generalize w.heap.size + 1 = g at *
    have HKW := HKW'
    have HBW := HBW'
    clear HKW' HBW'
    have g0 := cell_of_row _ _ 0 _ _ _ HKW.out
    have g1 := cell_of_row _ _ 1 _ _ _ HKW.out
    obtain ⟨p1, p2, p3, p4, p5⟩ := far1 HKW.out
    go_wp2_with fail
    go_region_held3 (fun w' => w'.cell? ⟨g, 0, none⟩ = some (.string S) ∧ w'.cell? ⟨g, 1, none⟩ = some (.iface 143 (.agg BB))) (go_keep)
      ((first
        | (go_at_call 114; refine (HP.out _).mono ?_; rintro e w2 ⟨rfl, b2⟩; (first | (have HK2 : Hid (w2.heap[g]? = some (.cells #[.string S, .iface 143 (.agg BB)] 140 (0, 0))) := kept_block b2 (block_alloc HKW.out); have HV2 : Hid (w2.heap[W.heap.size]? = some (.cells #[.bool false, .string ⟨#[]⟩, .slice none 0 0] 24 (0, 0))) := kept_block b2 (heap_alloc_new W _); have HB2 : Hid (Below w.heap.size w w2) := belowC (belowA HBW.out.drew _) b2; have hgw := HBW.out.size) | (have HK2 : Hid (w2.heap[g]? = some (.cells #[.string S, .iface 143 (.agg BB)] 140 (0, 0))) := kept_block b2 HKW.out; have HB2 : Hid (Below w.heap.size w w2) := belowC HBW.out.drew b2)); obtain ⟨x1, x2, x3, x4, x5⟩ := far1 HK2.out; obtain ⟨m20, m21⟩ := pair_cells HK2.out; clear b2)
        | (go_at_call 112; refine (HBI.out _ _).mono ?_; rintro e w3 ⟨rfl, b3⟩; (first | (have HK3 : Hid (w3.heap[g]? = some (.cells #[.string S, .iface 143 (.agg BB)] 140 (0, 0))) := kept_block b3 (block_alloc HK2.out); have HV3 : Hid (w3.heap[w2.heap.size]? = some (.cells #[.bool false, .string ⟨#[]⟩, .slice none 0 0] 24 (0, 0))) := kept_block b3 (heap_alloc_new w2 _); have HB3 : Hid (Below w.heap.size w w3) := belowC (belowA HB2.out _) b3; have hgw := HB2.out.size) | (have HK3 : Hid (w3.heap[g]? = some (.cells #[.string S, .iface 143 (.agg BB)] 140 (0, 0))) := kept_block b3 HK2.out; have HB3 : Hid (Below w.heap.size w w3) := belowC HB2.out b3; (first | (have HV3 := hid (kept_block b3 HV2.out)) | skip))); obtain ⟨y1, y2, y3, y4, y5⟩ := far1 HK3.out; obtain ⟨m30, m31⟩ := pair_cells HK3.out; clear b3)
        | (go_at_call 117; refine (HRI.out _).mono ?_; rintro e w4 ⟨l', s', a', n', cap', rfl, r4, b4⟩; (first | (have HK4 : Hid (w4.heap[g]? = some (.cells #[.string S, .iface 143 (.agg BB)] 140 (0, 0))) := kept_block b4 (block_alloc HK3.out); have HV4 : Hid (w4.heap[w3.heap.size]? = some (.cells #[.bool false, .string ⟨#[]⟩, .slice none 0 0] 24 (0, 0))) := kept_block b4 (heap_alloc_new w3 _); have HB4 : Hid (Below w.heap.size w w4) := belowC (belowA HB3.out _) b4; have hgw := HB3.out.size) | (have HK4 : Hid (w4.heap[g]? = some (.cells #[.string S, .iface 143 (.agg BB)] 140 (0, 0))) := kept_block b4 HK3.out; have HB4 : Hid (Below w.heap.size w w4) := belowC HB3.out b4; (first | (have HV4 := hid (kept_block b4 HV3.out)) | skip))); obtain ⟨z1, z2, z3, z4, z5⟩ := far1 HK4.out; obtain ⟨m40, m41⟩ := pair_cells HK4.out; have HR4 := hid r4; clear r4; clear b4)
        | (go_at_call 113; refine (HLI.out _ _ _ _).mono ?_; rintro e w5 ⟨rfl, b5⟩; (first | (have HV5 : Hid (w5.heap[w4.heap.size + 1]? = some (.cells #[.bool false, .string ⟨#[]⟩, .slice none 0 0] 24 (0, 0))) := kept_block b5 (block_alloc2 w4 _ _); have HK5 : Hid (w5.heap[g]? = some (.cells #[.string S, .iface 143 (.agg BB)] 140 (0, 0))) := kept_block b5 (block_alloc (block_alloc HK4.out)); have hgw := Nat.le_succ_of_le HB4.out.size; have HB5 := hid b5; have n50 := cell_of_row _ _ 0 _ _ _ HV5.out; have n51 := cell_of_row _ _ 1 _ _ _ HV5.out; have n52 := cell_of_row _ _ 2 _ _ _ HV5.out; have o50 := frozen_of_row _ _ 0 _ _ HV5.out; have o51 := frozen_of_row _ _ 1 _ _ HV5.out; have o52 := frozen_of_row _ _ 2 _ _ HV5.out) | (have HV5 : Hid (w5.heap[w4.heap.size]? = some (.cells #[.bool false, .string ⟨#[]⟩, .slice none 0 0] 24 (0, 0))) := kept_block b5 (block_alloc (heap_alloc_new w4 _)); have HK5 : Hid (w5.heap[g]? = some (.cells #[.string S, .iface 143 (.agg BB)] 140 (0, 0))) := kept_block b5 (block_alloc (block_alloc HK4.out)); have hgw := HB4.out.size; have HB5 := hid b5; have n50 := cell_of_row _ _ 0 _ _ _ HV5.out; have n51 := cell_of_row _ _ 1 _ _ _ HV5.out; have n52 := cell_of_row _ _ 2 _ _ _ HV5.out; have o50 := frozen_of_row _ _ 0 _ _ HV5.out; have o51 := frozen_of_row _ _ 1 _ _ HV5.out; have o52 := frozen_of_row _ _ 2 _ _ HV5.out) | (have HV5 := hid (kept_block b5 (block_alloc HV4.out)); have HK5 : Hid (w5.heap[g]? = some (.cells #[.string S, .iface 143 (.agg BB)] 140 (0, 0))) := kept_block b5 (block_alloc HK4.out); have HB5 := hid b5; have n50 := cell_of_row _ _ 0 _ _ _ HV5.out; have n51 := cell_of_row _ _ 1 _ _ _ HV5.out; have n52 := cell_of_row _ _ 2 _ _ _ HV5.out; have o50 := frozen_of_row _ _ 0 _ _ HV5.out; have o51 := frozen_of_row _ _ 1 _ _ HV5.out; have o52 := frozen_of_row _ _ 2 _ _ HV5.out) | (have HK5 : Hid (w5.heap[g]? = some (.cells #[.string S, .iface 143 (.agg BB)] 140 (0, 0))) := kept_block b5 (block_alloc HK4.out); have HB5 := hid b5)); obtain ⟨q1, q2, q3, q4, q5⟩ := far1 HK5.out; obtain ⟨m50, m51⟩ := pair_cells HK5.out; clear b5)))
    all_goals go_wp2_with fail
    all_goals go_ret
    all_goals rw [← HSS.out]
    all_goals first
      | exact ext_end _ _ _ HFL.out HR4.out (belowA (belowC (belowA HB4.out _) HB5.out) _) (block_alloc (kept_block HB5.out (heap_alloc_new w4 _))) HB4.out.size
      | exact ext_end _ _ _ HFL.out HR4.out (three_below (belowC (belowA (belowA HB4.out _) _) HB5.out) hgw _ _ _) (set3_other (kept_block HB5.out (block_alloc (heap_alloc_new w4 _))) (Nat.ne_of_gt (Nat.lt_succ_self _))) HB4.out.size
      | exact ext_end _ _ _ HFL.out HR4.out (three_below (belowC (belowA (belowA HB4.out _) _) HB5.out) hgw _ _ _) (set3_other (kept_block HB5.out (block_alloc2 w4 _ _)) (Nat.ne_of_lt (Nat.lt_succ_self _))) (Nat.le_succ_of_le HB4.out.size)
      | exact ext_end _ _ _ HFL.out HR4.out (three_below (belowC (belowA HB4.out _) HB5.out) hgw _ _ _) (set3_other (kept_block HB5.out (heap_alloc_new w4 _)) (far_ne HV4.out).2.2.1) HB4.out.size
end Go.Proofs.Ytbmohenjphmlgaa
