/- Part 3 of a proof: what the last text needs. -/
import Derived.Test.YtbmohenjphmlgaaPart2
import Derived.Deep.LoopGhost
import Derived.Laws.BytesArg
import Derived.Lib.ConvBytes
import Derived.Lib.UnsafeStr
/- Items as they lie in memory, to be read: whoever made them, in blocks below some number. -/
namespace Go.Proofs.Ytbmohenjphmlgaa
open Go.RowKit
set_option maxRecDepth 100000

/-- v is the item t, as it reads in w; all its lists lie in blocks below B; at most n levels. -/
def Rep (B : Nat) (w : World) : Nat → Value → Itm → Prop
  | 0 => fun _ _ => False
  | n + 1 => fun v t => ∃ a cap, v = .agg #[.bool t.list, .string ⟨t.bytes.toArray⟩, .slice a t.items.length cap] ∧ t.items.length ≤ maxLen ∧
      ∀ i (h : i < t.items.length), ∃ b off c0 c1 c2, a = some ⟨b, off, none⟩ ∧ b < B ∧ w.cell? ⟨b, off + i * 3, none⟩ = some c0 ∧ w.cell? ⟨b, off + i * 3 + 1, none⟩ = some c1 ∧ w.cell? ⟨b, off + i * 3 + 2, none⟩ = some c2 ∧
        Rep B w n (.agg #[c0, c1, c2]) t.items[i]

theorem rep_frame {B : Nat} {w w' : World} (hb : Below B w w') : ∀ (n : Nat) (v : Value) (t : Itm), Rep B w n v t → Rep B w' n v t := by
  intro n
  induction n with
  | zero => intro v t h; exact h
  | succ n ih =>
    intro v t h
    obtain ⟨a, cap, hv, hm, h⟩ := h
    refine ⟨a, cap, hv, hm, fun i hi => ?_⟩
    obtain ⟨b, off, c0, c1, c2, ha, hlt, e0, e1, e2, hr⟩ := h i hi
    exact ⟨b, off, c0, c1, c2, ha, hlt, by rw [hb.cell hlt]; exact e0, by rw [hb.cell hlt]; exact e1, by rw [hb.cell hlt]; exact e2, ih _ _ hr⟩

theorem rep_wider {B B' : Nat} {w : World} (hB : B ≤ B') : ∀ (n : Nat) (v : Value) (t : Itm), Rep B w n v t → Rep B' w n v t := by
  intro n
  induction n with
  | zero => intro v t h; exact h
  | succ n ih =>
    intro v t h
    obtain ⟨a, cap, hv, hm, h⟩ := h
    refine ⟨a, cap, hv, hm, fun i hi => ?_⟩
    obtain ⟨b, off, c0, c1, c2, ha, hlt, e0, e1, e2, hr⟩ := h i hi
    exact ⟨b, off, c0, c1, c2, ha, by omega, e0, e1, e2, ih _ _ hr⟩

/-- The three cells of an item that is read. -/
theorem rep_shape {B : Nat} {w : World} {n : Nat} {c0 c1 c2 : Value} {t : Itm} (h : Rep B w n (.agg #[c0, c1, c2]) t) :
    ∃ a cap, c0 = .bool t.list ∧ c1 = .string ⟨t.bytes.toArray⟩ ∧ c2 = .slice a t.items.length cap := by
  cases n with
  | zero => exact h.elim
  | succ n =>
    obtain ⟨a, cap, hv, _⟩ := h
    simp at hv
    exact ⟨a, cap, hv.1, hv.2.1, hv.2.2⟩

/-- What is read in one world is read in a later one. -/
theorem rep_later {w w' : World} (hb : Below w.heap.size w w') {n : Nat} {v : Value} {t : Itm} (h : Rep w.heap.size w n v t) : Rep w'.heap.size w' n v t :=
  rep_wider hb.size n v t (rep_frame hb n v t h)

theorem tri_cells {w : World} {E base g cap n : Nat} {xs : List Value} (ho : w.ownsRow base E 3 (.slice (some ⟨g, 0, none⟩) n cap) n xs) (i : Nat) (hi : i < n) :
    w.cell? ⟨g, 0 + i * 3, none⟩ = some (xs.getD (3 * i) default) ∧ w.cell? ⟨g, 0 + i * 3 + 1, none⟩ = some (xs.getD (3 * i + 1) default) ∧ w.cell? ⟨g, 0 + i * 3 + 2, none⟩ = some (xs.getD (3 * i + 2) default) := by
  have hx := ho.1
  have key : ∀ j, j < n * 3 → w.cell? ⟨g, j, none⟩ = some (xs.getD j default) := by
    intro j hj
    rw [ho.cellAt j hj, List.getD_eq_getElem?_getD, List.getElem?_eq_getElem (by omega)]
    rfl
  exact ⟨by rw [Nat.zero_add, Nat.mul_comm i 3]; exact key _ (by omega), by rw [Nat.zero_add, Nat.mul_comm i 3]; exact key _ (by omega), by rw [Nat.zero_add, Nat.mul_comm i 3]; exact key _ (by omega)⟩

/-- What is owned can be read. -/
theorem rep_of_own {E : TypeId} {w : World} {B : Nat} : ∀ (n lo hi : Nat) (v : Value) (t : Itm), hi ≤ B → Own E w n lo hi v t → Rep B w n v t := by
  intro n
  induction n with
  | zero => intro lo hi v t _ h; exact h
  | succ n ih =>
    intro lo hi v t hB h
    obtain ⟨sl, hv, xs, ho, hg, L, H, hL, _⟩ := h
    rcases ho.2 with ⟨rfl, h0⟩ | ⟨g, cap, cur, rfl, _, _, hnc, hcm, _⟩
    · refine ⟨none, 0, by rw [hv, h0], by rw [h0]; exact Nat.zero_le _, fun i hi => ?_⟩
      omega
    · refine ⟨some ⟨g, 0, none⟩, cap, hv, Nat.le_trans hnc hcm, fun i hi => ?_⟩
      obtain ⟨q1, q2, q3, q4⟩ := hL i hi
      obtain ⟨e0, e1, e2⟩ := tri_cells ho i hi
      have hgl := hg g rfl
      exact ⟨g, 0, _, _, _, rfl, by omega, e0, e1, e2, ih (L i) (H i) _ _ (by omega) q4⟩

end Go.Proofs.Ytbmohenjphmlgaa

/- The walk of 'depth': an item that lies in memory has the depth that 'deep' says. -/
namespace Go.Proofs.Ytbmohenjphmlgaa
open Go.RowKit
set_option maxRecDepth 100000

/-- The greatest depth among the first k items. -/
def topTo (t : Itm) (k : Nat) : Nat := Itm.top ((t.items.take k).map Itm.deep)

theorem topTo_zero (t : Itm) : topTo t 0 = 0 := by simp [topTo, Itm.top_nil]

theorem topTo_succ (t : Itm) (k : Nat) (h : k < t.items.length) : topTo t (k + 1) = max (topTo t k) (Itm.deep t.items[k]) := by
  unfold topTo
  rw [List.take_succ_eq_append_getElem h, List.map_append, Itm.top_append]
  simp [Itm.top_cons, Itm.top_nil]

theorem topTo_all (t : Itm) (h : t.list = true) : Itm.deep t = topTo t t.items.length + 1 := by
  rw [Itm.deep_eq, if_pos h]
  simp [topTo]

theorem topTo_le (t : Itm) (k : Nat) (h : t.list = true) : topTo t k + 1 ≤ Itm.deep t := by
  rw [Itm.deep_eq, if_pos h]
  unfold topTo
  have : Itm.top ((t.items.take k).map Itm.deep) ≤ Itm.top (t.items.map Itm.deep) := by
    refine Itm.top_le fun x hx => Itm.le_top ?_
    simp only [List.mem_map] at hx ⊢
    obtain ⟨y, hy, rfl⟩ := hx
    exact ⟨y, List.mem_of_mem_take hy, rfl⟩
  omega

theorem deep_kid (t : Itm) (k : Nat) (hk : k < t.items.length) (h : t.list = true) : Itm.deep t.items[k] < Itm.deep t := by
  have h1 := topTo_le t (k + 1) h
  rw [topTo_succ t k hk] at h1
  omega

/-- An item that could be read in w can be read in any later world. -/
theorem rep_in {w w' : World} {n : Nat} {v : Value} {t : Itm} (h : Rep w.heap.size w n v t) (hb : Below w.heap.size w w') : Rep w'.heap.size w' n v t := rep_later hb h

set_option maxHeartbeats 800000 in
theorem depth_any (n : Nat) : ∀ (v : Value) (t : Itm) (w : World), Rep w.heap.size w n v t → Itm.deep t ≤ 1000000000 →
    Calls Try.prog 68 #[v] w fun e w' => e = .returned (.int .i64 (Itm.deep t)) ∧ Below w.heap.size w w' := by
  induction n with
  | zero => intro v t w h; exact h.elim
  | succ n ih =>
    intro v t w hrep hd
    obtain ⟨a, cap, rfl, hm, hkids⟩ := hrep
    by_cases hl : t.list
    · have hl' : t.list = true := hl
      have HK := hid hkids
      have IH := hid ih
      have HD := hid hd
      clear hkids ih hd hl
      unfold maxLen at hm
      have HL := hid hl'
      rw [hl']
      clear hl'
      go_enter Try.func68, Try.ntmps68
      go_wp2_with fail
      go_loopw [3, 12] (fun d i wr => ∃ k : Nat, k ≤ t.items.length ∧ i = .int .i64 k ∧ d = .int .i64 (topTo t k) ∧ Hid (Below w.heap.size w wr)) (fun _ i _ => t.items.length - (intOf i).toNat)
      case atStart => exact ⟨0, Nat.zero_le _, rfl, by rw [topTo_zero]; rfl, (Below.refl _ _).alloc (Nat.le_refl _) _⟩
      case round =>
        obtain ⟨k, hk, rfl, rfl, HB⟩ := hrel
        have htb : topTo t k + 1 ≤ 1000000000 := Nat.le_trans (topTo_le t k HL.out) HD.out
        by_cases hlt : k < t.items.length
        · obtain ⟨b, off, c0, c1, c2, rfl, hbl, e0, e1, e2, hr⟩ := HK.out k hlt
          obtain ⟨a2, cap2, rfl, rfl, rfl⟩ := rep_shape hr
          have f0 := (HB.out.cell (p := ⟨b, off + k * 3, none⟩) hbl).trans e0
          have f1 := (HB.out.cell (p := ⟨b, off + k * 3 + 1, none⟩) hbl).trans e1
          have f2 := (HB.out.cell (p := ⟨b, off + k * 3 + 2, none⟩) hbl).trans e2
          have HR := hid hr
          have hdk := deep_kid t k hlt HL.out
          have hdk2 : Itm.deep t.items[k] ≤ 1000000000 := by have := HD.out; omega
          have HT := hid (topTo_succ t k hlt)
          clear e0 e1 e2 hr hdk
          go_wp2_with fail
          have hbw := HB.out.alloc HB.out.size (Obj.cells #[Value.bool t.items[k].list, Value.string { data := t.items[k].bytes.toArray }, Value.slice a2 t.items[k].items.length cap2] 24)
          refine (IH.out _ t.items[k] _ (rep_in HR.out hbw) hdk2).mono ?_
          rintro e w1 ⟨rfl, hbel⟩
          have HB1 := hid hbel
          have HB0 := hid hbw
          clear hbel hbw
          go_wp2_with fail
          refine ⟨⟨k + 1, by omega, by go_num, congrArg (Value.int .i64) (by rw [HT.out]; omega), HB0.out.trans (HB1.out.mono HB0.out.size)⟩, by simp [intOf]; omega⟩
        · go_wp2_with fail
          go_ret
          refine ⟨?_, HB.out⟩
          have hke : k = t.items.length := by omega
          subst hke
          rw [topTo_all t HL.out]
          simp
    · have hl' : t.list = false := by simpa using hl
      rw [hl']
      have hd0 : Itm.deep t = 0 := by rw [Itm.deep_eq, hl']; rfl
      rw [hd0]
      clear ih hkids hd hd0 hl hl'
      go_enter Try.func68, Try.ntmps68
      go_wp2_with fail
      go_ret
      exact ⟨rfl, (Below.refl _ _).alloc (Nat.le_refl _) _⟩
end Go.Proofs.Ytbmohenjphmlgaa

/- Lists of items that are read; hasStrayField; what the walk of wellFormed wants of its stack. -/
namespace Go.Proofs.Ytbmohenjphmlgaa
open Go.RowKit
set_option maxRecDepth 100000

namespace Itm
/-- Has it a field that its kind does not use? -/
def stray (t : Itm) : Bool := if t.list then !t.bytes.isEmpty else decide (0 < t.items.length)

theorem pure_stray (t : Itm) : pure t = (!stray t && t.items.all pure) := by
  rw [pure_eq]
  unfold stray
  by_cases h : t.list
  · simp [h]
  · simp [h]
    congr 1
    cases t.items <;> simp

/-- How many items it is, itself among them. -/
def cnt : Itm → Nat
  | ⟨_, _, is⟩ => 1 + (is.attach.map fun ⟨x, _⟩ => cnt x).sum

theorem cnt_eq (t : Itm) : cnt t = 1 + (t.items.map cnt).sum := by
  obtain ⟨l, b, is⟩ := t
  simp [cnt]

def cntL (l : List Itm) : Nat := (l.map cnt).sum

theorem cnt_pos (t : Itm) : 0 < cnt t := by rw [cnt_eq]; omega

theorem cntL_cons (t : Itm) (l : List Itm) : cntL (t :: l) = cnt t + cntL l := by simp [cntL]

theorem cntL_len (l : List Itm) : l.length ≤ cntL l := by
  induction l with
  | nil => simp [cntL]
  | cons x l ih => rw [cntL_cons, List.length_cons]; have := cnt_pos x; omega

def cntS (ls : List (List Itm)) : Nat := (ls.map cntL).sum

theorem cntS_append (a b : List (List Itm)) : cntS (a ++ b) = cntS a + cntS b := by simp [cntS]

theorem cntS_one (l : List Itm) : cntS [l] = cntL l := by simp [cntS]

theorem cntS_len (ls : List (List Itm)) (h : ∀ l ∈ ls, l ≠ []) : ls.length ≤ cntS ls := by
  induction ls with
  | nil => simp [cntS]
  | cons l ls ih =>
    have h1 := ih (fun x hx => h x (by simp [hx]))
    have h2 := cntL_len l
    have h3 : 0 < l.length := List.length_pos_iff.2 (h l (by simp))
    have : cntS (l :: ls) = cntL l + cntS ls := by simp [cntS]
    rw [this, List.length_cons]; omega
end Itm

/-- A slice of items that can be read. -/
def RepL (B : Nat) (w : World) (n : Nat) (sl : Value) (l : List Itm) : Prop :=
  ∃ a cap, sl = .slice a l.length cap ∧ l.length ≤ maxLen ∧
    ∀ i (h : i < l.length), ∃ b off c0 c1 c2, a = some ⟨b, off, none⟩ ∧ b < B ∧ w.cell? ⟨b, off + i * 3, none⟩ = some c0 ∧ w.cell? ⟨b, off + i * 3 + 1, none⟩ = some c1 ∧ w.cell? ⟨b, off + i * 3 + 2, none⟩ = some c2 ∧
      Rep B w n (.agg #[c0, c1, c2]) l[i]

theorem rep_list {B : Nat} {w : World} {n : Nat} {v : Value} {t : Itm} (h : Rep B w (n + 1) v t) : ∃ sl, v = .agg #[.bool t.list, .string ⟨t.bytes.toArray⟩, sl] ∧ RepL B w n sl t.items := by
  obtain ⟨a, cap, hv, hm, hk⟩ := h
  exact ⟨_, hv, a, cap, rfl, hm, hk⟩

theorem rep_more {B : Nat} {w : World} : ∀ (n : Nat) (v : Value) (t : Itm), Rep B w n v t → Rep B w (n + 1) v t := by
  intro n
  induction n with
  | zero => intro v t h; exact h.elim
  | succ n ih =>
    intro v t h
    obtain ⟨a, cap, hv, hm, hk⟩ := h
    refine ⟨a, cap, hv, hm, fun i hi => ?_⟩
    obtain ⟨b, off, c0, c1, c2, ha, hlt, e0, e1, e2, hr⟩ := hk i hi
    exact ⟨b, off, c0, c1, c2, ha, hlt, e0, e1, e2, ih _ _ hr⟩

theorem repL_more {B : Nat} {w : World} {n : Nat} {sl : Value} {l : List Itm} (h : RepL B w n sl l) : RepL B w (n + 1) sl l := by
  obtain ⟨a, cap, hv, hm, hk⟩ := h
  refine ⟨a, cap, hv, hm, fun i hi => ?_⟩
  obtain ⟨b, off, c0, c1, c2, ha, hlt, e0, e1, e2, hr⟩ := hk i hi
  exact ⟨b, off, c0, c1, c2, ha, hlt, e0, e1, e2, rep_more _ _ _ hr⟩

theorem repL_frame {B : Nat} {w w' : World} {n : Nat} {sl : Value} {l : List Itm} (h : RepL B w n sl l) (hb : Below B w w') : RepL B w' n sl l := by
  obtain ⟨a, cap, hv, hm, hk⟩ := h
  refine ⟨a, cap, hv, hm, fun i hi => ?_⟩
  obtain ⟨b, off, c0, c1, c2, ha, hlt, e0, e1, e2, hr⟩ := hk i hi
  exact ⟨b, off, c0, c1, c2, ha, hlt, by rw [hb.cell hlt]; exact e0, by rw [hb.cell hlt]; exact e1, by rw [hb.cell hlt]; exact e2, rep_frame hb _ _ _ hr⟩

set_option maxHeartbeats 400000 in
theorem stray_any (t : Itm) (w : World) (a : Option Addr) (cap : Nat) :
    Calls Try.prog 86 #[.agg #[.bool t.list, .string ⟨t.bytes.toArray⟩, .slice a t.items.length cap]] w fun e w' => e = .returned (.bool (Itm.stray t)) ∧ Below w.heap.size w w' := by
  by_cases hl : t.list
  · have HS := hid (show Itm.stray t = !t.bytes.isEmpty by unfold Itm.stray; rw [if_pos hl])
    have hl' : t.list = true := hl
    rw [hl']
    clear hl hl'
    go_enter Try.func86, Try.ntmps86
    go_wp2_with fail
    go_ret
    exact ⟨by rw [HS.out]; simp, (Below.refl _ _).alloc (Nat.le_refl _) _⟩
  · have HS := hid (show Itm.stray t = decide (0 < t.items.length) by unfold Itm.stray; rw [if_neg hl])
    have hl' : t.list = false := by simpa using hl
    rw [hl']
    clear hl hl'
    go_enter Try.func86, Try.ntmps86
    go_wp2_with fail
    go_ret
    exact ⟨by rw [HS.out]; simp, (Below.refl _ _).alloc (Nat.le_refl _) _⟩

theorem infoItems : (Try.prog.info? 22).map (fun i => (i.zero, i.size, i.bytes)) = some (some (.slice none 0 0), 1, 24) := by kernel_rfl

/-- The stack of wellFormed: lists of items, none of them empty. -/
def Stk (w : World) (B n : Nat) (v : Value) (ls : List (List Itm)) : Prop :=
  ∃ xs : List Value, w.ownsRow B 22 1 v ls.length xs ∧ ∀ i (h : i < ls.length), RepL B w n (xs.getD i default) ls[i]

theorem stk_shape {w : World} {B n : Nat} {v : Value} {ls : List (List Itm)} (h : Stk w B n v ls) : ∃ a cap, v = .slice a ls.length cap := by
  obtain ⟨xs, ho, _⟩ := h
  rcases ho.2 with ⟨rfl, h0⟩ | ⟨g, cap, cur, hv, _⟩
  · exact ⟨none, 0, by rw [h0]⟩
  · exact ⟨_, _, hv⟩

/-- The stack stays while nothing of its own, nor below B, is written. -/
theorem stk_frame {w w' : World} {B n : Nat} {v : Value} {ls : List (List Itm)} (h : Stk w B n v ls) (hb : Below w.heap.size w w') (hB : B ≤ w.heap.size) : Stk w' B n v ls := by
  obtain ⟨xs, ho, hr⟩ := h
  refine ⟨xs, owns_frame ho (fun g hg => hb.block g (ho.lt g hg).2), fun i hi => repL_frame (hr i hi) (hb.mono hB)⟩

/-- The stack without its last, which lies there still. -/
theorem stk_pop {w : World} {B n g cap m : Nat} {ls : List (List Itm)} {l : List Itm} (h : Stk w B n (.slice (some ⟨g, 0, none⟩) (ls.length + 1) cap) (ls ++ [l])) (hm : m = ls.length) :
    Stk w B n (.slice (some ⟨g, 0, none⟩) m cap) ls ∧ ∃ sl, w.cell? ⟨g, m, none⟩ = some sl ∧ RepL B w n sl l := by
  subst hm
  obtain ⟨xs, ho, hr⟩ := h
  have hlen : (ls ++ [l]).length = ls.length + 1 := by simp
  rw [hlen] at ho
  have hx := ho.1
  constructor
  · refine ⟨xs.take ls.length, ?_, ?_⟩
    · rcases ho.2 with ⟨h', _⟩ | ⟨g', cap', cur, h', hb, hg, hnc, hcm, hcs, ht⟩
      · simp at h'
      · simp only [Value.slice.injEq, Option.some.injEq, Addr.mk.injEq, and_true, true_and] at h'
        obtain ⟨rfl, rfl⟩ := h'
        refine ⟨by simp; omega, .inr ⟨g, cap, cur, rfl, hb, hg, by omega, hcm, hcs, ?_⟩⟩
        rw [← ht, List.take_take]
        congr 1
        omega
    · intro i hi
      have := hr i (by simp; omega)
      rw [List.getElem_append_left hi] at this
      have e : (xs.take ls.length).getD i default = xs.getD i default := by
        simp only [List.getD_eq_getElem?_getD]
        rw [List.getElem?_take, if_pos hi]
      rw [e]; exact this
  · have h1 := hr ls.length (by simp)
    rw [List.getElem_append_right (Nat.le_refl _)] at h1
    simp only [Nat.sub_self, List.getElem_cons_zero] at h1
    refine ⟨_, ?_, h1⟩
    rw [ho.cellAt ls.length (by omega), List.getD_eq_getElem?_getD, List.getElem?_eq_getElem (by omega)]
    rfl

/-- One list more on the stack, behind an append: for a walk. -/
theorem wpList_append_stack {ops : Array Oper} {rest : List Oper} {o : Oper} {act : Act} {Q : Exit → Act → World → Prop} (hgd : o.guard = none) (s x : Operand)
    (hop : o.op = .call { callee := .builtin .append, args := #[s, x], argTypes := #[37, 37] })
    {w : World} {B n : Nat} {v sl : Value} {ls : List (List Itm)} {l : List Itm} (hs : act.eval s = v) (hx : act.eval x = .slice (some ⟨w.heap.size, 0, none⟩) 1 1)
    (hstk : Stk w B n v ls) (hl : RepL B w n sl l) (hB : B ≤ w.heap.size) (hn : ls.length ≤ 1000000000)
    (h : ∀ v' w', Stk w' B n v' (ls ++ [l]) → Below B w w' → wpList Try.prog ops Q rest (act.put o.dst v') w') :
    wpList Try.prog ops Q (o :: rest) act (w.alloc (.cells #[sl] 22)) := by
  obtain ⟨i0, hi, hz0, hz1, hz2⟩ := info_parts infoItems
  obtain ⟨xs, ho, hr⟩ := hstk
  have hb1 : Below w.heap.size w (w.alloc (.cells #[sl] 22)) := (Below.refl _ _).alloc (Nat.le_refl _) _
  refine wpList_append_mine _ hgd s x 37 hop B 22 i0 _ 1 24 Try.underlying37 hi hz0 hz1 hz2 rfl (by decide) v ls.length xs hs (owns_frame ho (fun g hg => hb1.block g (ho.lt g hg).2)) ⟨w.heap.size, 0, none⟩ 1 1 [sl] hx rfl ?_ ?_ ?_ ?_ ?_ ?_
  · intro j u hu
    cases j with
    | zero =>
      simp only [List.getElem?_cons_zero, Option.some.injEq] at hu
      subst hu
      have : (⟨w.heap.size, 0, none⟩ : Addr).add 0 = ⟨w.heap.size, 0, none⟩ := by simp [Addr.add]
      rw [this, cell_of_row _ _ 0 #[sl] _ (0, 0) (heap_alloc_new w _)]
      rfl
    | succ j => simp at hu
  · intro u hu
    simp only [List.mem_singleton] at hu
    subst hu
    obtain ⟨a, cap, rfl, _⟩ := hl
    rfl
  · unfold maxLen; omega
  · omega
  · simp; omega
  · intro v' w' ho2 hgr hnew
    have hb2 : Below B w w' := ((hb1.mono hB)).grown hgr (by simp; omega) (fun k hk => (ho.lt k hk).1)
    refine h v' w' ⟨xs ++ [sl], by simpa using ho2, ?_⟩ hb2
    intro i hi'
    have hxl := ho.1
    by_cases he : i < ls.length
    · rw [List.getElem_append_left he]
      have e : (xs ++ [sl]).getD i default = xs.getD i default := by
        simp only [List.getD_eq_getElem?_getD]
        rw [List.getElem?_append_left (by omega)]
      rw [e]
      exact repL_frame (hr i he) hb2
    · have he2 : i = ls.length := by simp at hi'; omega
      subst he2
      rw [List.getElem_append_right (Nat.le_refl _)]
      simp only [Nat.sub_self, List.getElem_cons_zero]
      have e : (xs ++ [sl]).getD ls.length default = sl := by
        simp only [List.getD_eq_getElem?_getD]
        rw [List.getElem?_append_right (by omega), hxl]
        simp
      rw [e]
      exact repL_frame hl hb2
end Go.Proofs.Ytbmohenjphmlgaa

/- The walk of wellFormed: an item has but the fields that its kind uses, and so has all within it, as 'pure' says. -/
namespace Go.Proofs.Ytbmohenjphmlgaa
open Go.RowKit
set_option maxRecDepth 100000

/-- What stands behind a round of wellFormed's outer loop. -/
def Outer (t : Itm) (n : Nat) (W1 : World) (k : Nat) (v : Value) (wr : World) : Prop :=
  ∃ ls : List (List Itm), Stk wr W1.heap.size n v ls ∧ Below W1.heap.size W1 wr ∧ Itm.cntS ls = k ∧ k ≤ 1000000000 ∧ (∀ l ∈ ls, l ≠ []) ∧ Itm.pure t = ls.all (·.all Itm.pure)

def Inner (t : Itm) (n : Nat) (W1 : World) (l : List Itm) (M j : Nat) (v : Value) (wr : World) : Prop :=
  ∃ ls : List (List Itm), Stk wr W1.heap.size n v ls ∧ Below W1.heap.size W1 wr ∧ Itm.cntS ls + Itm.cntL (l.drop j) + j ≤ M ∧ M ≤ 1000000000 ∧ (∀ l ∈ ls, l ≠ []) ∧ Itm.pure t = (ls.all (·.all Itm.pure) && (l.drop j).all Itm.pure)

theorem stk_start (w : World) (n : Nat) (t : Itm) (a : Option Addr) (cap : Nat) (X Y : Obj) (hX : X = .cells #[.bool t.list, .string ⟨t.bytes.toArray⟩, .slice a t.items.length cap] 24) (hY : Y = X)
    (hrep : Rep w.heap.size w n (.agg #[.bool t.list, .string ⟨t.bytes.toArray⟩, .slice a t.items.length cap]) t) :
    Stk (((w.alloc X).alloc Y).alloc (.cells #[.slice (some ⟨w.heap.size + 1, 0, none⟩) 1 1] 22)) ((w.alloc X).alloc Y).heap.size n (.slice (some ⟨w.heap.size + 1 + 1, 0, none⟩) 1 1) [[t]] := by
  subst hY hX
  have hsz : ((w.alloc (.cells #[.bool t.list, .string ⟨t.bytes.toArray⟩, .slice a t.items.length cap] 24)).alloc (.cells #[.bool t.list, .string ⟨t.bytes.toArray⟩, .slice a t.items.length cap] 24)).heap.size = w.heap.size + 1 + 1 := by simp
  generalize hW : (w.alloc (.cells #[.bool t.list, .string ⟨t.bytes.toArray⟩, .slice a t.items.length cap] 24)).alloc (.cells #[.bool t.list, .string ⟨t.bytes.toArray⟩, .slice a t.items.length cap] 24) = W1 at *
  have hbel : Below w.heap.size w W1 := by
    rw [← hW]; exact (((Below.refl _ _).alloc (Nat.le_refl _) _).alloc (by simp) _)
  have hblk : W1.heap[w.heap.size + 1]? = some (.cells #[.bool t.list, .string ⟨t.bytes.toArray⟩, .slice a t.items.length cap] 24) := by
    rw [← hW]
    have := heap_alloc_new (w.alloc (.cells #[.bool t.list, .string ⟨t.bytes.toArray⟩, .slice a t.items.length cap] 24)) (.cells #[.bool t.list, .string ⟨t.bytes.toArray⟩, .slice a t.items.length cap] 24)
    simpa using this
  have hl := World.ownsRow_lit (base := W1.heap.size) (e := 22) (size := 1) W1 #[.slice (some ⟨w.heap.size + 1, 0, none⟩) 1 1] 1 (Nat.le_refl _) (by unfold maxLen; omega) rfl
  rw [hsz] at hl ⊢
  refine ⟨[.slice (some ⟨w.heap.size + 1, 0, none⟩) 1 1], hl, ?_⟩
  intro i hi
  have hi0 : i = 0 := by simp at hi; omega
  subst hi0
  refine ⟨some ⟨w.heap.size + 1, 0, none⟩, 1, rfl, by unfold maxLen; simp, ?_⟩
  intro j hj
  have hj0 : j = 0 := by simp at hj; omega
  subst hj0
  have hold : ∀ o, (W1.alloc (.cells #[.slice (some ⟨w.heap.size + 1, 0, none⟩) 1 1] 22)).cell? ⟨w.heap.size + 1, o, none⟩ = #[Value.bool t.list, .string ⟨t.bytes.toArray⟩, .slice a t.items.length cap][o]? := by
    intro o
    rw [((Below.refl W1.heap.size W1).alloc (Nat.le_refl _) _).cell (p := ⟨w.heap.size + 1, o, none⟩) (by show w.heap.size + 1 < _; omega), cell_of_row _ _ o _ _ _ hblk]
  refine ⟨w.heap.size + 1, 0, _, _, _, rfl, by omega, hold 0, hold 1, hold 2, ?_⟩
  refine rep_wider (B := w.heap.size) (by omega) _ _ _ (rep_frame (w := w) ?_ _ _ _ hrep)
  exact hbel.trans ((Below.refl _ _).alloc (by omega) _)

theorem nil_or_snoc {α : Type} (ls : List α) : ls = [] ∨ ∃ ls' l, ls = ls' ++ [l] := by
  rcases List.eq_nil_or_concat ls with h | ⟨a, b, h⟩
  · exact .inl h
  · exact .inr ⟨a, b, by rw [h]; simp⟩

theorem rep_back {B : Nat} {w w' : World} (hb : Below B w w') : ∀ (n : Nat) (v : Value) (t : Itm), Rep B w' n v t → Rep B w n v t := by
  intro n
  induction n with
  | zero => intro v t h; exact h
  | succ n ih =>
    intro v t h
    obtain ⟨a, cap, hv, hm, h⟩ := h
    refine ⟨a, cap, hv, hm, fun i hi => ?_⟩
    obtain ⟨b, off, c0, c1, c2, ha, hlt, e0, e1, e2, hr⟩ := h i hi
    exact ⟨b, off, c0, c1, c2, ha, hlt, by rw [← hb.cell hlt]; exact e0, by rw [← hb.cell hlt]; exact e1, by rw [← hb.cell hlt]; exact e2, ih _ _ hr⟩

theorem repL_back {B : Nat} {w w' : World} {n : Nat} {sl : Value} {l : List Itm} (h : RepL B w' n sl l) (hb : Below B w w') : RepL B w n sl l := by
  obtain ⟨a, cap, hv, hm, hk⟩ := h
  refine ⟨a, cap, hv, hm, fun i hi => ?_⟩
  obtain ⟨b, off, c0, c1, c2, ha, hlt, e0, e1, e2, hr⟩ := hk i hi
  exact ⟨b, off, c0, c1, c2, ha, hlt, by rw [← hb.cell hlt]; exact e0, by rw [← hb.cell hlt]; exact e1, by rw [← hb.cell hlt]; exact e2, rep_back hb _ _ _ hr⟩

theorem drop_at (l : List Itm) (j : Nat) (h : j < l.length) : l.drop j = l[j] :: l.drop (j + 1) := by
  rw [List.drop_eq_getElem_cons h]

set_option maxHeartbeats 1600000 in
theorem well_any (n : Nat) (t : Itm) (w : World) (a : Option Addr) (cap : Nat) (hc : Itm.cnt t ≤ 1000000000) (hrep : Rep w.heap.size w (n + 1) (.agg #[.bool t.list, .string ⟨t.bytes.toArray⟩, .slice a t.items.length cap]) t) :
    Calls Try.prog 64 #[.agg #[.bool t.list, .string ⟨t.bytes.toArray⟩, .slice a t.items.length cap]] w fun e w' => e = .returned (.bool (Itm.pure t)) ∧ Below w.heap.size w w' := by
  have HR := hid hrep
  clear hrep
  go_enter Try.func64, Try.ntmps64
  go_wp2_with fail
  have HS := hid (stk_start w (n + 1) t a cap _ _ rfl rfl HR.out)
  go_loopg [3] (Itm.cnt t) (fun k v wr => Outer t (n + 1) ((w.alloc (.cells #[.bool t.list, .string ⟨t.bytes.toArray⟩, .slice a t.items.length cap] 24)).alloc (.cells #[.bool t.list, .string ⟨t.bytes.toArray⟩, .slice a t.items.length cap] 24)) k v wr)
  case atStart => exact ⟨[[t]], HS.out, (Below.refl _ _).alloc (Nat.le_refl _) _, by simp [Itm.cntS, Itm.cntL], hc, by simp, by simp⟩
  case round =>
    obtain ⟨ls, hstk, hbel, hk, hkb, hne, hpure⟩ := hrel
    have HBW : Hid (Below w.heap.size w wr) := by
      refine ((((Below.refl _ _).alloc (Nat.le_refl _) _).alloc (by simp) _)).trans (hbel.mono ?_)
      simp; omega
    have HW1 : Hid (w.heap.size + 1 + 1 ≤ wr.heap.size) := by have := hbel.size; simp at this; exact this
    rcases nil_or_snoc ls with rfl | ⟨ls', l, rfl⟩
    · obtain ⟨a3, c3, rfl⟩ := stk_shape hstk
      have HP := hid hpure
      clear hstk hbel hpure hk hkb hne
      go_wp2_with fail
      go_ret
      exact ⟨by rw [HP.out]; rfl, HBW.out⟩
    · obtain ⟨xs, ho, _⟩ := id hstk
      obtain ⟨g, c3, rfl, hc3, hc3m⟩ : ∃ g c3, u3 = .slice (some ⟨g, 0, none⟩) (ls'.length + 1) c3 ∧ ls'.length + 1 ≤ c3 ∧ c3 ≤ maxLen := by
        rcases ho.2 with ⟨_, h0⟩ | ⟨g, c3, cur, hv, _, _, h1, h2, _⟩
        · simp at h0
        · exact ⟨g, c3, by simpa using hv, by simpa using h1, h2⟩
      obtain ⟨hpop, sl, hcell, hsl⟩ := stk_pop hstk rfl
      obtain ⟨a5, c5, rfl, hm5, _⟩ := id hsl
      have hlb : ls'.length ≤ 1000000000 := by
        have := Itm.cntS_len _ hne
        rw [List.length_append] at this
        omega
      have hgl : g < wr.heap.size := (ho.lt g rfl).2
      have HL1 := hid (repL_back hsl hbel)
      have hlne : l ≠ [] := hne l (by simp)
      have HI : Hid (Inner t (n + 1) ((w.alloc (.cells #[.bool t.list, .string ⟨t.bytes.toArray⟩, .slice a t.items.length cap] 24)).alloc (.cells #[.bool t.list, .string ⟨t.bytes.toArray⟩, .slice a t.items.length cap] 24)) l gk 0 (.slice (some ⟨g, 0, none⟩) ls'.length c3) wr) := by
        refine ⟨ls', hpop, hbel, ?_, hkb, fun x hx => hne x (by simp [hx]), ?_⟩
        · rw [Itm.cntS_append, Itm.cntS_one] at hk
          simp; omega
        · rw [hpure]; simp
      have HLN := hid hlne
      obtain ⟨M, HM⟩ : ∃ M, Hid (M = gk) := ⟨gk, rfl⟩
      rw [← HM.out] at HI
      clear hstk hbel hpure hk hkb hne hpop hsl ho hlne
      unfold maxLen at hm5 hc3m
      go_wp2_with fail
      go_loopg [3, 26] (l.length) (fun k v i wi => ∃ j : Nat, i = .int .i64 j ∧ j ≤ l.length ∧ k = l.length - j ∧ Hid (Inner t (n + 1) ((w.alloc (.cells #[.bool t.list, .string ⟨t.bytes.toArray⟩, .slice a t.items.length cap] 24)).alloc (.cells #[.bool t.list, .string ⟨t.bytes.toArray⟩, .slice a t.items.length cap] 24)) l M j v wi))
      case atStart => exact ⟨0, rfl, Nat.zero_le _, by simp, HI.out⟩
      case round =>
        obtain ⟨j, rfl, hj, hkj, HN⟩ := hrel
        by_cases hlt : j < l.length
        · obtain ⟨a5', c5', e5, _, hk5⟩ := HL1.out
          cases e5
          obtain ⟨b, off, c0, c1, c2, rfl, hbl, e0, e1, e2, hr⟩ := hk5 j hlt
          obtain ⟨a2, cap2, rfl, rfl, rfl⟩ := rep_shape hr
          obtain ⟨ls2, hstk2, hbel2, hcnt2, hM2, hne2, hp2⟩ := HN.out
          have f0 := (hbel2.cell (p := ⟨b, off + j * 3, none⟩) hbl).trans e0
          have f1 := (hbel2.cell (p := ⟨b, off + j * 3 + 1, none⟩) hbl).trans e1
          have f2 := (hbel2.cell (p := ⟨b, off + j * 3 + 2, none⟩) hbl).trans e2
          have HRY := hid hr
          have HX := hid (And.intro hstk2 (And.intro hbel2 (And.intro hcnt2 (And.intro hM2 (And.intro hne2 hp2)))))
          have hls2 : ls2.length ≤ 1000000000 := by have := Itm.cntS_len _ hne2; omega
          have HBW2 : Hid (Below w.heap.size w wr) := by
            refine ((((Below.refl _ _).alloc (Nat.le_refl _) _).alloc (by simp) _)).trans (hbel2.mono ?_)
            simp; omega
          have HS1 := hid hbel2.size
          clear e0 e1 e2 hr hstk2 hbel2 hcnt2 hM2 hne2 hp2 hk5
          go_wp2_with fail
          refine (stray_any l[j] _ a2 cap2).mono ?_
          rintro e w1 ⟨rfl, hbel1⟩
          have HB1 : Hid (Below wr.heap.size wr w1) := ((Below.refl _ _).alloc (Nat.le_refl _) _).trans (hbel1.mono (by simp))
          obtain ⟨hcc, hff⟩ := bcell hbel1
          have hsz1 : wr.heap.size < w1.heap.size := by have := hbel1.size; simp at this; omega
          have HD := hid (drop_at l j hlt)
          cases hst : Itm.stray l[j] with
          | true =>
            have HST := hid hst
            clear hst hbel1
            go_wp2_with fail
            go_ret
            refine ⟨?_, HBW2.out.trans (HB1.out.mono HBW2.out.size)⟩
            have hp := HX.out.2.2.2.2.2
            rw [HD.out, List.all_cons, Itm.pure_stray l[j], HST.out] at hp
            rw [hp]; simp
          | false =>
            have HST := hid hst
            clear hst hbel1
            have HP : Hid (Itm.pure l[j] = l[j].items.all Itm.pure) := by rw [Itm.pure_stray, HST.out]; rfl
            by_cases h0 : 0 < l[j].items.length
            · have h0' : (0 : Int) < (l[j].items.length : Int) := by omega
              have HK : Hid (RepL ((w.alloc (.cells #[.bool t.list, .string ⟨t.bytes.toArray⟩, .slice a t.items.length cap] 24)).alloc (.cells #[.bool t.list, .string ⟨t.bytes.toArray⟩, .slice a t.items.length cap] 24)).heap.size w1 (n + 1) (.slice a2 l[j].items.length cap2) l[j].items) := by
                obtain ⟨sl, e, hkk⟩ := rep_list HRY.out
                simp at e
                subst e
                exact repL_frame (repL_frame (repL_more hkk) HX.out.2.1) (HB1.out.mono HS1.out)
              have HT : Hid (Stk w1 ((w.alloc (.cells #[.bool t.list, .string ⟨t.bytes.toArray⟩, .slice a t.items.length cap] 24)).alloc (.cells #[.bool t.list, .string ⟨t.bytes.toArray⟩, .slice a t.items.length cap] 24)).heap.size (n + 1) u3 ls2) := stk_frame HX.out.1 HB1.out HS1.out
              have HS2 := hid (Nat.le_trans HS1.out HB1.out.size)
              go_wp2_with (at_builtin; refine wpList_append_stack rfl (.tmp 36) (.tmp 39) rfl rfl rfl HT.out HK.out HS2.out hls2 ?_; intro v' w' hstk3 hbel3)
              go_roundg (l.length - (j + 1))
              case measure => omega
              case rel =>
                refine ⟨j + 1, by go_num, by omega, rfl, ls2 ++ [l[j].items], hstk3, (HX.out.2.1.trans (HB1.out.mono HS1.out)).trans hbel3, ?_, HX.out.2.2.2.1, ?_, ?_⟩
                · have h1 := HX.out.2.2.1
                  rw [HD.out, Itm.cntL_cons, Itm.cnt_eq] at h1
                  rw [Itm.cntS_append, Itm.cntS_one]
                  unfold Itm.cntL at h1 ⊢
                  omega
                · intro x hx
                  rcases List.mem_append.1 hx with hx | hx
                  · exact HX.out.2.2.2.2.1 x hx
                  · simp only [List.mem_singleton] at hx
                    subst hx
                    exact List.length_pos_iff.1 h0
                · rw [HX.out.2.2.2.2.2, HD.out, List.all_cons, HP.out, List.all_append]
                  simp [Bool.and_assoc]
            · have h0' : ¬ (0 : Int) < (l[j].items.length : Int) := by omega
              go_wp2_with fail
              go_roundg (l.length - (j + 1))
              case measure => omega
              case rel =>
                refine ⟨j + 1, by go_num, by omega, rfl, ls2, stk_frame HX.out.1 HB1.out HS1.out, HX.out.2.1.trans (HB1.out.mono HS1.out), ?_, HX.out.2.2.2.1, HX.out.2.2.2.2.1, ?_⟩
                · have h1 := HX.out.2.2.1
                  rw [HD.out, Itm.cntL_cons] at h1
                  have := Itm.cnt_pos l[j]
                  omega
                · have he : l[j].items = [] := List.eq_nil_of_length_eq_zero (by omega)
                  rw [HX.out.2.2.2.2.2, HD.out, List.all_cons, HP.out, he]
                  simp
        · go_wp2_with fail
          obtain ⟨ls2, hstk2, hbel2, hcnt2, hM2, hne2, hp2⟩ := HN.out
          have hjl : j = l.length := by omega
          subst hjl
          have hl0 : 0 < l.length := List.length_pos_iff.2 HLN.out
          go_roundg (Itm.cntS ls2)
          case measure => have := HM.out; omega
          case rel => exact ⟨ls2, hstk2, hbel2, rfl, by omega, hne2, by rw [hp2]; simp⟩
end Go.Proofs.Ytbmohenjphmlgaa

/- Rows of bytes: those of the call's own, which grow by append; those that are read alone. -/
namespace Go.Proofs.Ytbmohenjphmlgaa
open Go.RowKit
set_option maxRecDepth 100000

theorem infoByte : (Try.prog.info? 5).map (fun i => (i.zero, i.size, i.bytes)) = some (some (.int .u8 0), 1, 1) := by kernel_rfl

/-- A row of bytes of the call's own. -/
def Bown (w : World) (base : Nat) (v : Value) (l : List UInt8) : Prop := w.ownsRow base 5 1 v l.length (Lib.byteCells l)

/-- Bytes that can be read. -/
def Brd (B : Nat) (w : World) (v : Value) (l : List UInt8) : Prop :=
  (v = .slice none 0 0 ∧ l = []) ∨ ∃ b off cap, v = .slice (some ⟨b, off, none⟩) l.length cap ∧ b < B ∧ ∀ j (h : j < l.length), w.cell? ⟨b, off + j, none⟩ = some (.int .u8 (l[j].toNat : Nat))

theorem bown_nil (w : World) (base : Nat) : Bown w base (.slice none 0 0) [] := World.ownsRow_nil _ _ _ _

theorem bown_one (w : World) (base : Nat) (c : UInt8) (hb : base ≤ w.heap.size) : Bown (w.alloc (.cells #[.int .u8 (c.toNat : Nat)] 5)) base (.slice (some ⟨w.heap.size, 0, none⟩) 1 1) [c] := by
  have := World.ownsRow_lit (base := base) (e := 5) (size := 1) w #[.int .u8 (c.toNat : Nat)] 1 hb (by unfold maxLen; omega) rfl
  simpa [Bown, Lib.byteCells] using this

theorem bown_base {w : World} {b b' : Nat} {v : Value} {l : List UInt8} (h : Bown w b v l) (hb : b' ≤ b) : Bown w b' v l := owns_base h hb

theorem bown_frame {w w' : World} {b : Nat} {v : Value} {l : List UInt8} (h : Bown w b v l) (hg : ∀ g, v.ownBlock = some g → w'.heap[g]? = w.heap[g]?) : Bown w' b v l := owns_frame h hg

theorem bown_lt {w : World} {b : Nat} {v : Value} {l : List UInt8} (h : Bown w b v l) : ∀ g, v.ownBlock = some g → b ≤ g ∧ g < w.heap.size := World.ownsRow.lt h

theorem brd_of_bown {w : World} {b : Nat} {v : Value} {l : List UInt8} (h : Bown w b v l) : Brd w.heap.size w v l := by
  rcases h.2 with ⟨rfl, h0⟩ | ⟨g, cap, cur, rfl, hb, hg, _, _, _, _⟩
  · exact .inl ⟨rfl, List.eq_nil_of_length_eq_zero h0⟩
  · refine .inr ⟨g, 0, cap, rfl, (Array.getElem?_eq_some_iff.1 hg).1, ?_⟩
    intro j hj
    rw [Nat.zero_add, World.ownsRow.cellAt h j (by omega)]
    simp [Lib.byteCells, hj]

theorem brd_frame {B : Nat} {w w' : World} {v : Value} {l : List UInt8} (h : Brd B w v l) (hb : Below B w w') : Brd B w' v l := by
  rcases h with h | ⟨b, off, cap, hv, hlt, hc⟩
  · exact .inl h
  · exact .inr ⟨b, off, cap, hv, hlt, fun j hj => by rw [hb.cell hlt]; exact hc j hj⟩

theorem brd_wider {B B' : Nat} {w : World} {v : Value} {l : List UInt8} (h : Brd B w v l) (hB : B ≤ B') : Brd B' w v l := by
  rcases h with h | ⟨b, off, cap, hv, hlt, hc⟩
  · exact .inl h
  · exact .inr ⟨b, off, cap, hv, by omega, hc⟩

theorem brd_in {w w' : World} {v : Value} {l : List UInt8} (h : Brd w.heap.size w v l) (hb : Below w.heap.size w w') : Brd w'.heap.size w' v l := brd_wider (brd_frame h hb) hb.size

theorem brd_shape {B : Nat} {w : World} {v : Value} {l : List UInt8} (h : Brd B w v l) : ∃ a cap, v = .slice a l.length cap := by
  rcases h with ⟨rfl, rfl⟩ | ⟨b, off, cap, hv, _⟩
  · exact ⟨none, 0, rfl⟩
  · exact ⟨_, _, hv⟩

theorem bown_shape {w : World} {b : Nat} {v : Value} {l : List UInt8} (h : Bown w b v l) : ∃ a cap, v = .slice a l.length cap := brd_shape (brd_of_bown h)

theorem cell_fact {w : World} {b off : Nat} {l : List UInt8} (hc : ∀ j (h : j < l.length), w.cell? ⟨b, off + j, none⟩ = some (.int .u8 (l[j].toNat : Nat))) :
    ∀ j u, (Lib.byteCells l)[j]? = some u → w.cell? ((⟨b, off, none⟩ : Addr).add j) = some u := by
  intro j u hu
  have hadd : (⟨b, off, none⟩ : Addr).add j = ⟨b, off + j, none⟩ := by unfold Addr.add; split <;> simp_all
  have hj : j < l.length := by
    have := (List.getElem?_eq_some_iff.1 hu).1
    simpa [Lib.byteCells] using this
  rw [hadd, hc j hj]
  simp [Lib.byteCells, hj] at hu
  rw [hu]

theorem byteCells_one (l : List UInt8) : ∀ u ∈ Lib.byteCells l, u.oneCell' = true := by
  intro u hu
  simp only [Lib.byteCells, List.mem_map] at hu
  obtain ⟨c, _, rfl⟩ := hu
  rfl

/-- append of bytes that can be read, to a row of the call's own: for a walk. -/
theorem wpList_append_bytes {ops : Array Oper} {rest : List Oper} {o : Oper} {act : Act} {Q : Exit → Act → World → Prop} (w : World) (hgd : o.guard = none) (s x : Operand)
    (hop : o.op = .call { callee := .builtin .append, args := #[s, x], argTypes := #[76, 76] })
    (base B : Nat) (v1 v2 : Value) (l1 l2 : List UInt8) (hs : act.eval s = v1) (hx : act.eval x = v2) (h1 : Bown w base v1 l1) (h2 : Brd B w v2 l2) (hlen : l1.length + l2.length ≤ 1000000000) (hbase : base ≤ w.heap.size)
    (h : ∀ v' w', Bown w' base v' (l1 ++ l2) → w.grownBy w' v1.ownBlock → Newer w v1 v' → wpList Try.prog ops Q rest (act.put o.dst v') w') :
    wpList Try.prog ops Q (o :: rest) act w := by
  obtain ⟨i0, hi, hz0, hz1, hz2⟩ := info_parts infoByte
  rcases h2 with ⟨rfl, rfl⟩ | ⟨b, off, cap, rfl, _, hc⟩
  · refine wpList_plain hgd fun K hK => ?_
    have hr := run_append_owned_none (P := Try.prog) w base 76 o.type 5 i0 1 Try.underlying76 hi v1 _ _ h1
    unfold Oper.wp execOp
    simp only [hop, resolve, invoke, builtin, Sem.run_bind, Sem.run_pure, Result.andThen_ok, List.map_toArray, List.map_cons, List.map_nil, hs, hx, hr]
    exact hK _ _ (h v1 w (by rw [List.append_nil]; exact h1) (World.grownBy.refl _ _) (.inl rfl))
  · refine wpList_append_mine w hgd s x 76 hop base 5 i0 _ 1 1 Try.underlying76 hi hz0 hz1 hz2 rfl (by decide) v1 l1.length (Lib.byteCells l1) hs h1 ⟨b, off, none⟩ l2.length cap (Lib.byteCells l2) hx (by rw [Lib.byteCells_length]; omega) (cell_fact hc) (byteCells_one l2) (by unfold maxLen; omega) (by omega) hbase ?_
    intro v' w' ho hg hn
    refine h v' w' ?_ hg hn
    unfold Bown
    rw [List.length_append, Lib.byteCells_append]
    exact ho

/-- The string that bytes are. -/
theorem run_bytes_string {B : Nat} {w : World} {v : Value} {l : List UInt8} (h : Brd B w v l) : (convert 76 9 v).run Try.prog w = .ok (.string ⟨l.toArray⟩) w := by
  rcases h with ⟨rfl, rfl⟩ | ⟨b, off, cap, rfl, _, hc⟩
  · exact run_convert_bytes_nil w 76 5 Try.underlying76 Try.underlying5 0 0 9 Try.underlying9
  · have := run_convert_bytes_arg (P := Try.prog) w 76 5 Try.underlying76 Try.underlying5 b off l.length cap (l.map fun c => (c.toNat : Int)) (by simp) (fun i hi => by
      rw [hc i hi]; simp [hi]) 9 Try.underlying9
    rw [this]
    congr 2
    unfold strOfNums
    congr 1
    have hid : ((fun n : Int => UInt8.ofNat n.toNat) ∘ fun c : UInt8 => (c.toNat : Int)) = id := by funext c; simp
    simp [hid]

/-- The bytes of a string, as a new row. -/
theorem brd_bytesWorld (w : World) (s : ByteArray) (cap : Nat) : Brd (Lib.bytesWorld w 5 s).heap.size (Lib.bytesWorld w 5 s) (.slice (some ⟨w.heap.size, 0, none⟩) s.size cap) s.data.toList := by
  refine .inr ⟨w.heap.size, 0, cap, by rw [ba_len], by rw [Lib.bytesWorld_size]; omega, ?_⟩
  intro j hj
  rw [ba_len] at hj
  rw [Nat.zero_add, Lib.bytesWorld_cell w 5 s j hj, List.getD_eq_getElem?_getD, List.getElem?_eq_getElem (by rw [ba_len]; exact hj)]
  rfl

theorem below_bytesWorld (w : World) (s : ByteArray) : Below w.heap.size w (Lib.bytesWorld w 5 s) :=
  ⟨rfl, rfl, rfl, by rw [Lib.bytesWorld_size]; omega, fun k hk => Lib.bytesWorld_at_old w _ s k hk⟩

theorem run_string_bytes (w : World) (s : ByteArray) : (convert 9 76 (.string s)).run Try.prog w = .ok (.slice (some ⟨w.heap.size, 0, none⟩) s.size (grownCap w s.size 0 5)) (Lib.bytesWorld w 5 s) :=
  Lib.run_convert_string_bytes w 9 76 5 s Try.underlying9 Try.underlying76 Try.underlying5
end Go.Proofs.Ytbmohenjphmlgaa
