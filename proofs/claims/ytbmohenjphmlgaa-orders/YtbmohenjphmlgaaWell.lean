/- Lists of items that are read; hasStrayField; what the walk of wellFormed wants of its stack. -/
import Derived.Test.YtbmohenjphmlgaaDeep
import Derived.Deep.LoopGhost
namespace Go.Proofs.Ytbmohenjphmlgaa
open Go.RowKit
set_option maxRecDepth 100000

namespace Itm
/-- Has it a field that its kind does not use? -/
def stray (t : Itm) : Bool := if t.list then !t.bytes.isEmpty else decide (0 < t.items.length)

theorem pure_stray (t : Itm) : pure t = (!stray t && t.items.all pure) := by
  rw [pure_eq]
  unfold stray
  by_cases h : t.list
  · simp [h]
  · simp [h]
    congr 1
    cases t.items <;> simp

/-- How many items it is, itself among them. -/
def cnt : Itm → Nat
  | ⟨_, _, is⟩ => 1 + (is.attach.map fun ⟨x, _⟩ => cnt x).sum

theorem cnt_eq (t : Itm) : cnt t = 1 + (t.items.map cnt).sum := by
  obtain ⟨l, b, is⟩ := t
  simp [cnt]

def cntL (l : List Itm) : Nat := (l.map cnt).sum

theorem cnt_pos (t : Itm) : 0 < cnt t := by rw [cnt_eq]; omega

theorem cntL_cons (t : Itm) (l : List Itm) : cntL (t :: l) = cnt t + cntL l := by simp [cntL]

theorem cntL_len (l : List Itm) : l.length ≤ cntL l := by
  induction l with
  | nil => simp [cntL]
  | cons x l ih => rw [cntL_cons, List.length_cons]; have := cnt_pos x; omega

def cntS (ls : List (List Itm)) : Nat := (ls.map cntL).sum

theorem cntS_append (a b : List (List Itm)) : cntS (a ++ b) = cntS a + cntS b := by simp [cntS]

theorem cntS_one (l : List Itm) : cntS [l] = cntL l := by simp [cntS]

theorem cntS_len (ls : List (List Itm)) (h : ∀ l ∈ ls, l ≠ []) : ls.length ≤ cntS ls := by
  induction ls with
  | nil => simp [cntS]
  | cons l ls ih =>
    have h1 := ih (fun x hx => h x (by simp [hx]))
    have h2 := cntL_len l
    have h3 : 0 < l.length := List.length_pos_iff.2 (h l (by simp))
    have : cntS (l :: ls) = cntL l + cntS ls := by simp [cntS]
    rw [this, List.length_cons]; omega
end Itm

/-- A slice of items that can be read. -/
def RepL (B : Nat) (w : World) (n : Nat) (sl : Value) (l : List Itm) : Prop :=
  ∃ a cap, sl = .slice a l.length cap ∧ l.length ≤ maxLen ∧
    ∀ i (h : i < l.length), ∃ b off c0 c1 c2, a = some ⟨b, off, none⟩ ∧ b < B ∧ w.cell? ⟨b, off + i * 3, none⟩ = some c0 ∧ w.cell? ⟨b, off + i * 3 + 1, none⟩ = some c1 ∧ w.cell? ⟨b, off + i * 3 + 2, none⟩ = some c2 ∧
      Rep B w n (.agg #[c0, c1, c2]) l[i]

theorem rep_list {B : Nat} {w : World} {n : Nat} {v : Value} {t : Itm} (h : Rep B w (n + 1) v t) : ∃ sl, v = .agg #[.bool t.list, .string ⟨t.bytes.toArray⟩, sl] ∧ RepL B w n sl t.items := by
  obtain ⟨a, cap, hv, hm, hk⟩ := h
  exact ⟨_, hv, a, cap, rfl, hm, hk⟩

theorem rep_more {B : Nat} {w : World} : ∀ (n : Nat) (v : Value) (t : Itm), Rep B w n v t → Rep B w (n + 1) v t := by
  intro n
  induction n with
  | zero => intro v t h; exact h.elim
  | succ n ih =>
    intro v t h
    obtain ⟨a, cap, hv, hm, hk⟩ := h
    refine ⟨a, cap, hv, hm, fun i hi => ?_⟩
    obtain ⟨b, off, c0, c1, c2, ha, hlt, e0, e1, e2, hr⟩ := hk i hi
    exact ⟨b, off, c0, c1, c2, ha, hlt, e0, e1, e2, ih _ _ hr⟩

theorem repL_more {B : Nat} {w : World} {n : Nat} {sl : Value} {l : List Itm} (h : RepL B w n sl l) : RepL B w (n + 1) sl l := by
  obtain ⟨a, cap, hv, hm, hk⟩ := h
  refine ⟨a, cap, hv, hm, fun i hi => ?_⟩
  obtain ⟨b, off, c0, c1, c2, ha, hlt, e0, e1, e2, hr⟩ := hk i hi
  exact ⟨b, off, c0, c1, c2, ha, hlt, e0, e1, e2, rep_more _ _ _ hr⟩

theorem repL_frame {B : Nat} {w w' : World} {n : Nat} {sl : Value} {l : List Itm} (h : RepL B w n sl l) (hb : Below B w w') : RepL B w' n sl l := by
  obtain ⟨a, cap, hv, hm, hk⟩ := h
  refine ⟨a, cap, hv, hm, fun i hi => ?_⟩
  obtain ⟨b, off, c0, c1, c2, ha, hlt, e0, e1, e2, hr⟩ := hk i hi
  exact ⟨b, off, c0, c1, c2, ha, hlt, by rw [hb.cell hlt]; exact e0, by rw [hb.cell hlt]; exact e1, by rw [hb.cell hlt]; exact e2, rep_frame hb _ _ _ hr⟩

set_option maxHeartbeats 400000 in
theorem stray_any (t : Itm) (w : World) (a : Option Addr) (cap : Nat) :
    Calls Try.prog 86 #[.agg #[.bool t.list, .string ⟨t.bytes.toArray⟩, .slice a t.items.length cap]] w fun e w' => e = .returned (.bool (Itm.stray t)) ∧ Below w.heap.size w w' := by
  by_cases hl : t.list
  · have HS := hid (show Itm.stray t = !t.bytes.isEmpty by unfold Itm.stray; rw [if_pos hl])
    have hl' : t.list = true := hl
    rw [hl']
    clear hl hl'
    go_enter Try.func86, Try.ntmps86
    go_wp2_with fail
    go_ret
    exact ⟨by rw [HS.out]; simp, (Below.refl _ _).alloc (Nat.le_refl _) _⟩
  · have HS := hid (show Itm.stray t = decide (0 < t.items.length) by unfold Itm.stray; rw [if_neg hl])
    have hl' : t.list = false := by simpa using hl
    rw [hl']
    clear hl hl'
    go_enter Try.func86, Try.ntmps86
    go_wp2_with fail
    go_ret
    exact ⟨by rw [HS.out]; simp, (Below.refl _ _).alloc (Nat.le_refl _) _⟩

theorem infoItems : (Try.prog.info? 22).map (fun i => (i.zero, i.size, i.bytes)) = some (some (.slice none 0 0), 1, 24) := by kernel_rfl

/-- The stack of wellFormed: lists of items, none of them empty. -/
def Stk (w : World) (B n : Nat) (v : Value) (ls : List (List Itm)) : Prop :=
  ∃ xs : List Value, w.ownsRow B 22 1 v ls.length xs ∧ ∀ i (h : i < ls.length), RepL B w n (xs.getD i default) ls[i]

theorem stk_shape {w : World} {B n : Nat} {v : Value} {ls : List (List Itm)} (h : Stk w B n v ls) : ∃ a cap, v = .slice a ls.length cap := by
  obtain ⟨xs, ho, _⟩ := h
  rcases ho.2 with ⟨rfl, h0⟩ | ⟨g, cap, cur, hv, _⟩
  · exact ⟨none, 0, by rw [h0]⟩
  · exact ⟨_, _, hv⟩

/-- The stack stays while nothing of its own, nor below B, is written. -/
theorem stk_frame {w w' : World} {B n : Nat} {v : Value} {ls : List (List Itm)} (h : Stk w B n v ls) (hb : Below w.heap.size w w') (hB : B ≤ w.heap.size) : Stk w' B n v ls := by
  obtain ⟨xs, ho, hr⟩ := h
  refine ⟨xs, owns_frame ho (fun g hg => hb.block g (ho.lt g hg).2), fun i hi => repL_frame (hr i hi) (hb.mono hB)⟩

/-- The stack without its last, which lies there still. -/
theorem stk_pop {w : World} {B n g cap m : Nat} {ls : List (List Itm)} {l : List Itm} (h : Stk w B n (.slice (some ⟨g, 0, none⟩) (ls.length + 1) cap) (ls ++ [l])) (hm : m = ls.length) :
    Stk w B n (.slice (some ⟨g, 0, none⟩) m cap) ls ∧ ∃ sl, w.cell? ⟨g, m, none⟩ = some sl ∧ RepL B w n sl l := by
  subst hm
  obtain ⟨xs, ho, hr⟩ := h
  have hlen : (ls ++ [l]).length = ls.length + 1 := by simp
  rw [hlen] at ho
  have hx := ho.1
  constructor
  · refine ⟨xs.take ls.length, ?_, ?_⟩
    · rcases ho.2 with ⟨h', _⟩ | ⟨g', cap', cur, h', hb, hg, hnc, hcm, hcs, ht⟩
      · simp at h'
      · simp only [Value.slice.injEq, Option.some.injEq, Addr.mk.injEq, and_true, true_and] at h'
        obtain ⟨rfl, rfl⟩ := h'
        refine ⟨by simp; omega, .inr ⟨g, cap, cur, rfl, hb, hg, by omega, hcm, hcs, ?_⟩⟩
        rw [← ht, List.take_take]
        congr 1
        omega
    · intro i hi
      have := hr i (by simp; omega)
      rw [List.getElem_append_left hi] at this
      have e : (xs.take ls.length).getD i default = xs.getD i default := by
        simp only [List.getD_eq_getElem?_getD]
        rw [List.getElem?_take, if_pos hi]
      rw [e]; exact this
  · have h1 := hr ls.length (by simp)
    rw [List.getElem_append_right (Nat.le_refl _)] at h1
    simp only [Nat.sub_self, List.getElem_cons_zero] at h1
    refine ⟨_, ?_, h1⟩
    rw [ho.cellAt ls.length (by omega), List.getD_eq_getElem?_getD, List.getElem?_eq_getElem (by omega)]
    rfl

/-- One list more on the stack, behind an append: for a walk. -/
theorem wpList_append_stack {ops : Array Oper} {rest : List Oper} {o : Oper} {act : Act} {Q : Exit → Act → World → Prop} (hgd : o.guard = none) (s x : Operand)
    (hop : o.op = .call { callee := .builtin .append, args := #[s, x], argTypes := #[37, 37] })
    {w : World} {B n : Nat} {v sl : Value} {ls : List (List Itm)} {l : List Itm} (hs : act.eval s = v) (hx : act.eval x = .slice (some ⟨w.heap.size, 0, none⟩) 1 1)
    (hstk : Stk w B n v ls) (hl : RepL B w n sl l) (hB : B ≤ w.heap.size) (hn : ls.length ≤ 1000000000)
    (h : ∀ v' w', Stk w' B n v' (ls ++ [l]) → Below B w w' → wpList Try.prog ops Q rest (act.put o.dst v') w') :
    wpList Try.prog ops Q (o :: rest) act (w.alloc (.cells #[sl] 22)) := by
  obtain ⟨i0, hi, hz0, hz1, hz2⟩ := info_parts infoItems
  obtain ⟨xs, ho, hr⟩ := hstk
  have hb1 : Below w.heap.size w (w.alloc (.cells #[sl] 22)) := (Below.refl _ _).alloc (Nat.le_refl _) _
  refine wpList_append_mine _ hgd s x 37 hop B 22 i0 _ 1 24 Try.underlying37 hi hz0 hz1 hz2 rfl (by decide) v ls.length xs hs (owns_frame ho (fun g hg => hb1.block g (ho.lt g hg).2)) ⟨w.heap.size, 0, none⟩ 1 1 [sl] hx rfl ?_ ?_ ?_ ?_ ?_ ?_
  · intro j u hu
    cases j with
    | zero =>
      simp only [List.getElem?_cons_zero, Option.some.injEq] at hu
      subst hu
      have : (⟨w.heap.size, 0, none⟩ : Addr).add 0 = ⟨w.heap.size, 0, none⟩ := by simp [Addr.add]
      rw [this, cell_of_row _ _ 0 #[sl] _ (0, 0) (heap_alloc_new w _)]
      rfl
    | succ j => simp at hu
  · intro u hu
    simp only [List.mem_singleton] at hu
    subst hu
    obtain ⟨a, cap, rfl, _⟩ := hl
    rfl
  · unfold maxLen; omega
  · omega
  · simp; omega
  · intro v' w' ho2 hgr hnew
    have hb2 : Below B w w' := ((hb1.mono hB)).grown hgr (by simp; omega) (fun k hk => (ho.lt k hk).1)
    refine h v' w' ⟨xs ++ [sl], by simpa using ho2, ?_⟩ hb2
    intro i hi'
    have hxl := ho.1
    by_cases he : i < ls.length
    · rw [List.getElem_append_left he]
      have e : (xs ++ [sl]).getD i default = xs.getD i default := by
        simp only [List.getD_eq_getElem?_getD]
        rw [List.getElem?_append_left (by omega)]
      rw [e]
      exact repL_frame (hr i he) hb2
    · have he2 : i = ls.length := by simp at hi'; omega
      subst he2
      rw [List.getElem_append_right (Nat.le_refl _)]
      simp only [Nat.sub_self, List.getElem_cons_zero]
      have e : (xs ++ [sl]).getD ls.length default = sl := by
        simp only [List.getD_eq_getElem?_getD]
        rw [List.getElem?_append_right (by omega), hxl]
        simp
      rw [e]
      exact repL_frame hl hb2
end Go.Proofs.Ytbmohenjphmlgaa
