/- The walk of 'all': items one behind the other, as 'loopP' says, in a list of their own; by what 'first' does. -/
import Derived.Test.YtbmohenjphmlgaaCut
import Derived.Test.YtbmohenjphmlgaaShelf
import Derived.Test.YtbmohenjphmlgaaMem
namespace Go.Proofs.Ytbmohenjphmlgaa
open Go.RowKit
set_option maxRecDepth 100000

theorem infoItem : (Try.prog.info? 24).map (fun i => (i.zero, i.size, i.bytes)) = some (some (.agg #[.bool false, .string ⟨#[]⟩, .slice none 0 0]), 3, 48) := by kernel_rfl

/-- Owned items of this program. -/
def Ow (w : World) (n lo hi : Nat) (v : Value) (t : Itm) : Prop := Own 24 w n lo hi v t
def OwL (w : World) (n lo hi : Nat) (v : Value) (l : List Itm) : Prop := OwnL 24 w (Own 24 w n) lo hi v l

/-- What 'first' does, of at most f bytes. -/
structure FirstOk (f : Nat) : Prop where
  no : ∀ (s : ByteArray) (w : World), s.size ≤ f → s.size ≤ 1000000 → Itm.parse f s.data.toList = none →
    Calls Try.prog 67 #[.string s] w fun e w' => (∃ b r, e = .returned (.tuple #[.agg #[.bool b, .string ⟨#[]⟩, .slice none 0 0], .string r, .bool false])) ∧ Below w.heap.size w w'
  yes : ∀ (s : ByteArray) (w : World) (t : Itm) (rest : List UInt8), s.size ≤ f → s.size ≤ 1000000 → Itm.parse f s.data.toList = some (t, rest) →
    Calls Try.prog 67 #[.string s] w fun e w' => ∃ v, e = .returned (.tuple #[v, .string ⟨rest.toArray⟩, .bool true]) ∧ Ow w' f w.heap.size w'.heap.size v t ∧ Below w.heap.size w w'

def strLen : Value → Nat | .string r => r.size | _ => 0

theorem toList_isEmpty (r : ByteArray) : r.toList.isEmpty = r.data.toList.isEmpty := by rw [Lib.toList_data]

theorem two_alloc (w : World) (a b : Obj) (k : Nat) (h : k < w.heap.size) : ((w.alloc a).alloc b).heap[k]? = w.heap[k]? := by
  rw [Below.heap_alloc _ _ _ (by simp; omega), Below.heap_alloc _ _ _ h]

theorem cells_three (w : World) (a b c : Value) (e : TypeId) : ∀ j u, [a, b, c][j]? = some u → (w.alloc (.cells #[a, b, c] e)).cell? ((⟨w.heap.size, 0, none⟩ : Addr).add j) = some u := by
  intro j u hu
  have hadd : (⟨w.heap.size, 0, none⟩ : Addr).add j = ⟨w.heap.size, j, none⟩ := by unfold Addr.add; split <;> simp_all
  rw [hadd, cell_of_row _ _ j #[a, b, c] e (0, 0) (heap_alloc_new w _)]
  simpa using hu

/-- One item more in the list. -/
theorem all_push {w0 wr w1 w2 : World} {f : Nat} {u4 v' a b c : Value} {X Y : Obj} {done : List Itm} {x : Itm} (hown : OwL wr f w0.heap.size wr.heap.size u4 done) (hb : Below wr.heap.size wr w1)
    (hx : Ow w1 f wr.heap.size w1.heap.size (.agg #[a, b, c]) x) (h0 : w0.heap.size ≤ wr.heap.size) (xs : List Value) (hrow : wr.ownsRow w0.heap.size 24 3 u4 done.length xs)
    (ho2 : w2.ownsRow w0.heap.size 24 3 v' (done.length + 1) (xs ++ [a, b, c])) (hgr : ((w1.alloc X).alloc Y).grownBy w2 u4.ownBlock) (hnew : Newer ((w1.alloc X).alloc Y) u4 v') :
    OwL w2 f w0.heap.size w2.heap.size v' (done ++ [x]) := by
  obtain ⟨xs', ho, hg, L, H, hL, hLH⟩ := hown
  have hxx : xs' = xs := by
    rcases ho.2 with ⟨e1, e2⟩ | ⟨g, cap, cur, e1, _, e3, _, _, _, e4⟩
    · have h1 := ho.1
      have h2 := hrow.1
      rw [e2] at h1 h2
      have n1 : xs' = [] := List.eq_nil_of_length_eq_zero (by simpa using h1)
      have n2 : xs = [] := List.eq_nil_of_length_eq_zero (by simpa using h2)
      rw [n1, n2]
    · rcases hrow.2 with ⟨e1', e2'⟩ | ⟨g', cap', cur', e1', _, e3', _, _, _, e4'⟩
      · rw [e1] at e1'; simp at e1'
      · rw [e1] at e1'
        simp only [Value.slice.injEq, Option.some.injEq, Addr.mk.injEq, true_and, and_true] at e1'
        obtain ⟨rfl, _⟩ := e1'
        rw [e3] at e3'
        simp only [Option.some.injEq, Obj.cells.injEq, and_true] at e3'
        obtain rfl := e3'
        rw [← e4, ← e4']
  subst hxx
  have hsz := hb.size
  have hbel : Below wr.heap.size wr ((w1.alloc X).alloc Y) := (hb.alloc hsz X).alloc (by simp; omega) Y
  refine ownL_push ho hg L H hL hLH hbel (lo1 := wr.heap.size) (hi1 := w1.heap.size) (own_frame _ _ _ _ _ ?_ hx) (Nat.le_refl _) h0 (by simp; omega) ho2 hgr hnew (by simp; omega)
  intro k _ hk
  exact two_alloc w1 X Y k hk

/-- An append of one item that has just been made, to a list of the call's own: for a walk. -/
theorem wpList_append_item {ops : Array Oper} {rest : List Oper} {o : Oper} {act : Act} {Q : Exit → Act → World → Prop} (hgd : o.guard = none) (s x : Operand)
    (hop : o.op = .call { callee := .builtin .append, args := #[s, x], argTypes := #[22, 22] })
    {w0 wr w1 : World} {f : Nat} {u4 a b c : Value} {X : Obj} {done : List Itm} {y : Itm} (hs : act.eval s = u4) (hx : act.eval x = .slice (some ⟨w1.heap.size + 1, 0, none⟩) 1 1)
    (hown : OwL wr f w0.heap.size wr.heap.size u4 done) (hb : Below wr.heap.size wr w1) (h0 : w0.heap.size ≤ wr.heap.size) (hy : Ow w1 f wr.heap.size w1.heap.size (.agg #[a, b, c]) y)
    (hone : a.oneCell' = true ∧ b.oneCell' = true ∧ c.oneCell' = true) (hn : done.length ≤ 1000000)
    (h : ∀ v' w', OwL w' f w0.heap.size w'.heap.size v' (done ++ [y]) → Below w0.heap.size wr w' → wpList Try.prog ops Q rest (act.put o.dst v') w') :
    wpList Try.prog ops Q (o :: rest) act ((w1.alloc X).alloc (.cells #[a, b, c] 24)) := by
  obtain ⟨i0, hi, hz0, hz1, hz2⟩ := info_parts infoItem
  have hown' := hown
  obtain ⟨xs, ho, _⟩ := hown'
  have hsz := hb.size
  refine wpList_append_mine _ hgd s x 22 hop w0.heap.size 24 i0 _ 3 48 Try.underlying22 hi hz0 hz1 hz2 rfl (by decide) u4 done.length xs hs ?_ ⟨w1.heap.size + 1, 0, none⟩ 1 1 [a, b, c] hx rfl ?_ ?_ ?_ ?_ ?_ ?_
  · refine owns_frame ho ?_
    intro g hg
    have hlt := (ho.lt g hg).2
    rw [two_alloc _ _ _ _ (by omega)]
    exact hb.block g hlt
  · have := cells_three (w1.alloc X) a b c 24
    simpa using this
  · intro u hu
    simp only [List.mem_cons, List.not_mem_nil, or_false] at hu
    rcases hu with rfl | rfl | rfl
    · exact hone.1
    · exact hone.2.1
    · exact hone.2.2
  · unfold maxLen; omega
  · omega
  · simp; omega
  · intro v' w' ho2 hgr hnew
    refine h v' w' (all_push hown hb hy h0 xs ho ho2 hgr hnew) ?_
    refine (((hb.mono h0).alloc (by omega) _).alloc (by simp; omega) _).grown hgr (by simp; omega) ?_
    intro k hk
    exact (ho.lt k hk).1

set_option maxHeartbeats 800000 in
theorem all_any (f : Nat) (hF : FirstOk f) (s : ByteArray) (w : World) (o : Option (List Itm)) (h1 : s.size ≤ f) (h2 : s.size ≤ 1000000) (hl : Hid (o = Itm.loopP (Itm.parse f) s.size s.data.toList)) :
    Calls Try.prog 93 #[.string s] w fun e w' => (∀ l, o = some l → ∃ sl, e = .returned (.tuple #[sl, .bool true]) ∧ OwL w' f w.heap.size w'.heap.size sl l) ∧ (o = none → e = .returned (.tuple #[.slice none 0 0, .bool false])) ∧ Below w.heap.size w w' := by
  obtain ⟨i0, hi, hz0, hz1, hz2⟩ := info_parts infoItem
  go_enter Try.func93, Try.ntmps93
  go_wp2_with fail
  go_loopw [0, 4] (fun b v wr => ∃ (r : ByteArray) (done : List Itm) (m : Nat), b = .string r ∧ r.size ≤ s.size ∧ Hid (o = (Itm.loopP (Itm.parse f) m r.data.toList).map (done ++ ·) ∧ r.size ≤ m ∧ r.size + done.length ≤ s.size ∧ OwL wr f w.heap.size wr.heap.size v done ∧ Below w.heap.size w wr)) (fun b _ _ => strLen b)
  case atStart => exact ⟨s, [], s.size, rfl, Nat.le_refl _, by rw [hl.out]; simp, Nat.le_refl _, by simp, ownL_nil _ _ _ _ _, Below.refl _ _⟩
  case round =>
    obtain ⟨r, done, m, rfl, hr, HH⟩ := hrel
    by_cases hne : r.data.toList = []
    · have hb : r.toList.isEmpty = true := by rw [toList_isEmpty, hne]; rfl
      go_wp2_with fail
      go_ret2
      obtain ⟨q1, _, q3, q4, q5⟩ := HH.out
      have q1' : o = some done := by
        rw [q1, hne]
        cases m <;> simp [Itm.loopP]
      subst q1'
      refine ⟨?_, ?_, q5⟩
      · rintro l hl'
        cases hl'
        exact ⟨_, rfl, q4⟩
      · intro hn; cases hn
    · have hb : r.toList.isEmpty = false := by rw [toList_isEmpty]; simpa using hne
      obtain ⟨q1, q2, q3, q4, q5⟩ := HH.out
      have hrp : 0 < r.size := by
        rcases Nat.eq_zero_or_pos r.size with h0 | h0
        · exact absurd (List.eq_nil_of_length_eq_zero (by rw [ba_len]; exact h0)) hne
        · exact h0
      cases m with
      | zero => omega
      | succ m =>
        unfold Itm.loopP at q1
        rw [if_neg (by simpa using hne)] at q1
        cases hp : Itm.parse f r.data.toList with
        | none =>
          rw [hp] at q1
          simp only [Option.map_none] at q1
          have hcall := hid (hF.no r wr (by omega) (by omega) hp)
          have Q1 := hid q1
          have Q5 := hid q5
          clear hp q1 q2 q3 q4 q5
          go_wp2_with fail
          refine hcall.out.mono ?_
          rintro e w1 ⟨⟨b, r1, rfl⟩, hbel⟩
          go_wp2_with fail
          go_ret2
          refine ⟨?_, fun _ => rfl, Q5.out.trans (((hbel.mono Q5.out.size)).alloc (by have := hbel.size; have := Q5.out.size; omega) _)⟩
          intro l hl'
          rw [Q1.out] at hl'; cases hl'
        | some xr =>
          obtain ⟨x, rest⟩ := xr
          rw [hp] at q1
          simp only [Option.map_map] at q1
          have hsound := (Itm.parse_sound f _ _ _ hp).1
          have hlen : r.size = (Itm.enc x).length + rest.length := by rw [← ba_len, hsound, List.length_append]
          have hpos : 0 < (Itm.enc x).length := List.length_pos_iff.2 (Itm.enc_ne x)
          have hlt : rest.length < r.size := by omega
          have hcall := hid (hF.yes r wr x rest (by omega) (by omega) hp)
          have hdl : done.length ≤ 1000000 := by omega
          have hsz0 := q5.size
          have Q1 := hid q1
          clear hp q1 q2 q3 q4 q5 hsound hlen hpos
          go_wp2_with fail
          refine hcall.out.mono ?_
          rintro e w1 ⟨v, rfl, hown, hbel⟩
          have hown' := hid hown
          cases f with
          | zero => exact hown.elim
          | succ f =>
          obtain ⟨sl2, rfl, hsl⟩ := hown
          obtain ⟨a2, cap2, rfl⟩ := ownL_len hsl
          have hsz1 := hbel.size
          have HB := hid hbel
          clear hsl hbel
          have HO2 := hid HH.out.2.2.2.1
          go_wp2_with (at_builtin; refine wpList_append_item rfl (.tmp 18) (.tmp 20) rfl rfl rfl HO2.out HB.out hsz0 hown'.out ⟨rfl, rfl, rfl⟩ hdl ?_; intro v' w' hown2 hbel2)
          refine ⟨⟨⟨rest.toArray⟩, done ++ [x], m, rfl, ?_, ?_⟩, ?_⟩
          · show rest.toArray.size ≤ s.size
            simp; omega
          · obtain ⟨q1, q2, q3, q4, q5⟩ := HH.out
            refine ⟨?_, ?_, ?_, hown2, q5.trans hbel2⟩
            · rw [Q1.out]
              congr 1
              funext l
              simp
            · show rest.toArray.size ≤ m
              simp; omega
            · show rest.toArray.size + _ ≤ s.size
              simp; omega
          · show rest.toArray.size < r.size
            simp; omega
end Go.Proofs.Ytbmohenjphmlgaa
