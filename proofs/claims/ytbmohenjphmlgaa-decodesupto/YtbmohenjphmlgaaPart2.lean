/- Part 2 of a proof: what the last text needs. -/
import Derived.Test.YtbmohenjphmlgaaPart1
import Derived.WalkKit
import Derived.Deep.RegionWith
/- Memory that a call has made: a row that grows by append; items in lists of their own. -/
namespace Go.Proofs.Ytbmohenjphmlgaa
open Go.RowKit
set_option maxRecDepth 100000

theorem alloc_size (w : World) (o : Obj) : (w.alloc o).heap.size = w.heap.size + 1 := Array.size_push _

/-- A block of a grown row is the old one, or new. -/
def Newer (w : World) (v v' : Value) : Prop := v'.ownBlock = v.ownBlock ∨ ∃ g, v'.ownBlock = some g ∧ w.heap.size ≤ g

theorem owns_base {w : World} {b b' : Nat} {e : TypeId} {size : Nat} {v : Value} {n : Nat} {xs : List Value} (h : w.ownsRow b e size v n xs) (hb : b' ≤ b) : w.ownsRow b' e size v n xs := by
  refine ⟨h.1, ?_⟩
  rcases h.2 with h2 | ⟨g, cap, cur, hv, hg, r⟩
  · exact .inl h2
  · exact .inr ⟨g, cap, cur, hv, Nat.le_trans hb hg, r⟩

theorem owns_newer {w w' : World} {e : TypeId} {size : Nat} {v v' : Value} {n : Nat} {xs : List Value} (h : w'.ownsRow w.heap.size e size v' n xs) (hn : v'.ownBlock = none → v.ownBlock = none) : Newer w v v' := by
  cases hb : v'.ownBlock with
  | none => exact .inl (by rw [hn hb]; exact hb)
  | some g => exact .inr ⟨g, hb, (h.lt g hb).1⟩

section
variable {P : Program} (w : World)

/-- append onto a row of the call's own: the law of the library, and which block it lies in then. -/
theorem run_append_mine (base : Nat) (t ty e : TypeId) (i : TypeInfo) (z : Value) (size bytes : Nat) (ht : P.underlying t = some (.slice e)) (hi : P.info? e = some i) (hz : i.zero = some z)
    (hsize : i.size = size) (hby : i.bytes = bytes) (hzs : z.cells.size = size) (hsz : 0 < size)
    (v : Value) (n : Nat) (xs : List Value) (hown : w.ownsRow base e size v n xs)
    (a : Addr) (m c : Nat) (news : List Value) (hl : news.length = m * size) (hnews : ∀ j u, news[j]? = some u → w.cell? (a.add j) = some u) (h1 : ∀ u ∈ news, u.oneCell' = true)
    (h63 : n + m ≤ maxLen) (hbytes : (n + m) * bytes ≤ 140737488355328) (hbase : base ≤ w.heap.size) :
    ∃ v' w', (Builtin.append_ #[t, t] ty #[v, .slice (some a) m c]).run P w = .ok v' w' ∧ w'.ownsRow base e size v' (n + m) (xs ++ news) ∧ w.grownBy w' v.ownBlock ∧ Newer w v v' := by
  rcases hown.2 with ⟨rfl, rfl⟩ | ⟨g, cap, cur, rfl, hbg, hg, hnc, hcm, hcs, htake⟩
  · have hx : xs = [] := List.eq_nil_of_length_eq_zero (by simpa using hown.1)
    subst hx
    obtain ⟨v', w', hr, ho, hgr, _⟩ := run_append_own (P := P) w w.heap.size t ty e i z size bytes ht hi hz hsize hby hzs hsz (.slice none 0 0) 0 [] (World.ownsRow_nil w _ e size) a m c news hl hnews h1 h63 hbytes (Nat.le_refl _)
    exact ⟨v', w', hr, owns_base ho hbase, hgr, owns_newer ho (fun _ => rfl)⟩
  · by_cases hroom : n + m ≤ cap
    · have hlen : (xs ++ news).length = (n + m) * size := by rw [List.length_append, hown.1, hl, Nat.add_mul]
      subst hsize
      have hfit : n * i.size + news.length ≤ cur.size := by rw [hl, hcs, ← Nat.add_mul]; exact Nat.mul_le_mul_right _ hroom
      have hr := run_append_room (P := P) w t ty e i ht hi g n cap cur hg a m c news hl hnews h1 hroom hfit
      refine ⟨_, _, hr, ⟨hlen, .inr ⟨g, cap, _, rfl, hbg, setRow_heap w g cur _ e _ hg, hroom, hcm, ?_, ?_⟩⟩, ⟨rfl, rfl, rfl, by simp, fun k _ hk => setRow_other w g k _ (fun e => hk (by simp [Value.ownBlock, e]))⟩, .inl rfl⟩
      · simp only [List.size_toArray, List.length_append, List.length_take, List.length_drop, Array.length_toList]
        omega
      · rw [htake, ← hlen]
        exact List.take_left
    · have holds : ∀ j u, xs[j]? = some u → w.cell? ((⟨g, 0, none⟩ : Addr).add j) = some u := hown.cells (g := g) rfl
      obtain ⟨v', w', hr, ho, hgr⟩ := run_append_arg_grows (P := P) w t ty e i z size bytes ht hi hz hsize hby hzs hsz ⟨g, 0, none⟩ n cap xs hown.1 holds a m c news hl hnews (by omega) h63 hbytes
      refine ⟨v', w', hr, owns_base ho hbase, ⟨hgr.os, hgr.tape, hgr.output, hgr.size, fun k hk _ => hgr.block k hk (by simp)⟩, owns_newer ho ?_⟩
      intro hno
      rcases ho.2 with ⟨rfl, h0⟩ | ⟨g', cap', cur', rfl, _⟩
      · omega
      · simp [Value.ownBlock] at hno

theorem wpList_append_mine {ops : Array Oper} {rest : List Oper} {o : Oper} {a : Act} {Q : Exit → Act → World → Prop} (hgd : o.guard = none) (s x : Operand) (t : TypeId)
    (ho : o.op = .call { callee := .builtin .append, args := #[s, x], argTypes := #[t, t] })
    (base : Nat) (e : TypeId) (i : TypeInfo) (z : Value) (size bytes : Nat) (ht : P.underlying t = some (.slice e)) (hi : P.info? e = some i) (hz : i.zero = some z)
    (hsize : i.size = size) (hby : i.bytes = bytes) (hzs : z.cells.size = size) (hsz : 0 < size)
    (v : Value) (n : Nat) (xs : List Value) (hs : a.eval s = v) (hown : w.ownsRow base e size v n xs)
    (ad : Addr) (m c : Nat) (news : List Value) (hx : a.eval x = .slice (some ad) m c) (hl : news.length = m * size) (hnews : ∀ j u, news[j]? = some u → w.cell? (ad.add j) = some u) (h1 : ∀ u ∈ news, u.oneCell' = true)
    (h63 : n + m ≤ maxLen) (hbytes : (n + m) * bytes ≤ 140737488355328) (hbase : base ≤ w.heap.size)
    (h : ∀ v' w', w'.ownsRow base e size v' (n + m) (xs ++ news) → w.grownBy w' v.ownBlock → Newer w v v' → wpList P ops Q rest (a.put o.dst v') w') : wpList P ops Q (o :: rest) a w := by
  refine wpList_plain hgd fun K hK => ?_
  obtain ⟨v', w', hr, h2, h3, h4⟩ := run_append_mine (P := P) w base t o.type e i z size bytes ht hi hz hsize hby hzs hsz v n xs hown ad m c news hl hnews h1 h63 hbytes hbase
  unfold Oper.wp execOp
  simp only [ho, resolve, invoke, builtin, Sem.run_bind, Sem.run_pure, Result.andThen_ok, List.map_toArray, List.map_cons, List.map_nil, hs, hx, hr]
  exact hK _ _ (h v' w' h2 h3 h4)
end

/-- The i-th three cells of a row. -/
def tri (xs : List Value) (i : Nat) : Value := .agg #[xs.getD (3 * i) default, xs.getD (3 * i + 1) default, xs.getD (3 * i + 2) default]

theorem tri_left (xs ys : List Value) (i n : Nat) (h : xs.length = n * 3) (hi : i < n) : tri (xs ++ ys) i = tri xs i := by
  unfold tri
  simp only [List.getD_eq_getElem?_getD]
  rw [List.getElem?_append_left (by omega), List.getElem?_append_left (by omega), List.getElem?_append_left (by omega)]

theorem tri_new (xs : List Value) (a b c : Value) (n : Nat) (h : xs.length = n * 3) : tri (xs ++ [a, b, c]) n = .agg #[a, b, c] := by
  unfold tri
  simp only [List.getD_eq_getElem?_getD]
  rw [List.getElem?_append_right (by omega), List.getElem?_append_right (by omega), List.getElem?_append_right (by omega)]
  have e0 : 3 * n - xs.length = 0 := by omega
  have e1 : 3 * n + 1 - xs.length = 1 := by omega
  have e2 : 3 * n + 2 - xs.length = 2 := by omega
  rw [e0, e1, e2]
  simp

/-- A list of items in a row of its own, among the blocks from lo on and below hi; what is within each of them lies in blocks of its own. E: the items' type. -/
def OwnL (E : TypeId) (w : World) (p : Nat → Nat → Value → Itm → Prop) (lo hi : Nat) (sl : Value) (l : List Itm) : Prop :=
  ∃ xs : List Value, w.ownsRow lo E 3 sl l.length xs ∧ (∀ g, sl.ownBlock = some g → g < hi) ∧ ∃ L H : Nat → Nat,
    (∀ i (h : i < l.length), lo ≤ L i ∧ H i ≤ hi ∧ (∀ g, sl.ownBlock = some g → g < L i ∨ H i ≤ g) ∧ p (L i) (H i) (tri xs i) l[i]) ∧
    (∀ i j, i < j → j < l.length → H i ≤ L j)

def Own (E : TypeId) (w : World) : Nat → Nat → Nat → Value → Itm → Prop
  | 0 => fun _ _ _ _ => False
  | n + 1 => fun lo hi v t => ∃ sl, v = .agg #[.bool t.list, .string ⟨t.bytes.toArray⟩, sl] ∧ OwnL E w (Own E w n) lo hi sl t.items

theorem own_zero (E : TypeId) (w : World) (lo hi : Nat) (v : Value) (t : Itm) : ¬ Own E w 0 lo hi v t := fun h => h

theorem own_succ (E : TypeId) (w : World) (n lo hi : Nat) (v : Value) (t : Itm) :
    Own E w (n + 1) lo hi v t ↔ ∃ sl, v = .agg #[.bool t.list, .string ⟨t.bytes.toArray⟩, sl] ∧ OwnL E w (Own E w n) lo hi sl t.items := Iff.rfl

theorem ownL_nil (E : TypeId) (w : World) (p : Nat → Nat → Value → Itm → Prop) (lo hi : Nat) : OwnL E w p lo hi (.slice none 0 0) [] :=
  ⟨[], World.ownsRow_nil _ _ _ _, by simp [Value.ownBlock], fun _ => 0, fun _ => 0, by simp, by simp⟩

theorem owns_frame {w w' : World} {b : Nat} {e : TypeId} {size : Nat} {v : Value} {n : Nat} {xs : List Value} (h : w.ownsRow b e size v n xs)
    (hg : ∀ g, v.ownBlock = some g → w'.heap[g]? = w.heap[g]?) : w'.ownsRow b e size v n xs := by
  refine ⟨h.1, ?_⟩
  rcases h.2 with h2 | ⟨g, cap, cur, hv, hb, hh, r⟩
  · exact .inl h2
  · refine .inr ⟨g, cap, cur, hv, hb, ?_, r⟩
    rw [hg g (by rw [hv]; rfl)]; exact hh

theorem ownL_mono {E : TypeId} {w w' : World} {p p' : Nat → Nat → Value → Itm → Prop} {lo hi : Nat} {sl : Value} {l : List Itm} (h : OwnL E w p lo hi sl l)
    (hw : ∀ g, sl.ownBlock = some g → w'.heap[g]? = w.heap[g]?) (hp : ∀ a b v t, lo ≤ a → b ≤ hi → (∀ g, sl.ownBlock = some g → g < a ∨ b ≤ g) → p a b v t → p' a b v t) : OwnL E w' p' lo hi sl l := by
  obtain ⟨xs, ho, hg, L, H, h1, h2⟩ := h
  exact ⟨xs, owns_frame ho hw, hg, L, H, fun i hi => ⟨(h1 i hi).1, (h1 i hi).2.1, (h1 i hi).2.2.1, hp _ _ _ _ (h1 i hi).1 (h1 i hi).2.1 (h1 i hi).2.2.1 (h1 i hi).2.2.2⟩, h2⟩

/-- What is owned stays, where its blocks stay. -/
theorem own_frame {E : TypeId} {w w' : World} : ∀ (n lo hi : Nat) (v : Value) (t : Itm), (∀ k, lo ≤ k → k < hi → w'.heap[k]? = w.heap[k]?) → Own E w n lo hi v t → Own E w' n lo hi v t := by
  intro n
  induction n with
  | zero => intro lo hi v t _ h; exact h
  | succ n ih =>
    intro lo hi v t hk h
    obtain ⟨sl, hv, hl⟩ := h
    refine ⟨sl, hv, ownL_mono hl ?_ ?_⟩
    · intro g hg
      obtain ⟨xs, ho, hg2, _⟩ := hl
      exact hk g (ho.lt g hg).1 (hg2 g hg)
    · intro a b v' t' ha hb _ h'
      exact ih a b v' t' (fun k h1 h2 => hk k (by omega) (by omega)) h'

theorem ownL_widen {E : TypeId} {w : World} {p : Nat → Nat → Value → Itm → Prop} {lo hi lo' hi' : Nat} {sl : Value} {l : List Itm} (h : OwnL E w p lo hi sl l) (h1 : lo' ≤ lo) (h2 : hi ≤ hi') : OwnL E w p lo' hi' sl l := by
  obtain ⟨xs, ho, hg, L, H, h3, h4⟩ := h
  exact ⟨xs, owns_base ho h1, fun g hgg => Nat.lt_of_lt_of_le (hg g hgg) h2, L, H, fun i hi => ⟨by have := (h3 i hi).1; omega, by have := (h3 i hi).2.1; omega, (h3 i hi).2.2⟩, h4⟩

theorem own_widen {E : TypeId} {w : World} {n lo hi lo' hi' : Nat} {v : Value} {t : Itm} (h : Own E w n lo hi v t) (h1 : lo' ≤ lo) (h2 : hi ≤ hi') : Own E w n lo' hi' v t := by
  cases n with
  | zero => exact h
  | succ n =>
    obtain ⟨sl, hv, hl⟩ := h
    exact ⟨sl, hv, ownL_widen hl h1 h2⟩

theorem own_more {E : TypeId} {w : World} : ∀ (n lo hi : Nat) (v : Value) (t : Itm), Own E w n lo hi v t → Own E w (n + 1) lo hi v t := by
  intro n
  induction n with
  | zero => intro lo hi v t h; exact h.elim
  | succ n ih =>
    intro lo hi v t h
    obtain ⟨sl, hv, hl⟩ := h
    exact ⟨sl, hv, ownL_mono hl (fun _ _ => rfl) (fun a b v' t' _ _ _ h' => ih a b v' t' h')⟩

theorem ownL_len {E : TypeId} {w : World} {p : Nat → Nat → Value → Itm → Prop} {lo hi : Nat} {sl : Value} {l : List Itm} (h : OwnL E w p lo hi sl l) : ∃ a cap, sl = .slice a l.length cap := by
  obtain ⟨xs, ho, _⟩ := h
  rcases ho.2 with ⟨rfl, h0⟩ | ⟨g, cap, cur, hv, _⟩
  · exact ⟨none, 0, by rw [h0]⟩
  · exact ⟨_, _, hv⟩

/-- One item more, behind an append: w1: as the item has been made; w2: as it has been appended. -/
theorem ownL_push {E : TypeId} {w w1 w2 : World} {n lo hi lo1 hi1 : Nat} {sl sl' : Value} {l : List Itm} {t : Itm} {xs : List Value} {a b c : Value}
    (ho : w.ownsRow lo E 3 sl l.length xs) (hg : ∀ g, sl.ownBlock = some g → g < hi) (L H : Nat → Nat)
    (hL : ∀ i (h : i < l.length), lo ≤ L i ∧ H i ≤ hi ∧ (∀ g, sl.ownBlock = some g → g < L i ∨ H i ≤ g) ∧ Own E w n (L i) (H i) (tri xs i) l[i])
    (hLH : ∀ i j, i < j → j < l.length → H i ≤ L j)
    (hb : Below hi w w1) (ht : Own E w1 n lo1 hi1 (.agg #[a, b, c]) t) (h1 : hi ≤ lo1) (h2 : lo ≤ lo1) (h3 : hi1 ≤ w1.heap.size)
    (ho' : w2.ownsRow lo E 3 sl' (l.length + 1) (xs ++ [a, b, c])) (hgr : w1.grownBy w2 sl.ownBlock) (hnew : Newer w1 sl sl') (hhi : hi ≤ w1.heap.size) :
    OwnL E w2 (Own E w2 n) lo w2.heap.size sl' (l ++ [t]) := by
  have hx := ho.1
  refine ⟨xs ++ [a, b, c], by simpa using ho', ?_, fun i => if i = l.length then lo1 else L i, fun i => if i = l.length then hi1 else H i, ?_, ?_⟩
  · intro g hgg; exact (ho'.lt g hgg).2
  · intro i hi'
    by_cases he : i = l.length
    · subst he
      simp only [if_pos]
      refine ⟨h2, Nat.le_trans h3 hgr.size, ?_, ?_⟩
      · intro g hgg
        rcases hnew with hn | ⟨g', hn, hlt⟩
        · rw [hn] at hgg
          have := hg g hgg
          omega
        · rw [hn] at hgg
          simp at hgg; omega
      · rw [tri_new xs a b c l.length hx]
        simp only [List.getElem_append_right (Nat.le_refl _), Nat.sub_self, List.getElem_cons_zero]
        refine own_frame n lo1 hi1 _ t ?_ ht
        intro k hk1 hk2
        refine hgr.block k (by omega) ?_
        intro e
        have := hg k e.symm
        omega
    · have hlt : i < l.length := by simp at hi'; omega
      obtain ⟨q1, q2, q3, q4⟩ := hL i hlt
      simp only [if_neg he]
      refine ⟨q1, Nat.le_trans (Nat.le_trans q2 hhi) hgr.size, ?_, ?_⟩
      · intro g hgg
        rcases hnew with hn | ⟨g', hn, hlt'⟩
        · rw [hn] at hgg
          exact q3 g hgg
        · rw [hn] at hgg
          simp at hgg
          omega
      · rw [tri_left xs _ i l.length hx hlt, List.getElem_append_left hlt]
        refine own_frame n (L i) (H i) _ _ ?_ q4
        intro k hk1 hk2
        rw [hgr.block k (by omega) ?_, hb.block k (by omega)]
        intro e
        have := q3 k e.symm
        omega
  · intro i j hij hj
    simp only [List.length_append, List.length_singleton] at hj
    by_cases he : j = l.length
    · subst he
      have hlt : i ≠ l.length := by omega
      simp only [if_neg hlt, if_pos]
      have := (hL i (by omega)).2.1
      omega
    · simp only [if_neg he, if_neg (show i ≠ l.length by omega)]
      exact hLH i j hij (by omega)

end Go.Proofs.Ytbmohenjphmlgaa

/- The walk of 'all': items one behind the other, as 'loopP' says, in a list of their own; by what 'first' does. -/
namespace Go.Proofs.Ytbmohenjphmlgaa
open Go.RowKit
set_option maxRecDepth 100000

theorem infoItem : (Try.prog.info? 24).map (fun i => (i.zero, i.size, i.bytes)) = some (some (.agg #[.bool false, .string ⟨#[]⟩, .slice none 0 0]), 3, 48) := by kernel_rfl

/-- Owned items of this program. -/
def Ow (w : World) (n lo hi : Nat) (v : Value) (t : Itm) : Prop := Own 24 w n lo hi v t
def OwL (w : World) (n lo hi : Nat) (v : Value) (l : List Itm) : Prop := OwnL 24 w (Own 24 w n) lo hi v l

/-- What 'first' does, of at most f bytes. -/
structure FirstOk (f : Nat) : Prop where
  no : ∀ (s : ByteArray) (w : World), s.size ≤ f → s.size ≤ 1000000 → Itm.parse f s.data.toList = none →
    Calls Try.prog 67 #[.string s] w fun e w' => (∃ b r, e = .returned (.tuple #[.agg #[.bool b, .string ⟨#[]⟩, .slice none 0 0], .string r, .bool false])) ∧ Below w.heap.size w w'
  yes : ∀ (s : ByteArray) (w : World) (t : Itm) (rest : List UInt8), s.size ≤ f → s.size ≤ 1000000 → Itm.parse f s.data.toList = some (t, rest) →
    Calls Try.prog 67 #[.string s] w fun e w' => ∃ v, e = .returned (.tuple #[v, .string ⟨rest.toArray⟩, .bool true]) ∧ Ow w' f w.heap.size w'.heap.size v t ∧ Below w.heap.size w w'

def strLen : Value → Nat | .string r => r.size | _ => 0

theorem toList_isEmpty (r : ByteArray) : r.toList.isEmpty = r.data.toList.isEmpty := by rw [Lib.toList_data]

theorem two_alloc (w : World) (a b : Obj) (k : Nat) (h : k < w.heap.size) : ((w.alloc a).alloc b).heap[k]? = w.heap[k]? := by
  rw [Below.heap_alloc _ _ _ (by simp; omega), Below.heap_alloc _ _ _ h]

theorem cells_three (w : World) (a b c : Value) (e : TypeId) : ∀ j u, [a, b, c][j]? = some u → (w.alloc (.cells #[a, b, c] e)).cell? ((⟨w.heap.size, 0, none⟩ : Addr).add j) = some u := by
  intro j u hu
  have hadd : (⟨w.heap.size, 0, none⟩ : Addr).add j = ⟨w.heap.size, j, none⟩ := by unfold Addr.add; split <;> simp_all
  rw [hadd, cell_of_row _ _ j #[a, b, c] e (0, 0) (heap_alloc_new w _)]
  simpa using hu

/-- One item more in the list. -/
theorem all_push {w0 wr w1 w2 : World} {f : Nat} {u4 v' a b c : Value} {X Y : Obj} {done : List Itm} {x : Itm} (hown : OwL wr f w0.heap.size wr.heap.size u4 done) (hb : Below wr.heap.size wr w1)
    (hx : Ow w1 f wr.heap.size w1.heap.size (.agg #[a, b, c]) x) (h0 : w0.heap.size ≤ wr.heap.size) (xs : List Value) (hrow : wr.ownsRow w0.heap.size 24 3 u4 done.length xs)
    (ho2 : w2.ownsRow w0.heap.size 24 3 v' (done.length + 1) (xs ++ [a, b, c])) (hgr : ((w1.alloc X).alloc Y).grownBy w2 u4.ownBlock) (hnew : Newer ((w1.alloc X).alloc Y) u4 v') :
    OwL w2 f w0.heap.size w2.heap.size v' (done ++ [x]) := by
  obtain ⟨xs', ho, hg, L, H, hL, hLH⟩ := hown
  have hxx : xs' = xs := by
    rcases ho.2 with ⟨e1, e2⟩ | ⟨g, cap, cur, e1, _, e3, _, _, _, e4⟩
    · have h1 := ho.1
      have h2 := hrow.1
      rw [e2] at h1 h2
      have n1 : xs' = [] := List.eq_nil_of_length_eq_zero (by simpa using h1)
      have n2 : xs = [] := List.eq_nil_of_length_eq_zero (by simpa using h2)
      rw [n1, n2]
    · rcases hrow.2 with ⟨e1', e2'⟩ | ⟨g', cap', cur', e1', _, e3', _, _, _, e4'⟩
      · rw [e1] at e1'; simp at e1'
      · rw [e1] at e1'
        simp only [Value.slice.injEq, Option.some.injEq, Addr.mk.injEq, true_and, and_true] at e1'
        obtain ⟨rfl, _⟩ := e1'
        rw [e3] at e3'
        simp only [Option.some.injEq, Obj.cells.injEq, and_true] at e3'
        obtain rfl := e3'
        rw [← e4, ← e4']
  subst hxx
  have hsz := hb.size
  have hbel : Below wr.heap.size wr ((w1.alloc X).alloc Y) := (hb.alloc hsz X).alloc (by simp; omega) Y
  refine ownL_push ho hg L H hL hLH hbel (lo1 := wr.heap.size) (hi1 := w1.heap.size) (own_frame _ _ _ _ _ ?_ hx) (Nat.le_refl _) h0 (by simp; omega) ho2 hgr hnew (by simp; omega)
  intro k _ hk
  exact two_alloc w1 X Y k hk

/-- An append of one item that has just been made, to a list of the call's own: for a walk. -/
theorem wpList_append_item {ops : Array Oper} {rest : List Oper} {o : Oper} {act : Act} {Q : Exit → Act → World → Prop} (hgd : o.guard = none) (s x : Operand)
    (hop : o.op = .call { callee := .builtin .append, args := #[s, x], argTypes := #[22, 22] })
    {w0 wr w1 : World} {f : Nat} {u4 a b c : Value} {X : Obj} {done : List Itm} {y : Itm} (hs : act.eval s = u4) (hx : act.eval x = .slice (some ⟨w1.heap.size + 1, 0, none⟩) 1 1)
    (hown : OwL wr f w0.heap.size wr.heap.size u4 done) (hb : Below wr.heap.size wr w1) (h0 : w0.heap.size ≤ wr.heap.size) (hy : Ow w1 f wr.heap.size w1.heap.size (.agg #[a, b, c]) y)
    (hone : a.oneCell' = true ∧ b.oneCell' = true ∧ c.oneCell' = true) (hn : done.length ≤ 1000000)
    (h : ∀ v' w', OwL w' f w0.heap.size w'.heap.size v' (done ++ [y]) → Below w0.heap.size wr w' → wpList Try.prog ops Q rest (act.put o.dst v') w') :
    wpList Try.prog ops Q (o :: rest) act ((w1.alloc X).alloc (.cells #[a, b, c] 24)) := by
  obtain ⟨i0, hi, hz0, hz1, hz2⟩ := info_parts infoItem
  have hown' := hown
  obtain ⟨xs, ho, _⟩ := hown'
  have hsz := hb.size
  refine wpList_append_mine _ hgd s x 22 hop w0.heap.size 24 i0 _ 3 48 Try.underlying22 hi hz0 hz1 hz2 rfl (by decide) u4 done.length xs hs ?_ ⟨w1.heap.size + 1, 0, none⟩ 1 1 [a, b, c] hx rfl ?_ ?_ ?_ ?_ ?_ ?_
  · refine owns_frame ho ?_
    intro g hg
    have hlt := (ho.lt g hg).2
    rw [two_alloc _ _ _ _ (by omega)]
    exact hb.block g hlt
  · have := cells_three (w1.alloc X) a b c 24
    simpa using this
  · intro u hu
    simp only [List.mem_cons, List.not_mem_nil, or_false] at hu
    rcases hu with rfl | rfl | rfl
    · exact hone.1
    · exact hone.2.1
    · exact hone.2.2
  · unfold maxLen; omega
  · omega
  · simp; omega
  · intro v' w' ho2 hgr hnew
    refine h v' w' (all_push hown hb hy h0 xs ho ho2 hgr hnew) ?_
    refine (((hb.mono h0).alloc (by omega) _).alloc (by simp; omega) _).grown hgr (by simp; omega) ?_
    intro k hk
    exact (ho.lt k hk).1

set_option maxHeartbeats 800000 in
theorem all_any (f : Nat) (hF : FirstOk f) (s : ByteArray) (w : World) (o : Option (List Itm)) (h1 : s.size ≤ f) (h2 : s.size ≤ 1000000) (hl : Hid (o = Itm.loopP (Itm.parse f) s.size s.data.toList)) :
    Calls Try.prog 93 #[.string s] w fun e w' => (∀ l, o = some l → ∃ sl, e = .returned (.tuple #[sl, .bool true]) ∧ OwL w' f w.heap.size w'.heap.size sl l) ∧ (o = none → e = .returned (.tuple #[.slice none 0 0, .bool false])) ∧ Below w.heap.size w w' := by
  obtain ⟨i0, hi, hz0, hz1, hz2⟩ := info_parts infoItem
  go_enter Try.func93, Try.ntmps93
  go_wp2_with fail
  go_loopw [0, 4] (fun b v wr => ∃ (r : ByteArray) (done : List Itm) (m : Nat), b = .string r ∧ r.size ≤ s.size ∧ Hid (o = (Itm.loopP (Itm.parse f) m r.data.toList).map (done ++ ·) ∧ r.size ≤ m ∧ r.size + done.length ≤ s.size ∧ OwL wr f w.heap.size wr.heap.size v done ∧ Below w.heap.size w wr)) (fun b _ _ => strLen b)
  case atStart => exact ⟨s, [], s.size, rfl, Nat.le_refl _, by rw [hl.out]; simp, Nat.le_refl _, by simp, ownL_nil _ _ _ _ _, Below.refl _ _⟩
  case round =>
    obtain ⟨r, done, m, rfl, hr, HH⟩ := hrel
    by_cases hne : r.data.toList = []
    · have hb : r.toList.isEmpty = true := by rw [toList_isEmpty, hne]; rfl
      go_wp2_with fail
      go_ret2
      obtain ⟨q1, _, q3, q4, q5⟩ := HH.out
      have q1' : o = some done := by
        rw [q1, hne]
        cases m <;> simp [Itm.loopP]
      subst q1'
      refine ⟨?_, ?_, q5⟩
      · rintro l hl'
        cases hl'
        exact ⟨_, rfl, q4⟩
      · intro hn; cases hn
    · have hb : r.toList.isEmpty = false := by rw [toList_isEmpty]; simpa using hne
      obtain ⟨q1, q2, q3, q4, q5⟩ := HH.out
      have hrp : 0 < r.size := by
        rcases Nat.eq_zero_or_pos r.size with h0 | h0
        · exact absurd (List.eq_nil_of_length_eq_zero (by rw [ba_len]; exact h0)) hne
        · exact h0
      cases m with
      | zero => omega
      | succ m =>
        unfold Itm.loopP at q1
        rw [if_neg (by simpa using hne)] at q1
        cases hp : Itm.parse f r.data.toList with
        | none =>
          rw [hp] at q1
          simp only [Option.map_none] at q1
          have hcall := hid (hF.no r wr (by omega) (by omega) hp)
          have Q1 := hid q1
          have Q5 := hid q5
          clear hp q1 q2 q3 q4 q5
          go_wp2_with fail
          refine hcall.out.mono ?_
          rintro e w1 ⟨⟨b, r1, rfl⟩, hbel⟩
          go_wp2_with fail
          go_ret2
          refine ⟨?_, fun _ => rfl, Q5.out.trans (((hbel.mono Q5.out.size)).alloc (by have := hbel.size; have := Q5.out.size; omega) _)⟩
          intro l hl'
          rw [Q1.out] at hl'; cases hl'
        | some xr =>
          obtain ⟨x, rest⟩ := xr
          rw [hp] at q1
          simp only [Option.map_map] at q1
          have hsound := (Itm.parse_sound f _ _ _ hp).1
          have hlen : r.size = (Itm.enc x).length + rest.length := by rw [← ba_len, hsound, List.length_append]
          have hpos : 0 < (Itm.enc x).length := List.length_pos_iff.2 (Itm.enc_ne x)
          have hlt : rest.length < r.size := by omega
          have hcall := hid (hF.yes r wr x rest (by omega) (by omega) hp)
          have hdl : done.length ≤ 1000000 := by omega
          have hsz0 := q5.size
          have Q1 := hid q1
          clear hp q1 q2 q3 q4 q5 hsound hlen hpos
          go_wp2_with fail
          refine hcall.out.mono ?_
          rintro e w1 ⟨v, rfl, hown, hbel⟩
          have hown' := hid hown
          cases f with
          | zero => exact hown.elim
          | succ f =>
          obtain ⟨sl2, rfl, hsl⟩ := hown
          obtain ⟨a2, cap2, rfl⟩ := ownL_len hsl
          have hsz1 := hbel.size
          have HB := hid hbel
          clear hsl hbel
          have HO2 := hid HH.out.2.2.2.1
          go_wp2_with (at_builtin; refine wpList_append_item rfl (.tmp 18) (.tmp 20) rfl rfl rfl HO2.out HB.out hsz0 hown'.out ⟨rfl, rfl, rfl⟩ hdl ?_; intro v' w' hown2 hbel2)
          refine ⟨⟨⟨rest.toArray⟩, done ++ [x], m, rfl, ?_, ?_⟩, ?_⟩
          · show rest.toArray.size ≤ s.size
            simp; omega
          · obtain ⟨q1, q2, q3, q4, q5⟩ := HH.out
            refine ⟨?_, ?_, ?_, hown2, q5.trans hbel2⟩
            · rw [Q1.out]
              congr 1
              funext l
              simp
            · show rest.toArray.size ≤ m
              simp; omega
            · show rest.toArray.size + _ ≤ s.size
              simp; omega
          · show rest.toArray.size < r.size
            simp; omega
end Go.Proofs.Ytbmohenjphmlgaa

/- The walk of 'first': the item that bytes begin with, as 'parse' says, in lists of its own. -/
namespace Go.Proofs.Ytbmohenjphmlgaa
open Go.RowKit
set_option maxRecDepth 100000

theorem bcell {W w1 : World} (hb : Below W.heap.size W w1) : (∀ b o, b < W.heap.size → w1.cell? ⟨b, o, none⟩ = W.cell? ⟨b, o, none⟩) ∧ (∀ b o, b < W.heap.size → w1.frozen? ⟨b, o, none⟩ = W.frozen? ⟨b, o, none⟩) :=
  ⟨fun b o h => hb.cell (p := ⟨b, o, none⟩) h, fun b o h => hb.frozen (p := ⟨b, o, none⟩) h⟩

theorem below_undrew {B : Nat} {w w1 : World} (h : Below B w.drew w1) : Below B w w1 := ⟨h.os, h.tape, h.output, h.size, h.block⟩

theorem below_undrewN {B : Nat} (n : Nat) {w w1 : World} (h : Below B (w.drewN n) w1) : Below B w w1 := ⟨h.os, h.tape, h.output, h.size, h.block⟩

theorem drewN_below (w : World) (n : Nat) : Below w.heap.size w (w.drewN n) := ⟨rfl, rfl, rfl, Nat.le_refl _, fun _ _ => rfl⟩

theorem set3 {w1 : World} {g : Nat} {x0 x1 x2 : Value} {e : TypeId} {fz : Nat × Nat} (h : w1.heap[g]? = some (.cells #[x0, x1, x2] e fz)) (a b c : Value) :
    (((w1.setCell ⟨g, 0, none⟩ a).setCell ⟨g, 1, none⟩ b).setCell ⟨g, 2, none⟩ c).cell? ⟨g, 0, none⟩ = some a ∧
    (((w1.setCell ⟨g, 0, none⟩ a).setCell ⟨g, 1, none⟩ b).setCell ⟨g, 2, none⟩ c).cell? ⟨g, 1, none⟩ = some b ∧
    (((w1.setCell ⟨g, 0, none⟩ a).setCell ⟨g, 1, none⟩ b).setCell ⟨g, 2, none⟩ c).cell? ⟨g, 2, none⟩ = some c := by
  simp [World.setCell, World.cell?, Array.getElem?_modify, h]

theorem old_block {w w1 : World} {O : Obj} (hb : Below (w.alloc O).heap.size (w.alloc O) w1) : w1.heap[w.heap.size]? = some O := by
  rw [hb.block _ (by simp)]; exact heap_alloc_new w O

theorem box_below {w w1 : World} {O : Obj} (hb : Below (w.alloc O).heap.size (w.alloc O) w1) (a b c : Value) :
    Below w.heap.size w (((w1.setCell ⟨w.heap.size, 0, none⟩ a).setCell ⟨w.heap.size, 1, none⟩ b).setCell ⟨w.heap.size, 2, none⟩ c) := by
  have h1 : Below w.heap.size w w1 := ((Below.refl w.heap.size w).alloc (Nat.le_refl _) O).trans (hb.mono (by simp))
  exact ((h1.setCell (p := ⟨w.heap.size, 0, none⟩) (Nat.le_refl _) a).setCell (p := ⟨w.heap.size, 1, none⟩) (Nat.le_refl _) b).setCell (p := ⟨w.heap.size, 2, none⟩) (Nat.le_refl _) c

theorem setCell_block (w : World) (a : Addr) (u : Value) (k : Nat) (h : k ≠ a.block) : (w.setCell a u).heap[k]? = w.heap[k]? := Below.heap_setCell w a u k h

theorem box_other {w1 : World} {g k : Nat} (h : k ≠ g) (a b c : Value) :
    (((w1.setCell ⟨g, 0, none⟩ a).setCell ⟨g, 1, none⟩ b).setCell ⟨g, 2, none⟩ c).heap[k]? = w1.heap[k]? := by
  rw [setCell_block _ _ _ _ h, setCell_block _ _ _ _ h, setCell_block _ _ _ _ h]

theorem box_size (w1 : World) (g : Nat) (a b c : Value) :
    (((w1.setCell ⟨g, 0, none⟩ a).setCell ⟨g, 1, none⟩ b).setCell ⟨g, 2, none⟩ c).heap.size = w1.heap.size := by simp [World.setCell]

/-- An item of bytes alone, wherever. -/
theorem ow_bytes (w : World) (n lo hi : Nat) (b : ByteArray) (l : List UInt8) (h : b.data.toList = l) : Ow w (n + 1) lo hi (.agg #[.bool false, .string b, .slice none 0 0]) ⟨false, l, []⟩ :=
  ⟨.slice none 0 0, by rw [str_eq h], ownL_nil _ _ _ _ _⟩

/-- A list, once its items are owned. -/
theorem ow_list {w1 : World} {n lo hi : Nat} {sl : Value} {l : List Itm} (h : OwL w1 n lo hi sl l) : Ow w1 (n + 1) lo hi (.agg #[.bool true, .string ⟨#[]⟩, sl]) ⟨true, [], l⟩ := ⟨sl, rfl, h⟩

theorem ow_box {w1 : World} {g n hi : Nat} {v : Value} {t : Itm} (a b c : Value) (h : Ow w1 n (g + 1) hi v t) :
    Ow (((w1.setCell ⟨g, 0, none⟩ a).setCell ⟨g, 1, none⟩ b).setCell ⟨g, 2, none⟩ c) n (g + 1) hi v t :=
  own_frame n _ _ _ _ (fun k h1 _ => box_other (by omega) a b c) h

section
variable (f : Nat) (s : ByteArray) (w : World)

set_option maxHeartbeats 400000 in
theorem first_empty (hb : s.toList.isEmpty = true) :
    Calls Try.prog 67 #[.string s] w fun e w' => (∃ b r, e = .returned (.tuple #[.agg #[.bool b, .string ⟨#[]⟩, .slice none 0 0], .string r, .bool false])) ∧ Below w.heap.size w w' := by
  go_enter Try.func67, Try.ntmps67
  go_wp2_with fail
  exact bodyPost_ret (v := .tuple #[.agg #[.bool false, .string ⟨#[]⟩, .slice none 0 0], .string ⟨#[]⟩, .bool false]) (by simp [results, Try.results67, go_sem]) rfl ⟨⟨_, _, rfl⟩, (Below.refl _ _).alloc (Nat.le_refl _) _⟩

set_option maxHeartbeats 400000 in
theorem first_byte (h2 : s.size ≤ 1000000) (hb : s.toList.isEmpty = false) (h1 : 0 < s.size) (hlt : s[0].toNat < 128) :
    Calls Try.prog 67 #[.string s] w fun e w' => ∃ v, e = .returned (.tuple #[v, .string ⟨(s.data.toList.drop 1).toArray⟩, .bool true]) ∧ Ow w' (f + 1) w.heap.size w'.heap.size v ⟨false, s.data.toList.take 1, []⟩ ∧ Below w.heap.size w w' := by
  have hlt' : (s[0].toNat : Int) < 128 := by omega
  go_enter Try.func67, Try.ntmps67
  go_wp2_with fail
  go_region_with (go_at_call 90; refine (clone_any _ _ (by simp; omega)).mono ?_; rintro e w1 ⟨rfl, hbel⟩; obtain ⟨hc, hf⟩ := bcell hbel)
  all_goals go_wp2_with fail
  all_goals
    have hbel' := below_undrew hbel
    obtain ⟨c0, c1, c2⟩ := set3 (old_block hbel') (.bool false) (.string (s.extract 0 1)) (.slice none 0 0)
    exact bodyPost_ret (v := .tuple #[.agg #[.bool false, .string (s.extract 0 1), .slice none 0 0], .string (s.extract 1 s.size), .bool true]) (by simp [results, Try.results67, go_sem, Act.put, c0, c1, c2]) rfl ⟨_, ret3 rfl (str_eq (Lib.extract_to_end _ _)) rfl, ow_bytes _ _ _ _ _ _ (by rw [Lib.extract_data]; simp), box_below hbel' _ _ _⟩

set_option maxHeartbeats 400000 in
theorem first_bytes_no (h2 : s.size ≤ 1000000) (hb : s.toList.isEmpty = false) (h1 : 0 < s.size) (hge : 128 ≤ s[0].toNat) (hlt : s[0].toNat < 192) (hcut : Itm.cutP 128 s.data.toList = none) :
    Calls Try.prog 67 #[.string s] w fun e w' => (∃ b r, e = .returned (.tuple #[.agg #[.bool b, .string ⟨#[]⟩, .slice none 0 0], .string r, .bool false])) ∧ Below w.heap.size w w' := by
  have hc : ∀ w, Calls Try.prog 91 #[.string s, .int .u8 128] w fun e w' => e = .returned (.tuple #[.string ⟨#[]⟩, .string ⟨#[]⟩, .bool false]) ∧ ∃ nq, w' = w.drewN nq := fun w => cut_no s 128 w (by unfold maxLen; omega) h1 hge (by omega) hcut
  have HC := hid hc
  clear hc hcut
  have hge' : (128 : Int) ≤ (s[0].toNat : Int) := by omega
  have hlt' : (s[0].toNat : Int) < 192 := by omega
  go_enter Try.func67, Try.ntmps67
  go_wp2_with fail
  refine (HC.out _).mono ?_
  rintro e w1 ⟨rfl, nq, rfl⟩
  go_wp2_with fail
  exact bodyPost_ret (v := .tuple #[.agg #[.bool false, .string ⟨#[]⟩, .slice none 0 0], .string ⟨#[]⟩, .bool false]) (by simp [results, Try.results67, go_sem]) rfl ⟨⟨_, _, rfl⟩, box_below (drewN_below _ _) _ _ _⟩

set_option maxHeartbeats 400000 in
theorem first_bytes_stands (h2 : s.size ≤ 1000000) (hb : s.toList.isEmpty = false) (h1 : 0 < s.size) (hge : 128 ≤ s[0].toNat) (hlt : s[0].toNat < 192) (body rest : List UInt8) (hcut : Itm.cutP 128 s.data.toList = some (body, rest)) (hst : Itm.stands body = true) :
    Calls Try.prog 67 #[.string s] w fun e w' => (∃ b r, e = .returned (.tuple #[.agg #[.bool b, .string ⟨#[]⟩, .slice none 0 0], .string r, .bool false])) ∧ Below w.heap.size w w' := by
  have hc : ∀ w, Calls Try.prog 91 #[.string s, .int .u8 128] w fun e w' => e = .returned (.tuple #[.string ⟨body.toArray⟩, .string ⟨rest.toArray⟩, .bool true]) ∧ ∃ nq, w' = w.drewN nq := fun w => cut_yes s 128 w (by unfold maxLen; omega) h1 hge (by omega) body rest hcut
  have hs2 : ∀ w, Calls Try.prog 92 #[.string ⟨body.toArray⟩] w fun e w' => e = .returned (.bool true) ∧ w' = w := fun w => by
    have := stands_any ⟨body.toArray⟩ w
    rw [show Itm.stands ((⟨body.toArray⟩ : ByteArray).data.toList) = true from hst] at this
    exact this
  have HC := hid hc
  have HS := hid hs2
  clear hc hcut hs2 hst
  have hge' : (128 : Int) ≤ (s[0].toNat : Int) := by omega
  have hlt' : (s[0].toNat : Int) < 192 := by omega
  go_enter Try.func67, Try.ntmps67
  go_wp2_with fail
  refine (HC.out _).mono ?_
  rintro e w1 ⟨rfl, nq, rfl⟩
  go_wp2_with fail
  refine (HS.out _).mono ?_
  rintro e w1 ⟨rfl, rfl⟩
  go_wp2_with fail
  exact bodyPost_ret (v := .tuple #[.agg #[.bool false, .string ⟨#[]⟩, .slice none 0 0], .string ⟨#[]⟩, .bool false]) (by simp [results, Try.results67, go_sem]) rfl ⟨⟨_, _, rfl⟩, box_below (drewN_below _ _) _ _ _⟩

set_option maxHeartbeats 400000 in
theorem first_bytes_yes (h2 : s.size ≤ 1000000) (hb : s.toList.isEmpty = false) (h1 : 0 < s.size) (hge : 128 ≤ s[0].toNat) (hlt : s[0].toNat < 192) (body rest : List UInt8) (hcut : Itm.cutP 128 s.data.toList = some (body, rest)) (hst : Itm.stands body = false) :
    Calls Try.prog 67 #[.string s] w fun e w' => ∃ v, e = .returned (.tuple #[v, .string ⟨rest.toArray⟩, .bool true]) ∧ Ow w' (f + 1) w.heap.size w'.heap.size v ⟨false, body, []⟩ ∧ Below w.heap.size w w' := by
  have hlen : body.length ≤ 1000000 := by
    have := (Itm.cutP_sound (by intro h; rw [h] at hcut; simp [← ba_len, h] at h1) (by rw [ba_getD s h1]; exact hge) hcut).2.1
    rw [ba_len] at this
    omega
  have hc : ∀ w, Calls Try.prog 91 #[.string s, .int .u8 128] w fun e w' => e = .returned (.tuple #[.string ⟨body.toArray⟩, .string ⟨rest.toArray⟩, .bool true]) ∧ ∃ nq, w' = w.drewN nq := fun w => cut_yes s 128 w (by unfold maxLen; omega) h1 hge (by omega) body rest hcut
  have hs2 : ∀ w, Calls Try.prog 92 #[.string ⟨body.toArray⟩] w fun e w' => e = .returned (.bool false) ∧ w' = w := fun w => by
    have := stands_any ⟨body.toArray⟩ w
    rw [show Itm.stands ((⟨body.toArray⟩ : ByteArray).data.toList) = false from hst] at this
    exact this
  have hcl : ∀ w, Calls Try.prog 90 #[.string ⟨body.toArray⟩] w fun e w' => e = .returned (.string ⟨body.toArray⟩) ∧ Below w.heap.size w w' := fun w => clone_any ⟨body.toArray⟩ w (by show body.toArray.size ≤ _; simp; omega)
  have HC := hid hc
  have HS := hid hs2
  have HD := hid hcl
  clear hc hcut hs2 hst hcl
  have hge' : (128 : Int) ≤ (s[0].toNat : Int) := by omega
  have hlt' : (s[0].toNat : Int) < 192 := by omega
  go_enter Try.func67, Try.ntmps67
  go_wp2_with fail
  refine (HC.out _).mono ?_
  rintro e w1 ⟨rfl, nq, rfl⟩
  go_wp2_with fail
  refine (HS.out _).mono ?_
  rintro e w1 ⟨rfl, rfl⟩
  go_wp2_with fail
  refine (HD.out _).mono ?_
  rintro e w1 ⟨rfl, hbel⟩
  obtain ⟨hcc, hff⟩ := bcell hbel
  go_wp2_with fail
  have hbel' := below_undrewN _ hbel
  obtain ⟨c0, c1, c2⟩ := set3 (old_block hbel') (.bool false) (.string ⟨body.toArray⟩) (.slice none 0 0)
  exact bodyPost_ret (v := .tuple #[.agg #[.bool false, .string ⟨body.toArray⟩, .slice none 0 0], .string ⟨rest.toArray⟩, .bool true]) (by simp [results, Try.results67, go_sem, c0, c1, c2]) rfl ⟨_, rfl, ow_bytes _ _ _ _ _ _ (by simp), box_below hbel' _ _ _⟩

set_option maxHeartbeats 400000 in
theorem first_list_cut (h2 : s.size ≤ 1000000) (hb : s.toList.isEmpty = false) (h1 : 0 < s.size) (hge : 192 ≤ s[0].toNat) (hcut : Itm.cutP 192 s.data.toList = none) :
    Calls Try.prog 67 #[.string s] w fun e w' => (∃ b r, e = .returned (.tuple #[.agg #[.bool b, .string ⟨#[]⟩, .slice none 0 0], .string r, .bool false])) ∧ Below w.heap.size w w' := by
  have h8 := s[0].toNat_lt
  have hc : ∀ w, Calls Try.prog 91 #[.string s, .int .u8 192] w fun e w' => e = .returned (.tuple #[.string ⟨#[]⟩, .string ⟨#[]⟩, .bool false]) ∧ ∃ nq, w' = w.drewN nq := fun w => cut_no s 192 w (by unfold maxLen; omega) h1 hge (by omega) hcut
  have HC := hid hc
  clear hc hcut
  have hge' : (192 : Int) ≤ (s[0].toNat : Int) := by omega
  go_enter Try.func67, Try.ntmps67
  go_wp2_with fail
  refine (HC.out _).mono ?_
  rintro e w1 ⟨rfl, nq, rfl⟩
  go_wp2_with fail
  exact bodyPost_ret (v := .tuple #[.agg #[.bool false, .string ⟨#[]⟩, .slice none 0 0], .string ⟨#[]⟩, .bool false]) (by simp [results, Try.results67, go_sem]) rfl ⟨⟨_, _, rfl⟩, box_below (drewN_below _ _) _ _ _⟩

set_option maxHeartbeats 400000 in
theorem first_list (hF : FirstOk f) (hf : s.size ≤ f + 1) (h2 : s.size ≤ 1000000) (hb : s.toList.isEmpty = false) (h1 : 0 < s.size) (hge : 192 ≤ s[0].toNat) (body rest : List UInt8) (hcut : Itm.cutP 192 s.data.toList = some (body, rest)) :
    (∀ l, Itm.loopP (Itm.parse f) body.length body = some l → Calls Try.prog 67 #[.string s] w fun e w' => ∃ v, e = .returned (.tuple #[v, .string ⟨rest.toArray⟩, .bool true]) ∧ Ow w' (f + 1) w.heap.size w'.heap.size v ⟨true, [], l⟩ ∧ Below w.heap.size w w') ∧
    (Itm.loopP (Itm.parse f) body.length body = none → Calls Try.prog 67 #[.string s] w fun e w' => (∃ b r, e = .returned (.tuple #[.agg #[.bool b, .string ⟨#[]⟩, .slice none 0 0], .string r, .bool false])) ∧ Below w.heap.size w w') := by
  have h8 := s[0].toNat_lt
  have hlen : body.length < s.size := by
    have := (Itm.cutP_sound (by intro h; rw [h] at hcut; simp [← ba_len, h] at h1) (by rw [ba_getD s h1]; exact hge) hcut).2.1
    rw [ba_len] at this
    omega
  have hc : ∀ w, Calls Try.prog 91 #[.string s, .int .u8 192] w fun e w' => e = .returned (.tuple #[.string ⟨body.toArray⟩, .string ⟨rest.toArray⟩, .bool true]) ∧ ∃ nq, w' = w.drewN nq := fun w => cut_yes s 192 w (by unfold maxLen; omega) h1 hge (by omega) body rest hcut
  have ha := fun w o => all_any f hF ⟨body.toArray⟩ w o (by show body.toArray.size ≤ _; simp; omega) (by show body.toArray.size ≤ _; simp; omega)
  have hbs : (⟨body.toArray⟩ : ByteArray).size = body.length := by show body.toArray.size = _; simp
  rw [hbs] at ha
  have HC := hid hc
  have HA := hid ha
  have hge' : (192 : Int) ≤ (s[0].toNat : Int) := by omega
  clear hc hcut ha hbs
  constructor
  · intro l hl
    have HL := hid hl
    clear hl
    go_enter Try.func67, Try.ntmps67
    go_wp2_with fail
    refine (HC.out _).mono ?_
    rintro e w1 ⟨rfl, nq, rfl⟩
    go_wp2_with fail
    refine (HA.out _ (some l) HL.out.symm).mono ?_
    rintro e w1 ⟨hyes, _, hbel⟩
    obtain ⟨sl, rfl, hown⟩ := hyes l rfl
    obtain ⟨a2, cap2, rfl⟩ := ownL_len hown
    have HO := hid hown
    clear hyes hown
    obtain ⟨hcc, hff⟩ := bcell hbel
    go_wp2_with fail
    have hbel' := below_undrewN _ hbel
    obtain ⟨c0, c1, c2⟩ := set3 (old_block hbel') (.bool true) (.string ⟨#[]⟩) (.slice a2 l.length cap2)
    refine bodyPost_ret (v := .tuple #[.agg #[.bool true, .string ⟨#[]⟩, .slice a2 l.length cap2], .string ⟨rest.toArray⟩, .bool true]) (by simp [results, Try.results67, go_sem, c0, c1, c2]) rfl ⟨_, rfl, ?_, box_below hbel' _ _ _⟩
    rw [box_size]
    refine own_widen (ow_box _ _ _ (ow_list (lo := w.heap.size + 1) ?_)) (Nat.le_succ _) (Nat.le_refl _)
    have := HO.out
    simpa using this
  · intro hn
    have HL := hid hn
    clear hn
    go_enter Try.func67, Try.ntmps67
    go_wp2_with fail
    refine (HC.out _).mono ?_
    rintro e w1 ⟨rfl, nq, rfl⟩
    go_wp2_with fail
    refine (HA.out _ none HL.out.symm).mono ?_
    rintro e w1 ⟨_, hno, hbel⟩
    obtain rfl := hno rfl
    obtain ⟨hcc, hff⟩ := bcell hbel
    go_wp2_with fail
    have hbel' := below_undrewN _ hbel
    obtain ⟨c0, c1, c2⟩ := set3 (old_block hbel') (.bool true) (.string ⟨#[]⟩) (.slice none 0 0)
    exact bodyPost_ret (v := .tuple #[.agg #[.bool true, .string ⟨#[]⟩, .slice none 0 0], .string ⟨rest.toArray⟩, .bool false]) (by simp [results, Try.results67, go_sem, c0, c1, c2]) rfl ⟨⟨_, _, rfl⟩, box_below hbel' _ _ _⟩
end

theorem ba_empty (s : ByteArray) (h : s.size = 0) : s.data.toList = [] := List.eq_nil_of_length_eq_zero (by rw [ba_len]; exact h)

/-- 'first' does what 'parse' says, of however many bytes. -/
theorem first_ok : ∀ f, FirstOk f := by
  intro f
  induction f with
  | zero =>
    refine ⟨?_, ?_⟩
    · intro s w h0 _ _
      exact first_empty s w (by rw [toList_isEmpty, ba_empty s (by omega)]; rfl)
    · intro s w t rest _ _ hp
      rw [Itm.parse_zero] at hp; cases hp
  | succ f ih =>
    have key : ∀ (s : ByteArray) (w : World), s.size ≤ f + 1 → s.size ≤ 1000000 →
        (Itm.parse (f + 1) s.data.toList = none → Calls Try.prog 67 #[.string s] w fun e w' => (∃ b r, e = .returned (.tuple #[.agg #[.bool b, .string ⟨#[]⟩, .slice none 0 0], .string r, .bool false])) ∧ Below w.heap.size w w') ∧
        (∀ t rest, Itm.parse (f + 1) s.data.toList = some (t, rest) → Calls Try.prog 67 #[.string s] w fun e w' => ∃ v, e = .returned (.tuple #[v, .string ⟨rest.toArray⟩, .bool true]) ∧ Ow w' (f + 1) w.heap.size w'.heap.size v t ∧ Below w.heap.size w w') := by
      intro s w hf h2
      rw [Itm.parse_succ]
      unfold Itm.stepP
      by_cases h0 : s.data.toList.isEmpty
      · rw [if_pos h0]
        refine ⟨fun _ => first_empty s w (by rw [toList_isEmpty]; exact h0), ?_⟩
        intro t rest hp; cases hp
      · rw [if_neg h0]
        have hb : s.toList.isEmpty = false := by rw [toList_isEmpty]; simpa using h0
        have h1 : 0 < s.size := by
          rcases Nat.eq_zero_or_pos s.size with hz | hz
          · rw [ba_empty s hz] at h0; simp at h0
          · exact hz
        rw [ba_getD s h1]
        by_cases h3 : s[0].toNat < 128
        · rw [if_pos h3]
          refine ⟨fun hp => by (cases hp), ?_⟩
          intro t rest hp
          simp only [Option.some.injEq, Prod.mk.injEq] at hp
          obtain ⟨rfl, rfl⟩ := hp
          exact first_byte f s w h2 hb h1 h3
        · rw [if_neg h3]
          by_cases h4 : s[0].toNat < 192
          · rw [if_pos h4]
            cases hcut : Itm.cutP 128 s.data.toList with
            | none =>
              refine ⟨fun _ => first_bytes_no s w h2 hb h1 (by omega) h4 hcut, ?_⟩
              intro t rest hp; cases hp
            | some br =>
              obtain ⟨body, rest'⟩ := br
              simp only
              by_cases h5 : Itm.stands body
              · rw [if_pos h5]
                refine ⟨fun _ => first_bytes_stands s w h2 hb h1 (by omega) h4 body rest' hcut h5, ?_⟩
                intro t rest hp; cases hp
              · rw [if_neg h5]
                refine ⟨fun hp => by (cases hp), ?_⟩
                intro t rest hp
                simp only [Option.some.injEq, Prod.mk.injEq] at hp
                obtain ⟨rfl, rfl⟩ := hp
                exact first_bytes_yes f s w h2 hb h1 (by omega) h4 body rest' hcut (by simpa using h5)
          · rw [if_neg h4]
            cases hcut : Itm.cutP 192 s.data.toList with
            | none =>
              refine ⟨fun _ => first_list_cut s w h2 hb h1 (by omega) hcut, ?_⟩
              intro t rest hp; cases hp
            | some br =>
              obtain ⟨body, rest'⟩ := br
              simp only
              obtain ⟨k1, k2⟩ := first_list f s w ih hf h2 hb h1 (by omega) body rest' hcut
              cases hl : Itm.loopP (Itm.parse f) body.length body with
              | none =>
                refine ⟨fun _ => k2 hl, ?_⟩
                intro t rest hp; cases hp
              | some l =>
                refine ⟨fun hp => by (cases hp), ?_⟩
                intro t rest hp
                simp only [Option.some.injEq, Prod.mk.injEq] at hp
                obtain ⟨rfl, rfl⟩ := hp
                exact k1 l hl
    exact ⟨fun s w h1 h2 hp => (key s w h1 h2).1 hp, fun s w t rest h1 h2 hp => (key s w h1 h2).2 t rest hp⟩
end Go.Proofs.Ytbmohenjphmlgaa
