/- Memory that a call has made: a row that grows by append; items in lists of their own. -/
import Derived.Test.YtbmohenjphmlgaaParse
import Derived.WalkKit
namespace Go.Proofs.Ytbmohenjphmlgaa
open Go.RowKit
set_option maxRecDepth 100000

theorem alloc_size (w : World) (o : Obj) : (w.alloc o).heap.size = w.heap.size + 1 := Array.size_push _

/-- A block of a grown row is the old one, or new. -/
def Newer (w : World) (v v' : Value) : Prop := v'.ownBlock = v.ownBlock ∨ ∃ g, v'.ownBlock = some g ∧ w.heap.size ≤ g

theorem owns_base {w : World} {b b' : Nat} {e : TypeId} {size : Nat} {v : Value} {n : Nat} {xs : List Value} (h : w.ownsRow b e size v n xs) (hb : b' ≤ b) : w.ownsRow b' e size v n xs := by
  refine ⟨h.1, ?_⟩
  rcases h.2 with h2 | ⟨g, cap, cur, hv, hg, r⟩
  · exact .inl h2
  · exact .inr ⟨g, cap, cur, hv, Nat.le_trans hb hg, r⟩

theorem owns_newer {w w' : World} {e : TypeId} {size : Nat} {v v' : Value} {n : Nat} {xs : List Value} (h : w'.ownsRow w.heap.size e size v' n xs) (hn : v'.ownBlock = none → v.ownBlock = none) : Newer w v v' := by
  cases hb : v'.ownBlock with
  | none => exact .inl (by rw [hn hb]; exact hb)
  | some g => exact .inr ⟨g, hb, (h.lt g hb).1⟩

section
variable {P : Program} (w : World)

/-- append onto a row of the call's own: the law of the library, and which block it lies in then. -/
theorem run_append_mine (base : Nat) (t ty e : TypeId) (i : TypeInfo) (z : Value) (size bytes : Nat) (ht : P.underlying t = some (.slice e)) (hi : P.info? e = some i) (hz : i.zero = some z)
    (hsize : i.size = size) (hby : i.bytes = bytes) (hzs : z.cells.size = size) (hsz : 0 < size)
    (v : Value) (n : Nat) (xs : List Value) (hown : w.ownsRow base e size v n xs)
    (a : Addr) (m c : Nat) (news : List Value) (hl : news.length = m * size) (hnews : ∀ j u, news[j]? = some u → w.cell? (a.add j) = some u) (h1 : ∀ u ∈ news, u.oneCell' = true)
    (h63 : n + m ≤ maxLen) (hbytes : (n + m) * bytes ≤ 140737488355328) (hbase : base ≤ w.heap.size) :
    ∃ v' w', (Builtin.append_ #[t, t] ty #[v, .slice (some a) m c]).run P w = .ok v' w' ∧ w'.ownsRow base e size v' (n + m) (xs ++ news) ∧ w.grownBy w' v.ownBlock ∧ Newer w v v' := by
  rcases hown.2 with ⟨rfl, rfl⟩ | ⟨g, cap, cur, rfl, hbg, hg, hnc, hcm, hcs, htake⟩
  · have hx : xs = [] := List.eq_nil_of_length_eq_zero (by simpa using hown.1)
    subst hx
    obtain ⟨v', w', hr, ho, hgr, _⟩ := run_append_own (P := P) w w.heap.size t ty e i z size bytes ht hi hz hsize hby hzs hsz (.slice none 0 0) 0 [] (World.ownsRow_nil w _ e size) a m c news hl hnews h1 h63 hbytes (Nat.le_refl _)
    exact ⟨v', w', hr, owns_base ho hbase, hgr, owns_newer ho (fun _ => rfl)⟩
  · by_cases hroom : n + m ≤ cap
    · have hlen : (xs ++ news).length = (n + m) * size := by rw [List.length_append, hown.1, hl, Nat.add_mul]
      subst hsize
      have hfit : n * i.size + news.length ≤ cur.size := by rw [hl, hcs, ← Nat.add_mul]; exact Nat.mul_le_mul_right _ hroom
      have hr := run_append_room (P := P) w t ty e i ht hi g n cap cur hg a m c news hl hnews h1 hroom hfit
      refine ⟨_, _, hr, ⟨hlen, .inr ⟨g, cap, _, rfl, hbg, setRow_heap w g cur _ e _ hg, hroom, hcm, ?_, ?_⟩⟩, ⟨rfl, rfl, rfl, by simp, fun k _ hk => setRow_other w g k _ (fun e => hk (by simp [Value.ownBlock, e]))⟩, .inl rfl⟩
      · simp only [List.size_toArray, List.length_append, List.length_take, List.length_drop, Array.length_toList]
        omega
      · rw [htake, ← hlen]
        exact List.take_left
    · have holds : ∀ j u, xs[j]? = some u → w.cell? ((⟨g, 0, none⟩ : Addr).add j) = some u := hown.cells (g := g) rfl
      obtain ⟨v', w', hr, ho, hgr⟩ := run_append_arg_grows (P := P) w t ty e i z size bytes ht hi hz hsize hby hzs hsz ⟨g, 0, none⟩ n cap xs hown.1 holds a m c news hl hnews (by omega) h63 hbytes
      refine ⟨v', w', hr, owns_base ho hbase, ⟨hgr.os, hgr.tape, hgr.output, hgr.size, fun k hk _ => hgr.block k hk (by simp)⟩, owns_newer ho ?_⟩
      intro hno
      rcases ho.2 with ⟨rfl, h0⟩ | ⟨g', cap', cur', rfl, _⟩
      · omega
      · simp [Value.ownBlock] at hno

theorem wpList_append_mine {ops : Array Oper} {rest : List Oper} {o : Oper} {a : Act} {Q : Exit → Act → World → Prop} (hgd : o.guard = none) (s x : Operand) (t : TypeId)
    (ho : o.op = .call { callee := .builtin .append, args := #[s, x], argTypes := #[t, t] })
    (base : Nat) (e : TypeId) (i : TypeInfo) (z : Value) (size bytes : Nat) (ht : P.underlying t = some (.slice e)) (hi : P.info? e = some i) (hz : i.zero = some z)
    (hsize : i.size = size) (hby : i.bytes = bytes) (hzs : z.cells.size = size) (hsz : 0 < size)
    (v : Value) (n : Nat) (xs : List Value) (hs : a.eval s = v) (hown : w.ownsRow base e size v n xs)
    (ad : Addr) (m c : Nat) (news : List Value) (hx : a.eval x = .slice (some ad) m c) (hl : news.length = m * size) (hnews : ∀ j u, news[j]? = some u → w.cell? (ad.add j) = some u) (h1 : ∀ u ∈ news, u.oneCell' = true)
    (h63 : n + m ≤ maxLen) (hbytes : (n + m) * bytes ≤ 140737488355328) (hbase : base ≤ w.heap.size)
    (h : ∀ v' w', w'.ownsRow base e size v' (n + m) (xs ++ news) → w.grownBy w' v.ownBlock → Newer w v v' → wpList P ops Q rest (a.put o.dst v') w') : wpList P ops Q (o :: rest) a w := by
  refine wpList_plain hgd fun K hK => ?_
  obtain ⟨v', w', hr, h2, h3, h4⟩ := run_append_mine (P := P) w base t o.type e i z size bytes ht hi hz hsize hby hzs hsz v n xs hown ad m c news hl hnews h1 h63 hbytes hbase
  unfold Oper.wp execOp
  simp only [ho, resolve, invoke, builtin, Sem.run_bind, Sem.run_pure, Result.andThen_ok, List.map_toArray, List.map_cons, List.map_nil, hs, hx, hr]
  exact hK _ _ (h v' w' h2 h3 h4)
end

/-- The i-th three cells of a row. -/
def tri (xs : List Value) (i : Nat) : Value := .agg #[xs.getD (3 * i) default, xs.getD (3 * i + 1) default, xs.getD (3 * i + 2) default]

theorem tri_left (xs ys : List Value) (i n : Nat) (h : xs.length = n * 3) (hi : i < n) : tri (xs ++ ys) i = tri xs i := by
  unfold tri
  simp only [List.getD_eq_getElem?_getD]
  rw [List.getElem?_append_left (by omega), List.getElem?_append_left (by omega), List.getElem?_append_left (by omega)]

theorem tri_new (xs : List Value) (a b c : Value) (n : Nat) (h : xs.length = n * 3) : tri (xs ++ [a, b, c]) n = .agg #[a, b, c] := by
  unfold tri
  simp only [List.getD_eq_getElem?_getD]
  rw [List.getElem?_append_right (by omega), List.getElem?_append_right (by omega), List.getElem?_append_right (by omega)]
  have e0 : 3 * n - xs.length = 0 := by omega
  have e1 : 3 * n + 1 - xs.length = 1 := by omega
  have e2 : 3 * n + 2 - xs.length = 2 := by omega
  rw [e0, e1, e2]
  simp

/-- A list of items in a row of its own, among the blocks from lo on and below hi; what is within each of them lies in blocks of its own. E: the items' type. -/
def OwnL (E : TypeId) (w : World) (p : Nat → Nat → Value → Itm → Prop) (lo hi : Nat) (sl : Value) (l : List Itm) : Prop :=
  ∃ xs : List Value, w.ownsRow lo E 3 sl l.length xs ∧ (∀ g, sl.ownBlock = some g → g < hi) ∧ ∃ L H : Nat → Nat,
    (∀ i (h : i < l.length), lo ≤ L i ∧ H i ≤ hi ∧ (∀ g, sl.ownBlock = some g → g < L i ∨ H i ≤ g) ∧ p (L i) (H i) (tri xs i) l[i]) ∧
    (∀ i j, i < j → j < l.length → H i ≤ L j)

def Own (E : TypeId) (w : World) : Nat → Nat → Nat → Value → Itm → Prop
  | 0 => fun _ _ _ _ => False
  | n + 1 => fun lo hi v t => ∃ sl, v = .agg #[.bool t.list, .string ⟨t.bytes.toArray⟩, sl] ∧ OwnL E w (Own E w n) lo hi sl t.items

theorem own_zero (E : TypeId) (w : World) (lo hi : Nat) (v : Value) (t : Itm) : ¬ Own E w 0 lo hi v t := fun h => h

theorem own_succ (E : TypeId) (w : World) (n lo hi : Nat) (v : Value) (t : Itm) :
    Own E w (n + 1) lo hi v t ↔ ∃ sl, v = .agg #[.bool t.list, .string ⟨t.bytes.toArray⟩, sl] ∧ OwnL E w (Own E w n) lo hi sl t.items := Iff.rfl

theorem ownL_nil (E : TypeId) (w : World) (p : Nat → Nat → Value → Itm → Prop) (lo hi : Nat) : OwnL E w p lo hi (.slice none 0 0) [] :=
  ⟨[], World.ownsRow_nil _ _ _ _, by simp [Value.ownBlock], fun _ => 0, fun _ => 0, by simp, by simp⟩

theorem owns_frame {w w' : World} {b : Nat} {e : TypeId} {size : Nat} {v : Value} {n : Nat} {xs : List Value} (h : w.ownsRow b e size v n xs)
    (hg : ∀ g, v.ownBlock = some g → w'.heap[g]? = w.heap[g]?) : w'.ownsRow b e size v n xs := by
  refine ⟨h.1, ?_⟩
  rcases h.2 with h2 | ⟨g, cap, cur, hv, hb, hh, r⟩
  · exact .inl h2
  · refine .inr ⟨g, cap, cur, hv, hb, ?_, r⟩
    rw [hg g (by rw [hv]; rfl)]; exact hh

theorem ownL_mono {E : TypeId} {w w' : World} {p p' : Nat → Nat → Value → Itm → Prop} {lo hi : Nat} {sl : Value} {l : List Itm} (h : OwnL E w p lo hi sl l)
    (hw : ∀ g, sl.ownBlock = some g → w'.heap[g]? = w.heap[g]?) (hp : ∀ a b v t, lo ≤ a → b ≤ hi → (∀ g, sl.ownBlock = some g → g < a ∨ b ≤ g) → p a b v t → p' a b v t) : OwnL E w' p' lo hi sl l := by
  obtain ⟨xs, ho, hg, L, H, h1, h2⟩ := h
  exact ⟨xs, owns_frame ho hw, hg, L, H, fun i hi => ⟨(h1 i hi).1, (h1 i hi).2.1, (h1 i hi).2.2.1, hp _ _ _ _ (h1 i hi).1 (h1 i hi).2.1 (h1 i hi).2.2.1 (h1 i hi).2.2.2⟩, h2⟩

/-- What is owned stays, where its blocks stay. -/
theorem own_frame {E : TypeId} {w w' : World} : ∀ (n lo hi : Nat) (v : Value) (t : Itm), (∀ k, lo ≤ k → k < hi → w'.heap[k]? = w.heap[k]?) → Own E w n lo hi v t → Own E w' n lo hi v t := by
  intro n
  induction n with
  | zero => intro lo hi v t _ h; exact h
  | succ n ih =>
    intro lo hi v t hk h
    obtain ⟨sl, hv, hl⟩ := h
    refine ⟨sl, hv, ownL_mono hl ?_ ?_⟩
    · intro g hg
      obtain ⟨xs, ho, hg2, _⟩ := hl
      exact hk g (ho.lt g hg).1 (hg2 g hg)
    · intro a b v' t' ha hb _ h'
      exact ih a b v' t' (fun k h1 h2 => hk k (by omega) (by omega)) h'

theorem ownL_widen {E : TypeId} {w : World} {p : Nat → Nat → Value → Itm → Prop} {lo hi lo' hi' : Nat} {sl : Value} {l : List Itm} (h : OwnL E w p lo hi sl l) (h1 : lo' ≤ lo) (h2 : hi ≤ hi') : OwnL E w p lo' hi' sl l := by
  obtain ⟨xs, ho, hg, L, H, h3, h4⟩ := h
  exact ⟨xs, owns_base ho h1, fun g hgg => Nat.lt_of_lt_of_le (hg g hgg) h2, L, H, fun i hi => ⟨by have := (h3 i hi).1; omega, by have := (h3 i hi).2.1; omega, (h3 i hi).2.2⟩, h4⟩

theorem own_widen {E : TypeId} {w : World} {n lo hi lo' hi' : Nat} {v : Value} {t : Itm} (h : Own E w n lo hi v t) (h1 : lo' ≤ lo) (h2 : hi ≤ hi') : Own E w n lo' hi' v t := by
  cases n with
  | zero => exact h
  | succ n =>
    obtain ⟨sl, hv, hl⟩ := h
    exact ⟨sl, hv, ownL_widen hl h1 h2⟩

theorem own_more {E : TypeId} {w : World} : ∀ (n lo hi : Nat) (v : Value) (t : Itm), Own E w n lo hi v t → Own E w (n + 1) lo hi v t := by
  intro n
  induction n with
  | zero => intro lo hi v t h; exact h.elim
  | succ n ih =>
    intro lo hi v t h
    obtain ⟨sl, hv, hl⟩ := h
    exact ⟨sl, hv, ownL_mono hl (fun _ _ => rfl) (fun a b v' t' _ _ _ h' => ih a b v' t' h')⟩

theorem ownL_len {E : TypeId} {w : World} {p : Nat → Nat → Value → Itm → Prop} {lo hi : Nat} {sl : Value} {l : List Itm} (h : OwnL E w p lo hi sl l) : ∃ a cap, sl = .slice a l.length cap := by
  obtain ⟨xs, ho, _⟩ := h
  rcases ho.2 with ⟨rfl, h0⟩ | ⟨g, cap, cur, hv, _⟩
  · exact ⟨none, 0, by rw [h0]⟩
  · exact ⟨_, _, hv⟩

/-- One item more, behind an append: w1: as the item has been made; w2: as it has been appended. -/
theorem ownL_push {E : TypeId} {w w1 w2 : World} {n lo hi lo1 hi1 : Nat} {sl sl' : Value} {l : List Itm} {t : Itm} {xs : List Value} {a b c : Value}
    (ho : w.ownsRow lo E 3 sl l.length xs) (hg : ∀ g, sl.ownBlock = some g → g < hi) (L H : Nat → Nat)
    (hL : ∀ i (h : i < l.length), lo ≤ L i ∧ H i ≤ hi ∧ (∀ g, sl.ownBlock = some g → g < L i ∨ H i ≤ g) ∧ Own E w n (L i) (H i) (tri xs i) l[i])
    (hLH : ∀ i j, i < j → j < l.length → H i ≤ L j)
    (hb : Below hi w w1) (ht : Own E w1 n lo1 hi1 (.agg #[a, b, c]) t) (h1 : hi ≤ lo1) (h2 : lo ≤ lo1) (h3 : hi1 ≤ w1.heap.size)
    (ho' : w2.ownsRow lo E 3 sl' (l.length + 1) (xs ++ [a, b, c])) (hgr : w1.grownBy w2 sl.ownBlock) (hnew : Newer w1 sl sl') (hhi : hi ≤ w1.heap.size) :
    OwnL E w2 (Own E w2 n) lo w2.heap.size sl' (l ++ [t]) := by
  have hx := ho.1
  refine ⟨xs ++ [a, b, c], by simpa using ho', ?_, fun i => if i = l.length then lo1 else L i, fun i => if i = l.length then hi1 else H i, ?_, ?_⟩
  · intro g hgg; exact (ho'.lt g hgg).2
  · intro i hi'
    by_cases he : i = l.length
    · subst he
      simp only [if_pos]
      refine ⟨h2, Nat.le_trans h3 hgr.size, ?_, ?_⟩
      · intro g hgg
        rcases hnew with hn | ⟨g', hn, hlt⟩
        · rw [hn] at hgg
          have := hg g hgg
          omega
        · rw [hn] at hgg
          simp at hgg; omega
      · rw [tri_new xs a b c l.length hx]
        simp only [List.getElem_append_right (Nat.le_refl _), Nat.sub_self, List.getElem_cons_zero]
        refine own_frame n lo1 hi1 _ t ?_ ht
        intro k hk1 hk2
        refine hgr.block k (by omega) ?_
        intro e
        have := hg k e.symm
        omega
    · have hlt : i < l.length := by simp at hi'; omega
      obtain ⟨q1, q2, q3, q4⟩ := hL i hlt
      simp only [if_neg he]
      refine ⟨q1, Nat.le_trans (Nat.le_trans q2 hhi) hgr.size, ?_, ?_⟩
      · intro g hgg
        rcases hnew with hn | ⟨g', hn, hlt'⟩
        · rw [hn] at hgg
          exact q3 g hgg
        · rw [hn] at hgg
          simp at hgg
          omega
      · rw [tri_left xs _ i l.length hx hlt, List.getElem_append_left hlt]
        refine own_frame n (L i) (H i) _ _ ?_ q4
        intro k hk1 hk2
        rw [hgr.block k (by omega) ?_, hb.block k (by omega)]
        intro e
        have := q3 k e.symm
        omega
  · intro i j hij hj
    simp only [List.length_append, List.length_singleton] at hj
    by_cases he : j = l.length
    · subst he
      have hlt : i ≠ l.length := by omega
      simp only [if_neg hlt, if_pos]
      have := (hL i (by omega)).2.1
      omega
    · simp only [if_neg he, if_neg (show i ≠ l.length by omega)]
      exact hLH i j hij (by omega)

end Go.Proofs.Ytbmohenjphmlgaa
