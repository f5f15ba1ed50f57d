/- Part 10 of a proof: what the last text needs. -/
import Derived.Test.YtbmohenjphmlgaaPart9
/- Lists that their owner has marked: a slice of marks, marks appended to it. -/
namespace Go.Proofs.Ytbmohenjphmlgaa
open Go.RowKit
set_option maxRecDepth 100000

/-- The item that an owner marks a list with. -/
def markV (q : Nat) : Value := .agg #[.bool false, .string ⟨(markText q).toArray⟩, .slice none 0 0]

/-- The first n items of block g are marks. -/
def Marks (w : World) (q g n : Nat) : Prop := ∀ j, j < n →
  w.cell? ⟨g, j * 3, none⟩ = some (.bool false) ∧ w.cell? ⟨g, j * 3 + 1, none⟩ = some (.string ⟨(markText q).toArray⟩) ∧ w.cell? ⟨g, j * 3 + 2, none⟩ = some (.slice none 0 0)

/-- A slice all of whose items are marks. -/
def Mk (w : World) (q : Nat) (v : Value) : Prop := v = .slice none 0 0 ∨ ∃ g n cap, v = .slice (some ⟨g, 0, none⟩) n cap ∧ n ≤ maxLen ∧ g < w.heap.size ∧ Marks w q g n

theorem marks_frame {w w' : World} {q g n : Nat} (h : Marks w q g n) (hg : w'.heap[g]? = w.heap[g]?) : Marks w' q g n := by
  intro j hj
  obtain ⟨h0, h1, h2⟩ := h j hj
  exact ⟨by rw [World.cell?_of_block (a := ⟨g, _, none⟩) hg]; exact h0, by rw [World.cell?_of_block (a := ⟨g, _, none⟩) hg]; exact h1, by rw [World.cell?_of_block (a := ⟨g, _, none⟩) hg]; exact h2⟩

theorem mk_frame {w w' : World} {q : Nat} {v : Value} (h : Mk w q v) (hs : w.heap.size ≤ w'.heap.size) (hg : ∀ g, v.ownBlock = some g → w'.heap[g]? = w.heap[g]?) : Mk w' q v := by
  rcases h with h | ⟨g, n, cap, rfl, hn, hlt, hm⟩
  · exact .inl h
  · exact .inr ⟨g, n, cap, rfl, hn, by omega, marks_frame hm (hg g rfl)⟩

theorem tri_mark {xs : List Value} {j q : Nat} (h : tri xs j = markV q) : xs.getD (j * 3) default = .bool false ∧ xs.getD (j * 3 + 1) default = .string ⟨(markText q).toArray⟩ ∧ xs.getD (j * 3 + 2) default = .slice none 0 0 := by
  unfold tri markV at h
  simp only [Value.agg.injEq] at h
  have e : 3 * j = j * 3 := Nat.mul_comm _ _
  rw [e] at h
  have h0 := congrArg (·[0]?) h
  have h1 := congrArg (·[1]?) h
  have h2 := congrArg (·[2]?) h
  exact ⟨by simpa using h0, by simpa using h1, by simpa using h2⟩

theorem mk_of_owns {w : World} {base q n : Nat} {v : Value} {xs : List Value} (h : w.ownsRow base 24 3 v n xs) (hm : ∀ j, j < n → tri xs j = markV q) : Mk w q v := by
  have hx := h.1
  rcases id h.2 with ⟨hv, _⟩ | ⟨g, cap, cur, hv, hb, hg, hnc, hcm, hcs, ht⟩
  · exact .inl hv
  · subst hv
    have hlt := (h.lt g rfl).2
    refine .inr ⟨g, n, cap, rfl, by omega, hlt, fun j hj => ?_⟩
    obtain ⟨h0, h1, h2⟩ := tri_mark (hm j hj)
    have key : ∀ p, p < n * 3 → w.cell? ⟨g, p, none⟩ = some (xs.getD p default) := by
      intro p hp
      rw [h.cellAt p hp, List.getD_eq_getElem?_getD, List.getElem?_eq_getElem (by omega)]; rfl
    exact ⟨by rw [key _ (by omega), h0], by rw [key _ (by omega), h1], by rw [key _ (by omega), h2]⟩

/-- Marks appended to a slice of marks that has its own row: the slice stays, what was marked stays marked, the new slice is marked. -/
theorem run_append_marks (w : World) (base q : Nat) (v : Value) (n : Nat) (xs : List Value) (ty : TypeId) (hown : w.ownsRow base 24 3 v n xs) (hm : ∀ j, j < n → tri xs j = markV q)
    (a : Addr) (m c : Nat) (news : List Value) (hl : news.length = m * 3) (hnews : ∀ j u, news[j]? = some u → w.cell? (a.add j) = some u) (h1 : ∀ u ∈ news, u.oneCell' = true) (hq : ∀ j, j < m → tri news j = markV q)
    (h63 : n + m ≤ 1000000000) :
    ∃ v' w', (Builtin.append_ #[22, 22] ty #[v, .slice (some a) m c]).run Try.prog w = .ok v' w' ∧ w'.ownsRow base 24 3 v n xs ∧ Mk w' q v' ∧ (∀ u, Mk w q u → Mk w' q u) ∧ w.grownBy w' v.ownBlock ∧ Newer w v v' := by
  obtain ⟨i0, hi, hz0, hz1, hz2⟩ := info_parts infoItem
  have h63' : n + m ≤ maxLen := by unfold maxLen; omega
  have hby : (n + m) * 48 ≤ 140737488355328 := by omega
  have hall : ∀ j, j < n + m → tri (xs ++ news) j = markV q := by
    intro j hj
    by_cases hjn : j < n
    · rw [tri_left xs news j n hown.1 hjn]; exact hm j hjn
    · have h := hq (j - n) (by omega)
      have e : tri (xs ++ news) j = tri news (j - n) := by
        unfold tri
        have hx := hown.1
        simp only [List.getD_eq_getElem?_getD]
        rw [List.getElem?_append_right (by omega), List.getElem?_append_right (by omega), List.getElem?_append_right (by omega)]
        have e0 : 3 * j - xs.length = 3 * (j - n) := by omega
        have e1 : 3 * j + 1 - xs.length = 3 * (j - n) + 1 := by omega
        have e2 : 3 * j + 2 - xs.length = 3 * (j - n) + 2 := by omega
        rw [e0, e1, e2]
      rw [e]; exact h
  rcases hown.2 with ⟨rfl, rfl⟩ | ⟨g, cap, cur, rfl, hbg, hg, hnc, hcm, hcs, htake⟩
  · have hx : xs = [] := List.eq_nil_of_length_eq_zero (by simpa using hown.1)
    subst hx
    obtain ⟨v', w', hr, ho, hgr, _⟩ := run_append_own (P := Try.prog) w w.heap.size 22 ty 24 i0 _ 3 48 Try.underlying22 hi hz0 hz1 hz2 rfl (by decide) (.slice none 0 0) 0 [] (World.ownsRow_nil w _ 24 3) a m c news hl hnews h1 h63' hby (Nat.le_refl _)
    refine ⟨v', w', hr, World.ownsRow_nil _ _ _ _, mk_of_owns ho hall, ?_, hgr, owns_newer ho (fun _ => rfl)⟩
    intro u hu
    refine mk_frame hu hgr.size (fun k hk => ?_)
    rcases hu with rfl | ⟨g, n, cap, rfl, _, hlt, _⟩
    · simp [Value.ownBlock] at hk
    · simp only [Value.ownBlock, Option.some.injEq] at hk
      subst hk
      exact hgr.block _ hlt (by simp [Value.ownBlock])
  · by_cases hroom : n + m ≤ cap
    · have hlen : (xs ++ news).length = (n + m) * 3 := by rw [List.length_append, hown.1, hl, Nat.add_mul]
      have hx := hown.1
      have hfit : n * i0.size + news.length ≤ cur.size := by rw [hl, hcs, hz1]; omega
      have hr := run_append_room (P := Try.prog) w 22 ty 24 i0 Try.underlying22 hi g n cap cur hg a m c news (by rw [hz1]; exact hl) hnews h1 hroom hfit
      rw [hz1, htake] at hr
      have hblk := setRow_heap w g cur (xs ++ news ++ cur.toList.drop (n * 3 + news.length)).toArray 24 _ hg
      have hgr : w.grownBy (w.setRow g (xs ++ news ++ cur.toList.drop (n * 3 + news.length)).toArray) (Value.slice (some ⟨g, 0, none⟩) n cap).ownBlock := ⟨rfl, rfl, rfl, by simp, fun k _ hk => setRow_other w g k _ (fun e => hk (by simp [Value.ownBlock, e]))⟩
      have hsz : (xs ++ news ++ cur.toList.drop (n * 3 + news.length)).toArray.size = cap * 3 := by
        simp only [List.size_toArray, List.length_append, List.length_drop, Array.length_toList, hx, hl, hcs]
        omega
      have hnew : (w.setRow g (xs ++ news ++ cur.toList.drop (n * 3 + news.length)).toArray).ownsRow base 24 3 (.slice (some ⟨g, 0, none⟩) (n + m) cap) (n + m) (xs ++ news) :=
        ⟨hlen, .inr ⟨g, cap, _, rfl, hbg, hblk, hroom, hcm, hsz, by rw [← hlen]; exact List.take_left⟩⟩
      have hold : (w.setRow g (xs ++ news ++ cur.toList.drop (n * 3 + news.length)).toArray).ownsRow base 24 3 (.slice (some ⟨g, 0, none⟩) n cap) n xs :=
        ⟨hx, .inr ⟨g, cap, _, rfl, hbg, hblk, hnc, hcm, hsz, by rw [← hx]; simp only [List.append_assoc]; exact List.take_left⟩⟩
      refine ⟨_, _, hr, hold, mk_of_owns hnew hall, ?_, hgr, .inl rfl⟩
      intro u hu
      rcases hu with rfl | ⟨g2, n2, cap2, rfl, hn2, hlt2, hm2⟩
      · exact .inl rfl
      · by_cases hg2 : g2 = g
        · subst hg2
          refine .inr ⟨g2, n2, cap2, rfl, hn2, by simpa [World.setRow] using hlt2, fun j hj => ?_⟩
          by_cases hjn : j < n + m
          · have key : ∀ p, p < (n + m) * 3 → (w.setRow g2 (xs ++ news ++ cur.toList.drop (n * 3 + news.length)).toArray).cell? ⟨g2, p, none⟩ = some ((xs ++ news).getD p default) := by
              intro p hp
              rw [hnew.cellAt p hp, List.getD_eq_getElem?_getD, List.getElem?_eq_getElem (by omega)]; rfl
            obtain ⟨t0, t1, t2⟩ := tri_mark (hall j hjn)
            exact ⟨by rw [key _ (by omega), t0], by rw [key _ (by omega), t1], by rw [key _ (by omega), t2]⟩
          · have key : ∀ p, (n + m) * 3 ≤ p → (w.setRow g2 (xs ++ news ++ cur.toList.drop (n * 3 + news.length)).toArray).cell? ⟨g2, p, none⟩ = w.cell? ⟨g2, p, none⟩ := by
              intro p hp
              rw [cell_of_row _ _ p _ _ _ hblk, cell_of_row _ _ p _ _ _ hg]
              have e1 : (xs ++ news ++ cur.toList.drop (n * 3 + news.length)).toArray[p]? = (xs ++ news ++ cur.toList.drop (n * 3 + news.length))[p]? := by simp
              rw [e1, List.getElem?_append_right (by omega), List.getElem?_drop, hlen]
              have e2 : n * 3 + news.length + (p - (n + m) * 3) = p := by omega
              rw [e2]; simp
            obtain ⟨t0, t1, t2⟩ := hm2 j hj
            exact ⟨by rw [key _ (by omega), t0], by rw [key _ (by omega), t1], by rw [key _ (by omega), t2]⟩
        · exact mk_frame (.inr ⟨g2, n2, cap2, rfl, hn2, hlt2, hm2⟩) hgr.size (fun k hk => hgr.block k (by simp only [Value.ownBlock, Option.some.injEq] at hk; omega) (by simp only [Value.ownBlock, Option.some.injEq] at hk; simp only [Value.ownBlock, ne_eq, Option.some.injEq]; omega))
    · have holds : ∀ j u, xs[j]? = some u → w.cell? ((⟨g, 0, none⟩ : Addr).add j) = some u := hown.cells (g := g) rfl
      obtain ⟨v', w', hr, ho, hgr⟩ := run_append_arg_grows (P := Try.prog) w 22 ty 24 i0 _ 3 48 Try.underlying22 hi hz0 hz1 hz2 rfl (by decide) ⟨g, 0, none⟩ n cap xs hown.1 holds a m c news hl hnews (by omega) h63' hby
      have hall2 : ∀ k, k < w.heap.size → w'.heap[k]? = w.heap[k]? := fun k hk => hgr.block k hk (by simp)
      refine ⟨v', w', hr, owns_frame hown (fun k hk => hall2 k (hown.lt k hk).2), mk_of_owns ho hall, ?_, ⟨hgr.os, hgr.tape, hgr.output, hgr.size, fun k hk _ => hall2 k hk⟩, owns_newer ho ?_⟩
      · intro u hu
        refine mk_frame hu hgr.size (fun k hk => ?_)
        rcases hu with rfl | ⟨g2, n2, cap2, rfl, _, hlt2, _⟩
        · simp [Value.ownBlock] at hk
        · simp only [Value.ownBlock, Option.some.injEq] at hk
          subst hk
          exact hall2 _ hlt2
      · intro hno
        rcases ho.2 with ⟨rfl, h0⟩ | ⟨g', cap', cur', rfl, _⟩
        · omega
        · simp [Value.ownBlock] at hno

theorem wpList_append_marks {ops : Array Oper} {rest : List Oper} {o : Oper} {act : Act} {Q : Exit → Act → World → Prop} (hgd : o.guard = none) (s x : Operand)
    (hop : o.op = .call { callee := .builtin .append, args := #[s, x], argTypes := #[22, 22] })
    {w : World} {base q : Nat} {v : Value} {n : Nat} {xs : List Value} (hs : act.eval s = v) (hown : w.ownsRow base 24 3 v n xs) (hm : ∀ j, j < n → tri xs j = markV q)
    (a : Addr) (m c : Nat) (news : List Value) (hx : act.eval x = .slice (some a) m c) (hl : news.length = m * 3) (hnews : ∀ j u, news[j]? = some u → w.cell? (a.add j) = some u) (h1 : ∀ u ∈ news, u.oneCell' = true) (hq : ∀ j, j < m → tri news j = markV q)
    (h63 : n + m ≤ 1000000000)
    (h : ∀ v' w', w'.ownsRow base 24 3 v n xs → Mk w' q v' → (∀ u, Mk w q u → Mk w' q u) → w.grownBy w' v.ownBlock → Newer w v v' → wpList Try.prog ops Q rest (act.put o.dst v') w') :
    wpList Try.prog ops Q (o :: rest) act w := by
  refine wpList_plain hgd fun K hK => ?_
  obtain ⟨v', w', hr, h2, h3, h4, h5, h6⟩ := run_append_marks w base q v n xs o.type hown hm a m c news hl hnews h1 hq h63
  unfold Oper.wp execOp
  simp only [hop, resolve, invoke, builtin, Sem.run_bind, Sem.run_pure, Result.andThen_ok, List.map_toArray, List.map_cons, List.map_nil, hs, hx, hr]
  exact hK _ _ (h v' w' h2 h3 h4 h5 h6)
end Go.Proofs.Ytbmohenjphmlgaa
