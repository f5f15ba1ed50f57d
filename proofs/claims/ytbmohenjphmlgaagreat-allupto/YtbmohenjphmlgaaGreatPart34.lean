/- Part 34 of a proof: what the last text needs. -/
import Derived.Test.YtbmohenjphmlgaaGreatPart33
import Derived.Test.YtbmohenjphmlgaaGreatPart15
/- The walk of sums through a branch; all kinds of nodes together (of the document's own answer). -/
namespace Go.Proofs.YtbmohenjphmlgaaGreat
open Go.RowKit
set_option maxRecDepth 100000

/-- What a place of a branch refers to. -/
def placeSums (y : Itm) : List (List UInt8) := if Tr.isSum y then [y.bytes] else []

theorem sumsTo_next (t : Itm) (k : Nat) : Tr.sumsTo t (k + 1) = Tr.sumsTo t k ++ placeSums (Tr.kid t k) := by
  unfold placeSums
  cases h : Tr.isSum (Tr.kid t k) with
  | true => rw [Tr.sumsTo_hit h]; rfl
  | false => rw [Tr.sumsTo_miss h]; simp

theorem referred_place (n : Nat) (t : Itm) (w : World) (a : Option Addr) (cap : Nat) (hr : Rep w.heap.size w (n + 1) (.agg #[.bool t.list, .string ⟨t.bytes.toArray⟩, .slice a t.items.length cap]) t) (hwt : Itm.wt t ≤ 1000000) (hp : Tr.Place t) : Calls Tryz.prog 109 #[.agg #[.bool t.list, .string ⟨t.bytes.toArray⟩, .slice a t.items.length cap]] w (STexts (placeSums t) w) := by
  unfold placeSums
  rcases hp with h | ⟨h, h0⟩ | ⟨h, h2, p, hu⟩
  · rw [if_pos h]; exact referred_sum t w a cap h
  · rw [if_neg (by rw [h]; decide)]
    exact referred_other t w a cap [] h (fun W _ => sums_none t W a cap h0)
  · rw [if_neg (by rw [h]; decide)]
    exact referred_other t w a cap [] h (fun W hb => sums_leaf n t W a cap (rep_later hb hr) h2 hwt p hu)

structure SumsSt (w : World) (t : Itm) (a : Option Addr) (cap : Nat) (k : Nat) (v : Value) (wr : World) : Prop where
  row : ∃ L, TOwn wr w.heap.size v L ∧ bl L = Tr.sumsTo t k
  box : wr.heap[w.heap.size]? = some (.cells #[.bool t.list, .string ⟨t.bytes.toArray⟩, .slice a t.items.length cap] 119 (0, 0))
  old : Below w.heap.size w wr
  free : v.ownBlock ≠ some w.heap.size

set_option maxHeartbeats 3200000 in
theorem sums_branchR (n : Nat) (t : Itm) (w : World) (a : Option Addr) (cap : Nat) (hr : Rep w.heap.size w (n + 2) (.agg #[.bool t.list, .string ⟨t.bytes.toArray⟩, .slice a t.items.length cap]) t) (h17 : t.items.length = 17) (hwt : Itm.wt t ≤ 1000000) (hp : ∀ i, i < 16 → Tr.Place (Tr.kid t i)) : Calls Tryz.prog 75 #[.agg #[.bool t.list, .string ⟨t.bytes.toArray⟩, .slice a t.items.length cap]] w (STexts (Tr.sumsTo t 16) w) := by
  have HK : Hid (∀ i, i < 16 → ∃ b off a' cap', a = some ⟨b, off, none⟩ ∧ b < w.heap.size ∧ w.cell? ⟨b, off + i * 3, none⟩ = some (.bool (Tr.kid t i).list) ∧ w.cell? ⟨b, off + i * 3 + 1, none⟩ = some (.string ⟨(Tr.kid t i).bytes.toArray⟩) ∧ w.cell? ⟨b, off + i * 3 + 2, none⟩ = some (.slice a' (Tr.kid t i).items.length cap') ∧
      ∀ W, Below w.heap.size w W → Calls Tryz.prog 109 #[.agg #[.bool (Tr.kid t i).list, .string ⟨(Tr.kid t i).bytes.toArray⟩, .slice a' (Tr.kid t i).items.length cap']] W (STexts (placeSums (Tr.kid t i)) W)) := by
    intro i hi
    obtain ⟨b, off, a', cap', h1, h2, h3, h4, h5, h6⟩ := rep_kid hr i (by omega)
    have := kid_wt' t i (by omega)
    exact ⟨b, off, a', cap', h1, h2, h3, h4, h5, fun W hb => referred_place n _ W a' cap' (rep_later hb h6) (by omega) (hp i hi)⟩
  have i0 : ((t.items.length : Int) == 2) = false := by simp; omega
  have H17 := hid h17
  clear hr hwt hp h17
  go_enter Tryz.func75, Tryz.ntmps75
  go_wp2_with fail
  go_loopw [3, 7] (fun v i wr => ∃ k : Nat, i = .int .i64 k ∧ k ≤ 16 ∧ Hid (SumsSt w t a cap k v wr)) (fun _ i _ => 16 - (intOf i).toNat)
  case atStart => exact ⟨0, rfl, Nat.zero_le _, ⟨[], town_nil _ _, rfl⟩, heap_alloc_new _ _, (Below.refl _ _).alloc (Nat.le_refl _) _, by simp [Value.ownBlock]⟩
  case round =>
    obtain ⟨k, rfl, hk, HS⟩ := hrel
    have x2 := cell_of_row _ _ 2 _ _ _ HS.out.box
    obtain ⟨L, ho, hL⟩ := HS.out.row
    obtain ⟨av, cv, rfl, _⟩ := town_shape ho
    have HO := hid ho
    have HL := hid hL
    have HLL : Hid (L.length ≤ 16) := by have h1 := congrArg List.length hL; have h2 := Tr.sumsTo_len t k; rw [bl_len] at h1; rw [Hid]; omega
    clear ho hL
    by_cases hlt : k < 16
    · obtain ⟨b, off, a', cap', rfl, hbb, g0, g1, g2, hrf⟩ := HK.out k hlt
      have y0 := (HS.out.old.cell (p := ⟨b, off + k * 3, none⟩) hbb).trans g0
      have y1 := (HS.out.old.cell (p := ⟨b, off + k * 3 + 1, none⟩) hbb).trans g1
      have y2 := (HS.out.old.cell (p := ⟨b, off + k * 3 + 2, none⟩) hbb).trans g2
      have HRF := hid hrf
      have HNX := hid (sumsTo_next t k)
      have i1 : (k : Int) < 16 := by omega
      have i2 : (k : Int) < (t.items.length : Int) := by have := H17.out; omega
      have i3 : (0 : Int) ≤ (k : Int) := by omega
      have HPL : Hid ((placeSums (Tr.kid t k)).length ≤ 1) := by rw [Hid]; unfold placeSums; split <;> simp
      generalize Tr.kid t k = q at *
      clear g0 g1 g2 hrf
      go_wp2_with fail
      refine (HRF.out _ HS.out.old).mono ?_
      rintro e w2 ⟨v2, L2, rfl, ho2, hL2, b2⟩
      obtain ⟨a2, c2, rfl, _⟩ := town_shape ho2
      have HO2 := hid ho2
      have HL2 := hid hL2
      have HB2 := hid b2
      have HL3 : Hid (L2.length ≤ 1) := by have h1 := congrArg List.length hL2; rw [bl_len] at h1; have := HPL.out; rw [Hid]; omega
      clear ho2 hL2 b2
      go_wp2_with (at_builtin; refine wpList_append_texts _ rfl (.tmp 45) (.tmp 46) rfl w.heap.size w2.heap.size (.slice av L.length cv) a2 c2 L L2 rfl rfl (town_later HO.out HB2.out) (town_rd HO2.out) (town_none HO2.out) (by have := HLL.out; have := HL3.out; omega) (Nat.le_trans HS.out.old.size HB2.out.size) ?_; intro v3 w3 ho3 hg3 hn3)
      have hb3 : Below w.heap.size w w3 := (HS.out.old.trans (HB2.out.mono HS.out.old.size)).grown hg3 (Nat.le_trans HS.out.old.size HB2.out.size) (fun g hg => (town_lt HO.out g hg).1)
      have hbx : w.heap.size < w2.heap.size := Nat.lt_of_lt_of_le (Array.getElem?_eq_some_iff.1 HS.out.box).1 HB2.out.size
      refine ⟨⟨k + 1, by go_num, by omega, ⟨L ++ L2, ho3, by rw [bl_append, HL.out, HL2.out, HNX.out]⟩, ?_, hb3, ?_⟩, by simp [intOf]; omega⟩
      · rw [hg3.block _ hbx (fun e => HS.out.free e.symm), HB2.out.block _ (Array.getElem?_eq_some_iff.1 HS.out.box).1]
        exact HS.out.box
      · rcases hn3 with e | ⟨g, e, hg⟩
        · rw [e]; exact HS.out.free
        · rw [e]; intro e'; cases e'; omega
    · have i1 : ¬ (k : Int) < 16 := by omega
      obtain rfl : k = 16 := by omega
      go_wp2_with fail
      go_ret
      exact ⟨_, L, rfl, HO.out, HL.out, HS.out.old⟩

theorem sumsR_any (n : Nat) (t : Itm) (w : World) (a : Option Addr) (cap : Nat) (hr : Rep w.heap.size w (n + 2) (.agg #[.bool t.list, .string ⟨t.bytes.toArray⟩, .slice a t.items.length cap]) t) (hwt : Itm.wt t ≤ 1000000) (hpu : Itm.pure t = true) (hs : Tr.sound t = true) : Calls Tryz.prog 75 #[.agg #[.bool t.list, .string ⟨t.bytes.toArray⟩, .slice a t.items.length cap]] w (STexts (Tr.sums t) w) := by
  rcases Tr.shape_of hpu hs with ⟨h1, h2⟩ | ⟨h1, ⟨p, hu⟩, h2⟩ | ⟨h1, ⟨p, hu⟩, h3, h2⟩ | ⟨h1, h2, h3⟩
  · rw [h2]; exact sums_none t w a cap h1
  · rw [h2]; exact sums_leaf (n + 1) t w a cap hr h1 hwt p hu
  · rw [h2]; exact sums_ext (n + 1) t w a cap hr h1 hwt p hu h3
  · rw [h2]; exact sums_branchR n t w a cap hr h1 hwt h3
end Go.Proofs.YtbmohenjphmlgaaGreat

/- What holds while the document's own keeper drops a head: rows that grow side by side. -/
namespace Go.Proofs.YtbmohenjphmlgaaGreat
open Go.RowKit
set_option maxRecDepth 100000

/-- A row has been appended to. -/
structure Grew2 (v1 v' : Value) (w w' : World) : Prop where
  os : w'.os = w.os
  tape : w'.tape = w.tape
  output : w'.output = w.output
  size : w.heap.size ≤ w'.heap.size
  block : ∀ k, k < w.heap.size → v1.ownBlock ≠ some k → w'.heap[k]? = w.heap[k]?
  newer : ∀ g, v'.ownBlock = some g → v1.ownBlock = some g ∨ w.heap.size ≤ g

theorem grew2_of {v1 v' : Value} {wr w' : World} {O : Obj} (hg : (wr.alloc O).grownBy w' v1.ownBlock) (hn : Newer (wr.alloc O) v1 v') : Grew2 v1 v' wr w' :=
  ⟨hg.os, hg.tape, hg.output, by have := hg.size; simp at this; omega, fun k hk hne => by rw [hg.block k (by simp; omega) (fun e => hne e.symm), Below.heap_alloc _ _ _ hk], fun g hgg => by
    rcases hn with e | ⟨q, e, hq⟩
    · rw [e] at hgg; exact .inl hgg
    · rw [e] at hgg
      cases hgg
      simp at hq
      exact .inr (by omega)⟩

theorem wpList_push_head2 {ops : Array Oper} {rest : List Oper} {o : Oper} {act : Act} {Q' : Exit → Act → World → Prop} (hgd : o.guard = none) (s x : Operand)
    (hop : o.op = .call { callee := .builtin .append, args := #[s, x], argTypes := #[51, 51] }) {wr : World} {B : Nat} {v1 : Value} {l1 : List (Int × ByteArray)} (q : Int × ByteArray) (L : Nat) (hL : wr.heap.size = L)
    (hs : act.eval s = v1) (hx : act.eval x = .slice (some ⟨L, 0, none⟩) 1 1) (ho : HOwn wr B v1 l1) (hB : B ≤ wr.heap.size) (hlen : l1.length ≤ 1000000)
    (h : ∀ v' w', HOwn w' B v' (l1 ++ [q]) → Grew2 v1 v' wr w' → wpList Tryz.prog ops Q' rest (act.put o.dst v') w') : wpList Tryz.prog ops Q' (o :: rest) act (wr.alloc (.cells #[.int .i64 q.1, .string q.2] 99)) := by
  subst hL
  obtain ⟨i0, hi, hz0, hz1, hz2⟩ := info_parts infoHead
  have ho2 : HOwn (wr.alloc (.cells #[.int .i64 q.1, .string q.2] 99)) B v1 l1 := hown_frame ho (fun g hg => by rw [Below.heap_alloc _ _ _ (hown_lt ho g hg).2])
  refine wpList_append_mine _ hgd s x 51 hop B 99 i0 _ 2 24 Tryz.underlying51 hi hz0 hz1 hz2 rfl (by decide) v1 l1.length (hcells l1) hs ho2 ⟨wr.heap.size, 0, none⟩ 1 1 [.int .i64 q.1, .string q.2] hx rfl (cells_pair _ _ _ _) (by simp [Value.oneCell']) (by unfold maxLen; omega) (by omega) (by simp; omega) ?_
  intro v' w' ho' hg hn
  refine h v' w' ?_ (grew2_of hg hn)
  unfold HOwn
  rw [List.length_append, hcells_snoc]
  exact ho'

theorem wpList_push_text2 {ops : Array Oper} {rest : List Oper} {o : Oper} {act : Act} {Q' : Exit → Act → World → Prop} (hgd : o.guard = none) (s x : Operand)
    (hop : o.op = .call { callee := .builtin .append, args := #[s, x], argTypes := #[28, 28] }) {wr : World} {B : Nat} {v1 : Value} {l1 : List ByteArray} (p : ByteArray) (L : Nat) (hL : wr.heap.size = L)
    (hs : act.eval s = v1) (hx : act.eval x = .slice (some ⟨L, 0, none⟩) 1 1) (ho : TOwn wr B v1 l1) (hB : B ≤ wr.heap.size) (hlen : l1.length ≤ 1000000)
    (h : ∀ v' w', TOwn w' B v' (l1 ++ [p]) → Grew2 v1 v' wr w' → wpList Tryz.prog ops Q' rest (act.put o.dst v') w') : wpList Tryz.prog ops Q' (o :: rest) act (wr.alloc (.cells #[.string p] 9)) := by
  subst hL
  obtain ⟨i0, hi, hz0, hz1, hz2⟩ := info_parts infoText
  have ho2 : TOwn (wr.alloc (.cells #[.string p] 9)) B v1 l1 := town_frame ho (fun g hg => by rw [Below.heap_alloc _ _ _ (town_lt ho g hg).2])
  refine wpList_append_mine _ hgd s x 28 hop B 9 i0 _ 1 16 Tryz.underlying28 hi hz0 hz1 hz2 rfl (by decide) v1 l1.length (tcells l1) hs ho2 ⟨wr.heap.size, 0, none⟩ 1 1 [.string p] hx rfl (cells_lone _ _ _) (by simp [Value.oneCell']) (by unfold maxLen; omega) (by omega) (by simp; omega) ?_
  intro v' w' ho' hg hn
  refine h v' w' ?_ (grew2_of hg hn)
  unfold TOwn
  rw [List.length_append, tcells_snoc]
  exact ho'

/-- Two rows lie apart. -/
def Apart (u v : Value) : Prop := ∀ g, u.ownBlock = some g → v.ownBlock ≠ some g

theorem Apart.symm {u v : Value} (h : Apart u v) : Apart v u := fun g hg hu => h g hu hg

theorem apart_grew {u v v' : Value} {w w' : World} (h : Apart u v) (hu : ∀ g, u.ownBlock = some g → g < w.heap.size) (hg : Grew2 v v' w w') : Apart u v' := fun g hgu hgv => by
  rcases hg.newer g hgv with e | e
  · exact h g hgu e
  · have := hu g hgu; omega

theorem below_grew {A : Nat} {W w w' : World} {v v' : Value} (h : Below A W w) (hA : A ≤ w.heap.size) (hv : ∀ g, v.ownBlock = some g → A ≤ g) (hg : Grew2 v v' w w') : Below A W w' :=
  ⟨hg.os.trans h.os, hg.tape.trans h.tape, hg.output.trans h.output, Nat.le_trans h.size hg.size, fun k hk => (hg.block k (Nat.lt_of_lt_of_le hk hA) (fun e => by have := hv k e; omega)).trans (h.block k hk)⟩

/-- The heads that stay, as far as the first k tell. -/
def restTo (l : List (Int × ByteArray)) (p k : Nat) : List (Int × ByteArray) := (l.take k).eraseIdx p

theorem restTo_zero (l : List (Int × ByteArray)) (p : Nat) : restTo l p 0 = [] := by unfold restTo; rw [List.take_zero]; rfl
theorem restTo_here {l : List (Int × ByteArray)} {p k : Nat} (hk : k < l.length) (h : k = p) : restTo l p (k + 1) = restTo l p k := by
  subst h
  unfold restTo
  have hlen : (l.take k).length = k := by simp; omega
  have e1 : (l.take k).eraseIdx k = l.take k := List.eraseIdx_of_length_le (by omega)
  rw [List.take_succ_eq_append_getElem hk, List.eraseIdx_append_of_length_le (by omega), e1, hlen, Nat.sub_self]
  show l.take k ++ [] = _
  rw [List.append_nil]
theorem restTo_else {l : List (Int × ByteArray)} {p k : Nat} (hk : k < l.length) (h : k ≠ p) : restTo l p (k + 1) = restTo l p k ++ [l[k]] := by
  unfold restTo
  have hlen : (l.take k).length = k := by simp; omega
  rw [List.take_succ_eq_append_getElem hk]
  by_cases hp : p < k
  · rw [List.eraseIdx_append_of_lt_length (by omega)]
  · rw [List.eraseIdx_append_of_length_le (by omega), List.eraseIdx_of_length_le (by simp; omega), List.eraseIdx_of_length_le (by omega)]
theorem restTo_end (l : List (Int × ByteArray)) (p : Nat) : restTo l p l.length = l.eraseIdx p := by unfold restTo; rw [List.take_length]
theorem restTo_len (l : List (Int × ByteArray)) (p k : Nat) : (restTo l p k).length ≤ l.length := by
  unfold restTo
  refine Nat.le_trans (List.length_eraseIdx_le _ _) ?_
  simp
  omega

theorem rootsB_snoc (l : List (Int × ByteArray)) (q : Int × ByteArray) : rootsB (l ++ [q]) = rootsB l ++ [q.2] := by unfold rootsB; rw [List.map_append]; rfl
theorem rootsB_len (l : List (Int × ByteArray)) : (rootsB l).length = l.length := by unfold rootsB; rw [List.length_map]

/-- While the other heads, and their roots, are laid. -/
structure Dr1 (w : World) (l : List (Int × ByteArray)) (p k : Nat) (v6 v7 : Value) (wr : World) : Prop where
  heads : HOwn wr w.heap.size v6 (restTo l p k)
  roots : TOwn wr w.heap.size v7 (rootsB (restTo l p k))
  apart : Apart v6 v7
  old : Below w.heap.size w wr

/-- Once they are laid. -/
structure Dr2 (w : World) (r0 : Nat) (v6 kv : Value) (l' : List (Int × ByteArray)) (wr : World) : Prop where
  cell : wr.heap[r0]? = some (.cells #[v6, kv] 53 (0, 0))
  heads : HOwn wr w.heap.size v6 l'
  turn : Turns (fun k => k = r0) w wr
  r0w : r0 < w.heap.size

theorem Dr2.later {w : World} {r0 : Nat} {v6 kv : Value} {l' : List (Int × ByteArray)} {wr w' : World} (h : Dr2 w r0 v6 kv l' wr) (hb : Below wr.heap.size wr w') : Dr2 w r0 v6 kv l' w' :=
  ⟨(hb.block r0 (Array.getElem?_eq_some_iff.1 h.cell).1).trans h.cell, hown_later h.heads hb, h.turn.trans (Turns.of_below hb), h.r0w⟩

theorem Dr2.grow {w : World} {r0 : Nat} {v6 kv v v' : Value} {l' : List (Int × ByteArray)} {wr w' : World} (h : Dr2 w r0 v6 kv l' wr) (hv : ∀ g, v.ownBlock = some g → w.heap.size ≤ g) (ha : Apart v6 v) (hg : Grew2 v v' wr w') : Dr2 w r0 v6 kv l' w' := by
  have h0 := (Array.getElem?_eq_some_iff.1 h.cell).1
  have hr := h.r0w
  refine ⟨(hg.block r0 h0 (fun e => by have := hv r0 e; omega)).trans h.cell, hown_frame h.heads (fun g hgg => hg.block g (hown_lt h.heads g hgg).2 (fun e => ha g hgg e)), ⟨hg.os.trans h.turn.os, hg.tape.trans h.turn.tape, hg.output.trans h.turn.output, Nat.le_trans h.turn.size hg.size, fun k hk hn => ?_⟩, h.r0w⟩
  exact (hg.block k (Nat.lt_of_lt_of_le hk h.turn.size) (fun e => by have := hv k e; omega)).trans (h.turn.block k hk hn)

theorem Dr1.done {R : Nat → Prop} {w : World} {r0 : Nat} {ah ak : Option Addr} {ch ck : Nat} {l : List (Int × ByteArray)} {K : List ByteArray} {p : Nat} {v6 v7 : Value} {wr : World} (h0 : RAt0 R w r0 ah ch ak ck l K) (h : Dr1 w l p l.length v6 v7 wr) :
    Dr2 w r0 v6 (.slice ak K.length ck) (l.eraseIdx p) (wr.setCell ⟨r0, 0, none⟩ v6) ∧ TOwn (wr.setCell ⟨r0, 0, none⟩ v6) w.heap.size v7 (rootsB (l.eraseIdx p)) := by
  have hr := (Array.getElem?_eq_some_iff.1 h0.cell).1
  have hh := h.heads
  have ht := h.roots
  rw [restTo_end] at hh ht
  have hother : ∀ k, k ≠ r0 → (wr.setCell ⟨r0, 0, none⟩ v6).heap[k]? = wr.heap[k]? := fun k hk => set_other hk
  have hsz : (wr.setCell ⟨r0, 0, none⟩ v6).heap.size = wr.heap.size := by simp [World.setCell]
  refine ⟨⟨set_first ((h.old.block r0 hr).trans h0.cell), hown_frame hh (fun g hg => hother g (fun e => by have := (hown_lt hh g hg).1; omega)), ⟨h.old.os, h.old.tape, h.old.output, by rw [hsz]; exact h.old.size, fun k hk hn => by rw [hother k hn]; exact h.old.block k hk⟩, hr⟩, town_frame ht (fun g hg => hother g (fun e => by have := (town_lt ht g hg).1; omega))⟩

/-- What can be read of what is kept. -/
theorem Dr2.kept {R : Nat → Prop} {w : World} {r0 : Nat} {ah ak : Option Addr} {ch ck : Nat} {l l' : List (Int × ByteArray)} {K : List ByteArray} {v6 : Value} {wr : World} (h0 : RAt0 R w r0 ah ch ak ck l K) (h : Dr2 w r0 v6 (.slice ak K.length ck) l' wr) : TOwn wr 0 (.slice ak K.length ck) K :=
  town_frame h0.kept (fun g hg => h.turn.block g (town_lt h0.kept g hg).2 (fun e => h0.nk (e ▸ hg)))

/-- The elements that stay are laid into the keeper's second cell. -/
theorem Dr2.done {R : Nat → Prop} {w : World} {r0 : Nat} {ah ak : Option Addr} {ch ck : Nat} {l l' : List (Int × ByteArray)} {K K' : List ByteArray} {v6 v17 : Value} {wr : World} (h0 : RAt0 R w r0 ah ch ak ck l K) (h : Dr2 w r0 v6 (.slice ak K.length ck) l' wr) (ht : TOwn wr w.heap.size v17 K') : RDone R w r0 l' K' (wr.setCell ⟨r0, 1, none⟩ v17) := by
  obtain ⟨a6, c6, rfl⟩ := hown_shape h.heads
  obtain ⟨a17, c17, rfl, _⟩ := town_shape ht
  have hr := h.r0w
  have hother : ∀ k, k ≠ r0 → (wr.setCell ⟨r0, 1, none⟩ (.slice a17 K'.length c17)).heap[k]? = wr.heap[k]? := fun k hk => set_other hk
  have hsz : (wr.setCell ⟨r0, 1, none⟩ (.slice a17 K'.length c17)).heap.size = wr.heap.size := by simp [World.setCell]
  refine ⟨fun k => k = r0 ∨ (Value.slice a6 l'.length c6).ownBlock = some k ∨ (Value.slice a17 K'.length c17).ownBlock = some k, ⟨a6, c6, a17, c17, ?_, ?_, ?_, fun k => Iff.rfl, ?_, ?_⟩, ?_, ?_⟩
  · rw [heap_setCell_same _ r0 1 _ 53 _ h.cell]; rfl
  · exact hown_frame (b := 0) (owns_base h.heads (Nat.zero_le _)) (fun g hg => hother g (fun e => by have := (hown_lt h.heads g hg).1; omega))
  · exact town_frame (b := 0) (owns_base ht (Nat.zero_le _)) (fun g hg => hother g (fun e => by have := (town_lt ht g hg).1; omega))
  · intro e; have := (hown_lt h.heads r0 e).1; omega
  · intro e; have := (town_lt ht r0 e).1; omega
  · rintro k (rfl | hk | hk)
    · exact .inl ((h0.own _).2 (.inl rfl))
    · exact .inr (hown_lt h.heads k hk).1
    · exact .inr (town_lt ht k hk).1
  · refine Turns.wider ⟨h.turn.os, h.turn.tape, h.turn.output, by rw [hsz]; exact h.turn.size, fun k hk hn => ?_⟩ (fun k _ hk => (h0.own k).2 (.inl hk))
    rw [hother k hn]; exact h.turn.block k hk hn
end Go.Proofs.YtbmohenjphmlgaaGreat

/- The walk of Drop (of the document's own answer). -/
namespace Go.Proofs.YtbmohenjphmlgaaGreat
open Go.RowKit
set_option maxRecDepth 100000

/-- What the document's own Drop does. -/
def RDrop (R : Nat → Prop) (r0 : Nat) (l : List (Int × ByteArray)) (K : List ByteArray) (x : Int) (w : World) (e : Ending) (w' : World) : Prop :=
  (∃ (p : Nat) (_h : p < l.length), l[p].1 = x ∧ e = .returned (.int .i64 0) ∧ ∃ K' L, RDone R w r0 (l.eraseIdx p) K' w' ∧ Tr.AllOf (bl K) (bl (rootsB (l.eraseIdx p))) L ∧ bl K' = (bl K).filter (fun e => decide (Tr.sum e ∈ L)) ∧ ∀ e ∈ K', e ∈ K) ∨
  ((∀ q ∈ l, q.1 ≠ x) ∧ e = .returned (.int .i64 10) ∧ RDone R w r0 l K w')

/-- Between two rounds of the search. -/
def DrB (w : World) (r0 : Nat) (v6 kv : Value) (l' : List (Int × ByteArray)) (K : List ByteArray) (i : Nat) (v7 : Value) (wr : World) : Prop :=
  ∃ L, TOwn wr w.heap.size v7 L ∧ Tr.Bfs (bl K) (bl (rootsB l')) i (bl L) ∧ Apart v6 v7 ∧ Dr2 w r0 v6 kv l' wr

/-- Within a round. -/
def DrC (w : World) (r0 : Nat) (v6 kv v14 : Value) (l' : List (Int × ByteArray)) (L0 L14 : List ByteArray) (j : Nat) (v7 : Value) (wr : World) : Prop :=
  ∃ L, TOwn wr w.heap.size v7 L ∧ bl L = Tr.grow (bl L0) (bl (L14.take j)) ∧ Apart v6 v7 ∧ Apart v14 v7 ∧ TOwn wr w.heap.size v14 L14 ∧ L.length ≤ L0.length + j ∧ Dr2 w r0 v6 kv l' wr

/-- What stays of the elements, as far as the first i tell. -/
def staysTo (K L : List ByteArray) (i : Nat) : List ByteArray := (K.take i).filter fun e => decide (Tr.sum e.data.toList ∈ bl L)

theorem staysTo_hit {K L : List ByteArray} {i : Nat} (hi : i < K.length) (h : Tr.sum K[i].data.toList ∈ bl L) : staysTo K L (i + 1) = staysTo K L i ++ [K[i]] := by
  unfold staysTo
  rw [List.take_succ_eq_append_getElem hi, List.filter_append]
  simp [h]
theorem staysTo_miss {K L : List ByteArray} {i : Nat} (hi : i < K.length) (h : Tr.sum K[i].data.toList ∉ bl L) : staysTo K L (i + 1) = staysTo K L i := by
  unfold staysTo
  rw [List.take_succ_eq_append_getElem hi, List.filter_append]
  simp [h]
theorem staysTo_len (K L : List ByteArray) (i : Nat) : (staysTo K L i).length ≤ K.length := by
  unfold staysTo
  refine Nat.le_trans (List.length_filter_le _ _) ?_
  simp
  omega
theorem staysTo_bl (K L : List ByteArray) : bl (staysTo K L K.length) = (bl K).filter (fun e => decide (Tr.sum e ∈ bl L)) := by
  unfold staysTo bl
  rw [List.take_length, List.filter_map]
  rfl

/-- While the elements that stay are laid. -/
def DrD (w : World) (r0 : Nat) (v6 kv v7 : Value) (l' : List (Int × ByteArray)) (K L : List ByteArray) (i : Nat) (v17 : Value) (wr : World) : Prop :=
  TOwn wr w.heap.size v17 (staysTo K L i) ∧ TOwn wr w.heap.size v7 L ∧ Apart v6 v17 ∧ Apart v7 v17 ∧ Dr2 w r0 v6 kv l' wr

set_option maxHeartbeats 12800000 in
theorem refDrop_any (R : Nat → Prop) (r0 : Nat) (l : List (Int × ByteArray)) (K : List ByteArray) (x : Int) (w : World) (h : RAt R w r0 l K) (hl : l.length ≤ 8) (hK : K.length ≤ 200) (hs : ∀ e ∈ K, e.size ≤ 1000) (ht : ∀ e ∈ K, ∃ t, Tr.reads e.data.toList = some t) :
    Calls Tryz.prog 43 #[.pointer (some ⟨r0, 0, none⟩), .int .i64 x] w (RDrop R r0 l K x w) := by
  have HH := hid h
  obtain ⟨ah, ch, ak, ck, h0⟩ := h
  have H0 := hid h0
  have HHD := hid (refHead_any r0 ah ch (.slice ak K.length ck) l x w h0.cell (hown_rd h0.heads) (by omega))
  have HRD := hid (hown_rd h0.heads)
  have c0 : w.cell? ⟨r0, 0, none⟩ = some (.slice ah l.length ch) := by rw [cell_of_row _ _ 0 _ _ _ h0.cell]; rfl
  have hlt0 := (Array.getElem?_eq_some_iff.1 h0.cell).1
  have HCELL := hid h0.cell
  have HS := hid hs
  have HT := hid ht
  clear h0 hs ht
  go_enter Tryz.func43, Tryz.ntmps43
  go_wp2_with fail
  refine HHD.out.mono ?_
  rintro e w1 ⟨n, rfl, hn, b1⟩
  have HB1 := hid b1
  rcases hn with ⟨p, hp, rfl, hpx⟩ | ⟨rfl, hne⟩
  · have HPX := hid hpx
    have i0 : ¬ (p : Int) < 0 := by omega
    have HD0 : Hid (Dr1 w l p 0 (.slice none 0 0) (.slice none 0 0) w1) := ⟨by rw [restTo_zero]; exact hown_nil _ _, by rw [restTo_zero]; exact town_nil _ _, (fun g hg => by cases hg), b1⟩
    clear b1 hpx
    go_wp2_with fail
    go_loopw [6, 7, 8] (fun v6 v7 i wr => ∃ k : Nat, i = .int .i64 k ∧ k ≤ l.length ∧ Hid (Dr1 w l p k v6 v7 wr)) (fun _ _ i _ => l.length - (intOf i).toNat)
    case atStart => exact ⟨0, rfl, Nat.zero_le _, HD0.out⟩
    case round =>
      obtain ⟨k, rfl, hk, HD⟩ := hrel
      have y0 := (HD.out.old.cell (p := ⟨r0, 0, none⟩) hlt0).trans c0
      by_cases hlt : k < l.length
      · obtain ⟨b, off, rfl, hb, d0, d1⟩ := HRD.out k hlt
        have x1 := (HD.out.old.cell (p := ⟨b, off + k * 2, none⟩) hb).trans d0
        have x2 := (HD.out.old.cell (p := ⟨b, off + k * 2 + 1, none⟩) hb).trans d1
        have i1 : (0 : Int) ≤ (k : Int) := by omega
        have i2 : (k : Int) < (l.length : Int) := by omega
        by_cases hkp : k = p
        · have HNX := hid (restTo_here hlt hkp)
          have i3 : ((k : Int) == (p : Int)) = true := by simp; omega
          have HN : Hid (Dr1 w l p (k + 1) _ _ wr) := ⟨by rw [HNX.out]; exact HD.out.heads, by rw [HNX.out]; exact HD.out.roots, HD.out.apart, HD.out.old⟩
          clear d0 d1 hkp
          go_wp2_with fail
          exact ⟨⟨k + 1, by go_num, by omega, HN.out⟩, by simp [intOf]; omega⟩
        · have HNX := hid (restTo_else hlt hkp)
          have i3 : ((k : Int) == (p : Int)) = false := by simp; omega
          have HLN := hid (restTo_len l p k)
          obtain ⟨a6, c6, e6⟩ := hown_shape HD.out.heads
          obtain ⟨a7, c7, e7, _⟩ := town_shape HD.out.roots
          subst e6 e7
          generalize l[k] = q at *
          have HD0' := hid d0
          have HD1' := hid d1
          clear d0 d1 hkp
          go_wp2_with (first
            | (at_builtin; refine wpList_push_head2 rfl (.tmp 37) (.tmp 45) rfl q wr.heap.size rfl rfl rfl HD.out.heads HD.out.old.size (by have := HLN.out; omega) ?_
               intro v2 w2 ho2 hg2
               have HB2 : Hid (Below w.heap.size w w2) := below_grew HD.out.old HD.out.old.size (fun g hg => (hown_lt HD.out.heads g hg).1) hg2
               have HR2 : Hid (TOwn w2 w.heap.size (.slice a7 (rootsB (restTo l p k)).length c7) (rootsB (restTo l p k))) := town_frame HD.out.roots (fun g hg => hg2.block g (town_lt HD.out.roots g hg).2 (fun e => HD.out.apart g e hg))
               have HA2 : Hid (Apart (.slice a7 (rootsB (restTo l p k)).length c7) v2) := apart_grew HD.out.apart.symm (fun g hg => (town_lt HD.out.roots g hg).2) hg2
               have HO2 := hid ho2
               obtain ⟨a2, c2, e2⟩ := hown_shape ho2
               rw [List.length_append, List.length_singleton] at e2
               subst e2
               have u0 := (HB2.out.cell (p := ⟨r0, 0, none⟩) hlt0).trans c0
               have u1 := (HB2.out.cell (p := ⟨b, off + k * 2, none⟩) hb).trans HD0'.out
               have u2 := (HB2.out.cell (p := ⟨b, off + k * 2 + 1, none⟩) hb).trans HD1'.out
               clear ho2 hg2)
            | (at_builtin; refine wpList_push_text2 rfl (.tmp 47) (.tmp 56) rfl q.2 w2.heap.size rfl rfl rfl HR2.out HB2.out.size (by have := HLN.out; rw [rootsB_len]; omega) ?_
               intro v3 w3 ho3 hg3
               have HN : Hid (Dr1 w l p (k + 1) (.slice a2 ((restTo l p k).length + 1) c2) v3 w3) := ⟨by rw [HNX.out]; exact hown_frame HO2.out (fun g hg => hg3.block g (hown_lt HO2.out g hg).2 (fun e => HA2.out g e hg)), by rw [HNX.out, rootsB_snoc]; exact ho3, apart_grew HA2.out.symm (fun g hg => (hown_lt HO2.out g hg).2) hg3, below_grew HB2.out HB2.out.size (fun g hg => (town_lt HR2.out g hg).1) hg3⟩
               clear ho3 hg3))
          exact ⟨⟨k + 1, by go_num, by omega, HN.out⟩, by simp [intOf]; omega⟩
      · have i2 : ¬ (k : Int) < (l.length : Int) := by omega
        obtain rfl : k = l.length := by omega
        have z0 := frozen_of_row _ _ 0 _ _ ((HD.out.old.block r0 hlt0).trans HCELL.out)
        obtain ⟨q1, q2⟩ := Dr1.done H0.out HD.out
        have HD2 := hid q1
        have HR7 := hid q2
        have HAP := hid HD.out.apart
        obtain ⟨a6, c6, e6⟩ := hown_shape HD.out.heads
        obtain ⟨a7, c7, e7, _⟩ := town_shape HD.out.roots
        have HLE : Hid ((l.eraseIdx p).length ≤ 8) := by rw [Hid]; have := List.length_eraseIdx_le l p; omega
        generalize (restTo l p l.length).length = n6 at *
        generalize (rootsB (restTo l p l.length)).length = n7 at *
        subst e6 e7
        clear q1 q2
        have HPF : Hid (∀ (K' : List ByteArray) (L : List (List UInt8)) (w' : World), RDone R w r0 (l.eraseIdx p) K' w' → Tr.AllOf (bl K) (bl (rootsB (l.eraseIdx p))) L → bl K' = (bl K).filter (fun e => decide (Tr.sum e ∈ L)) → (∀ e ∈ K', e ∈ K) → RDrop R r0 l K x w (.returned (.int .i64 0)) w') := fun K' L w' a1 a2 a3 a4 => .inl ⟨p, hp, HPX.out, rfl, K', L, a1, a2, a3, a4⟩
        generalize hl' : l.eraseIdx p = l' at *
        clear hl' hp HPX HD HD0
        have HALL : Hid ((Tr.allSums (bl K)).length ≤ 3200) := by have := Tr.allSums_len (bl K); rw [bl_len] at this; rw [Hid]; omega
        have HRL : Hid ((bl (rootsB l')).length ≤ 8) := by rw [Hid, bl_len, rootsB_len]; exact HLE.out
        obtain ⟨v6, hv6⟩ : ∃ v6, v6 = Value.slice a6 n6 c6 := ⟨_, rfl⟩
        rw [← hv6] at HD2 HAP
        rw [← hv6] at HR7
        go_wp2_with fail
        rw [← hv6]
        clear hv6
        go_loopw [7, 9] (fun v7 i wr => ∃ k : Nat, i = .int .i64 k ∧ k ≤ 4000 ∧ Hid (DrB w r0 v6 (.slice ak K.length ck) l' K k v7 wr)) (fun _ i _ => 4000 - (intOf i).toNat)
        case atStart => exact ⟨0, rfl, by omega, rootsB l', HR7.out, Tr.Bfs.start _ _, HAP.out, HD2.out⟩
        case round =>
          obtain ⟨k, rfl, hk, HDB⟩ := hrel
          obtain ⟨L, hT, hB, hA, hD⟩ := HDB.out
          have HTL := hid hT
          have HBF := hid hB
          have HAV := hid hA
          have HDR := hid hD
          have hLL : L.length ≤ 3300 := by have h1 := hB.most; rw [bl_len] at h1; have := HALL.out; have := HRL.out; omega
          obtain ⟨a9, c9, e9, _⟩ := town_shape hT
          subst e9
          clear hT hB hA hD
          by_cases hlt2 : k < L.length
          · obtain ⟨b, off, e1, hb, d0⟩ := town_rd HTL.out k hlt2
            subst e1
            have i1 : (0 : Int) ≤ (k : Int) := by omega
            have i2 : (k : Int) < (L.length : Int) := by omega
            have HLK : Hid ((bl L)[k]'(by rw [bl_len]; exact hlt2) = L[k].data.toList) := by rw [Hid]; simp [bl]
            have HF := hid (refFind_any r0 ak ck v6 K L[k] _ HDR.out.cell (town_rd (HDR.out.kept H0.out)) (by omega) HS.out)
            have HBL := hid (fun hf => HBF.out.lost (by rw [bl_len]; exact hlt2) (by rw [HLK.out]; exact hf))
            have HBN := hid (fun e hf => HBF.out.next (e := e) (by rw [bl_len]; exact hlt2) (by rw [HLK.out]; exact hf))
            generalize L[k] = s at *
            clear HLK
            go_wp2_with fail
            refine HF.out.mono ?_
            rintro e w2 ⟨t, fd, rfl, hfd, b2⟩
            have HD3 := hid (HDR.out.later b2)
            have HT3 := hid (town_later HTL.out b2)
            clear b2 d0 HF
            rcases hfd with ⟨rfl, htK, hf⟩ | ⟨rfl, rfl, hf⟩
            · obtain ⟨tt, hrd⟩ := HT.out t htK
              have HWH := hid (fun w => wholeT_any t w (HS.out t htK) tt hrd)
              have HRS := hid (Tr.reads_some hrd)
              have HSO : Hid (Tr.sumsOf t.data.toList = Tr.sums tt) := by rw [Hid]; unfold Tr.sumsOf; rw [hrd]
              have HBX := hid (HBN.out _ hf)
              clear hrd hf HBN HBL
              go_wp2_with fail
              refine (HWH.out _).mono ?_
              rintro e w3 ⟨ax, cx, rfl, hwt, hrep, b3⟩
              have hbx : Below w3.heap.size w3 (w3.alloc (.cells #[.bool tt.list, .string ⟨tt.bytes.toArray⟩, .slice ax tt.items.length cx] 119)) := (Below.refl _ _).alloc (Nat.le_refl _) _
              have HB4 := hid (b3.trans (hbx.mono b3.size))
              have HSU := hid (sumsR_any 999 tt _ ax cx (rep_later hbx hrep) hwt (Tr.whole_enc_eq HRS.out.1).2 HRS.out.2)
              clear hrep hwt b3 hbx HWH
              go_wp2_with fail
              refine HSU.out.mono ?_
              rintro e w5 ⟨v14, L14, rfl, ho14, hL14, b5⟩
              have HB5 := hid (HB4.out.trans (b5.mono HB4.out.size))
              have HD5 := hid (HD3.out.later HB5.out)
              have HT5 := hid (town_later HT3.out HB5.out)
              have HO14 : Hid (TOwn w5 w.heap.size v14 L14) := owns_base ho14 (Nat.le_trans (Nat.le_trans HD3.out.turn.size HB4.out.size) (Nat.le_refl _))
              have HA14 : Hid (Apart v14 (.slice (some ⟨b, off, none⟩) L.length c9)) := fun g hg hg2 => by
                have h1 := (town_lt ho14 g hg).1
                have h2 := (town_lt HT3.out g hg2).2
                have := HB4.out.size
                omega
              have HLS : Hid (L14.length ≤ 16) := by have h1 := congrArg List.length hL14; rw [bl_len] at h1; have := Tr.sums_len tt; rw [Hid]; omega
              have HL14 : Hid (bl L14 = Tr.sumsOf t.data.toList) := by rw [Hid, HSO.out]; exact hL14
              obtain ⟨a14, c14, e14, _⟩ := town_shape ho14
              subst e14
              have HDC : Hid (DrC w r0 v6 (.slice ak K.length ck) (.slice a14 L14.length c14) l' L L14 0 (.slice (some ⟨b, off, none⟩) L.length c9) w5) := ⟨L, HT5.out, by rw [List.take_zero]; rfl, HAV.out, HA14.out, HO14.out, by omega, HD5.out⟩
              clear ho14 hL14 b5 HSU HB4 HB5 HD5 HT5 HO14 HA14 HD3 HT3
              go_wp2_with fail
              go_loopw [7, 15] (fun v7 j wr => ∃ j' : Nat, j = .int .i64 j' ∧ j' ≤ L14.length ∧ Hid (DrC w r0 v6 (.slice ak K.length ck) (.slice a14 L14.length c14) l' L L14 j' v7 wr)) (fun _ j _ => L14.length - (intOf j).toNat)
              case atStart => exact ⟨0, rfl, Nat.zero_le _, HDC.out⟩
              case round =>
                obtain ⟨j, rfl, hj, HDJ⟩ := hrel
                obtain ⟨Lj, hT, hG, hA6, hA14, hO14, hLj, hD⟩ := HDJ.out
                have HTJ := hid hT
                have HGJ := hid hG
                have HA6 := hid hA6
                have HA14 := hid hA14
                have HO14 := hid hO14
                have HDJ2 := hid hD
                have HLJ := hid hLj
                obtain ⟨aj, cj, ej, _⟩ := town_shape hT
                subst ej
                clear hT hG hA6 hA14 hO14 hD hLj
                have hl16 := HLS.out
                by_cases hltj : j < L14.length
                · obtain ⟨b', off', e1, hb', d0⟩ := town_rd HO14.out j hltj
                  subst e1
                  have j1 : (0 : Int) ≤ (j : Int) := by omega
                  have j2 : (j : Int) < (L14.length : Int) := by omega
                  have HHA := hid (refHas_any aj cj Lj L14[j] _ (town_rd HTJ.out) (by have := HLJ.out; omega))
                  have HSN : Hid (Tr.grow (bl L) (bl (L14.take (j + 1))) = if L14[j].data.toList ∈ bl Lj then bl Lj else bl Lj ++ [L14[j].data.toList]) := by rw [Hid, bl_take_succ L14 j hltj, Tr.grow_snoc, ← HGJ.out]
                  generalize L14[j] = cs at *
                  have HD0 := hid d0
                  go_wp2_with fail
                  refine HHA.out.mono ?_
                  rintro e w7 ⟨rfl, b7⟩
                  have HB7 := hid b7
                  have x7 := (b7.cell (p := ⟨b', off' + j, none⟩) hb').trans HD0.out
                  clear b7 HHA d0
                  by_cases hin : cs.data.toList ∈ bl Lj
                  · rw [if_pos hin] at HSN
                    rw [decide_eq_true hin]
                    have HN : Hid (DrC w r0 v6 (.slice ak K.length ck) (.slice (some ⟨b', off', none⟩) L14.length c14) l' L L14 (j + 1) (.slice aj Lj.length cj) w7) := ⟨Lj, town_later HTJ.out HB7.out, HSN.out.symm, HA6.out, HA14.out, town_later HO14.out HB7.out, by have := HLJ.out; omega, HDJ2.out.later HB7.out⟩
                    clear hin
                    go_wp2_with fail
                    exact ⟨⟨j + 1, by go_num, by omega, HN.out⟩, by simp [intOf]; omega⟩
                  · rw [if_neg hin] at HSN
                    rw [decide_eq_false hin]
                    clear hin
                    go_wp2_with (at_builtin; refine wpList_push_text2 rfl (.tmp 100) (.tmp 105) rfl cs w7.heap.size rfl rfl rfl (town_later HTJ.out HB7.out) (Nat.le_trans HDJ2.out.turn.size HB7.out.size) (by have := HLJ.out; omega) ?_
                                 intro v8 w8 ho8 hg8
                                 have HN : Hid (DrC w r0 v6 (.slice ak K.length ck) (.slice (some ⟨b', off', none⟩) L14.length c14) l' L L14 (j + 1) v8 w8) := ⟨Lj ++ [cs], ho8, by rw [HSN.out, bl_append]; rfl, apart_grew HA6.out (fun g hg => (hown_lt (hown_later HDJ2.out.heads HB7.out) g hg).2) hg8, apart_grew HA14.out (fun g hg => (town_lt (town_later HO14.out HB7.out) g hg).2) hg8, town_frame (town_later HO14.out HB7.out) (fun g hg => hg8.block g (town_lt (town_later HO14.out HB7.out) g hg).2 (fun e => HA14.out g hg e)), by rw [List.length_append, List.length_singleton]; have := HLJ.out; omega, (HDJ2.out.later HB7.out).grow (fun g hg => (town_lt HTJ.out g hg).1) HA6.out hg8⟩
                                 clear ho8 hg8)
                    exact ⟨⟨j + 1, by go_num, by omega, HN.out⟩, by simp [intOf]; omega⟩
                · obtain rfl : j = L14.length := by omega
                  have j2 : ¬ (L14.length : Int) < (L14.length : Int) := by omega
                  have HGE : Hid (bl Lj = Tr.grow (bl L) (Tr.sumsOf t.data.toList)) := by have := HGJ.out; rw [List.take_length, HL14.out] at this; exact this
                  have HN : Hid (DrB w r0 v6 (.slice ak K.length ck) l' K (k + 1) (.slice aj Lj.length cj) _) := ⟨Lj, HTJ.out, by rw [HGE.out]; exact HBX.out, HA6.out, HDJ2.out⟩
                  go_wp2_with fail
                  exact ⟨⟨k + 1, by go_num, by omega, HN.out⟩, by simp [intOf]; omega⟩
            · have HN : Hid (DrB w r0 v6 (.slice ak K.length ck) l' K (k + 1) (.slice (some ⟨b, off, none⟩) L.length c9) w2) := ⟨L, HT3.out, HBL.out hf, HAV.out, HD3.out⟩
              clear hf HBL HBN
              go_wp2_with fail
              exact ⟨⟨k + 1, by go_num, by omega, HN.out⟩, by simp [intOf]; omega⟩
          · have i2 : ¬ (k : Int) < (L.length : Int) := by omega
            have HAO := hid (HBF.out.done (by rw [bl_len]; omega))
            have HD17 : Hid (DrD w r0 v6 (.slice ak K.length ck) (.slice a9 L.length c9) l' K L 0 (.slice none 0 0) _) := ⟨town_nil _ _, HTL.out, (fun g _ h => by cases h), (fun g _ h => by cases h), HDR.out⟩
            have HLL := hid hLL
            clear hlt2 HBF HTL HAV HDR HDB
            go_wp2_with fail
            go_loopw [17, 18] (fun v17 i wr => ∃ i' : Nat, i = .int .i64 i' ∧ i' ≤ K.length ∧ Hid (DrD w r0 v6 (.slice ak K.length ck) (.slice a9 L.length c9) l' K L i' v17 wr)) (fun _ i _ => K.length - (intOf i).toNat)
            case atStart => exact ⟨0, rfl, Nat.zero_le _, HD17.out⟩
            case round =>
              obtain ⟨m, rfl, hm, HDM⟩ := hrel
              obtain ⟨q1, q2, q3, q4, q5⟩ := HDM.out
              have H17 := hid q1
              have H7 := hid q2
              have HA6 := hid q3
              have HA7 := hid q4
              have HDM2 := hid q5
              have HSL := hid (staysTo_len K L m)
              have HKP := hid (q5.kept H0.out)
              have y1 : wr.cell? ⟨r0, 1, none⟩ = some (.slice ak K.length ck) := by rw [cell_of_row _ _ 1 _ _ _ q5.cell]; rfl
              have z1 := frozen_of_row _ _ 1 _ _ q5.cell
              obtain ⟨a17, c17, e17, _⟩ := town_shape q1
              subst e17
              clear q1 q2 q3 q4 q5
              by_cases hltm : m < K.length
              · obtain ⟨b, off, e1, hb, d0⟩ := town_rd HKP.out m hltm
                subst e1
                have i1 : (0 : Int) ≤ (m : Int) := by omega
                have i2' : (m : Int) < (K.length : Int) := by omega
                have HSUM := hid (fun w => sumR_any K[m] w (by have := HS.out _ (List.getElem_mem hltm); omega))
                obtain ⟨E, hE⟩ : ∃ E : ByteArray, E = ⟨(Tr.sum K[m].data.toList).toArray⟩ := ⟨_, rfl⟩
                rw [← hE] at HSUM
                have HED : Hid (E.data.toList = Tr.sum K[m].data.toList) := by rw [hE]; rfl
                have HHIT := hid (fun h => staysTo_hit (L := L) hltm h)
                have HMIS := hid (fun h => staysTo_miss (L := L) hltm h)
                generalize K[m] = s at *
                have HD0 := hid d0
                clear hE
                go_wp2_with fail
                refine (HSUM.out _).mono ?_
                rintro e w7 ⟨rfl, b7⟩
                have HHA := hid (refHas_any a9 c9 L E w7 (town_rd (town_later H7.out b7)) (by have := HLL.out; omega))
                have HB7 := hid b7
                clear b7 HSUM d0 y1
                go_wp2_with fail
                refine HHA.out.mono ?_
                rintro e w8 ⟨rfl, b8⟩
                have HB8 : Hid (Below _ _ w8) := HB7.out.trans (b8.mono HB7.out.size)
                have x8 := (HB8.out.cell (p := ⟨b, off + m, none⟩) hb).trans HD0.out
                have y8 : w8.cell? ⟨r0, 1, none⟩ = some (.slice (some ⟨b, off, none⟩) K.length ck) := by rw [cell_of_row _ _ 1 _ _ _ (HDM2.out.later HB8.out).cell]; rfl
                clear b8 HHA HB7
                rw [HED.out]
                by_cases hin : Tr.sum s.data.toList ∈ bl L
                · rw [decide_eq_true hin]
                  have HNX := hid (HHIT.out hin)
                  clear hin HHIT HMIS
                  go_wp2_with (at_builtin; refine wpList_push_text2 rfl (.tmp 127) (.tmp 135) rfl s w8.heap.size rfl rfl rfl (town_later H17.out HB8.out) (Nat.le_trans HDM2.out.turn.size HB8.out.size) (by have := HSL.out; omega) ?_
                               intro v9 w9 ho9 hg9
                               have HN : Hid (DrD w r0 v6 (.slice (some ⟨b, off, none⟩) K.length ck) (.slice a9 L.length c9) l' K L (m + 1) v9 w9) := ⟨by rw [HNX.out]; exact ho9, town_frame (town_later H7.out HB8.out) (fun g hg => hg9.block g (town_lt (town_later H7.out HB8.out) g hg).2 (fun e => HA7.out g hg e)), apart_grew HA6.out (fun g hg => (hown_lt (hown_later HDM2.out.heads HB8.out) g hg).2) hg9, apart_grew HA7.out (fun g hg => (town_lt (town_later H7.out HB8.out) g hg).2) hg9, (HDM2.out.later HB8.out).grow (fun g hg => (town_lt H17.out g hg).1) HA6.out hg9⟩
                               clear ho9 hg9)
                  exact ⟨⟨m + 1, by go_num, by omega, HN.out⟩, by simp [intOf]; omega⟩
                · rw [decide_eq_false hin]
                  have HNX := hid (HMIS.out hin)
                  have HN : Hid (DrD w r0 v6 (.slice (some ⟨b, off, none⟩) K.length ck) (.slice a9 L.length c9) l' K L (m + 1) (.slice a17 (staysTo K L m).length c17) w8) := ⟨by rw [HNX.out]; exact town_later H17.out HB8.out, town_later H7.out HB8.out, HA6.out, HA7.out, HDM2.out.later HB8.out⟩
                  clear hin HHIT HMIS
                  go_wp2_with fail
                  exact ⟨⟨m + 1, by go_num, by omega, HN.out⟩, by simp [intOf]; omega⟩
              · obtain rfl : m = K.length := by omega
                have i2' : ¬ (K.length : Int) < (K.length : Int) := by omega
                have HDONE := hid (Dr2.done H0.out HDM2.out H17.out)
                have HMEM : Hid (∀ e ∈ staysTo K L K.length, e ∈ K) := fun e he => by
                  unfold staysTo at he
                  exact List.mem_of_mem_take (List.mem_filter.1 he).1
                go_wp2_with fail
                go_ret
                exact HPF.out _ (bl L) _ HDONE.out HAO.out (staysTo_bl K L) HMEM.out
  · have HNE := hid hne
    have i0 : (-1 : Int) < 0 := by omega
    clear b1
    go_wp2_with fail
    go_ret
    exact .inr ⟨HNE.out, rfl, rdone_below HH.out HB1.out⟩
end Go.Proofs.YtbmohenjphmlgaaGreat
