/- A round of the statement Decodes: what is read, kept and looked at. -/
import Derived.Test.YtplfjengfhijhaaKeep
import Derived.Test.YtplfjengfhijhaaLooks
import Derived.Test.YtplfjengfhijhaaBackWalk
namespace Go.Proofs.Ytplfjengfhijhaa
open Go.RowKit

/-- What a text is read as: an item and a number. -/
def dpair (s : ByteArray) : Itm × Nat := match Itm.dec s.data.toList with | .ok t => (t, 0) | .error n => (⟨false, [], []⟩, n)

theorem cnt_zero : Itm.cnt ⟨false, [], []⟩ = 1 := by rw [Itm.cnt_eq]; simp

theorem dpair_cnt (s : ByteArray) : Itm.cnt (dpair s).1 ≤ 1000 := by
  unfold dpair
  cases h : Itm.dec s.data.toList with
  | ok t =>
    obtain ⟨h1, h2, _, h4⟩ := Itm.dec_ok h
    have := Itm.cnt_le_enc t h2
    rw [h1] at h4
    show Itm.cnt t ≤ 1000
    omega
  | error n =>
    show Itm.cnt ⟨false, [], []⟩ ≤ 1000
    rw [cnt_zero]; omega

theorem own_lift {E : TypeId} {w : World} {n lo hi : Nat} {v : Value} {t : Itm} (k : Nat) (h : Own E w n lo hi v t) : Own E w (n + k) lo hi v t := by
  induction k with
  | zero => exact h
  | succ k ih => exact own_more _ _ _ _ _ ih

/-- Both ways to read a text. -/
def DecPost (t : Itm) (n : Nat) (w : World) (e : Ending) (w' : World) : Prop :=
  ∃ a cap, e = .returned (.tuple #[.agg #[.bool t.list, .string ⟨t.bytes.toArray⟩, .slice a t.items.length cap], .int .i64 n]) ∧
    Own 24 w' 1001 w.heap.size w'.heap.size (.agg #[.bool t.list, .string ⟨t.bytes.toArray⟩, .slice a t.items.length cap]) t ∧ Below w.heap.size w w'

theorem decPost_of {s : ByteArray} {w : World} {e : Ending} {w' : World} (h : DecodeOk s w e w') : DecPost (dpair s).1 (dpair s).2 w e w' := by
  obtain ⟨h1, h2, h3⟩ := h
  unfold DecPost dpair
  cases hd : Itm.dec s.data.toList with
  | ok t =>
    obtain ⟨v, rfl, ho⟩ := h2 t hd
    obtain ⟨_, _, _, h4⟩ := Itm.dec_ok hd
    have hsz : s.size ≤ 1000 := by rw [← ba_mk_size s.data.toList] at h4; simpa using h4
    have ho' : Own 24 w' 1001 w.heap.size w'.heap.size v t := by
      have := own_lift (1001 - s.size) ho
      rwa [show s.size + (1001 - s.size) = 1001 by omega] at this
    obtain ⟨a, cap, rfl⟩ := own_shape ho'
    exact ⟨a, cap, rfl, ho', h3⟩
  | error n =>
    obtain rfl := h1 n hd
    exact ⟨none, 0, rfl, ow_bytes w' 1000 _ _ ⟨#[]⟩ [] rfl, h3⟩

theorem decode_both (s : ByteArray) : ∃ t n, Itm.cnt t ≤ 1000 ∧ (∀ w, Calls Try.prog 11 #[.string s] w (DecPost t n w)) ∧ (∀ w, Calls Try.prog 12 #[.string s] w (DecPost t n w)) :=
  ⟨(dpair s).1, (dpair s).2, dpair_cnt s, fun w => (decode_any s w).mono fun _ _ h => decPost_of h, fun w => (decodeR_any s w).mono fun _ _ h => decPost_of h⟩

/-- Texts in a row, below the world's end. -/
def StrRow (W : World) (a : Option Addr) (ss : List ByteArray) : Prop :=
  ∀ i (h : i < ss.length), ∃ b off, a = some ⟨b, off, none⟩ ∧ b < W.heap.size ∧ W.cell? ⟨b, off + i, none⟩ = some (.string ss[i])

/-- Between two texts. -/
structure RoundSt (W : World) (B j : Nat) (wr : World) (c : Nat → Nat) (it wi we : Value) (Q : Nat) (lw : List Itm) : Prop where
  book : BookSt wr c B it wi we Q
  row3 : WaitRow wr c 3 wi lw
  row4 : WaitRow wr c 4 we lw
  len : lw.length ≤ 3
  cnts : ∀ x ∈ lw, Itm.cnt x ≤ 1000
  bound : Q + Itm.cntL lw ≤ 2002 * j
  old : Below W.heap.size W wr
  cold : ∀ k, k < W.heap.size → c k = 0

/-- The colours once a text has been read twice: the items' blocks. -/
def readcol (c : Nat → Nat) (n a1 a2 a3 k1 k2 : Nat) : Nat → Nat := fun k => if k < n then c k else if k < a1 then k1 else if a2 ≤ k ∧ k < a3 then k2 else 0

/-- Both items are to be kept. -/
structure RoundMid (W : World) (B j : Nat) (w5 : World) (c5 : Nat → Nat) (it wi we : Value) (Q : Nat) (lw : List Itm) (t : Itm) (vx vz : Value) (Z p0 p1 p2 p3 : Nat) : Prop where
  book : BookSt w5 c5 B it wi we Q
  row3 : WaitRow w5 c5 3 wi lw
  row4 : WaitRow w5 c5 4 we lw
  len : lw.length ≤ 3
  cnts : ∀ x ∈ lw, Itm.cnt x ≤ 1000
  bound : Q + Itm.cntL lw ≤ 2002 * j
  old : Below W.heap.size W w5
  cold : ∀ k, k < W.heap.size → c5 k = 0
  ox : Own 24 w5 1001 p0 p1 vx t
  hx : p1 ≤ w5.heap.size
  cx : ∀ k, p0 ≤ k → k < p1 → c5 k = 3 + 10 * (lw.length + 1)
  oz : Own 24 w5 1001 p2 p3 vz t
  hz : p3 ≤ w5.heap.size
  cz : ∀ k, p2 ≤ k → k < p3 → c5 k = 3 + 10 * (lw.length + 2)
  cZ : c5 Z = 0
  hZ : Z < w5.heap.size

theorem round_mid {W wr w1 w2 w5 : World} {B j : Nat} {c : Nat → Nat} {it wi we : Value} {Q : Nat} {lw : List Itm} {t : Itm} {vx vz : Value} {O1 : Obj} (h : RoundSt W B j wr c it wi we Q lw)
    (b1 : Below wr.heap.size wr w1) (o1 : Own 24 w1 1001 wr.heap.size w1.heap.size vx t) (b2 : Below (w1.alloc O1).heap.size (w1.alloc O1) w2) (o2 : Own 24 w2 1001 (w1.alloc O1).heap.size w2.heap.size vz t)
    (b5 : Below w2.heap.size w2 w5) (hlt : w2.heap.size < w5.heap.size) :
    RoundMid W B j w5 (readcol c wr.heap.size w1.heap.size (w1.alloc O1).heap.size w2.heap.size (3 + 10 * (lw.length + 1)) (3 + 10 * (lw.length + 2))) it wi we Q lw t vx vz w2.heap.size wr.heap.size w1.heap.size (w1.alloc O1).heap.size w2.heap.size := by
  have e1 : (w1.alloc O1).heap.size = w1.heap.size + 1 := by simp
  have s1 := b1.size
  have s2 := b2.size
  have s5 := b5.size
  have s0 := h.old.size
  have hb : Below wr.heap.size wr w5 := below_on (below_on (below_box b1 O1) b2) b5
  have h15 : Below w1.heap.size w1 w5 := below_on (below_on ((Below.refl _ _).alloc (Nat.le_refl _) O1) b2) b5
  have hold : ∀ k, k < wr.heap.size → readcol c wr.heap.size w1.heap.size (w1.alloc O1).heap.size w2.heap.size (3 + 10 * (lw.length + 1)) (3 + 10 * (lw.length + 2)) k = c k := fun k hk => by unfold readcol; rw [if_pos hk]
  refine ⟨h.book.frame hb.size (fun k hk _ => ⟨hb.block k hk, hold k hk⟩), h.row3.later (by omega) hb hold, h.row4.later (by omega) hb hold, h.len, h.cnts, h.bound, h.old.trans (hb.mono s0), fun k hk => by rw [hold k (by omega)]; exact h.cold k hk, ?_, by omega, ?_, ?_, by omega, ?_, ?_, hlt⟩
  · exact own_frame _ _ _ _ _ (fun k _ h2 => h15.block k h2) o1
  · intro k h1 h2
    unfold readcol
    rw [if_neg (by omega), if_pos h2]
  · exact own_frame _ _ _ _ _ (fun k _ h2 => b5.block k h2) o2
  · intro k h1 h2
    unfold readcol
    rw [if_neg (by omega), if_neg (by omega), if_pos ⟨h1, h2⟩]
  · unfold readcol
    rw [if_neg (by omega), if_neg (by omega), if_neg (by omega)]

theorem RoundMid.keepX {W : World} {B j : Nat} {w5 : World} {c5 : Nat → Nat} {it wi we : Value} {Q : Nat} {lw : List Itm} {t : Itm} {vx vz : Value} {Z p0 p1 p2 p3 : Nat} (h : RoundMid W B j w5 c5 it wi we Q lw t vx vz Z p0 p1 p2 p3) (hc : Itm.cnt t ≤ 1000) :
    Calls Try.prog 14 #[.pointer (some ⟨B, 0, none⟩), vx] w5 (KeepPost c5 B it Q lw t w5) :=
  keep_any w5 c5 B it wi we Q lw vx t p0 p1 h.book h.row3 h.row4 h.ox h.hx h.cx (by have := h.len; omega) (by omega)

theorem RoundMid.keepZ {W : World} {B j : Nat} {w5 w6 : World} {c5 : Nat → Nat} {it wi we : Value} {Q : Nat} {lw : List Itm} {t : Itm} {vx vz : Value} {Z p0 p1 p2 p3 : Nat} (h : RoundMid W B j w5 c5 it wi we Q lw t vx vz Z p0 p1 p2 p3) (hc : Itm.cnt t ≤ 1000) {e : Ending}
    (hk : KeepPost c5 B it Q lw t w5 e w6) : e = .returned (.tuple #[]) ∧ w6.heap[Z]? = w5.heap[Z]? ∧ ∃ c6, KeepT c5 c6 w5 w6 ∧
      Calls Try.prog 14 #[.pointer (some ⟨B, 0, none⟩), vz] w6 (KeepPost c6 B it Q (lw ++ [t]) t w6) := by
  obtain ⟨rfl, c6, wi6, we6, k1, k2, k3, k4⟩ := hk
  refine ⟨rfl, k4.block _ h.hZ (by rw [h.cZ]; omega) (by rw [h.cZ]; omega) (by rw [h.cZ]; omega), c6, k4, ?_⟩
  have hsz := k4.size
  have hpz := h.hz
  refine keep_any w6 c6 B it wi6 we6 Q (lw ++ [t]) vz t p2 p3 k1 k2 k3 ?_ (by omega) ?_ (by have := h.len; simp; omega) (by omega)
  · exact own_frame _ _ _ _ _ (fun k h1 h2 => k4.block k (by omega) (by rw [h.cz k h1 h2]; omega) (by rw [h.cz k h1 h2]; omega) (by rw [h.cz k h1 h2]; omega)) h.oz
  · intro k h1 h2
    rw [k4.color k (by omega), h.cz k h1 h2]
    simp

theorem cntL_two (l : List Itm) (t : Itm) : Itm.cntL (l ++ [t] ++ [t]) = Itm.cntL l + 2 * Itm.cnt t := by
  unfold Itm.cntL
  simp only [List.map_append, List.sum_append, List.map_cons, List.map_nil, List.sum_cons, List.sum_nil]
  omega

theorem RoundMid.looks {W : World} {B j : Nat} {w5 w6 w7 : World} {c5 c6 : Nat → Nat} {it wi we : Value} {Q : Nat} {lw : List Itm} {t : Itm} {vx vz : Value} {Z p0 p1 p2 p3 : Nat} (h : RoundMid W B j w5 c5 it wi we Q lw t vx vz Z p0 p1 p2 p3) (hc : Itm.cnt t ≤ 1000) (hj : j ≤ 2000000)
    {e : Ending} (k4 : KeepT c5 c6 w5 w6) (hk : KeepPost c6 B it Q (lw ++ [t]) t w6 e w7) :
    e = .returned (.tuple #[]) ∧ Calls Try.prog 15 #[.pointer (some ⟨B, 0, none⟩)] w7 fun e w8 => e = .returned (.bool true) ∧ ∃ c8 it8 wi8 we8 Q8 l8, RoundSt W B (j + 1) w8 c8 it8 wi8 we8 Q8 l8 := by
  obtain ⟨rfl, c7, wi7, we7, q1, q2, q3, q4⟩ := hk
  have hlen := h.len
  have hbd := h.bound
  have hcl := cntL_two lw t
  have hcnts : ∀ x ∈ lw ++ [t] ++ [t], Itm.cnt x ≤ 1000 := by
    intro x hx
    simp only [List.mem_append, List.mem_cons, List.not_mem_nil, or_false] at hx
    rcases hx with (hx | rfl) | rfl
    · exact h.cnts x hx
    · exact hc
    · exact hc
  refine ⟨rfl, (looks_any w7 c7 B it wi7 we7 Q _ q1 q2 q3 (by simp; omega) (by omega) (fun x hx => by have := hcnts x hx; omega)).mono ?_⟩
  rintro e w8 ⟨rfl, c8, it8, wi8, we8, Q8, l8, r1, r2, r3, r4, r5⟩
  have kt : KeepT c5 c7 w5 w7 := k4.trans q4
  have s5 := h.old.size
  have hcold7 : ∀ k, k < W.heap.size → c7 k = 0 := fun k hk => by rw [kt.color k (by omega)]; exact h.cold k hk
  have hold7 : Below W.heap.size W w7 := ⟨kt.os.trans h.old.os, kt.tape.trans h.old.tape, kt.output.trans h.old.output, Nat.le_trans s5 kt.size, fun k hk => by
    have hk0 := h.cold k hk
    rw [kt.block k (by omega) (by omega) (by omega) (by omega)]; exact h.old.block k hk⟩
  have s7 := hold7.size
  have hold8 : Below W.heap.size W w8 := ⟨r4.os.trans hold7.os, r4.tape.trans hold7.tape, r4.output.trans hold7.output, Nat.le_trans s7 r4.size, fun k hk => by
    rw [(r4.keep k (by omega) (hcold7 k hk)).1]; exact hold7.block k hk⟩
  refine ⟨rfl, c8, it8, wi8, we8, Q8, l8, r1, r2, r3, ?_, ?_, ?_, hold8, fun k hk => (r4.keep k (by omega) (hcold7 k hk)).2⟩
  · rcases r5 with ⟨_, rfl, hl⟩ | ⟨_, rfl⟩
    · exact hl
    · simp
  · rcases r5 with ⟨_, rfl, _⟩ | ⟨_, rfl⟩
    · exact hcnts
    · simp
  · rcases r5 with ⟨rfl, rfl, _⟩ | ⟨rfl, rfl⟩
    · omega
    · simp [Itm.cntL] at *; omega

theorem RoundSt.ends {W : World} {B j : Nat} {wr : World} {c : Nat → Nat} {it wi we : Value} {Q : Nat} {lw : List Itm} (h : RoundSt W B j wr c it wi we Q lw) (hj : j ≤ 2000000) :
    Calls Try.prog 16 #[.pointer (some ⟨B, 0, none⟩)] wr fun e w' => e = .returned (.bool true) ∧ Below W.heap.size W w' := by
  have hbd := h.bound
  refine (settles_any wr c B it wi we Q lw h.book h.row3 h.row4 (by have := h.len; omega) (by omega) (fun x hx => by have := h.cnts x hx; omega)).mono ?_
  rintro e w' ⟨rfl, c', it', _, r4⟩
  have s5 := h.old.size
  exact ⟨rfl, r4.os.trans h.old.os, r4.tape.trans h.old.tape, r4.output.trans h.old.output, Nat.le_trans s5 r4.size, fun k hk => by rw [(r4.keep k (by omega) (h.cold k hk)).1]; exact h.old.block k hk⟩

/-- An empty book. -/
theorem round_start (W : World) : RoundSt W W.heap.size 0 (W.alloc (.cells #[.slice none 0 0, .slice none 0 0, .slice none 0 0, .slice none 0 0, .slice none 0 0, .slice none 0 0, .slice none 0 0, .slice none 0 0, .slice none 0 0] 39)) (fun k => if k = W.heap.size then 1 else 0) (.slice none 0 0) (.slice none 0 0) (.slice none 0 0) 0 [] := by
  refine ⟨⟨heap_alloc_new _ _, by simp, by simp [Value.ownBlock], [], World.ownsRow_nil _ _ _ _, rfl, fun k h => by simp at h⟩, waitRow_nil _ _ _, waitRow_nil _ _ _, by simp, by simp, by simp [Itm.cntL], (Below.refl _ _).alloc (Nat.le_refl _) _, fun k hk => by simp; omega⟩
end Go.Proofs.Ytplfjengfhijhaa
