/- Part 9 of a proof: what the last text needs. -/
import Derived.Test.YtbmohenjphmlgaaPart8
import Derived.Test.YtbmohenjphmlgaaPart5
import Derived.Laws.CopyOwn
import Derived.Test.YtbmohenjphmlgaaPart3
/- The walk of untouchedItem (of the statements' own): what was handed in reads as it did; then its owner writes over it, and over nothing else. -/
namespace Go.Proofs.Ytbmohenjphmlgaa
open Go.RowKit
set_option maxRecDepth 100000

/-- Of what was there nothing has turned but blocks from lo on and below hi. -/
structure Only (lo hi : Nat) (w w' : World) : Prop where
  os : w'.os = w.os
  tape : w'.tape = w.tape
  output : w'.output = w.output
  size : w.heap.size ≤ w'.heap.size
  block : ∀ k, k < w.heap.size → (k < lo ∨ hi ≤ k) → w'.heap[k]? = w.heap[k]?

theorem Only.below {lo hi : Nat} {w w' : World} (h : Only lo hi w w') (hl : lo ≤ w.heap.size) : Below lo w w' := ⟨h.os, h.tape, h.output, h.size, fun k hk => h.block k (by omega) (.inl hk)⟩

theorem Only.refl (lo hi : Nat) (w : World) : Only lo hi w w := ⟨rfl, rfl, rfl, Nat.le_refl _, fun _ _ _ => rfl⟩

theorem Only.trans {lo hi : Nat} {a b c : World} (h : Only lo hi a b) (k : Only lo hi b c) : Only lo hi a c :=
  ⟨k.os.trans h.os, k.tape.trans h.tape, k.output.trans h.output, Nat.le_trans h.size k.size, fun i hi hj => (k.block i (Nat.lt_of_lt_of_le hi h.size) hj).trans (h.block i hi hj)⟩

theorem Only.wider {lo hi lo' hi' : Nat} {w w' : World} (h : Only lo hi w w') (h1 : lo' ≤ lo) (h2 : hi ≤ hi') : Only lo' hi' w w' :=
  ⟨h.os, h.tape, h.output, h.size, fun k hk hj => h.block k hk (by omega)⟩

theorem Only.of_below {lo hi : Nat} {w w' : World} (h : Below w.heap.size w w') : Only lo hi w w' := ⟨h.os, h.tape, h.output, h.size, fun k hk _ => h.block k hk⟩

theorem Only.put {lo hi : Nat} {w w1 : World} (h : Only lo hi w w1) {g j : Nat} (hg : lo ≤ g) (hg2 : g < hi) (a b c : Value) :
    Only lo hi w (((w1.setCell ⟨g, j * 3, none⟩ a).setCell ⟨g, j * 3 + 1, none⟩ b).setCell ⟨g, j * 3 + 2, none⟩ c) :=
  ⟨h.os, h.tape, h.output, by rw [put_size]; exact h.size, fun k hk hj => by rw [put_other (by omega)]; exact h.block k hk hj⟩

/-- What is still to be looked at from the k-th place on. -/
def Unt (E : TypeId) (n : Nat) (t : Itm) (g lo hi k : Nat) (L H : Nat → Nat) (wr : World) (xs : List Value) : Prop :=
  wr.heap[g]? = some (.cells xs.toArray E (0, 0)) ∧ xs.length = (t.items.length + 8) * 3 ∧
  (∀ i (h : i < t.items.length), k ≤ i → lo ≤ L i ∧ H i ≤ hi ∧ (g < L i ∨ H i ≤ g) ∧ Hand E wr n (L i) (H i) (tri xs i) t.items[i]) ∧
  (∀ i, t.items.length ≤ i → k ≤ i → i < t.items.length + 8 → tri xs i = bang)

theorem unt_step {E : TypeId} {n : Nat} {t : Itm} {g lo hi k : Nat} {L H : Nat → Nat} {wr w1 : World} {xs : List Value} (h : Unt E n t g lo hi k L H wr xs) (hk : k < t.items.length) (hg : g < wr.heap.size) (hhi : hi ≤ wr.heap.size)
    (hLH : ∀ i j, i < j → j < t.items.length → H i ≤ L j) (ho : Only (L k) (H k) wr w1) (a b c : Value) :
    ∃ xs', Unt E n t g lo hi (k + 1) L H (((w1.setCell ⟨g, k * 3, none⟩ a).setCell ⟨g, k * 3 + 1, none⟩ b).setCell ⟨g, k * 3 + 2, none⟩ c) xs' := by
  obtain ⟨h1, h2, h3, h4⟩ := h
  obtain ⟨p1, p2, p3, _⟩ := h3 k hk (Nat.le_refl _)
  refine ⟨put3 xs k a b c, row_put (by rw [ho.block g hg (by omega)]; exact h1) a b c, by rw [put3_len]; exact h2, ?_, ?_⟩
  · intro i hi' hik
    obtain ⟨q1, q2, q3, q4⟩ := h3 i hi' (by omega)
    refine ⟨q1, q2, q3, ?_⟩
    rw [tri_put_other _ _ _ _ _ _ (by omega)]
    refine hand_frame _ _ _ _ _ (fun j hj1 hj2 => ?_) q4
    rw [put_other (by omega)]
    have := hLH k i (by omega) hi'
    exact ho.block j (by omega) (by omega)
  · intro i hi1 hi2 hi3
    rw [tri_put_other _ _ _ _ _ _ (by omega)]
    exact h4 i hi1 (by omega) hi3

theorem unt_spare {E : TypeId} {n : Nat} {t : Itm} {g lo hi k : Nat} {L H : Nat → Nat} {wr : World} {xs : List Value} (h : Unt E n t g lo hi k L H wr xs) (hk : t.items.length ≤ k) (a b c : Value) :
    ∃ xs', Unt E n t g lo hi (k + 1) L H (((wr.setCell ⟨g, k * 3, none⟩ a).setCell ⟨g, k * 3 + 1, none⟩ b).setCell ⟨g, k * 3 + 2, none⟩ c) xs' := by
  obtain ⟨h1, h2, h3, h4⟩ := h
  refine ⟨put3 xs k a b c, row_put h1 a b c, by rw [put3_len]; exact h2, fun i hi' hik => by omega, ?_⟩
  intro i hi1 hi2 hi3
  rw [tri_put_other _ _ _ _ _ _ (by omega)]
  exact h4 i hi1 (by omega) hi3

/-- The three cells at a place of the row. -/
theorem unt_cells {E : TypeId} {n : Nat} {t : Itm} {g lo hi k : Nat} {L H : Nat → Nat} {wr w1 : World} {xs : List Value} (h : Unt E n t g lo hi k L H wr xs) (hb : w1.heap[g]? = wr.heap[g]?) (j : Nat) (hj : j < t.items.length + 8) {a b c : Value} (ht : tri xs j = .agg #[a, b, c]) :
    w1.cell? ⟨g, j * 3, none⟩ = some a ∧ w1.cell? ⟨g, j * 3 + 1, none⟩ = some b ∧ w1.cell? ⟨g, j * 3 + 2, none⟩ = some c ∧
    w1.frozen? ⟨g, j * 3, none⟩ = false ∧ w1.frozen? ⟨g, j * 3 + 1, none⟩ = false ∧ w1.frozen? ⟨g, j * 3 + 2, none⟩ = false := by
  have h1 : w1.heap[g]? = some (.cells xs.toArray E (0, 0)) := by rw [hb]; exact h.1
  have h2 := h.2.1
  unfold tri at ht
  simp at ht
  obtain ⟨e0, e1, e2⟩ := ht
  have e : 3 * j = j * 3 := Nat.mul_comm 3 j
  rw [e] at e0 e1 e2
  refine ⟨?_, ?_, ?_, row_frozen h1 _, row_frozen h1 _, row_frozen h1 _⟩
  · rw [row_cell h1 _ (by omega), ← e0]; simp
  · rw [row_cell h1 _ (by omega), ← e1]; simp
  · rw [row_cell h1 _ (by omega), ← e2]; simp

theorem hand_drawn {E : TypeId} {wr : World} {n lo hi : Nat} {v : Value} {t : Itm} (nq : Nat) (h : Hand E wr n lo hi v t) : Hand E (wr.drewN nq).drew n lo hi v t :=
  hand_frame (w := wr) (w' := (wr.drewN nq).drew) n lo hi v t (fun _ _ _ => rfl) h

theorem rep_drawn {B : Nat} {wr : World} {n : Nat} {v : Value} {t : Itm} (nq : Nat) (h : Rep B wr n v t) : Rep B (wr.drewN nq).drew n v t :=
  rep_frame (w := wr) (w' := (wr.drewN nq).drew) ⟨rfl, rfl, rfl, Nat.le_refl _, fun _ _ => rfl⟩ n v t h

theorem only_undrawn {lo hi : Nat} {wr w' : World} {nq : Nat} (h : Only lo hi (wr.drewN nq).drew w') : Only lo hi wr w' := ⟨h.os, h.tape, h.output, h.size, h.block⟩

set_option maxHeartbeats 1600000 in
theorem untouched_any (n : Nat) : ∀ (v v2 : Value) (t : Itm) (w : World) (lo hi m : Nat), Hand 24 w n lo hi v t → hi ≤ w.heap.size → Rep lo w m v2 t → Itm.wt t ≤ 1000000000 →
    Calls Try.prog 15 #[v, v2] w fun e w' => e = .returned (.bool true) ∧ Only lo hi w w' := by
  induction n with
  | zero => intro v v2 t w lo hi m h; exact h.elim
  | succ n ih =>
    intro v v2 t w lo hi m hhand hhi hrep hwt
    cases m with
    | zero => exact hrep.elim
    | succ m =>
    obtain ⟨g, xs0, L, H, rfl, hlo, hgh, hrow, hxl, hkid, hLH, hsp⟩ := hhand
    obtain ⟨a, cap, rfl, hm, hkids⟩ := hrep
    have hlen : t.items.length ≤ 100000000 := by have := items_wt t; omega
    have HK := hid hkids
    have IH := hid ih
    have HWT := hid hwt
    have HLH := hid hLH
    have HU0 : Hid (Unt 24 n t g lo hi 0 L H w xs0) := ⟨hrow, hxl, fun i h _ => hkid i h, fun i h1 _ h2 => hsp i h1 h2⟩
    clear hkids ih hwt hrow hxl hkid hLH hsp hm
    go_enter Try.func15, Try.ntmps15
    go_wp2_with fail
    go_loopw [7, 8] (fun ok i wr => ∃ (k : Nat) (xs : List Value), ok = .bool true ∧ i = .int .i64 k ∧ k ≤ t.items.length ∧ Hid (Unt 24 n t g lo hi k L H wr xs ∧ Only lo hi w wr ∧ w.heap.size + 2 ≤ wr.heap.size ∧ wr.cell? ⟨w.heap.size + 1, 2, none⟩ = some (.slice a t.items.length cap))) (fun _ i _ => t.items.length - (intOf i).toNat)
    case atStart =>
      have hb1 : Below w.heap.size w ((w.alloc (.cells #[.bool t.list, .string ⟨t.bytes.toArray⟩, .slice (some ⟨g, 0, none⟩) t.items.length (t.items.length + 8)] 24)).alloc (.cells #[.bool t.list, .string ⟨t.bytes.toArray⟩, .slice a t.items.length cap] 24)) := ((Below.refl _ _).alloc (Nat.le_refl _) _).alloc (by simp) _
      obtain ⟨u1, u2, u3, u4⟩ := HU0.out
      exact ⟨0, xs0, rfl, rfl, Nat.zero_le _, ⟨by rw [hb1.block g (by omega)]; exact u1, u2, fun i h h' => ⟨(u3 i h h').1, (u3 i h h').2.1, (u3 i h h').2.2.1, hand_frame _ _ _ _ _ (fun k _ hk => hb1.block k (by have := (u3 i h h').2.1; omega)) (u3 i h h').2.2.2⟩, u4⟩, Only.of_below hb1, by simp, by simp⟩
    case round =>
      obtain ⟨k, xs, rfl, rfl, hk, HH⟩ := hrel
      have x2 := HH.out.2.2.2
      by_cases hlt : k < t.items.length
      · obtain ⟨b, off, c0, c1, c2, rfl, hbl, e0, e1, e2, hr⟩ := HK.out k hlt
        obtain ⟨a2, cap2, rfl, rfl, rfl⟩ := rep_shape hr
        obtain ⟨p1, p2, p3, p4⟩ := HH.out.1.2.2.1 k hlt (Nat.le_refl _)
        obtain ⟨gk, hgk⟩ := hand_shape p4
        obtain ⟨r0, r1, r2, z0, z1, z2⟩ := unt_cells HH.out.1 rfl k (by omega) hgk
        have hbw : ∀ o, wr.cell? ⟨b, o, none⟩ = w.cell? ⟨b, o, none⟩ := fun o => World.cell?_of_block (HH.out.2.1.block b (by omega) (.inl hbl))
        have f0 := (hbw (off + k * 3)).trans e0
        have f1 := (hbw (off + k * 3 + 1)).trans e1
        have f2 := (hbw (off + k * 3 + 2)).trans e2
        have hkw : Itm.wt t.items[k] ≤ 1000000000 := by have := Itm.kid_wt t k hlt; have := HWT.out; omega
        have hkl : t.items[k].items.length ≤ 100000000 := by have := items_wt t.items[k]; omega
        have HRK : Hid (Rep lo wr m (.agg #[.bool t.items[k].list, .string ⟨t.items[k].bytes.toArray⟩, .slice a2 t.items[k].items.length cap2]) t.items[k]) := rep_frame (HH.out.2.1.below (by omega)) _ _ _ hr
        rw [hgk] at p4
        have hhw : H k ≤ wr.heap.size := by have := HH.out.2.2.1; omega
        have HC : Hid (∀ nq, Calls Try.prog 15 #[.agg #[.bool t.items[k].list, .string ⟨t.items[k].bytes.toArray⟩, .slice (some ⟨gk, 0, none⟩) t.items[k].items.length (t.items[k].items.length + 8)], .agg #[.bool t.items[k].list, .string ⟨t.items[k].bytes.toArray⟩, .slice a2 t.items[k].items.length cap2]] (wr.drewN nq).drew fun e w' => e = .returned (.bool true) ∧ Only (L k) (H k) wr w') := fun nq =>
          (IH.out _ _ t.items[k] (wr.drewN nq).drew (L k) (H k) m (hand_drawn nq p4) hhw (rep_drawn nq (rep_wider p1 _ _ _ HRK.out)) hkw).mono fun e w' h => ⟨h.1, only_undrawn h.2⟩
        have HP := hid (And.intro p1 (And.intro p2 p3))
        have hgw : g < wr.heap.size := by have := HH.out.2.2.1; omega
        have HS : Hid (∀ w2, Only (L k) (H k) wr w2 → (w2.cell? ⟨g, k * 3, none⟩ = some (.bool t.items[k].list) ∧ w2.cell? ⟨g, k * 3 + 1, none⟩ = some (.string ⟨t.items[k].bytes.toArray⟩) ∧ w2.cell? ⟨g, k * 3 + 2, none⟩ = some (.slice (some ⟨gk, 0, none⟩) t.items[k].items.length (t.items[k].items.length + 8)) ∧ w2.frozen? ⟨g, k * 3, none⟩ = false ∧ w2.frozen? ⟨g, k * 3 + 1, none⟩ = false ∧ w2.frozen? ⟨g, k * 3 + 2, none⟩ = false)) := fun w2 ho =>
          unt_cells HH.out.1 (ho.block g hgw (by omega)) k (by omega) hgk
        have hcap : ¬ ((t.items[k].items.length : Int) + 8 < (t.items[k].items.length : Int) + 8) := by omega
        clear e0 e1 e2 hr p1 p2 p3 p4 hbw hgk
        go_wp2_with fail
        go_quiet (fail)
        go_wp2_with fail
        go_region_with (go_at_call 15; refine (HC.out _).mono ?_; rintro e w2 ⟨rfl, honly⟩; obtain ⟨s0, s1, s2, y0, y1, y2⟩ := HS.out w2 honly)
        all_goals
          go_wp2_with fail
          obtain ⟨xs', hu⟩ := unt_step HH.out.1 hlt hgw (by have := HH.out.2.2.1; omega) HLH.out honly (.bool false) (.string ⟨#[98, 108, 111, 116]⟩) (.slice none 0 0)
          refine ⟨⟨k + 1, xs', rfl, by go_num, by omega, hu, (HH.out.2.1.trans (honly.wider HP.out.1 HP.out.2.1)).put hlo hgh _ _ _, ?_, ?_⟩, by simp [intOf]; omega⟩
          · rw [put_size]; exact Nat.le_trans HH.out.2.2.1 honly.size
          · have hq := HH.out.2.2.1
            rw [← HH.out.2.2.2]
            refine World.cell?_of_block ?_
            show _ = wr.heap[w.heap.size + 1]?
            have hne : w.heap.size + 1 ≠ g := by omega
            have hHk : H k ≤ w.heap.size + 1 := by have := HP.out.2.1; omega
            have hlw : w.heap.size + 1 < wr.heap.size := by omega
            rw [put_other hne]
            exact honly.block (w.heap.size + 1) hlw (.inr hHk)
      · have HKE := hid (show k = t.items.length by omega)
        go_wp2_with fail
        go_loopw [7, 10] (fun ok i wi => ∃ (j : Nat) (xs : List Value), ok = .bool true ∧ i = .int .i64 j ∧ j ≤ t.items.length + 8 ∧ Hid (t.items.length ≤ j ∧ Unt 24 n t g lo hi j L H wi xs ∧ Only lo hi w wi)) (fun _ i _ => t.items.length + 8 - (intOf i).toNat)
        case atStart => exact ⟨t.items.length, xs, rfl, rfl, by omega, Nat.le_refl _, by have := HH.out.1; rw [HKE.out] at this; exact this, HH.out.2.1⟩
        case round =>
          obtain ⟨j, xs2, rfl, rfl, hj, HJ⟩ := hrel
          by_cases hlt2 : j < t.items.length + 8
          · have hlt2' : (j : Int) < (t.items.length : Int) + 8 := by omega
            obtain ⟨r0, r1, r2, z0, z1, z2⟩ := unt_cells HJ.out.2.1 rfl j hlt2 (HJ.out.2.1.2.2.2 j HJ.out.1 (Nat.le_refl _) hlt2)
            go_wp2_with fail
            obtain ⟨xs', hu⟩ := unt_spare HJ.out.2.1 HJ.out.1 (.bool false) (.string ⟨#[98, 108, 111, 116]⟩) (.slice none 0 0)
            exact ⟨⟨j + 1, xs', rfl, by go_num, by omega, by have := HJ.out.1; omega, hu, HJ.out.2.2.put hlo hgh _ _ _⟩, by simp [intOf]; omega⟩
          · have hlt2' : ¬ (j : Int) < (t.items.length : Int) + 8 := by omega
            go_wp2_with fail
            go_ret
            exact ⟨rfl, HJ.out.2.2⟩
end Go.Proofs.Ytbmohenjphmlgaa

/- The walks of handedTexts and untouchedTexts (of the statements' own): texts in a row with eight marked places behind it. -/
namespace Go.Proofs.Ytbmohenjphmlgaa
open Go.RowKit
set_option maxRecDepth 100000

def bangB : ByteArray := ⟨#[33]⟩

/-- Texts with eight marks behind them. -/
def handT (l : List ByteArray) : List Value := tcells (l ++ List.replicate 8 bangB)

theorem handT_len (l : List ByteArray) : (handT l).length = l.length + 8 := by simp [handT, tcells_len]

theorem handT_text (l : List ByteArray) (i : Nat) (h : i < l.length) : (handT l)[i]? = some (.string l[i]) := by
  unfold handT
  rw [tcells_at _ i (by simp; omega), List.getElem_append_left h]

theorem handT_bang (l : List ByteArray) (i : Nat) (h : l.length ≤ i) (h2 : i < l.length + 8) : (handT l)[i]? = some (.string ⟨#[33]⟩) := by
  unfold handT
  rw [tcells_at _ i (by simp; omega), List.getElem_append_right h, List.getElem_replicate]
  rfl

theorem list_getD_cell {w : World} {g : Nat} {xs : List Value} {E : TypeId} (h : w.heap[g]? = some (.cells xs.toArray E (0, 0))) (j : Nat) : w.cell? ⟨g, j, none⟩ = xs[j]? := by
  rw [cell_of_row _ _ j _ _ _ h]
  simp

theorem row_set1 {w : World} {g k : Nat} {xs : List Value} {E : TypeId} (h : w.heap[g]? = some (.cells xs.toArray E (0, 0))) (a : Value) : (w.setCell ⟨g, k, none⟩ a).heap[g]? = some (.cells (xs.set k a).toArray E (0, 0)) := by
  rw [heap_setCell_same w g k xs.toArray E a h]
  simp

theorem take_set_succ {xs : List Value} {i : Nat} (h : i < xs.length) (v : Value) : (xs.set i v).take (i + 1) = xs.take i ++ [v] := by
  rw [List.take_succ_eq_append_getElem (by simpa using h), List.take_set_of_le (Nat.le_refl _)]
  simp

theorem handT_take (l : List ByteArray) (i : Nat) (h : l.length ≤ i) (h2 : i < l.length + 8) : (handT l).take (i + 1) = (handT l).take i ++ [.string ⟨#[33]⟩] := by
  have hlt : i < (handT l).length := by rw [handT_len]; exact h2
  rw [List.take_succ_eq_append_getElem hlt]
  have := handT_bang l i h h2
  rw [List.getElem?_eq_getElem hlt] at this
  rw [Option.some.inj this]

theorem handT_first (l : List ByteArray) : (handT l).take l.length = tcells l := by
  unfold handT tcells
  rw [List.map_append, List.take_left' (by simp)]

theorem srd_src {w : World} {l : List ByteArray} {B : Nat} {p : Addr} (h : SRd B w (some p) l) : ∀ j u, (tcells l)[j]? = some u → w.cell? (p.add j) = some u := by
  intro j u hu
  have hj : j < l.length := by rw [← tcells_len]; exact (List.getElem?_eq_some_iff.1 hu).1
  obtain ⟨b, off, e, _, c0⟩ := h j hj
  cases e
  have hadd : (⟨b, off, none⟩ : Addr).add j = ⟨b, off + j, none⟩ := by unfold Addr.add; split <;> simp_all
  rw [tcells_at l j hj] at hu
  cases hu
  rw [hadd]; exact c0

theorem made_row {w : World} {base g n : Nat} {E : TypeId} {k : Nat} {xs : List Value} (h : w.ownsRow base E k (.slice (some ⟨g, 0, none⟩) n n) n xs) : ∃ cur : List Value, w.heap[g]? = some (.cells cur.toArray E (0, 0)) ∧ cur.length = n * k := by
  rcases h.2 with ⟨h', _⟩ | ⟨g', cap', cur, h', _, hg, _, _, hcs, _⟩
  · simp at h'
  · simp only [Value.slice.injEq, Option.some.injEq, Addr.mk.injEq, and_true, true_and] at h'
    obtain ⟨rfl, rfl⟩ := h'
    exact ⟨cur.toList, by simpa using hg, by simpa using hcs⟩

set_option maxHeartbeats 3200000 in
theorem handedTexts_any (a : Option Addr) (cap : Nat) (l : List ByteArray) (w : World) (hr : SRd w.heap.size w a l) (hn : a = none → l.length = 0) (hl : l.length ≤ 8796093022208) :
    Calls Try.prog 31 #[.slice a l.length cap] w fun e w' => e = .returned (.slice (some ⟨w.heap.size, 0, none⟩) l.length (l.length + 8)) ∧ w'.heap[w.heap.size]? = some (.cells (handT l).toArray 9 (0, 0)) ∧ Below w.heap.size w w' := by
  obtain ⟨i0, hi, hz0, hz1, hz2⟩ := info_parts infoText
  have HR := hid hr
  have HNN := hid hn
  have hby : i0.bytes * (l.length + 8) ≤ 281474976710656 := by rw [hz2]; omega
  have hml : l.length + 8 ≤ maxLen := by unfold maxLen; omega
  have HN : Hid ((l.length : Int) + 8 = ((l.length + 8 : Nat) : Int)) := by show _ = _; omega
  have hbase : w.heap.size ≤ w.heap.size := Nat.le_refl _
  have hinf : (Try.prog.info? 9).map (·.size) = some 1 := by rw [hi]; simp [hz1]
  have HTL : Hid ((tcells l).length = l.length) := tcells_len l
  have HMN : Hid (l.length = Nat.min l.length (l.length + 8)) := (Nat.min_eq_left (Nat.le_add_right _ _)).symm
  obtain ⟨tc, htc⟩ : ∃ tc, tc = tcells l := ⟨_, rfl⟩
  have HTC := hid htc
  rw [← htc] at HTL
  have HONE : Hid (∀ v ∈ tc, v.oneCell' = true) := by rw [htc]; exact tcells_one l
  clear hr hn htc
  go_enter Try.func31, Try.ntmps31
  go_wp2_with (first
    | (at_make; refine wpList_make_full _ rfl (.tmp 9) (.tmp 9) 34 rfl _ 9 i0 _ 1 Try.underlying34 hi hz0 hz1 .i64 .i64 _ _ (l.length + 8) rfl rfl HN.out HN.out hby hml hbase ?_; intro w1 hrow hgr; have HG1 : Hid (Below w.heap.size w w1) := ⟨hgr.os, hgr.tape, hgr.output, hgr.size, fun k hk => hgr.block k hk (by simp)⟩; obtain ⟨cur, hcur, hcl⟩ := made_row hrow; have HCU := hid hcur; have HCL := hid hcl; clear hrow hgr hcur hcl)
    | ((refine wpList_copy_splice rfl (.tmp 11) (.tmp 12) 34 34 rfl 9 Try.underlying34 hinf _ a _ _ l.length cap rfl rfl w.heap.size 0 cur 9 HCU.out tc (HTL.out.trans HMN.out) (by
        intro hp
        rw [HTL.out] at hp
        obtain ⟨b, off, ha, hb, _⟩ := HR.out 0 hp
        refine ⟨rfl, _, ha, fun j v hv => ?_⟩
        have h2 := HR.out.later HG1.out
        rw [ha] at h2
        rw [HTC.out] at hv
        exact srd_src h2 j v hv) (by rw [HTL.out, HCL.out]; omega) HONE.out w.heap.size w HG1.out (Nat.le_refl _) ?_); intro w2 HR2 hb2; have HB2 := hid hb2; clear hb2))

  go_loopw [5] (fun i wr => ∃ (k : Nat) (xs : List Value), i = .int .i64 k ∧ l.length ≤ k ∧ k ≤ l.length + 8 ∧ Hid (wr.heap[w.heap.size]? = some (.cells xs.toArray 9 (0, 0)) ∧ xs.length = l.length + 8 ∧ xs.take k = (handT l).take k ∧ Below w.heap.size w wr)) (fun i _ => l.length + 8 - (intOf i).toNat)
  case atStart =>
    refine ⟨l.length, _, rfl, Nat.le_refl _, by omega, HR2.out, ?_, ?_, HB2.out⟩
    · rw [length_splice _ _ _ (by rw [HTL.out, HCL.out]; omega), HCL.out]; omega
    · unfold splice
      rw [List.take_zero, List.nil_append, List.take_left' HTL.out, handT_first, HTC.out]
  case round =>
    obtain ⟨k, xs, rfl, hk1, hk2, HH⟩ := hrel
    have hgw : w.heap.size < wr.heap.size := (Array.getElem?_eq_some_iff.1 HH.out.1).1
    by_cases hlt : k < l.length + 8
    · have i1 : (0 : Int) ≤ (k : Int) := by omega
      have i2 : (k : Int) < (l.length : Int) + 8 := by omega
      have z0 : wr.cell? ⟨w.heap.size, k, none⟩ = some (xs.getD k default) := row_cell HH.out.1 k (by rw [HH.out.2.1]; exact hlt)
      have f0 : wr.frozen? ⟨w.heap.size, k, none⟩ = false := row_frozen HH.out.1 k
      go_wp2_with fail
      refine ⟨⟨k + 1, _, by go_num, by omega, by omega, row_set1 HH.out.1 _, by rw [List.length_set]; exact HH.out.2.1, ?_, HH.out.2.2.2.setCell (p := ⟨w.heap.size, k, none⟩) (Nat.le_refl _) _⟩, by simp [intOf]; omega⟩
      rw [take_set_succ (by rw [HH.out.2.1]; exact hlt), HH.out.2.2.1, handT_take l k hk1 hlt]
    · have i2 : ¬ (k : Int) < (l.length : Int) + 8 := by omega
      obtain rfl : k = l.length + 8 := by omega
      have HX : Hid (xs = handT l) := by
        have h := HH.out.2.2.1
        rw [List.take_of_length_le (by rw [HH.out.2.1]; omega), List.take_of_length_le (by rw [handT_len]; omega)] at h
        exact h
      go_wp2_with fail
      go_ret
      exact ⟨rfl, by rw [← HX.out]; exact HH.out.1, HH.out.2.2.2⟩
theorem drop_set_succ {xs : List Value} {i : Nat} (v : Value) : (xs.set i v).drop (i + 1) = xs.drop (i + 1) := by
  rw [List.drop_set_of_lt (by omega)]

theorem drop_head {xs ys : List Value} {k : Nat} (h : xs.drop k = ys.drop k) : xs[k]? = ys[k]? ∧ xs.drop (k + 1) = ys.drop (k + 1) := by
  constructor
  · have := congrArg (fun z => z[0]?) h
    simpa using this
  · have := congrArg (fun z => z.drop 1) h
    simpa [List.drop_drop] using this

theorem Only.set1 {lo hi : Nat} {w w1 : World} (h : Only lo hi w w1) {g j : Nat} (hg : lo ≤ g) (hg2 : g < hi) (a : Value) : Only lo hi w (w1.setCell ⟨g, j, none⟩ a) :=
  ⟨h.os, h.tape, h.output, by rw [show (w1.setCell ⟨g, j, none⟩ a).heap.size = w1.heap.size by simp [World.setCell]]; exact h.size, fun k hk hj => by rw [setCell_block _ _ _ _ (by show k ≠ g; omega)]; exact h.block k hk hj⟩

set_option maxHeartbeats 3200000 in
theorem untouchedTexts_any (g : Nat) (a : Option Addr) (cap : Nat) (l : List ByteArray) (w : World) (hg : w.heap[g]? = some (.cells (handT l).toArray 9 (0, 0))) (hr : SRd g w a l) (hl : l.length ≤ 8796093022208) :
    Calls Try.prog 33 #[.slice (some ⟨g, 0, none⟩) l.length (l.length + 8), .slice a l.length cap] w fun e w' => e = .returned (.bool true) ∧ Only g (g + 1) w w' := by
  have HR := hid hr
  have HG := hid hg
  have hgw : g < w.heap.size := (Array.getElem?_eq_some_iff.1 hg).1
  clear hr hg
  go_enter Try.func33, Try.ntmps33
  go_wp2_with fail
  go_loopw [7, 8] (fun ok i wr => ∃ (k : Nat) (xs : List Value), ok = .bool true ∧ i = .int .i64 k ∧ k ≤ l.length + 8 ∧ Hid (wr.heap[g]? = some (.cells xs.toArray 9 (0, 0)) ∧ xs.length = l.length + 8 ∧ xs.drop k = (handT l).drop k ∧ Only g (g + 1) w wr)) (fun _ i _ => l.length + 8 - (intOf i).toNat)
  case atStart => exact ⟨0, _, rfl, rfl, Nat.zero_le _, HG.out, handT_len l, rfl, Only.refl _ _ _⟩
  case round =>
    obtain ⟨k, xs, rfl, rfl, hk, HH⟩ := hrel
    by_cases hlt : k < l.length + 8
    · have i1 : (0 : Int) ≤ (k : Int) := by omega
      have i2 : (k : Int) < (l.length : Int) + 8 := by omega
      have hgr : g < wr.heap.size := (Array.getElem?_eq_some_iff.1 HH.out.1).1
      have f0 : wr.frozen? ⟨g, k, none⟩ = false := row_frozen HH.out.1 k
      have z1 := (list_getD_cell HH.out.1 k).trans (drop_head HH.out.2.2.1).1
      have HE : Hid (∀ v : Value, ∃ xs' : List Value, (wr.setCell ⟨g, k, none⟩ v).heap[g]? = some (.cells xs'.toArray 9 (0, 0)) ∧ xs'.length = l.length + 8 ∧ xs'.drop (k + 1) = (handT l).drop (k + 1) ∧ Only g (g + 1) w (wr.setCell ⟨g, k, none⟩ v)) := fun v =>
        ⟨_, row_set1 HH.out.1 v, by rw [List.length_set]; exact HH.out.2.1, by rw [drop_set_succ]; exact (drop_head HH.out.2.2.1).2, HH.out.2.2.2.set1 (Nat.le_refl _) (by omega) v⟩
      by_cases hkl : k < l.length
      · have i3 : (k : Int) < (l.length : Int) := by omega
        rw [handT_text l k hkl] at z1
        obtain ⟨b, off, rfl, hb, e0⟩ := HR.out k hkl
        have e1 : wr.cell? ⟨b, off + k, none⟩ = some (.string l[k]) := (World.cell?_of_block (w := w) (HH.out.2.2.2.block b (by omega) (.inl hb))).trans e0
        have hbr : b < wr.heap.size := by omega
        clear e0
        go_wp2_with fail
        obtain ⟨xs', q⟩ := HE.out (.string ⟨#[98, 108, 111, 116]⟩)
        exact ⟨⟨k + 1, xs', rfl, by go_num, by omega, q⟩, by simp [intOf]; omega⟩
      · have i3 : ¬ (k : Int) < (l.length : Int) := by omega
        rw [handT_bang l k (by omega) hlt] at z1
        go_wp2_with fail
        obtain ⟨xs', q⟩ := HE.out (.string ⟨#[98, 108, 111, 116]⟩)
        exact ⟨⟨k + 1, xs', rfl, by go_num, by omega, q⟩, by simp [intOf]; omega⟩
    · have i2 : ¬ (k : Int) < (l.length : Int) + 8 := by omega
      go_wp2_with fail
      go_ret
      exact ⟨rfl, HH.out.2.2.2⟩
end Go.Proofs.Ytbmohenjphmlgaa

/- The walk of sharedStart (of the program). -/
namespace Go.Proofs.Ytbmohenjphmlgaa
open Go.RowKit
set_option maxRecDepth 100000

def toEnt (p : ByteArray × ByteArray) : Tr.Ent := ⟨p.1.data.toList, p.2.data.toList⟩
def ents (l : List (ByteArray × ByteArray)) : List Tr.Ent := l.map toEnt

theorem behindB_ents (p : ByteArray) (l : List (ByteArray × ByteArray)) : ents (behindB p l) = Tr.behind p.data.toList (ents l) := by
  unfold ents behindB Tr.behind
  induction l with
  | nil => rfl
  | cons x l ih =>
    rw [List.filterMap_cons, List.map_cons, List.filterMap_cons]
    by_cases hp : pre p x.1
    · rw [if_pos hp]
      have hp' : p.data.toList.isPrefixOf (toEnt x).dig = true := hp
      rw [if_pos hp', List.map_cons, ih]
      congr 1
      unfold toEnt
      rw [cutP_list hp, ba_len]
    · rw [if_neg hp]
      have hp' : ¬ p.data.toList.isPrefixOf (toEnt x).dig = true := hp
      rw [if_neg hp']
      exact ih

theorem shrink_end {t d t0 : List UInt8} (h1 : t <+: t0) (h2 : Tr.lcp t0 d <+: t) (h3 : t <+: d) : t = Tr.lcp t0 d :=
  List.IsPrefix.eq_of_length_le (Tr.lcp_most _ _ _ h1 h3) h2.length_le

theorem shrink_step {t d t0 : List UInt8} (h1 : t <+: t0) (h2 : Tr.lcp t0 d <+: t) (h3 : ¬ t <+: d) : 0 < t.length ∧ t.take (t.length - 1) <+: t0 ∧ Tr.lcp t0 d <+: t.take (t.length - 1) := by
  have hne : Tr.lcp t0 d ≠ t := fun h => h3 (h ▸ Tr.lcp_right _ _)
  have hlt : (Tr.lcp t0 d).length < t.length := by
    rcases Nat.lt_or_ge (Tr.lcp t0 d).length t.length with h | h
    · exact h
    · exact absurd (List.IsPrefix.eq_of_length_le h2 h) hne
  refine ⟨by omega, (List.take_prefix _ _).trans h1, ?_⟩
  rw [List.prefix_take_iff]
  exact ⟨h2, by omega⟩

theorem take_ents (l : List (ByteArray × ByteArray)) (k : Nat) (h : k < l.length) (s : List UInt8) : Tr.sharedFrom s (ents (l.take (k + 1))) = Tr.lcp (Tr.sharedFrom s (ents (l.take k))) l[k].1.data.toList := by
  unfold ents Tr.sharedFrom
  rw [List.take_succ_eq_append_getElem h, List.map_append, List.foldl_append]
  rfl

set_option maxHeartbeats 1600000 in
theorem sharedStart_any (a : Option Addr) (cap : Nat) (l : List (ByteArray × ByteArray)) (w : World) (hr : PRd w.heap.size w a l) (hl : l.length ≤ 1000000) (h0 : 0 < l.length) (hz : ∀ x ∈ l, x.1.size ≤ 1000000) : Calls Try.prog 97 #[.slice a l.length cap] w fun e w' => ∃ t : ByteArray, e = .returned (.string t) ∧ t.data.toList = Tr.shared (ents l) ∧ Below w.heap.size w w' := by
  have HR := hid hr
  have HC := hid (fun s p w => hasPrefix_any s p w)
  obtain ⟨b0, off0, rfl, hb0, c0, c1⟩ := hr 0 h0
  rw [Nat.zero_mul, Nat.add_zero] at c0
  have HS : Hid (Tr.shared (ents l) = Tr.sharedFrom l[0].1.data.toList (ents l)) := by
    cases l with
    | nil => simp at h0
    | cons x l => rfl
  have HZ := hid hz
  clear hr c1 hz
  have hint : (0 : Int) < (l.length : Int) := by omega
  go_enter Try.func97, Try.ntmps97
  go_wp2_with fail
  go_loopw [3, 12] (fun v i wr => ∃ (k : Nat) (t : ByteArray), v = .string t ∧ i = .int .i64 k ∧ k ≤ l.length ∧ Hid (t.data.toList = Tr.sharedFrom l[0].1.data.toList (ents (l.take k)) ∧ t.size ≤ 1000000 ∧ Below w.heap.size w wr)) (fun _ i _ => l.length - (intOf i).toNat)
  case atStart => exact ⟨0, l[0].1, rfl, rfl, Nat.zero_le _, rfl, HZ.out _ (List.getElem_mem h0), Below.refl _ _⟩
  case round =>
    obtain ⟨k, t0, rfl, rfl, hk, HH⟩ := hrel
    by_cases hlt : k < l.length
    · obtain ⟨b, off, hbo, hb, e0, e1⟩ := HR.out k hlt
      simp only [Option.some.injEq, Addr.mk.injEq, and_true] at hbo
      obtain ⟨rfl, rfl⟩ := hbo
      have f0 := (HH.out.2.2.cell (p := ⟨b0, off0 + k * 2, none⟩) hb).trans e0
      have f1 := (HH.out.2.2.cell (p := ⟨b0, off0 + k * 2 + 1, none⟩) hb).trans e1
      have i1 : (0 : Int) ≤ (k : Int) := by omega
      have i2 : (k : Int) < (l.length : Int) := by omega
      have HT := hid (take_ents l k hlt l[0].1.data.toList)
      clear e0 e1 c0
      go_wp2_with fail
      go_loopw [3] (fun v wx => ∃ t : ByteArray, v = .string t ∧ t.size ≤ 1000000 ∧ Hid (t.data.toList <+: t0.data.toList ∧ Tr.lcp t0.data.toList l[k].1.data.toList <+: t.data.toList) ∧ wx = wr.alloc (.cells #[.string l[k].1, .string l[k].2] 133)) (fun v _ => strLen v)
      case atStart => exact ⟨t0, rfl, HH.out.2.1, ⟨List.prefix_refl _, Tr.lcp_left _ _⟩, rfl⟩
      case round =>
        obtain ⟨t, rfl, hts, HP, rfl⟩ := hrel
        go_wp2_with fail
        refine (HC.out _ _ _).mono ?_
        rintro e w1 ⟨rfl, rfl⟩
        cases hp : pre t l[k].1 with
        | true =>
          have HE : Hid (t.data.toList = Tr.lcp t0.data.toList l[k].1.data.toList) := shrink_end HP.out.1 HP.out.2 (by unfold pre at hp; exact List.isPrefixOf_iff_prefix.1 hp)
          clear hp
          go_wp2_with fail
          exact ⟨⟨k + 1, t, rfl, by go_num, by omega, by rw [HT.out, ← HH.out.1]; exact HE.out, hts, HH.out.2.2.alloc HH.out.2.2.size _⟩, by simp [intOf]; omega⟩
        | false =>
          have HE := hid (shrink_step HP.out.1 HP.out.2 (by unfold pre at hp; rw [← List.isPrefixOf_iff_prefix, hp]; decide))
          have hpos : 0 < t.size := by have := HE.out.1; rwa [ba_len] at this
          have j1 : (0 : Int) ≤ (t.size : Int) - 1 := by omega
          have j2 : (t.size : Int) - 1 ≤ (t.size : Int) := by omega
          clear hp
          go_wp2_with fail
          refine ⟨⟨_, rfl, ?_, ?_, trivial⟩, ?_⟩
          · rw [ByteArray.size_extract]; omega
          · rw [Hid, Lib.extract_data, List.drop_zero, Nat.sub_zero]
            have := HE.out.2
            rw [ba_len] at this
            exact this
          · show (t.extract 0 (t.size - 1)).size < t.size
            rw [ByteArray.size_extract]; omega
    · have i2 : ¬ (k : Int) < (l.length : Int) := by omega
      have HK : Hid (Tr.sharedFrom l[0].1.data.toList (ents (l.take k)) = Tr.sharedFrom l[0].1.data.toList (ents l)) := by rw [Hid, List.take_of_length_le (by omega)]
      go_wp2_with fail
      go_ret
      exact ⟨t0, rfl, by rw [HH.out.1, HK.out, HS.out], HH.out.2.2⟩
end Go.Proofs.Ytbmohenjphmlgaa

/- Plain mathematics of trees: a node hangs on its entries, not on their order; a table's root hangs on what it has for each key. Nothing of the program is in here. -/
namespace Go.Proofs.Ytbmohenjphmlgaa
set_option maxRecDepth 100000

namespace Tr

/-- No two entries have the same digits. -/
def Apart (l : List Ent) : Prop := l.Pairwise fun a b => a.dig ≠ b.dig

theorem Apart.perm {l l' : List Ent} (ha : Apart l) (h : l.Perm l') : Apart l' := (h.pairwise_iff (fun h => Ne.symm h)).1 ha

theorem behind_some {s : List UInt8} {a b : Ent} (h : (if s.isPrefixOf a.dig then some (⟨a.dig.drop s.length, a.val⟩ : Ent) else none) = some b) : a.dig = s ++ b.dig ∧ a.val = b.val := by
  by_cases hp : s.isPrefixOf a.dig = true
  · rw [if_pos hp] at h
    obtain ⟨r, hr⟩ := List.isPrefixOf_iff_prefix.1 hp
    cases h
    refine ⟨?_, rfl⟩
    show a.dig = s ++ a.dig.drop s.length
    rw [← hr, List.drop_left]
  · rw [if_neg hp] at h; cases h

theorem Apart.behind {l : List Ent} {s : List UInt8} (h : Apart l) : Apart (behind s l) := by
  unfold Tr.behind Apart
  rw [List.pairwise_filterMap]
  refine List.Pairwise.imp ?_ h
  intro a a' hne b hb b' hb' he
  have h1 := behind_some hb
  have h2 := behind_some hb'
  exact hne (by rw [h1.1, h2.1, he])

theorem behind_perm {l l' : List Ent} (s : List UInt8) (h : l.Perm l') : (behind s l).Perm (behind s l') := h.filterMap _

theorem prefix_antisymm {a b : List UInt8} (h1 : a <+: b) (h2 : b <+: a) : a = b := List.IsPrefix.eq_of_length_le h1 h2.length_le

theorem shared_perm {l l' : List Ent} (h : l.Perm l') : shared l = shared l' := by
  by_cases hl : l = []
  · subst hl
    rw [List.nil_perm.1 h]
  · have hl' : l' ≠ [] := fun h0 => by subst h0; exact hl (List.perm_nil.1 h)
    refine prefix_antisymm ?_ ?_
    · rw [shared_iff _ _ hl']
      intro e he
      exact shared_pre l e (h.mem_iff.2 he)
    · rw [shared_iff _ _ hl]
      intro e he
      exact shared_pre l' e (h.mem_iff.1 he)

theorem valOf_from (l : List Ent) : ∀ v0 : List UInt8, (∀ e ∈ l, e.dig ≠ []) → l.foldl (fun v e => if e.dig = [] then e.val else v) v0 = v0 := by
  induction l with
  | nil => intro v0 _; rfl
  | cons x l ih =>
    intro v0 h
    rw [List.foldl_cons, if_neg (h x (List.mem_cons_self ..))]
    exact ih v0 fun e he => h e (List.mem_cons_of_mem _ he)

theorem valOf_none {l : List Ent} (h : ∀ e ∈ l, e.dig ≠ []) : valOf l = [] := valOf_from l [] h

theorem valOf_some {l : List Ent} (ha : Apart l) {e : Ent} (he : e ∈ l) (h0 : e.dig = []) : valOf l = e.val := by
  have key : ∀ (l : List Ent) (v0 : List UInt8), Apart l → e ∈ l → l.foldl (fun v e => if e.dig = [] then e.val else v) v0 = e.val := by
    intro l
    induction l with
    | nil => intro v0 _ h; simp at h
    | cons x l ih =>
      intro v0 ha he
      have ha' := List.pairwise_cons.1 ha
      rw [List.foldl_cons]
      rcases List.mem_cons.1 he with rfl | he
      · rw [if_pos h0]
        exact valOf_from l _ fun y hy hy0 => ha'.1 y hy (h0.trans hy0.symm)
      · exact ih _ ha'.2 he
  exact key l [] ha he

theorem valOf_perm {l l' : List Ent} (ha : Apart l) (h : l.Perm l') : valOf l = valOf l' := by
  by_cases hx : ∃ e ∈ l, e.dig = []
  · obtain ⟨e, he, h0⟩ := hx
    rw [valOf_some ha he h0, valOf_some (ha.perm h) (h.mem_iff.1 he) h0]
  · have h1 : ∀ e ∈ l, e.dig ≠ [] := fun e he h0 => hx ⟨e, he, h0⟩
    rw [valOf_none h1, valOf_none fun e he => h1 e (h.mem_iff.2 he)]

/-- The node of entries hangs on the entries, not on their order. -/
theorem node_perm : ∀ (f : Nat) (l l' : List Ent), Apart l → l.Perm l' → node f l = node f l' := by
  intro f
  induction f with
  | zero => intro l l' _ _; rfl
  | succ f ih =>
    intro l l' ha h
    unfold node nodeOf
    match l, l', h, ha with
    | [], l', h, _ => rw [List.nil_perm.1 h]
    | [e], l', h, _ => rw [List.singleton_perm.1 h]
    | a :: b :: r, [], h, _ => have := h.length_eq; simp at this
    | a :: b :: r, [x], h, _ => have := h.length_eq; simp at this
    | a :: b :: r, c :: d :: s, h, ha =>
      show (if shared (a :: b :: r) = [] then _ else _) = (if shared (c :: d :: s) = [] then _ else _)
      rw [shared_perm h, valOf_perm ha h]
      by_cases hs : shared (c :: d :: s) = []
      · rw [if_pos hs, if_pos hs]
        congr 2
        refine List.map_congr_left fun n _ => ?_
        rw [ih _ _ ha.behind (behind_perm _ h)]
      · rw [if_neg hs, if_neg hs, ih _ _ ha.behind (behind_perm _ h)]

/-- What pairs have for a key: the value of the last one with it. -/
def value (ps : List (List UInt8 × List UInt8)) (k : List UInt8) : List UInt8 := ps.foldl (fun v p => if p.1 = k then p.2 else v) []

theorem value_from (ps : List (List UInt8 × List UInt8)) (k : List UInt8) : ∀ v0, k ∉ ps.map (·.1) → ps.foldl (fun v p => if p.1 = k then p.2 else v) v0 = v0 := by
  induction ps with
  | nil => intro v0 _; rfl
  | cons p ps ih =>
    intro v0 h
    rw [List.map_cons, List.mem_cons, not_or] at h
    rw [List.foldl_cons, if_neg (Ne.symm h.1)]
    exact ih v0 h.2

theorem value_any (ps : List (List UInt8 × List UInt8)) (k : List UInt8) : ∀ v0 v1, k ∈ ps.map (·.1) → ps.foldl (fun v p => if p.1 = k then p.2 else v) v0 = ps.foldl (fun v p => if p.1 = k then p.2 else v) v1 := by
  induction ps with
  | nil => intro v0 v1 h; simp at h
  | cons p ps ih =>
    intro v0 v1 h
    rw [List.foldl_cons, List.foldl_cons]
    by_cases hp : p.1 = k
    · rw [if_pos hp, if_pos hp]
    · rw [if_neg hp, if_neg hp]
      rw [List.map_cons, List.mem_cons] at h
      exact ih _ _ (h.resolve_left (Ne.symm hp))

theorem value_cons (p : List UInt8 × List UInt8) (ps : List (List UInt8 × List UInt8)) (k : List UInt8) : value (p :: ps) k = if k ∈ ps.map (·.1) then value ps k else if p.1 = k then p.2 else [] := by
  unfold value
  rw [List.foldl_cons]
  by_cases hk : k ∈ ps.map (·.1)
  · rw [if_pos hk]; exact value_any _ _ _ _ hk
  · rw [if_neg hk]; exact value_from _ _ _ hk

theorem value_not {ps : List (List UInt8 × List UInt8)} {k : List UInt8} (h : k ∉ ps.map (·.1)) : value ps k = [] := value_from ps k [] h

theorem value_append (a b : List (List UInt8 × List UInt8)) (k : List UInt8) : value (a ++ b) k = if k ∈ b.map (·.1) then value b k else value a k := by
  unfold value
  rw [List.foldl_append]
  by_cases hk : k ∈ b.map (·.1)
  · rw [if_pos hk]; exact value_any _ _ _ _ hk
  · rw [if_neg hk]; exact value_from _ _ _ hk

theorem digits_inj : ∀ {a b : List UInt8}, digits a = digits b → a = b
  | [], [], _ => rfl
  | [], b :: s, h => by rw [digits_cons] at h; simp [digits] at h
  | a :: r, [], h => by rw [digits_cons] at h; simp [digits] at h
  | a :: r, b :: s, h => by
    rw [digits_cons, digits_cons, List.cons.injEq, List.cons.injEq] at h
    obtain ⟨h1, h2, h3⟩ := h
    have ha : a.toNat < 256 := a.toNat_lt
    have hb : b.toNat < 256 := b.toNat_lt
    have e1 := congrArg UInt8.toNat h1
    have e2 := congrArg UInt8.toNat h2
    rw [UInt8.toNat_ofNat', UInt8.toNat_ofNat'] at e1 e2
    rw [digits_inj h3, UInt8.toNat_inj.1 (by omega : a.toNat = b.toNat)]

theorem table_mem (ps : List (List UInt8 × List UInt8)) (e : Ent) : e ∈ table ps ↔ ∃ k, e = ⟨digits k, value ps k⟩ ∧ value ps k ≠ [] := by
  induction ps with
  | nil => simp [table, value]
  | cons p ps ih =>
    have hval : ∀ k, k ∈ ps.map (·.1) → value (p :: ps) k = value ps k := fun k hk => by rw [value_cons, if_pos hk]
    have hin : ∀ k, value ps k ≠ [] → k ∈ ps.map (·.1) := fun k hk => Classical.byContradiction fun h => hk (value_not h)
    have hnew : ∀ k, k ∉ ps.map (·.1) → value (p :: ps) k = if p.1 = k then p.2 else [] := fun k hk => by rw [value_cons, if_neg hk]
    rw [table]
    by_cases hc : p.1 ∈ ps.map (·.1) ∨ p.2 = []
    · rw [if_pos hc, ih]
      constructor
      · rintro ⟨k, rfl, hk⟩
        exact ⟨k, by rw [hval k (hin k hk)], by rw [hval k (hin k hk)]; exact hk⟩
      · rintro ⟨k, rfl, hk⟩
        by_cases hm : k ∈ ps.map (·.1)
        · rw [hval k hm] at hk ⊢; exact ⟨k, rfl, hk⟩
        · rw [hnew k hm] at hk
          by_cases hp : p.1 = k
          · rw [if_pos hp] at hk
            rcases hc with hc | hc
            · exact absurd (hp ▸ hc) hm
            · exact absurd hc hk
          · rw [if_neg hp] at hk; exact absurd rfl hk
    · rw [not_or] at hc
      rw [if_neg (not_or.2 hc), List.mem_cons, ih]
      constructor
      · rintro (rfl | ⟨k, rfl, hk⟩)
        · exact ⟨p.1, by rw [hnew _ hc.1, if_pos rfl], by rw [hnew _ hc.1, if_pos rfl]; exact hc.2⟩
        · exact ⟨k, by rw [hval k (hin k hk)], by rw [hval k (hin k hk)]; exact hk⟩
      · rintro ⟨k, rfl, hk⟩
        by_cases hm : k ∈ ps.map (·.1)
        · rw [hval k hm] at hk ⊢; exact .inr ⟨k, rfl, hk⟩
        · rw [hnew k hm] at hk ⊢
          by_cases hp : p.1 = k
          · rw [if_pos hp, hp]; exact .inl rfl
          · rw [if_neg hp] at hk; exact absurd rfl hk

theorem table_apart (ps : List (List UInt8 × List UInt8)) : Apart (table ps) := by
  induction ps with
  | nil => exact List.Pairwise.nil
  | cons p ps ih =>
    rw [table]
    by_cases hc : p.1 ∈ ps.map (·.1) ∨ p.2 = []
    · rw [if_pos hc]; exact ih
    · rw [if_neg hc]
      refine List.pairwise_cons.2 ⟨fun e he hd => ?_, ih⟩
      obtain ⟨k, rfl, hk⟩ := (table_mem ps e).1 he
      have : p.1 = k := digits_inj hd
      exact hc (.inl (this ▸ Classical.byContradiction fun h => hk (value_not h)))

theorem Apart.nodup {l : List Ent} (h : Apart l) : l.Nodup := List.Pairwise.imp (fun h he => h (by rw [he])) h

/-- Two lists of pairs that have the same for each key have the same node. -/
theorem table_ext (f : Nat) (ps qs : List (List UInt8 × List UInt8)) (h : ∀ k, value ps k = value qs k) : node f (table ps) = node f (table qs) := by
  refine node_perm f _ _ (table_apart ps) ?_
  rw [List.perm_ext_iff_of_nodup (table_apart ps).nodup (table_apart qs).nodup]
  intro e
  rw [table_mem, table_mem]
  constructor
  · rintro ⟨k, rfl, hk⟩; exact ⟨k, by rw [h k], by rw [← h k]; exact hk⟩
  · rintro ⟨k, rfl, hk⟩; exact ⟨k, by rw [h k], by rw [h k]; exact hk⟩

end Tr
end Go.Proofs.Ytbmohenjphmlgaa
