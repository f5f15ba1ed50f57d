/- The walk of untouchedItem (of the statements' own): what was handed in reads as it did; then its owner writes over it, and over nothing else. -/
import Derived.Test.YtplfjengfhijhaaHanded
namespace Go.Proofs.Ytplfjengfhijhaa
open Go.RowKit

/-- Of what was there nothing has turned but blocks from lo on and below hi. -/
structure Only (lo hi : Nat) (w w' : World) : Prop where
  os : w'.os = w.os
  tape : w'.tape = w.tape
  output : w'.output = w.output
  size : w.heap.size ≤ w'.heap.size
  block : ∀ k, k < w.heap.size → (k < lo ∨ hi ≤ k) → w'.heap[k]? = w.heap[k]?

theorem Only.below {lo hi : Nat} {w w' : World} (h : Only lo hi w w') (hl : lo ≤ w.heap.size) : Below lo w w' := ⟨h.os, h.tape, h.output, h.size, fun k hk => h.block k (by omega) (.inl hk)⟩

theorem Only.refl (lo hi : Nat) (w : World) : Only lo hi w w := ⟨rfl, rfl, rfl, Nat.le_refl _, fun _ _ _ => rfl⟩

theorem Only.trans {lo hi : Nat} {a b c : World} (h : Only lo hi a b) (k : Only lo hi b c) : Only lo hi a c :=
  ⟨k.os.trans h.os, k.tape.trans h.tape, k.output.trans h.output, Nat.le_trans h.size k.size, fun i hi hj => (k.block i (Nat.lt_of_lt_of_le hi h.size) hj).trans (h.block i hi hj)⟩

theorem Only.wider {lo hi lo' hi' : Nat} {w w' : World} (h : Only lo hi w w') (h1 : lo' ≤ lo) (h2 : hi ≤ hi') : Only lo' hi' w w' :=
  ⟨h.os, h.tape, h.output, h.size, fun k hk hj => h.block k hk (by omega)⟩

theorem Only.of_below {lo hi : Nat} {w w' : World} (h : Below w.heap.size w w') : Only lo hi w w' := ⟨h.os, h.tape, h.output, h.size, fun k hk _ => h.block k hk⟩

theorem Only.put {lo hi : Nat} {w w1 : World} (h : Only lo hi w w1) {g j : Nat} (hg : lo ≤ g) (hg2 : g < hi) (a b c : Value) :
    Only lo hi w (((w1.setCell ⟨g, j * 3, none⟩ a).setCell ⟨g, j * 3 + 1, none⟩ b).setCell ⟨g, j * 3 + 2, none⟩ c) :=
  ⟨h.os, h.tape, h.output, by rw [put_size]; exact h.size, fun k hk hj => by rw [put_other (by omega)]; exact h.block k hk hj⟩

/-- What is still to be looked at from the k-th place on. -/
def Unt (E : TypeId) (n : Nat) (t : Itm) (g lo hi k : Nat) (L H : Nat → Nat) (wr : World) (xs : List Value) : Prop :=
  wr.heap[g]? = some (.cells xs.toArray E (0, 0)) ∧ xs.length = (t.items.length + 8) * 3 ∧
  (∀ i (h : i < t.items.length), k ≤ i → lo ≤ L i ∧ H i ≤ hi ∧ (g < L i ∨ H i ≤ g) ∧ Hand E wr n (L i) (H i) (tri xs i) t.items[i]) ∧
  (∀ i, t.items.length ≤ i → k ≤ i → i < t.items.length + 8 → tri xs i = bang)

theorem unt_step {E : TypeId} {n : Nat} {t : Itm} {g lo hi k : Nat} {L H : Nat → Nat} {wr w1 : World} {xs : List Value} (h : Unt E n t g lo hi k L H wr xs) (hk : k < t.items.length) (hg : g < wr.heap.size) (hhi : hi ≤ wr.heap.size)
    (hLH : ∀ i j, i < j → j < t.items.length → H i ≤ L j) (ho : Only (L k) (H k) wr w1) (a b c : Value) :
    ∃ xs', Unt E n t g lo hi (k + 1) L H (((w1.setCell ⟨g, k * 3, none⟩ a).setCell ⟨g, k * 3 + 1, none⟩ b).setCell ⟨g, k * 3 + 2, none⟩ c) xs' := by
  obtain ⟨h1, h2, h3, h4⟩ := h
  obtain ⟨p1, p2, p3, _⟩ := h3 k hk (Nat.le_refl _)
  refine ⟨put3 xs k a b c, row_put (by rw [ho.block g hg (by omega)]; exact h1) a b c, by rw [put3_len]; exact h2, ?_, ?_⟩
  · intro i hi' hik
    obtain ⟨q1, q2, q3, q4⟩ := h3 i hi' (by omega)
    refine ⟨q1, q2, q3, ?_⟩
    rw [tri_put_other _ _ _ _ _ _ (by omega)]
    refine hand_frame _ _ _ _ _ (fun j hj1 hj2 => ?_) q4
    rw [put_other (by omega)]
    have := hLH k i (by omega) hi'
    exact ho.block j (by omega) (by omega)
  · intro i hi1 hi2 hi3
    rw [tri_put_other _ _ _ _ _ _ (by omega)]
    exact h4 i hi1 (by omega) hi3

theorem unt_spare {E : TypeId} {n : Nat} {t : Itm} {g lo hi k : Nat} {L H : Nat → Nat} {wr : World} {xs : List Value} (h : Unt E n t g lo hi k L H wr xs) (hk : t.items.length ≤ k) (a b c : Value) :
    ∃ xs', Unt E n t g lo hi (k + 1) L H (((wr.setCell ⟨g, k * 3, none⟩ a).setCell ⟨g, k * 3 + 1, none⟩ b).setCell ⟨g, k * 3 + 2, none⟩ c) xs' := by
  obtain ⟨h1, h2, h3, h4⟩ := h
  refine ⟨put3 xs k a b c, row_put h1 a b c, by rw [put3_len]; exact h2, fun i hi' hik => by omega, ?_⟩
  intro i hi1 hi2 hi3
  rw [tri_put_other _ _ _ _ _ _ (by omega)]
  exact h4 i hi1 (by omega) hi3

/-- The three cells at a place of the row. -/
theorem unt_cells {E : TypeId} {n : Nat} {t : Itm} {g lo hi k : Nat} {L H : Nat → Nat} {wr w1 : World} {xs : List Value} (h : Unt E n t g lo hi k L H wr xs) (hb : w1.heap[g]? = wr.heap[g]?) (j : Nat) (hj : j < t.items.length + 8) {a b c : Value} (ht : tri xs j = .agg #[a, b, c]) :
    w1.cell? ⟨g, j * 3, none⟩ = some a ∧ w1.cell? ⟨g, j * 3 + 1, none⟩ = some b ∧ w1.cell? ⟨g, j * 3 + 2, none⟩ = some c ∧
    w1.frozen? ⟨g, j * 3, none⟩ = false ∧ w1.frozen? ⟨g, j * 3 + 1, none⟩ = false ∧ w1.frozen? ⟨g, j * 3 + 2, none⟩ = false := by
  have h1 : w1.heap[g]? = some (.cells xs.toArray E (0, 0)) := by rw [hb]; exact h.1
  have h2 := h.2.1
  unfold tri at ht
  simp at ht
  obtain ⟨e0, e1, e2⟩ := ht
  have e : 3 * j = j * 3 := Nat.mul_comm 3 j
  rw [e] at e0 e1 e2
  refine ⟨?_, ?_, ?_, row_frozen h1 _, row_frozen h1 _, row_frozen h1 _⟩
  · rw [row_cell h1 _ (by omega), ← e0]; simp
  · rw [row_cell h1 _ (by omega), ← e1]; simp
  · rw [row_cell h1 _ (by omega), ← e2]; simp

theorem hand_drawn {E : TypeId} {wr : World} {n lo hi : Nat} {v : Value} {t : Itm} (nq : Nat) (h : Hand E wr n lo hi v t) : Hand E (wr.drewN nq).drew n lo hi v t :=
  hand_frame (w := wr) (w' := (wr.drewN nq).drew) n lo hi v t (fun _ _ _ => rfl) h

theorem rep_drawn {B : Nat} {wr : World} {n : Nat} {v : Value} {t : Itm} (nq : Nat) (h : Rep B wr n v t) : Rep B (wr.drewN nq).drew n v t :=
  rep_frame (w := wr) (w' := (wr.drewN nq).drew) ⟨rfl, rfl, rfl, Nat.le_refl _, fun _ _ => rfl⟩ n v t h

theorem only_undrawn {lo hi : Nat} {wr w' : World} {nq : Nat} (h : Only lo hi (wr.drewN nq).drew w') : Only lo hi wr w' := ⟨h.os, h.tape, h.output, h.size, h.block⟩

set_option maxRecDepth 100000 in
set_option maxHeartbeats 1600000 in
theorem untouched_any (n : Nat) : ∀ (v v2 : Value) (t : Itm) (w : World) (lo hi m : Nat), Hand 24 w n lo hi v t → hi ≤ w.heap.size → Rep lo w m v2 t → Itm.wt t ≤ 1000000000 →
    Calls Try.prog 9 #[v, v2] w fun e w' => e = .returned (.bool true) ∧ Only lo hi w w' := by
  induction n with
  | zero => intro v v2 t w lo hi m h; exact h.elim
  | succ n ih =>
    intro v v2 t w lo hi m hhand hhi hrep hwt
    cases m with
    | zero => exact hrep.elim
    | succ m =>
    obtain ⟨g, xs0, L, H, rfl, hlo, hgh, hrow, hxl, hkid, hLH, hsp⟩ := hhand
    obtain ⟨a, cap, rfl, hm, hkids⟩ := hrep
    have hlen : t.items.length ≤ 100000000 := by have := items_wt t; omega
    have HK := hid hkids
    have IH := hid ih
    have HWT := hid hwt
    have HLH := hid hLH
    have HU0 : Hid (Unt 24 n t g lo hi 0 L H w xs0) := ⟨hrow, hxl, fun i h _ => hkid i h, fun i h1 _ h2 => hsp i h1 h2⟩
    clear hkids ih hwt hrow hxl hkid hLH hsp hm
    go_enter Try.func9, Try.ntmps9
    go_wp2_with fail
    go_loopw [7, 8] (fun ok i wr => ∃ (k : Nat) (xs : List Value), ok = .bool true ∧ i = .int .i64 k ∧ k ≤ t.items.length ∧ Hid (Unt 24 n t g lo hi k L H wr xs ∧ Only lo hi w wr ∧ w.heap.size + 2 ≤ wr.heap.size ∧ wr.cell? ⟨w.heap.size + 1, 2, none⟩ = some (.slice a t.items.length cap))) (fun _ i _ => t.items.length - (intOf i).toNat)
    case atStart =>
      have hb1 : Below w.heap.size w ((w.alloc (.cells #[.bool t.list, .string ⟨t.bytes.toArray⟩, .slice (some ⟨g, 0, none⟩) t.items.length (t.items.length + 8)] 24)).alloc (.cells #[.bool t.list, .string ⟨t.bytes.toArray⟩, .slice a t.items.length cap] 24)) := ((Below.refl _ _).alloc (Nat.le_refl _) _).alloc (by simp) _
      obtain ⟨u1, u2, u3, u4⟩ := HU0.out
      exact ⟨0, xs0, rfl, rfl, Nat.zero_le _, ⟨by rw [hb1.block g (by omega)]; exact u1, u2, fun i h h' => ⟨(u3 i h h').1, (u3 i h h').2.1, (u3 i h h').2.2.1, hand_frame _ _ _ _ _ (fun k _ hk => hb1.block k (by have := (u3 i h h').2.1; omega)) (u3 i h h').2.2.2⟩, u4⟩, Only.of_below hb1, by simp, by simp⟩
    case round =>
      obtain ⟨k, xs, rfl, rfl, hk, HH⟩ := hrel
      have x2 := HH.out.2.2.2
      by_cases hlt : k < t.items.length
      · obtain ⟨b, off, c0, c1, c2, rfl, hbl, e0, e1, e2, hr⟩ := HK.out k hlt
        obtain ⟨a2, cap2, rfl, rfl, rfl⟩ := rep_shape hr
        obtain ⟨p1, p2, p3, p4⟩ := HH.out.1.2.2.1 k hlt (Nat.le_refl _)
        obtain ⟨gk, hgk⟩ := hand_shape p4
        obtain ⟨r0, r1, r2, z0, z1, z2⟩ := unt_cells HH.out.1 rfl k (by omega) hgk
        have hbw : ∀ o, wr.cell? ⟨b, o, none⟩ = w.cell? ⟨b, o, none⟩ := fun o => World.cell?_of_block (HH.out.2.1.block b (by omega) (.inl hbl))
        have f0 := (hbw (off + k * 3)).trans e0
        have f1 := (hbw (off + k * 3 + 1)).trans e1
        have f2 := (hbw (off + k * 3 + 2)).trans e2
        have hkw : Itm.wt t.items[k] ≤ 1000000000 := by have := Itm.kid_wt t k hlt; have := HWT.out; omega
        have hkl : t.items[k].items.length ≤ 100000000 := by have := items_wt t.items[k]; omega
        have HRK : Hid (Rep lo wr m (.agg #[.bool t.items[k].list, .string ⟨t.items[k].bytes.toArray⟩, .slice a2 t.items[k].items.length cap2]) t.items[k]) := rep_frame (HH.out.2.1.below (by omega)) _ _ _ hr
        rw [hgk] at p4
        have hhw : H k ≤ wr.heap.size := by have := HH.out.2.2.1; omega
        have HC : Hid (∀ nq, Calls Try.prog 9 #[.agg #[.bool t.items[k].list, .string ⟨t.items[k].bytes.toArray⟩, .slice (some ⟨gk, 0, none⟩) t.items[k].items.length (t.items[k].items.length + 8)], .agg #[.bool t.items[k].list, .string ⟨t.items[k].bytes.toArray⟩, .slice a2 t.items[k].items.length cap2]] (wr.drewN nq).drew fun e w' => e = .returned (.bool true) ∧ Only (L k) (H k) wr w') := fun nq =>
          (IH.out _ _ t.items[k] (wr.drewN nq).drew (L k) (H k) m (hand_drawn nq p4) hhw (rep_drawn nq (rep_wider p1 _ _ _ HRK.out)) hkw).mono fun e w' h => ⟨h.1, only_undrawn h.2⟩
        have HP := hid (And.intro p1 (And.intro p2 p3))
        have hgw : g < wr.heap.size := by have := HH.out.2.2.1; omega
        have HS : Hid (∀ w2, Only (L k) (H k) wr w2 → (w2.cell? ⟨g, k * 3, none⟩ = some (.bool t.items[k].list) ∧ w2.cell? ⟨g, k * 3 + 1, none⟩ = some (.string ⟨t.items[k].bytes.toArray⟩) ∧ w2.cell? ⟨g, k * 3 + 2, none⟩ = some (.slice (some ⟨gk, 0, none⟩) t.items[k].items.length (t.items[k].items.length + 8)) ∧ w2.frozen? ⟨g, k * 3, none⟩ = false ∧ w2.frozen? ⟨g, k * 3 + 1, none⟩ = false ∧ w2.frozen? ⟨g, k * 3 + 2, none⟩ = false)) := fun w2 ho =>
          unt_cells HH.out.1 (ho.block g hgw (by omega)) k (by omega) hgk
        have hcap : ¬ ((t.items[k].items.length : Int) + 8 < (t.items[k].items.length : Int) + 8) := by omega
        clear e0 e1 e2 hr p1 p2 p3 p4 hbw hgk
        go_wp2_with fail
        go_quiet (fail)
        go_wp2_with fail
        go_region_with (go_at_call 9; refine (HC.out _).mono ?_; rintro e w2 ⟨rfl, honly⟩; obtain ⟨s0, s1, s2, y0, y1, y2⟩ := HS.out w2 honly)
        all_goals
          go_wp2_with fail
          obtain ⟨xs', hu⟩ := unt_step HH.out.1 hlt hgw (by have := HH.out.2.2.1; omega) HLH.out honly (.bool false) (.string ⟨#[98, 108, 111, 116]⟩) (.slice none 0 0)
          refine ⟨⟨k + 1, xs', rfl, by go_num, by omega, hu, (HH.out.2.1.trans (honly.wider HP.out.1 HP.out.2.1)).put hlo hgh _ _ _, ?_, ?_⟩, by simp [intOf]; omega⟩
          · rw [put_size]; exact Nat.le_trans HH.out.2.2.1 honly.size
          · have hq := HH.out.2.2.1
            rw [← HH.out.2.2.2]
            refine World.cell?_of_block ?_
            show _ = wr.heap[w.heap.size + 1]?
            have hne : w.heap.size + 1 ≠ g := by omega
            have hHk : H k ≤ w.heap.size + 1 := by have := HP.out.2.1; omega
            have hlw : w.heap.size + 1 < wr.heap.size := by omega
            rw [put_other hne]
            exact honly.block (w.heap.size + 1) hlw (.inr hHk)
      · have HKE := hid (show k = t.items.length by omega)
        go_wp2_with fail
        go_loopw [7, 10] (fun ok i wi => ∃ (j : Nat) (xs : List Value), ok = .bool true ∧ i = .int .i64 j ∧ j ≤ t.items.length + 8 ∧ Hid (t.items.length ≤ j ∧ Unt 24 n t g lo hi j L H wi xs ∧ Only lo hi w wi)) (fun _ i _ => t.items.length + 8 - (intOf i).toNat)
        case atStart => exact ⟨t.items.length, xs, rfl, rfl, by omega, Nat.le_refl _, by have := HH.out.1; rw [HKE.out] at this; exact this, HH.out.2.1⟩
        case round =>
          obtain ⟨j, xs2, rfl, rfl, hj, HJ⟩ := hrel
          by_cases hlt2 : j < t.items.length + 8
          · have hlt2' : (j : Int) < (t.items.length : Int) + 8 := by omega
            obtain ⟨r0, r1, r2, z0, z1, z2⟩ := unt_cells HJ.out.2.1 rfl j hlt2 (HJ.out.2.1.2.2.2 j HJ.out.1 (Nat.le_refl _) hlt2)
            go_wp2_with fail
            obtain ⟨xs', hu⟩ := unt_spare HJ.out.2.1 HJ.out.1 (.bool false) (.string ⟨#[98, 108, 111, 116]⟩) (.slice none 0 0)
            exact ⟨⟨j + 1, xs', rfl, by go_num, by omega, by have := HJ.out.1; omega, hu, HJ.out.2.2.put hlo hgh _ _ _⟩, by simp [intOf]; omega⟩
          · have hlt2' : ¬ (j : Int) < (t.items.length : Int) + 8 := by omega
            go_wp2_with fail
            go_ret
            exact ⟨rfl, HJ.out.2.2⟩
end Go.Proofs.Ytplfjengfhijhaa
