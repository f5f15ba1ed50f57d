/- Part 6 of a proof: what the last text needs. -/
import Derived.Test.YtbmohenjphmlgaaPart5
import Derived.Test.YtbmohenjphmlgaaRows
import Derived.ProofKit
import Derived.OpenShut
import Derived.ShutString
import Derived.ChangeOld
import Derived.JoinedCond
import Derived.Lib.SmallJoins
/- The walk of untouchedItem (of the statements' own): what was handed in reads as it did; then its owner writes over it, and over nothing else. -/
namespace Go.Proofs.Ytbmohenjphmlgaa
open Go.RowKit
set_option maxRecDepth 100000

/-- Of what was there nothing has turned but blocks from lo on and below hi. -/
structure Only (lo hi : Nat) (w w' : World) : Prop where
  os : w'.os = w.os
  tape : w'.tape = w.tape
  output : w'.output = w.output
  size : w.heap.size ≤ w'.heap.size
  block : ∀ k, k < w.heap.size → (k < lo ∨ hi ≤ k) → w'.heap[k]? = w.heap[k]?

theorem Only.below {lo hi : Nat} {w w' : World} (h : Only lo hi w w') (hl : lo ≤ w.heap.size) : Below lo w w' := ⟨h.os, h.tape, h.output, h.size, fun k hk => h.block k (by omega) (.inl hk)⟩

theorem Only.refl (lo hi : Nat) (w : World) : Only lo hi w w := ⟨rfl, rfl, rfl, Nat.le_refl _, fun _ _ _ => rfl⟩

theorem Only.trans {lo hi : Nat} {a b c : World} (h : Only lo hi a b) (k : Only lo hi b c) : Only lo hi a c :=
  ⟨k.os.trans h.os, k.tape.trans h.tape, k.output.trans h.output, Nat.le_trans h.size k.size, fun i hi hj => (k.block i (Nat.lt_of_lt_of_le hi h.size) hj).trans (h.block i hi hj)⟩

theorem Only.wider {lo hi lo' hi' : Nat} {w w' : World} (h : Only lo hi w w') (h1 : lo' ≤ lo) (h2 : hi ≤ hi') : Only lo' hi' w w' :=
  ⟨h.os, h.tape, h.output, h.size, fun k hk hj => h.block k hk (by omega)⟩

theorem Only.of_below {lo hi : Nat} {w w' : World} (h : Below w.heap.size w w') : Only lo hi w w' := ⟨h.os, h.tape, h.output, h.size, fun k hk _ => h.block k hk⟩

theorem Only.put {lo hi : Nat} {w w1 : World} (h : Only lo hi w w1) {g j : Nat} (hg : lo ≤ g) (hg2 : g < hi) (a b c : Value) :
    Only lo hi w (((w1.setCell ⟨g, j * 3, none⟩ a).setCell ⟨g, j * 3 + 1, none⟩ b).setCell ⟨g, j * 3 + 2, none⟩ c) :=
  ⟨h.os, h.tape, h.output, by rw [put_size]; exact h.size, fun k hk hj => by rw [put_other (by omega)]; exact h.block k hk hj⟩

/-- What is still to be looked at from the k-th place on. -/
def Unt (E : TypeId) (n : Nat) (t : Itm) (g lo hi k : Nat) (L H : Nat → Nat) (wr : World) (xs : List Value) : Prop :=
  wr.heap[g]? = some (.cells xs.toArray E (0, 0)) ∧ xs.length = (t.items.length + 8) * 3 ∧
  (∀ i (h : i < t.items.length), k ≤ i → lo ≤ L i ∧ H i ≤ hi ∧ (g < L i ∨ H i ≤ g) ∧ Hand E wr n (L i) (H i) (tri xs i) t.items[i]) ∧
  (∀ i, t.items.length ≤ i → k ≤ i → i < t.items.length + 8 → tri xs i = bang)

theorem unt_step {E : TypeId} {n : Nat} {t : Itm} {g lo hi k : Nat} {L H : Nat → Nat} {wr w1 : World} {xs : List Value} (h : Unt E n t g lo hi k L H wr xs) (hk : k < t.items.length) (hg : g < wr.heap.size) (hhi : hi ≤ wr.heap.size)
    (hLH : ∀ i j, i < j → j < t.items.length → H i ≤ L j) (ho : Only (L k) (H k) wr w1) (a b c : Value) :
    ∃ xs', Unt E n t g lo hi (k + 1) L H (((w1.setCell ⟨g, k * 3, none⟩ a).setCell ⟨g, k * 3 + 1, none⟩ b).setCell ⟨g, k * 3 + 2, none⟩ c) xs' := by
  obtain ⟨h1, h2, h3, h4⟩ := h
  obtain ⟨p1, p2, p3, _⟩ := h3 k hk (Nat.le_refl _)
  refine ⟨put3 xs k a b c, row_put (by rw [ho.block g hg (by omega)]; exact h1) a b c, by rw [put3_len]; exact h2, ?_, ?_⟩
  · intro i hi' hik
    obtain ⟨q1, q2, q3, q4⟩ := h3 i hi' (by omega)
    refine ⟨q1, q2, q3, ?_⟩
    rw [tri_put_other _ _ _ _ _ _ (by omega)]
    refine hand_frame _ _ _ _ _ (fun j hj1 hj2 => ?_) q4
    rw [put_other (by omega)]
    have := hLH k i (by omega) hi'
    exact ho.block j (by omega) (by omega)
  · intro i hi1 hi2 hi3
    rw [tri_put_other _ _ _ _ _ _ (by omega)]
    exact h4 i hi1 (by omega) hi3

theorem unt_spare {E : TypeId} {n : Nat} {t : Itm} {g lo hi k : Nat} {L H : Nat → Nat} {wr : World} {xs : List Value} (h : Unt E n t g lo hi k L H wr xs) (hk : t.items.length ≤ k) (a b c : Value) :
    ∃ xs', Unt E n t g lo hi (k + 1) L H (((wr.setCell ⟨g, k * 3, none⟩ a).setCell ⟨g, k * 3 + 1, none⟩ b).setCell ⟨g, k * 3 + 2, none⟩ c) xs' := by
  obtain ⟨h1, h2, h3, h4⟩ := h
  refine ⟨put3 xs k a b c, row_put h1 a b c, by rw [put3_len]; exact h2, fun i hi' hik => by omega, ?_⟩
  intro i hi1 hi2 hi3
  rw [tri_put_other _ _ _ _ _ _ (by omega)]
  exact h4 i hi1 (by omega) hi3

/-- The three cells at a place of the row. -/
theorem unt_cells {E : TypeId} {n : Nat} {t : Itm} {g lo hi k : Nat} {L H : Nat → Nat} {wr w1 : World} {xs : List Value} (h : Unt E n t g lo hi k L H wr xs) (hb : w1.heap[g]? = wr.heap[g]?) (j : Nat) (hj : j < t.items.length + 8) {a b c : Value} (ht : tri xs j = .agg #[a, b, c]) :
    w1.cell? ⟨g, j * 3, none⟩ = some a ∧ w1.cell? ⟨g, j * 3 + 1, none⟩ = some b ∧ w1.cell? ⟨g, j * 3 + 2, none⟩ = some c ∧
    w1.frozen? ⟨g, j * 3, none⟩ = false ∧ w1.frozen? ⟨g, j * 3 + 1, none⟩ = false ∧ w1.frozen? ⟨g, j * 3 + 2, none⟩ = false := by
  have h1 : w1.heap[g]? = some (.cells xs.toArray E (0, 0)) := by rw [hb]; exact h.1
  have h2 := h.2.1
  unfold tri at ht
  simp at ht
  obtain ⟨e0, e1, e2⟩ := ht
  have e : 3 * j = j * 3 := Nat.mul_comm 3 j
  rw [e] at e0 e1 e2
  refine ⟨?_, ?_, ?_, row_frozen h1 _, row_frozen h1 _, row_frozen h1 _⟩
  · rw [row_cell h1 _ (by omega), ← e0]; simp
  · rw [row_cell h1 _ (by omega), ← e1]; simp
  · rw [row_cell h1 _ (by omega), ← e2]; simp

theorem hand_drawn {E : TypeId} {wr : World} {n lo hi : Nat} {v : Value} {t : Itm} (nq : Nat) (h : Hand E wr n lo hi v t) : Hand E (wr.drewN nq).drew n lo hi v t :=
  hand_frame (w := wr) (w' := (wr.drewN nq).drew) n lo hi v t (fun _ _ _ => rfl) h

theorem rep_drawn {B : Nat} {wr : World} {n : Nat} {v : Value} {t : Itm} (nq : Nat) (h : Rep B wr n v t) : Rep B (wr.drewN nq).drew n v t :=
  rep_frame (w := wr) (w' := (wr.drewN nq).drew) ⟨rfl, rfl, rfl, Nat.le_refl _, fun _ _ => rfl⟩ n v t h

theorem only_undrawn {lo hi : Nat} {wr w' : World} {nq : Nat} (h : Only lo hi (wr.drewN nq).drew w') : Only lo hi wr w' := ⟨h.os, h.tape, h.output, h.size, h.block⟩

set_option maxHeartbeats 1600000 in
theorem untouched_any (n : Nat) : ∀ (v v2 : Value) (t : Itm) (w : World) (lo hi m : Nat), Hand 24 w n lo hi v t → hi ≤ w.heap.size → Rep lo w m v2 t → Itm.wt t ≤ 1000000000 →
    Calls Try.prog 15 #[v, v2] w fun e w' => e = .returned (.bool true) ∧ Only lo hi w w' := by
  induction n with
  | zero => intro v v2 t w lo hi m h; exact h.elim
  | succ n ih =>
    intro v v2 t w lo hi m hhand hhi hrep hwt
    cases m with
    | zero => exact hrep.elim
    | succ m =>
    obtain ⟨g, xs0, L, H, rfl, hlo, hgh, hrow, hxl, hkid, hLH, hsp⟩ := hhand
    obtain ⟨a, cap, rfl, hm, hkids⟩ := hrep
    have hlen : t.items.length ≤ 100000000 := by have := items_wt t; omega
    have HK := hid hkids
    have IH := hid ih
    have HWT := hid hwt
    have HLH := hid hLH
    have HU0 : Hid (Unt 24 n t g lo hi 0 L H w xs0) := ⟨hrow, hxl, fun i h _ => hkid i h, fun i h1 _ h2 => hsp i h1 h2⟩
    clear hkids ih hwt hrow hxl hkid hLH hsp hm
    go_enter Try.func15, Try.ntmps15
    go_wp2_with fail
    go_loopw [7, 8] (fun ok i wr => ∃ (k : Nat) (xs : List Value), ok = .bool true ∧ i = .int .i64 k ∧ k ≤ t.items.length ∧ Hid (Unt 24 n t g lo hi k L H wr xs ∧ Only lo hi w wr ∧ w.heap.size + 2 ≤ wr.heap.size ∧ wr.cell? ⟨w.heap.size + 1, 2, none⟩ = some (.slice a t.items.length cap))) (fun _ i _ => t.items.length - (intOf i).toNat)
    case atStart =>
      have hb1 : Below w.heap.size w ((w.alloc (.cells #[.bool t.list, .string ⟨t.bytes.toArray⟩, .slice (some ⟨g, 0, none⟩) t.items.length (t.items.length + 8)] 24)).alloc (.cells #[.bool t.list, .string ⟨t.bytes.toArray⟩, .slice a t.items.length cap] 24)) := ((Below.refl _ _).alloc (Nat.le_refl _) _).alloc (by simp) _
      obtain ⟨u1, u2, u3, u4⟩ := HU0.out
      exact ⟨0, xs0, rfl, rfl, Nat.zero_le _, ⟨by rw [hb1.block g (by omega)]; exact u1, u2, fun i h h' => ⟨(u3 i h h').1, (u3 i h h').2.1, (u3 i h h').2.2.1, hand_frame _ _ _ _ _ (fun k _ hk => hb1.block k (by have := (u3 i h h').2.1; omega)) (u3 i h h').2.2.2⟩, u4⟩, Only.of_below hb1, by simp, by simp⟩
    case round =>
      obtain ⟨k, xs, rfl, rfl, hk, HH⟩ := hrel
      have x2 := HH.out.2.2.2
      by_cases hlt : k < t.items.length
      · obtain ⟨b, off, c0, c1, c2, rfl, hbl, e0, e1, e2, hr⟩ := HK.out k hlt
        obtain ⟨a2, cap2, rfl, rfl, rfl⟩ := rep_shape hr
        obtain ⟨p1, p2, p3, p4⟩ := HH.out.1.2.2.1 k hlt (Nat.le_refl _)
        obtain ⟨gk, hgk⟩ := hand_shape p4
        obtain ⟨r0, r1, r2, z0, z1, z2⟩ := unt_cells HH.out.1 rfl k (by omega) hgk
        have hbw : ∀ o, wr.cell? ⟨b, o, none⟩ = w.cell? ⟨b, o, none⟩ := fun o => World.cell?_of_block (HH.out.2.1.block b (by omega) (.inl hbl))
        have f0 := (hbw (off + k * 3)).trans e0
        have f1 := (hbw (off + k * 3 + 1)).trans e1
        have f2 := (hbw (off + k * 3 + 2)).trans e2
        have hkw : Itm.wt t.items[k] ≤ 1000000000 := by have := Itm.kid_wt t k hlt; have := HWT.out; omega
        have hkl : t.items[k].items.length ≤ 100000000 := by have := items_wt t.items[k]; omega
        have HRK : Hid (Rep lo wr m (.agg #[.bool t.items[k].list, .string ⟨t.items[k].bytes.toArray⟩, .slice a2 t.items[k].items.length cap2]) t.items[k]) := rep_frame (HH.out.2.1.below (by omega)) _ _ _ hr
        rw [hgk] at p4
        have hhw : H k ≤ wr.heap.size := by have := HH.out.2.2.1; omega
        have HC : Hid (∀ nq, Calls Try.prog 15 #[.agg #[.bool t.items[k].list, .string ⟨t.items[k].bytes.toArray⟩, .slice (some ⟨gk, 0, none⟩) t.items[k].items.length (t.items[k].items.length + 8)], .agg #[.bool t.items[k].list, .string ⟨t.items[k].bytes.toArray⟩, .slice a2 t.items[k].items.length cap2]] (wr.drewN nq).drew fun e w' => e = .returned (.bool true) ∧ Only (L k) (H k) wr w') := fun nq =>
          (IH.out _ _ t.items[k] (wr.drewN nq).drew (L k) (H k) m (hand_drawn nq p4) hhw (rep_drawn nq (rep_wider p1 _ _ _ HRK.out)) hkw).mono fun e w' h => ⟨h.1, only_undrawn h.2⟩
        have HP := hid (And.intro p1 (And.intro p2 p3))
        have hgw : g < wr.heap.size := by have := HH.out.2.2.1; omega
        have HS : Hid (∀ w2, Only (L k) (H k) wr w2 → (w2.cell? ⟨g, k * 3, none⟩ = some (.bool t.items[k].list) ∧ w2.cell? ⟨g, k * 3 + 1, none⟩ = some (.string ⟨t.items[k].bytes.toArray⟩) ∧ w2.cell? ⟨g, k * 3 + 2, none⟩ = some (.slice (some ⟨gk, 0, none⟩) t.items[k].items.length (t.items[k].items.length + 8)) ∧ w2.frozen? ⟨g, k * 3, none⟩ = false ∧ w2.frozen? ⟨g, k * 3 + 1, none⟩ = false ∧ w2.frozen? ⟨g, k * 3 + 2, none⟩ = false)) := fun w2 ho =>
          unt_cells HH.out.1 (ho.block g hgw (by omega)) k (by omega) hgk
        have hcap : ¬ ((t.items[k].items.length : Int) + 8 < (t.items[k].items.length : Int) + 8) := by omega
        clear e0 e1 e2 hr p1 p2 p3 p4 hbw hgk
        go_wp2_with fail
        go_quiet (fail)
        go_wp2_with fail
        go_region_with (go_at_call 15; refine (HC.out _).mono ?_; rintro e w2 ⟨rfl, honly⟩; obtain ⟨s0, s1, s2, y0, y1, y2⟩ := HS.out w2 honly)
        all_goals
          go_wp2_with fail
          obtain ⟨xs', hu⟩ := unt_step HH.out.1 hlt hgw (by have := HH.out.2.2.1; omega) HLH.out honly (.bool false) (.string ⟨#[98, 108, 111, 116]⟩) (.slice none 0 0)
          refine ⟨⟨k + 1, xs', rfl, by go_num, by omega, hu, (HH.out.2.1.trans (honly.wider HP.out.1 HP.out.2.1)).put hlo hgh _ _ _, ?_, ?_⟩, by simp [intOf]; omega⟩
          · rw [put_size]; exact Nat.le_trans HH.out.2.2.1 honly.size
          · have hq := HH.out.2.2.1
            rw [← HH.out.2.2.2]
            refine World.cell?_of_block ?_
            show _ = wr.heap[w.heap.size + 1]?
            have hne : w.heap.size + 1 ≠ g := by omega
            have hHk : H k ≤ w.heap.size + 1 := by have := HP.out.2.1; omega
            have hlw : w.heap.size + 1 < wr.heap.size := by omega
            rw [put_other hne]
            exact honly.block (w.heap.size + 1) hlw (.inr hHk)
      · have HKE := hid (show k = t.items.length by omega)
        go_wp2_with fail
        go_loopw [7, 10] (fun ok i wi => ∃ (j : Nat) (xs : List Value), ok = .bool true ∧ i = .int .i64 j ∧ j ≤ t.items.length + 8 ∧ Hid (t.items.length ≤ j ∧ Unt 24 n t g lo hi j L H wi xs ∧ Only lo hi w wi)) (fun _ i _ => t.items.length + 8 - (intOf i).toNat)
        case atStart => exact ⟨t.items.length, xs, rfl, rfl, by omega, Nat.le_refl _, by have := HH.out.1; rw [HKE.out] at this; exact this, HH.out.2.1⟩
        case round =>
          obtain ⟨j, xs2, rfl, rfl, hj, HJ⟩ := hrel
          by_cases hlt2 : j < t.items.length + 8
          · have hlt2' : (j : Int) < (t.items.length : Int) + 8 := by omega
            obtain ⟨r0, r1, r2, z0, z1, z2⟩ := unt_cells HJ.out.2.1 rfl j hlt2 (HJ.out.2.1.2.2.2 j HJ.out.1 (Nat.le_refl _) hlt2)
            go_wp2_with fail
            obtain ⟨xs', hu⟩ := unt_spare HJ.out.2.1 HJ.out.1 (.bool false) (.string ⟨#[98, 108, 111, 116]⟩) (.slice none 0 0)
            exact ⟨⟨j + 1, xs', rfl, by go_num, by omega, by have := HJ.out.1; omega, hu, HJ.out.2.2.put hlo hgh _ _ _⟩, by simp [intOf]; omega⟩
          · have hlt2' : ¬ (j : Int) < (t.items.length : Int) + 8 := by omega
            go_wp2_with fail
            go_ret
            exact ⟨rfl, HJ.out.2.2⟩
end Go.Proofs.Ytbmohenjphmlgaa

/- The walk of the statement Encodes: of an item that can be read and is not too great it returns true, and of what was there nothing has turned. -/
namespace Go.Proofs.Ytbmohenjphmlgaa
open Go.RowKit
set_option maxRecDepth 100000

set_option maxHeartbeats 1600000 in
theorem encodes_any (n : Nat) (t : Itm) (w : World) (v : Value) (hc : Itm.wt t ≤ 1000000000) (hrep : Rep w.heap.size w (n + 1) v t) :
    Calls Try.prog 3 #[v] w fun e w' => e = .returned (.bool true) ∧ Below w.heap.size w w' := by
  obtain ⟨a, cap, rfl, _⟩ := id hrep
  have HR := hid hrep
  have hcnt : Itm.cnt t ≤ 1000000000 := by have := Itm.cnt_le_wt t; omega
  clear hrep
  go_enter Try.func3, Try.ntmps3
  go_wp2_with fail
  refine (handed_any (n + 1) _ t _ (rep_in HR.out ((Below.refl _ _).alloc (Nat.le_refl _) _)) hc).mono ?_
  rintro e w1 ⟨v', rfl, hhand, b1⟩
  obtain ⟨g, rfl⟩ := hand_shape hhand
  have HH := hid hhand
  have HB1 := hid b1
  obtain ⟨x0, x1, x2⟩ := box_third b1
  clear hhand b1
  go_wp2_with fail
  have HRH := hid (rep_of_hand _ _ _ _ _ (Nat.le_refl _) hc HH.out)
  refine (encode_any n t _ _ hcnt (rep_in HRH.out ((Below.refl _ _).alloc (Nat.le_refl _) _))).mono ?_
  rintro e w2 ⟨rfl, b2⟩
  have HB2 := hid b2
  have hb12 : Below w1.heap.size w1 w2 := below_of_box b2
  have HB12 := hid hb12
  obtain ⟨y0, y1, y2⟩ := box_third (HB1.out.trans (hb12.mono HB1.out.size))
  obtain ⟨h0, h1, h2⟩ := box_third b2
  have HBW2 := hid (below_of_box (HB1.out.trans (hb12.mono HB1.out.size)))
  clear b2 hb12
  go_wp2_with fail
  refine (encodeR_any (n + 1) t _ _ hc (rep_in HR.out HBW2.out)).mono ?_
  rintro e w3 ⟨rfl, b3⟩
  have HB3 := hid b3
  have hsz : w1.heap.size < w2.heap.size := by have := HB2.out.size; simp at this; omega
  have hsz0 : w.heap.size < w1.heap.size := by have := HB1.out.size; simp at this; omega
  obtain ⟨hcc, hff⟩ := bcell b3
  have HBW3 := hid (HBW2.out.trans (b3.mono HBW2.out.size))
  have HB13 := hid (HB12.out.trans (b3.mono HB12.out.size))
  clear b3
  have hsz2 : w.heap.size < w2.heap.size := by omega
  generalize Itm.encA t = E at *
  go_wp2_with fail
  have hlo : (w.alloc (.cells #[.bool t.list, .string ⟨t.bytes.toArray⟩, .slice a t.items.length cap] 24)).heap.size ≤ w1.heap.size := HB1.out.size
  refine (untouched_any (n + 1) _ _ t w3 (w.alloc (.cells #[.bool t.list, .string ⟨t.bytes.toArray⟩, .slice a t.items.length cap] 24)).heap.size w1.heap.size (n + 1) (hand_frame _ _ _ _ _ (fun k _ hk => HB13.out.block k hk) HH.out) HB13.out.size (rep_wider (by simp) _ _ _ (rep_frame HBW3.out _ _ _ HR.out)) hc).mono ?_
  rintro e w4 ⟨rfl, honly⟩
  have HO := hid honly
  clear honly
  have HN := hid (fun w => num_any (E.2 : Int) w)
  go_wp2_with fail
  refine (HN.out _).mono ?_
  rintro e w5 ⟨rfl, rfl⟩
  go_wp2_with fail
  go_ret
  refine ⟨by simp, HBW3.out.trans ((HO.out.below ?_).mono (by simp))⟩
  exact Nat.le_trans hlo HB13.out.size
end Go.Proofs.Ytbmohenjphmlgaa

/- An item that is read as data can be read by the walks; it is no greater than ten times its bulk. -/
namespace Go.Proofs.Ytbmohenjphmlgaa
open Go.RowKit
open Go.ChangeShapes Go.WideShapes Go.ChangeAt Go.Joins
set_option maxRecDepth 100000

theorem cellsItem : Try.prog.cellsOf 24 = 3 := by kernel_rfl
theorem cellsItems : Try.prog.cellsOf 22 = 1 := by kernel_rfl
theorem cellsStr : Try.prog.cellsOf 9 = 1 := by kernel_rfl
theorem cellsBool : Try.prog.cellsOf 4 = 1 := by kernel_rfl

theorem spot_none {W : World} {a : Addr} {c : Value} (h : W.cell? a = some c) : a.spot = none := by
  unfold World.cell? at h
  cases hs : a.spot with
  | none => rfl
  | some n =>
    rw [hs] at h
    split at h <;> simp at h

theorem add_none (b off k : Nat) : (⟨b, off, none⟩ : Addr).add k = ⟨b, off + k, none⟩ := by unfold Addr.add; split <;> simp_all

theorem choose_list {p : Nat → Itm → Prop} : ∀ n : Nat, (∀ i, i < n → ∃ t, p i t) → ∃ l : List Itm, l.length = n ∧ ∀ i (h : i < l.length), p i l[i] := by
  intro n
  induction n with
  | zero => intro _; exact ⟨[], rfl, fun i h => by simp at h⟩
  | succ n ih =>
    intro h
    obtain ⟨l, hl, hp⟩ := ih (fun i hi => h i (by omega))
    obtain ⟨t, ht⟩ := h n (by omega)
    refine ⟨l ++ [t], by simp [hl], fun i hi => ?_⟩
    by_cases he : i < l.length
    · rw [List.getElem_append_left he]; exact hp i he
    · have he2 : i = n := by simp at hi; omega
      subst he2
      rw [List.getElem_append_right (by omega)]
      simpa [hl] using ht

theorem sum_wt {Hd : Type} : ∀ (l : List Itm) (ds : List (DataW Hd)), l.length = ds.length → (∀ i (h : i < l.length) (h2 : i < ds.length), Itm.wt l[i] ≤ 10 * Rows.uptoBulk ds[i]) → (l.map Itm.wt).sum ≤ 10 * Rows.uptoBulkAll ds := by
  intro l
  induction l with
  | nil => intro ds _ _; simp
  | cons x l ih =>
    intro ds hl hw
    cases ds with
    | nil => simp at hl
    | cons d ds =>
      have h0 := hw 0 (by simp) (by simp)
      have h1 := ih ds (by simpa using hl) (fun i h h2 => by have := hw (i + 1) (by simp; omega) (by simp; omega); simpa using this)
      simp only [List.map_cons, List.sum_cons, Rows.uptoBulkAll]
      simp only [List.getElem_cons_zero] at h0
      omega

theorem rep_of_trod {Hd : Type} (enc : TypeId × Value → Hd) (W : World) : ∀ (fuel : Nat) (cs : List Value) (x : DataW Hd × List MemPlace), DataW.trod enc Try.prog W 0 (fun _ => true) true fuel 24 cs = some x →
    ∃ c0 c1 c2 t, cs = [c0, c1, c2] ∧ Rep W.heap.size W fuel (.agg #[c0, c1, c2]) t ∧ Itm.wt t ≤ 10 * Rows.uptoBulk x.1 := by
  intro fuel
  induction fuel using Nat.strongRecOn with
  | _ fuel ih =>
    intro cs x h
    obtain ⟨xs, n, rfl, rfl, hl, hlen, hf⟩ := DataW.trod_struct Try.underlying24 h
    rw [cellsItem] at hl
    match cs, hl, xs, hlen with
    | [c0, c1, c2], _, [y0, y1, y2], _ =>
      have h0 := hf 0 _ rfl
      have h1 := hf 1 _ rfl
      have h2 := hf 2 _ rfl
      simp [cellsBool] at h0
      simp [cellsStr] at h1
      simp [cellsItems] at h2
      obtain ⟨lb, e0, rfl⟩ := DataW.trod_bool Try.underlying4 h0
      obtain ⟨s, e1, rfl, hs⟩ := DataW.trod_string Try.underlying9 h1
      simp at e0 e1
      subst e0 e1
      rcases DataW.trod_slice Try.underlying22 h2 with ⟨e2, rfl⟩ | ⟨a, len, cap, elems, rest, m, rfl, e2, rfl, _, hlc, hcm, hel, hat, _, _⟩
      · simp at e2
        subst e2
        refine ⟨_, _, _, ⟨lb, s.data.toList, []⟩, rfl, ⟨none, 0, by simp, Nat.zero_le _, fun i hi => by simp at hi⟩, ?_⟩
        rw [Itm.wt_eq]
        simp [Rows.uptoBulk, Rows.uptoBulkAll]
        omega
      · simp at e2
        subst e2
        have hex : ∀ i, i < len → ∃ t, (∃ b off c0 c1 c2, some a = some ⟨b, off, none⟩ ∧ b < W.heap.size ∧ W.cell? ⟨b, off + i * 3, none⟩ = some c0 ∧ W.cell? ⟨b, off + i * 3 + 1, none⟩ = some c1 ∧ W.cell? ⟨b, off + i * 3 + 2, none⟩ = some c2 ∧ Rep W.heap.size W m (.agg #[c0, c1, c2]) t) ∧ ∀ d, (elems.map (·.1))[i]? = some d → Itm.wt t ≤ 10 * Rows.uptoBulk d := by
          have h0sp : 0 < len → a.spot = none := by
            intro hpos
            have hq := hat 0 hpos
            rw [List.getElem?_eq_getElem (by omega)] at hq
            rw [cellsItem] at hq
            obtain ⟨cs0, hc0, _⟩ := Option.bind_eq_some_iff.1 hq
            obtain ⟨_, hl0, hc⟩ := World.cells?_some hc0
            have := hc 0 (by omega)
            rw [List.getElem?_eq_getElem (by omega)] at this
            have hadd : (a.add (0 * 3)).add 0 = a := by simp [Addr.add]
            rw [hadd] at this
            exact spot_none this
          intro i hi
          have hsp := h0sp (by omega)
          obtain ⟨ab, ao, asp⟩ := a
          simp at hsp
          subst hsp
          have hq := hat i hi
          rw [List.getElem?_eq_getElem (by omega), cellsItem] at hq
          obtain ⟨csi, hci, hti⟩ := Option.bind_eq_some_iff.1 hq
          obtain ⟨c0', c1', c2', ti, rfl, hrep, hwt⟩ := ih m (by omega) csi _ hti
          obtain ⟨_, _, hc⟩ := World.cells?_some hci
          have k0 := hc 0 (by omega)
          have k1 := hc 1 (by omega)
          have k2 := hc 2 (by omega)
          rw [add_none, add_none] at k0 k1 k2
          simp at k0 k1 k2
          have hblk : ab < W.heap.size := by
            have := World.block_lt_of_cell? W _ k0
            exact this
          refine ⟨ti, ⟨ab, ao, c0', c1', c2', rfl, hblk, k0, k1, k2, hrep⟩, ?_⟩
          intro d hd
          rw [List.getElem?_map, List.getElem?_eq_getElem (by omega)] at hd
          simp at hd
          subst hd
          exact hwt
        obtain ⟨l, hll, hlp⟩ := choose_list len hex
        refine ⟨_, _, _, ⟨lb, s.data.toList, l⟩, rfl, ⟨some a, cap, by simp [hll], by show l.length ≤ maxLen; omega, fun i hi => ?_⟩, ?_⟩
        · obtain ⟨b, off, d0, d1, d2, e1, e2, e3, e4, e5, hrep⟩ := (hlp i hi).1
          exact ⟨b, off, d0, d1, d2, e1, e2, e3, e4, e5, rep_more _ _ _ hrep⟩
        · have hsum := sum_wt l (elems.map (·.1)) (by simp; omega) (fun i h h2 => (hlp i h).2 _ (List.getElem?_eq_getElem h2))
          rw [Itm.wt_eq]
          simp only [List.map_cons, List.map_nil, Rows.uptoBulk, Rows.uptoBulkAll]
          simp only [Array.length_toList]
          omega
end Go.Proofs.Ytbmohenjphmlgaa
