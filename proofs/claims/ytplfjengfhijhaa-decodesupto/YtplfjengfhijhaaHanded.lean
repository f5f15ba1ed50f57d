/- The walk of handedItem (of the statements' own): the same item in lists of its own, each with eight marked places behind it. -/
import Derived.Test.YtplfjengfhijhaaHand
namespace Go.Proofs.Ytplfjengfhijhaa
open Go.RowKit

/-- What holds of the row while it is filled: the first k items are there. -/
def Fill (E : TypeId) (n : Nat) (t : Itm) (g base k : Nat) (wr : World) (xs : List Value) (L H : Nat → Nat) : Prop :=
  wr.heap[g]? = some (.cells xs.toArray E (0, 0)) ∧ xs.length = (t.items.length + 8) * 3 ∧
  (∀ i (h : i < t.items.length), i < k → base ≤ L i ∧ H i ≤ wr.heap.size ∧ g < L i ∧ Hand E wr n (L i) (H i) (tri xs i) t.items[i]) ∧ (∀ i j, i < j → j < k → j < t.items.length → H i ≤ L j) ∧
  (∀ i, t.items.length ≤ i → i < k → tri xs i = bang)

theorem fill_item {E : TypeId} {n : Nat} {t : Itm} {g base k : Nat} {wr w1 : World} {xs : List Value} {L H : Nat → Nat} {a b c : Value} (h : Fill E n t g base k wr xs L H) (hk : k < t.items.length) (hg : g < wr.heap.size) (hb0 : base ≤ wr.heap.size)
    (hb : Below wr.heap.size wr w1) (hy : Hand E w1 n wr.heap.size w1.heap.size (.agg #[a, b, c]) t.items[k]) :
    ∃ xs' L' H', Fill E n t g base (k + 1) (((w1.setCell ⟨g, k * 3, none⟩ a).setCell ⟨g, k * 3 + 1, none⟩ b).setCell ⟨g, k * 3 + 2, none⟩ c) xs' L' H' := by
  obtain ⟨h1, h2, h3, h4, h5⟩ := h
  have hsz := hb.size
  refine ⟨put3 xs k a b c, fun i => if i = k then wr.heap.size else L i, fun i => if i = k then w1.heap.size else H i, ?_, ?_, ?_, ?_, ?_⟩
  · exact row_put (by rw [hb.block g hg]; exact h1) a b c
  · rw [put3_len]; exact h2
  · intro i hi hik
    rw [put_size]
    by_cases he : i = k
    · subst he
      simp only [if_true]
      refine ⟨hb0, Nat.le_refl _, hg, ?_⟩
      rw [tri_put_same xs i a b c (by omega)]
      exact hand_frame _ _ _ _ _ (fun j hj _ => put_other (by omega) a b c) hy
    · simp only [if_neg he]
      obtain ⟨q1, q2, q3, q4⟩ := h3 i hi (by omega)
      refine ⟨q1, by omega, q3, ?_⟩
      rw [tri_put_other xs k i a b c he]
      refine hand_frame _ _ _ _ _ (fun j hj1 hj2 => ?_) q4
      rw [put_other (by omega) a b c]
      exact hb.block j (by omega)
  · intro i j hij hj hjl
    by_cases he : j = k
    · subst he
      simp only [if_true, if_neg (show i ≠ j by omega)]
      exact (h3 i (by omega) (by omega)).2.1
    · simp only [if_neg he, if_neg (show i ≠ k by omega)]
      exact h4 i j hij (by omega) hjl
  · intro i hi hik
    omega

theorem fill_bang {E : TypeId} {n : Nat} {t : Itm} {g base k : Nat} {wr : World} {xs : List Value} {L H : Nat → Nat} (h : Fill E n t g base k wr xs L H) (hk : t.items.length ≤ k) (hk2 : k < t.items.length + 8) :
    ∃ xs', Fill E n t g base (k + 1) (((wr.setCell ⟨g, k * 3, none⟩ (.bool false)).setCell ⟨g, k * 3 + 1, none⟩ (.string ⟨#[33]⟩)).setCell ⟨g, k * 3 + 2, none⟩ (.slice none 0 0)) xs' L H := by
  obtain ⟨h1, h2, h3, h4, h5⟩ := h
  refine ⟨put3 xs k (.bool false) (.string ⟨#[33]⟩) (.slice none 0 0), row_put h1 _ _ _, by rw [put3_len]; exact h2, ?_, fun i j hij hj hjl => h4 i j hij (by omega) hjl, ?_⟩
  · intro i hi _
    rw [put_size]
    obtain ⟨q1, q2, q3, q4⟩ := h3 i hi (by omega)
    refine ⟨q1, q2, q3, ?_⟩
    rw [tri_put_other _ _ _ _ _ _ (by omega)]
    exact hand_frame _ _ _ _ _ (fun j hj1 hj2 => put_other (by omega) _ _ _) q4
  · intro i hi hik
    by_cases he : i = k
    · subst he
      rw [tri_put_same _ _ _ _ _ (by omega)]
      rfl
    · rw [tri_put_other _ _ _ _ _ _ he]
      exact h5 i hi (by omega)

theorem items_wt (t : Itm) : 10 * t.items.length + 10 ≤ Itm.wt t := by
  have : ∀ l : List Itm, 10 * l.length ≤ (l.map Itm.wt).sum := by
    intro l
    induction l with
    | nil => simp
    | cons x l ihl => simp only [List.length_cons, List.map_cons, List.sum_cons]; have := Itm.wt_eq x; omega
  have := this t.items
  rw [Itm.wt_eq]; omega

/-- The cells of a row that lay there before a call lie there behind it. -/
theorem fill_cells {E : TypeId} {n : Nat} {t : Itm} {g base k j : Nat} {wr w1 : World} {xs : List Value} {L H : Nat → Nat} (h : Fill E n t g base k wr xs L H) (hj : j < t.items.length + 8) (hb : w1.heap[g]? = wr.heap[g]?) :
    (∃ u, w1.cell? ⟨g, j * 3, none⟩ = some u) ∧ (∃ u, w1.cell? ⟨g, j * 3 + 1, none⟩ = some u) ∧ (∃ u, w1.cell? ⟨g, j * 3 + 2, none⟩ = some u) ∧
    w1.frozen? ⟨g, j * 3, none⟩ = false ∧ w1.frozen? ⟨g, j * 3 + 1, none⟩ = false ∧ w1.frozen? ⟨g, j * 3 + 2, none⟩ = false := by
  have h1 : w1.heap[g]? = some (.cells xs.toArray E (0, 0)) := by rw [hb]; exact h.1
  have h2 := h.2.1
  exact ⟨⟨_, row_cell h1 _ (by omega)⟩, ⟨_, row_cell h1 _ (by omega)⟩, ⟨_, row_cell h1 _ (by omega)⟩, row_frozen h1 _, row_frozen h1 _, row_frozen h1 _⟩

theorem hand_of_fill {E : TypeId} {n : Nat} {t : Itm} {j : Nat} {w wr : World} {xs : List Value} {L H : Nat → Nat} (h : Fill E n t (w.heap.size + 1 + 1) (w.heap.size + 1 + 1 + 1) j wr xs L H) (hj : j = t.items.length + 8) (hs : w.heap.size + 1 + 1 + 1 ≤ wr.heap.size) (x y z : Value) :
    Hand E (((wr.setCell ⟨w.heap.size + 1, 0, none⟩ x).setCell ⟨w.heap.size + 1, 1, none⟩ y).setCell ⟨w.heap.size + 1, 2, none⟩ z).drew (n + 1) w.heap.size (((wr.setCell ⟨w.heap.size + 1, 0, none⟩ x).setCell ⟨w.heap.size + 1, 1, none⟩ y).setCell ⟨w.heap.size + 1, 2, none⟩ z).drew.heap.size
      (.agg #[.bool t.list, .string ⟨t.bytes.toArray⟩, .slice (some ⟨w.heap.size + 1 + 1, 0, none⟩) t.items.length (t.items.length + 8)]) t := by
  subst hj
  obtain ⟨h1, h2, h3, h4, h5⟩ := h
  have hsz : (((wr.setCell ⟨w.heap.size + 1, 0, none⟩ x).setCell ⟨w.heap.size + 1, 1, none⟩ y).setCell ⟨w.heap.size + 1, 2, none⟩ z).drew.heap.size = wr.heap.size := box_size wr _ x y z
  have hfr : ∀ k, k ≠ w.heap.size + 1 → (((wr.setCell ⟨w.heap.size + 1, 0, none⟩ x).setCell ⟨w.heap.size + 1, 1, none⟩ y).setCell ⟨w.heap.size + 1, 2, none⟩ z).drew.heap[k]? = wr.heap[k]? := fun k hk => box_other hk x y z
  rw [hsz]
  refine ⟨w.heap.size + 1 + 1, xs, L, H, rfl, by omega, by omega, by rw [hfr _ (by omega)]; exact h1, h2, fun i hi => ?_, fun i j hij hj => h4 i j hij (by omega) hj, fun i hi hi2 => h5 i hi hi2⟩
  obtain ⟨q1, q2, q3, q4⟩ := h3 i hi (by omega)
  exact ⟨by omega, q2, .inl q3, hand_frame _ _ _ _ _ (fun k hk _ => hfr k (by omega)) q4⟩

set_option maxRecDepth 100000 in
set_option maxHeartbeats 1600000 in
theorem handed_any (n : Nat) : ∀ (v : Value) (t : Itm) (w : World), Rep w.heap.size w n v t → Itm.wt t ≤ 1000000000 →
    Calls Try.prog 6 #[v] w fun e w' => ∃ v', e = .returned v' ∧ Hand 24 w' n w.heap.size w'.heap.size v' t ∧ Below w.heap.size w w' := by
  induction n with
  | zero => intro v t w h; exact h.elim
  | succ n ih =>
    intro v t w hrep hwt
    obtain ⟨a, cap, rfl, hm, hkids⟩ := hrep
    obtain ⟨i0, hi, hz0, hz1, hz2⟩ := info_parts infoItem
    have hlen : t.items.length ≤ 100000000 := by have := items_wt t; omega
    have HK := hid hkids
    have IH := hid ih
    have HWT := hid hwt
    clear hkids ih hwt
    have hby : i0.bytes * (t.items.length + 8) ≤ 281474976710656 := by rw [hz2]; omega
    have hml : t.items.length + 8 ≤ maxLen := by unfold maxLen; omega
    have HN : Hid ((t.items.length : Int) + 8 = ((t.items.length + 8 : Nat) : Int)) := by show _ = _; omega
    have hbase : ((w.alloc (.cells #[.bool t.list, .string ⟨t.bytes.toArray⟩, .slice a t.items.length cap] 24)).alloc (.cells #[.bool false, .string ⟨#[]⟩, .slice none 0 0] 24)).heap.size ≤ ((w.alloc (.cells #[.bool t.list, .string ⟨t.bytes.toArray⟩, .slice a t.items.length cap] 24)).alloc (.cells #[.bool false, .string ⟨#[]⟩, .slice none 0 0] 24)).heap.size := Nat.le_refl _
    go_enter Try.func6, Try.ntmps6
    go_wp2_with (at_make; refine wpList_make_full _ rfl (.tmp 11) (.tmp 11) 22 rfl _ 24 i0 _ 3 Try.underlying22 hi hz0 hz1 .i64 .i64 _ _ (t.items.length + 8) rfl rfl HN.out HN.out hby hml hbase ?_; intro w1 hrow hgr)
    have HF : Hid (∃ xs L H, Fill 24 n t (w.heap.size + 1 + 1) (w.heap.size + 1 + 1 + 1) 0 w1 xs L H) := by
      rcases hrow.2 with ⟨h', _⟩ | ⟨g', cap', cur, h', _, hg, _, _, hcs, _⟩
      · simp at h'
      · simp only [Value.slice.injEq, Option.some.injEq, Addr.mk.injEq, and_true, true_and] at h'
        obtain ⟨rfl, rfl⟩ := h'
        refine ⟨cur.toList, fun _ => 0, fun _ => 0, by simpa using hg, by simpa using hcs, fun i _ h => by omega, fun i j _ h => by omega, fun i _ h => by omega⟩
    have HG : Hid (Below ((w.alloc (.cells #[.bool t.list, .string ⟨t.bytes.toArray⟩, .slice a t.items.length cap] 24)).alloc (.cells #[.bool false, .string ⟨#[]⟩, .slice none 0 0] 24)).heap.size ((w.alloc (.cells #[.bool t.list, .string ⟨t.bytes.toArray⟩, .slice a t.items.length cap] 24)).alloc (.cells #[.bool false, .string ⟨#[]⟩, .slice none 0 0] 24)) w1) := ⟨hgr.os, hgr.tape, hgr.output, hgr.size, fun k hk => hgr.block k hk (by simp)⟩
    have HS1 : Hid (w.heap.size + 1 + 1 + 1 ≤ w1.heap.size) := by
      have := (hrow.lt _ rfl).2
      simp at this
      exact this
    clear hrow hgr hbase hby hml
    go_loopw [5] (fun i wr => ∃ (k : Nat) (xs : List Value) (L H : Nat → Nat), i = .int .i64 k ∧ k ≤ t.items.length ∧ Hid (Fill 24 n t (w.heap.size + 1 + 1) (w.heap.size + 1 + 1 + 1) k wr xs L H ∧ w.heap.size + 1 + 1 + 1 ≤ wr.heap.size ∧ Below ((w.alloc (.cells #[.bool t.list, .string ⟨t.bytes.toArray⟩, .slice a t.items.length cap] 24)).alloc (.cells #[.bool false, .string ⟨#[]⟩, .slice none 0 0] 24)).heap.size ((w.alloc (.cells #[.bool t.list, .string ⟨t.bytes.toArray⟩, .slice a t.items.length cap] 24)).alloc (.cells #[.bool false, .string ⟨#[]⟩, .slice none 0 0] 24)) wr)) (fun i _ => t.items.length - (intOf i).toNat)
    case atStart =>
      obtain ⟨xs, L, H, hf⟩ := HF.out
      exact ⟨0, xs, L, H, rfl, Nat.zero_le _, hf, HS1.out, HG.out⟩
    case round =>
      obtain ⟨k, xs, L, H, rfl, hk, HH⟩ := hrel
      have x2 : wr.cell? ⟨w.heap.size, 2, none⟩ = some (.slice a t.items.length cap) := by
        rw [HH.out.2.2.cell (p := ⟨w.heap.size, 2, none⟩) (by simp; omega)]; simp
      have HB0 : Hid (Below w.heap.size w wr) := (((Below.refl _ _).alloc (Nat.le_refl _) _).alloc (by simp) _).trans (HH.out.2.2.mono (by simp; omega))
      by_cases hlt : k < t.items.length
      · obtain ⟨b, off, c0, c1, c2, rfl, hbl, e0, e1, e2, hr⟩ := HK.out k hlt
        obtain ⟨a2, cap2, rfl, rfl, rfl⟩ := rep_shape hr
        have f0 := (HB0.out.cell (p := ⟨b, off + k * 3, none⟩) hbl).trans e0
        have f1 := (HB0.out.cell (p := ⟨b, off + k * 3 + 1, none⟩) hbl).trans e1
        have f2 := (HB0.out.cell (p := ⟨b, off + k * 3 + 2, none⟩) hbl).trans e2
        have HR := hid hr
        have hkw : Itm.wt t.items[k] ≤ 1000000000 := by have := Itm.kid_wt t k hlt; have := HWT.out; omega
        clear e0 e1 e2 hr
        go_wp2_with fail
        refine (IH.out _ t.items[k] _ (rep_in HR.out HB0.out) hkw).mono ?_
        rintro e w2 ⟨v', rfl, hhand, hbel⟩
        obtain ⟨g3, rfl⟩ := hand_shape hhand
        have HHD := hid hhand
        have HB2 := hid hbel
        obtain ⟨⟨u0, r0⟩, ⟨u1, r1⟩, ⟨u2, r2⟩, z0, z1, z2⟩ := fill_cells (j := k) HH.out.1 (by omega) (hbel.block _ (by have := HH.out.2.1; omega))
        clear hhand hbel
        go_wp2_with fail
        obtain ⟨xs', L', H', hf'⟩ := fill_item HH.out.1 hlt (by have := HH.out.2.1; omega) HH.out.2.1 HB2.out HHD.out
        refine ⟨⟨k + 1, xs', L', H', by go_num, by omega, hf', ?_, ?_⟩, by simp [intOf]; omega⟩
        · rw [put_size]; exact Nat.le_trans HH.out.2.1 HB2.out.size
        · exact put_below (HH.out.2.2.trans (HB2.out.mono (by have := HH.out.2.1; simp; omega))) (by simp) _ _ _
      · have HKE := hid (show k = t.items.length by omega)
        go_wp2_with fail
        go_loopw [6] (fun i wi => ∃ (j : Nat) (xs : List Value), i = .int .i64 j ∧ j ≤ t.items.length + 8 ∧ Hid (t.items.length ≤ j ∧ Fill 24 n t (w.heap.size + 1 + 1) (w.heap.size + 1 + 1 + 1) j wi xs L H ∧ w.heap.size + 1 + 1 + 1 ≤ wi.heap.size ∧ Below ((w.alloc (.cells #[.bool t.list, .string ⟨t.bytes.toArray⟩, .slice a t.items.length cap] 24)).alloc (.cells #[.bool false, .string ⟨#[]⟩, .slice none 0 0] 24)).heap.size ((w.alloc (.cells #[.bool t.list, .string ⟨t.bytes.toArray⟩, .slice a t.items.length cap] 24)).alloc (.cells #[.bool false, .string ⟨#[]⟩, .slice none 0 0] 24)) wi)) (fun i _ => t.items.length + 8 - (intOf i).toNat)
        case atStart => exact ⟨t.items.length, xs, rfl, by omega, Nat.le_refl _, by have := HH.out.1; rw [HKE.out] at this; exact this, HH.out.2⟩
        case round =>
          obtain ⟨j, xs2, rfl, hj, HJ⟩ := hrel
          by_cases hlt2 : j < t.items.length + 8
          · have hlt2' : (j : Int) < (t.items.length : Int) + 8 := by omega
            obtain ⟨⟨u0, r0⟩, ⟨u1, r1⟩, ⟨u2, r2⟩, z0, z1, z2⟩ := fill_cells (j := j) HJ.out.2.1 hlt2 rfl
            go_wp2_with fail
            obtain ⟨xs', hf'⟩ := fill_bang HJ.out.2.1 HJ.out.1 hlt2
            refine ⟨⟨j + 1, xs', by go_num, by omega, by have := HJ.out.1; omega, hf', ?_, ?_⟩, by simp [intOf]; omega⟩
            · rw [put_size]; exact HJ.out.2.2.1
            · exact put_below HJ.out.2.2.2 (by simp) _ _ _
          · have hlt2' : ¬ (j : Int) < (t.items.length : Int) + 8 := by omega
            have HJE := hid (show j = t.items.length + 8 by omega)
            obtain ⟨hcc, hff⟩ := bcell HJ.out.2.2.2
            go_wp2_with fail
            go_region
            go_wp2_with fail
            have hblk : wr.heap[w.heap.size + 1]? = some (.cells #[.bool false, .string ⟨#[]⟩, .slice none 0 0] 24 (0, 0)) := by
              rw [HJ.out.2.2.2.block _ (by simp)]
              have := heap_alloc_new (w.alloc (.cells #[.bool t.list, .string ⟨t.bytes.toArray⟩, .slice a t.items.length cap] 24)) (.cells #[.bool false, .string ⟨#[]⟩, .slice none 0 0] 24)
              simpa using this
            obtain ⟨c0, c1, c2⟩ := set3 hblk (.bool t.list) (.string ⟨t.bytes.toArray⟩) (.slice (some ⟨w.heap.size + 1 + 1, 0, none⟩) t.items.length (t.items.length + 8))
            have hHand := hand_of_fill (w := w) (j := j) HJ.out.2.1 HJE.out HJ.out.2.2.1 (.bool t.list) (.string ⟨t.bytes.toArray⟩) (.slice (some ⟨w.heap.size + 1 + 1, 0, none⟩) t.items.length (t.items.length + 8))
            refine bodyPost_ret (v := .agg #[.bool t.list, .string ⟨t.bytes.toArray⟩, .slice (some ⟨w.heap.size + 1 + 1, 0, none⟩) t.items.length (t.items.length + 8)]) (by simp [results, Try.results6, go_sem, c0, c1, c2]) rfl ⟨_, rfl, hHand, ?_⟩
            have hb0 : Below w.heap.size w wr := (((Below.refl _ _).alloc (Nat.le_refl _) _).alloc (by simp) _).trans (HJ.out.2.2.2.mono (by simp; omega))
            exact (((hb0.setCell (p := ⟨w.heap.size + 1, 0, none⟩) (by simp) _).setCell (p := ⟨w.heap.size + 1, 1, none⟩) (by simp) _).setCell (p := ⟨w.heap.size + 1, 2, none⟩) (by simp) _).drew
end Go.Proofs.Ytplfjengfhijhaa
