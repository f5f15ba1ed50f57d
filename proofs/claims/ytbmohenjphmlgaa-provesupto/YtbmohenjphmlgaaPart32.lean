/- Part 32 of a proof: what the last text needs. -/
import Derived.Test.YtbmohenjphmlgaaPart31
import Derived.Test.YtbmohenjphmlgaaPart30
import Derived.Test.YtbmohenjphmlgaaPart9
/- Prove (of the document's own answer) answers as the document says. -/
namespace Go.Proofs.Ytbmohenjphmlgaa
open Go.RowKit
set_option maxRecDepth 100000

set_option maxHeartbeats 3200000 in
theorem refProve_any (a : Option Addr) (cap : Nat) (l : List (ByteArray × ByteArray)) (key : ByteArray) (w : World) (hr : PRd w.heap.size w a l) (hl : l.length ≤ 4398046511104) :
    Calls Try.prog 28 #[.slice a l.length cap, .string key] w fun e w' => ∃ r, e = .returned (.tuple #[r, .int .i64 (tfault l key : Nat)]) ∧ TOwn w' w.heap.size r (if tfault l key = 0 then (Tr.prove (lists l) key.data.toList).map toB else []) ∧ Below w.heap.size w w' := by
  have HT := hid (tableR_any a cap l w hr hl)
  by_cases hk : 6 < key.size
  · have hk1 : ¬ (key.size : Int) ≤ 6 := by omega
    have hk2 : (6 : Int) < (key.size : Int) := by omega
    by_cases h2 : tfault l ⟨#[]⟩ = 2
    · have HF := hid h2
      rw [tfault_two h2, if_neg (by decide)]
      clear h2 hr hl hk
      go_enter Try.func28, Try.ntmps28
      go_wp2_with fail
      refine HT.out.mono ?_
      rintro e w1 ⟨b1, h1, _⟩
      have h1 := h1 (by rw [HF.out]; decide)
      rw [HF.out] at h1
      subst h1
      have HB1 := hid b1
      clear b1 HT HF
      go_wp2_with fail
      refine bodyPost_ret (v := .tuple #[.slice none 0 0, .int .i64 2]) (by simp [results, Try.results28, go_sem]) rfl ⟨_, rfl, town_nil _ _, HB1.out⟩
    · have HF := hid h2
      rw [tfault_three h2 hk, if_neg (by decide)]
      have hne : ¬ ((tfault l ⟨#[]⟩ : Nat) : Int) = 2 := by omega
      clear h2 hr hl hk
      go_enter Try.func28, Try.ntmps28
      go_wp2_with fail
      refine HT.out.mono ?_
      rintro e w1 ⟨b1, h1, h0⟩
      have hx : ∃ v, e = .returned (.tuple #[v, .int .i64 ((tfault l ⟨#[]⟩ : Nat) : Int)]) := by
        by_cases hz : tfault l ⟨#[]⟩ = 0
        · obtain ⟨a', c', he, _⟩ := h0 hz
          exact ⟨_, by rw [he, hz]; rfl⟩
        · exact ⟨_, h1 hz⟩
      obtain ⟨v, rfl⟩ := hx
      have HB1 := hid b1
      clear b1 h1 h0 HT HF
      generalize tfault l ⟨#[]⟩ = n at *
      go_wp2_with fail
      refine bodyPost_ret (v := .tuple #[.slice none 0 0, .int .i64 3]) (by simp [results, Try.results28, go_sem]) rfl ⟨_, rfl, town_nil _ _, HB1.out⟩
  · have hk1 : (key.size : Int) ≤ 6 := by omega
    rw [tfault_fine hk]
    by_cases h0 : tfault l ⟨#[]⟩ = 0
    · have H := refProve_main a cap l key w hr hl h0 hk
      rw [h0, if_pos rfl]
      exact H.mono fun e w' h => h
    · have HF := hid h0
      have hne : ¬ ((tfault l ⟨#[]⟩ : Nat) : Int) = 0 := by omega
      rw [if_neg h0]
      obtain ⟨n, hn⟩ : ∃ n, n = tfault l ⟨#[]⟩ := ⟨_, rfl⟩
      have HN := hid hn
      rw [← hn] at hne ⊢
      clear hn h0 hr hl hk
      go_enter Try.func28, Try.ntmps28
      go_wp2_with fail
      refine HT.out.mono ?_
      rintro e w1 ⟨b1, h1, _⟩
      have h1 := h1 HF.out
      rw [← HN.out] at h1
      subst h1
      have HB1 := hid b1
      clear b1 HT HF HN
      by_cases h2 : n = 2
      · subst h2
        go_wp2_with fail
        refine bodyPost_ret (v := .tuple #[.slice none 0 0, .int .i64 2]) (by simp [results, Try.results28, go_sem]) rfl ⟨_, rfl, town_nil _ _, HB1.out⟩
      · have h2' : ¬ (n : Int) = 2 := by omega
        have hb2 : ((n : Int) == 2) = false := by rw [beq_eq_false_iff_ne]; exact h2'
        have hb0 : ((n : Int) != 0) = true := by rw [bne_iff_ne]; exact hne
        go_wp2_with fail
        refine bodyPost_ret (v := .tuple #[.slice none 0 0, .int .i64 n]) (by simp [results, Try.results28, go_sem]) rfl ⟨_, rfl, town_nil _ _, HB1.out⟩
end Go.Proofs.Ytbmohenjphmlgaa

/- The walks of proofFor and Prove (of the program): Prove answers as the document says. -/
namespace Go.Proofs.Ytbmohenjphmlgaa
open Go.RowKit
set_option maxRecDepth 100000

theorem town_low {w : World} {b b' : Nat} {v : Value} {l : List ByteArray} (h : TOwn w b v l) (hb : b' ≤ b) : TOwn w b' v l := owns_base h hb

set_option maxHeartbeats 3200000 in
theorem proofFor_any {lo f : Nat} {w : World} {v : Value} {l : List Tr.Ent} (d : ByteArray) (hf : f ≤ 100) (hbt : BT lo w f v l) (hfit : Tr.Fits f l) (hap : Tr.Apart l) (hd : ∀ c ∈ d.data.toList, c.toNat < 16) (hg : (Tr.proofOf f l d.data.toList).length ≤ 1000) :
    Calls Try.prog 78 #[v, .string d] w fun e w' => ∃ r, e = .returned r ∧ TOwn w' w.heap.size r ((Tr.proofOf f l d.data.toList).map toB) ∧ Below w.heap.size w w' := by
  obtain ⟨k, l0, s, a, nn, cap, hnd, hrep, hk⟩ := bt_kind hbt
  have hsm := node_small f l hf hfit
  have hrep' := repW_rep _ _ _ hrep
  obtain ⟨goal, hgoal⟩ : ∃ goal, goal = (Tr.proofOf f l d.data.toList).map toB := ⟨_, rfl⟩
  have hgl : goal.length ≤ 1000 := by rw [hgoal, List.length_map]; exact hg
  have HSM := hid (fun w' (b : Below w.heap.size w w') => commonSum_any k a nn cap l0 s _ _ w' hsm (rep_later b hrep'))
  have HWK := hid (fun (w1 : World) (b1 : Below w.heap.size w w1) (hh : Holds w1 w.heap.size []) (s1 : ByteArray) => walk_any 102 enters_proof ⟨w.heap.size, 0, none⟩ s1 v (nd_isNode hnd) d w1 (PJ w lo goal) (PQ w goal)
    (by
      intro w2 b2
      have hB2 : Below w.heap.size w w2 := b1.trans (b2.mono b1.size)
      refine (prove1_any s1 w.heap.size [] w2 hnd hsm (rep_later hB2 hrep') (holds_later hh b2) (by simp)).mono ?_
      rintro e w3 ⟨rfl, hh3, b3⟩
      refine ⟨_, _, rfl, fun _ => ⟨hB2.trans b3, f, l, _, hf, hbt, hfit, hap, hd, hh3, ?_⟩, (fun h => by cases h)⟩
      rw [hgoal]; rfl) (way_prove w lo goal hgl))
  obtain ⟨T, A, rfl, _, _, _, hm⟩ := nd_call hnd
  have HG : Hid (goal = (Tr.proofOf f l d.data.toList).map toB) := hgoal
  clear hgoal hgl hsm hrep hrep' hbt hfit hap hd hg hk hnd
  go_enter Try.func78, Try.ntmps78
  go_wp2_with fail
  have HH0 : Hid (Holds (w.alloc (.cells #[.slice none 0 0] 34)) w.heap.size []) := ⟨_, heap_alloc_new w _, town_nil _ _⟩
  have HB0 : Hid (Below w.heap.size w (w.alloc (.cells #[.slice none 0 0] 34))) := (Below.refl _ _).alloc (Nat.le_refl _) _
  refine (HSM.out _ HB0.out).mono ?_
  rintro e w1 ⟨rfl, b1⟩
  have HB1 : Hid (Below w.heap.size w w1) := HB0.out.trans (b1.mono HB0.out.size)
  have HH1 := hid (holds_later HH0.out b1)
  clear b1 HH0 HB0
  go_wp2_with fail
  refine (HWK.out w1 HB1.out HH1.out _).mono ?_
  rintro e w2 ⟨x, ok, rfl, q⟩
  obtain ⟨rfl, b2, hh2⟩ := q
  obtain ⟨r, c2, o2⟩ := hh2
  have HO2 := hid o2
  have HB2 := hid b2
  obtain ⟨a2, n2, hv2, _⟩ := town_shape o2
  subst hv2
  have z0 := (cell_of_row _ _ 0 _ _ _ c2).trans rfl
  clear c2 o2 b2
  go_wp2_with fail
  go_ret
  exact ⟨_, rfl, by rw [← HG.out]; exact town_low HO2.out (by omega), HB2.out⟩

set_option maxHeartbeats 1600000 in
theorem treeProve_ok (a : Option Addr) (cap : Nat) (l : List (ByteArray × ByteArray)) (key : ByteArray) (w : World) (hr : PRd w.heap.size w a l) (hf : tfault l key = 0) :
    Calls Try.prog 57 #[.slice a l.length cap, .string key] w fun e w' => ∃ r, e = .returned (.tuple #[r, .int .i64 0]) ∧ TOwn w' w.heap.size r ((Tr.prove (lists l) key.data.toList).map toB) ∧ Below w.heap.size w w' := by
  have hft := tableFault_any key a cap l w hr
  rw [hf] at hft
  have HFT := hid hft
  obtain ⟨h1, h2, h3, h4⟩ := fault_none hf
  have HTO := hid (fun w h => tableOf_any a cap l w h (by omega) (fun p hp => by have := h2 p hp; omega))
  have HTR := hid (fun a cap w h => tree_any a cap l w h h1 h2 h4)
  have hk := lists_ok h2 h4
  have HDG := hid (fun w => digitsOf_any key w (by omega))
  have HPF := hid (fun (lo : Nat) (w : World) (v : Value) (h : BT lo w 13 v (Tr.table (lists l))) => proofFor_any ⟨(Tr.digits key.data.toList).toArray⟩ (by decide) h (Tr.table_fits _ hk.1 hk.2) (Tr.table_apart _) (Tr.digits_lt _) (Nat.le_trans (Tr.prove_len (lists l) key.data.toList hk.1 hk.2) (by decide)))
  have HR := hid hr
  clear hft hf h1 h2 h3 h4 hk hr
  go_enter Try.func57, Try.ntmps57
  go_wp2_with fail
  refine HFT.out.mono ?_
  rintro e w1 ⟨rfl, b1⟩
  have HB1 := hid b1
  clear b1
  go_wp2_with fail
  refine (HTO.out _ ((HR.out.later HB1.out).wider HB1.out.size)).mono ?_
  rintro e w2 ⟨v2, rfl, o2, b2⟩
  obtain ⟨a2, c2, hv2, p2⟩ := prd_of_pown o2
  subst hv2
  have HB2 : Hid (Below w.heap.size w w2) := HB1.out.trans (b2.mono HB1.out.size)
  have HP2 := hid p2
  clear o2 b2 p2
  go_wp2_with fail
  refine (HTR.out _ _ _ HP2.out).mono ?_
  rintro e w3 ⟨v3, rfl, t3, b3⟩
  have HB3 : Hid (Below w.heap.size w w3) := HB2.out.trans (b3.mono HB2.out.size)
  have HT3 := hid t3
  clear t3 b3
  go_wp2_with fail
  refine (HDG.out _).mono ?_
  rintro e w4 ⟨rfl, b4⟩
  have HB4 : Hid (Below w.heap.size w w4) := HB3.out.trans (b4.mono HB3.out.size)
  have HT4 := hid (bt_later HT3.out b4)
  clear b4
  go_wp2_with fail
  refine (HPF.out _ _ _ HT4.out).mono ?_
  rintro e w5 ⟨r5, rfl, o5, b5⟩
  have HO5 := hid (town_low o5 HB4.out.size)
  have HB5 : Hid (Below w.heap.size w w5) := HB4.out.trans (b5.mono HB4.out.size)
  clear o5 b5
  go_wp2_with fail
  go_ret2
  exact ⟨_, rfl, HO5.out, HB5.out⟩

/-- Prove answers as the document says. -/
theorem prove_any (a : Option Addr) (cap : Nat) (l : List (ByteArray × ByteArray)) (key : ByteArray) (w : World) (hr : PRd w.heap.size w a l) :
    Calls Try.prog 27 #[.slice a l.length cap, .string key] w fun e w' => ∃ r, e = .returned (.tuple #[r, .int .i64 (tfault l key : Nat)]) ∧ TOwn w' w.heap.size r (if tfault l key = 0 then (Tr.prove (lists l) key.data.toList).map toB else []) ∧ Below w.heap.size w w' := by
  by_cases hf : tfault l key = 0
  · rw [hf, if_pos rfl]
    have H := hid (treeProve_ok a cap l key w hr hf)
    clear hr hf
    go_enter Try.func27, Try.ntmps27
    go_wp2_with fail
    refine H.out.mono ?_
    rintro e w1 ⟨r, rfl, o1, b1⟩
    have HO := hid o1
    have HB := hid b1
    clear b1 o1
    go_wp2_with fail
    go_ret2
    exact ⟨_, rfl, HO.out, HB.out⟩
  · rw [if_neg hf]
    refine (prove_fault hf (tableFault_any key a cap l w hr)).mono ?_
    rintro e w' ⟨rfl, b⟩
    exact ⟨_, rfl, town_nil _ _, b⟩
end Go.Proofs.Ytbmohenjphmlgaa

/- The walk of handedItem (of the statements' own): the same item in lists of its own, each with eight marked places behind it. -/
namespace Go.Proofs.Ytbmohenjphmlgaa
open Go.RowKit
set_option maxRecDepth 100000

/-- What holds of the row while it is filled: the first k items are there. -/
def Fill (E : TypeId) (n : Nat) (t : Itm) (g base k : Nat) (wr : World) (xs : List Value) (L H : Nat → Nat) : Prop :=
  wr.heap[g]? = some (.cells xs.toArray E (0, 0)) ∧ xs.length = (t.items.length + 8) * 3 ∧
  (∀ i (h : i < t.items.length), i < k → base ≤ L i ∧ H i ≤ wr.heap.size ∧ g < L i ∧ Hand E wr n (L i) (H i) (tri xs i) t.items[i]) ∧ (∀ i j, i < j → j < k → j < t.items.length → H i ≤ L j) ∧
  (∀ i, t.items.length ≤ i → i < k → tri xs i = bang)

theorem fill_item {E : TypeId} {n : Nat} {t : Itm} {g base k : Nat} {wr w1 : World} {xs : List Value} {L H : Nat → Nat} {a b c : Value} (h : Fill E n t g base k wr xs L H) (hk : k < t.items.length) (hg : g < wr.heap.size) (hb0 : base ≤ wr.heap.size)
    (hb : Below wr.heap.size wr w1) (hy : Hand E w1 n wr.heap.size w1.heap.size (.agg #[a, b, c]) t.items[k]) :
    ∃ xs' L' H', Fill E n t g base (k + 1) (((w1.setCell ⟨g, k * 3, none⟩ a).setCell ⟨g, k * 3 + 1, none⟩ b).setCell ⟨g, k * 3 + 2, none⟩ c) xs' L' H' := by
  obtain ⟨h1, h2, h3, h4, h5⟩ := h
  have hsz := hb.size
  refine ⟨put3 xs k a b c, fun i => if i = k then wr.heap.size else L i, fun i => if i = k then w1.heap.size else H i, ?_, ?_, ?_, ?_, ?_⟩
  · exact row_put (by rw [hb.block g hg]; exact h1) a b c
  · rw [put3_len]; exact h2
  · intro i hi hik
    rw [put_size]
    by_cases he : i = k
    · subst he
      simp only [if_true]
      refine ⟨hb0, Nat.le_refl _, hg, ?_⟩
      rw [tri_put_same xs i a b c (by omega)]
      exact hand_frame _ _ _ _ _ (fun j hj _ => put_other (by omega) a b c) hy
    · simp only [if_neg he]
      obtain ⟨q1, q2, q3, q4⟩ := h3 i hi (by omega)
      refine ⟨q1, by omega, q3, ?_⟩
      rw [tri_put_other xs k i a b c he]
      refine hand_frame _ _ _ _ _ (fun j hj1 hj2 => ?_) q4
      rw [put_other (by omega) a b c]
      exact hb.block j (by omega)
  · intro i j hij hj hjl
    by_cases he : j = k
    · subst he
      simp only [if_true, if_neg (show i ≠ j by omega)]
      exact (h3 i (by omega) (by omega)).2.1
    · simp only [if_neg he, if_neg (show i ≠ k by omega)]
      exact h4 i j hij (by omega) hjl
  · intro i hi hik
    omega

theorem fill_bang {E : TypeId} {n : Nat} {t : Itm} {g base k : Nat} {wr : World} {xs : List Value} {L H : Nat → Nat} (h : Fill E n t g base k wr xs L H) (hk : t.items.length ≤ k) (hk2 : k < t.items.length + 8) :
    ∃ xs', Fill E n t g base (k + 1) (((wr.setCell ⟨g, k * 3, none⟩ (.bool false)).setCell ⟨g, k * 3 + 1, none⟩ (.string ⟨#[33]⟩)).setCell ⟨g, k * 3 + 2, none⟩ (.slice none 0 0)) xs' L H := by
  obtain ⟨h1, h2, h3, h4, h5⟩ := h
  refine ⟨put3 xs k (.bool false) (.string ⟨#[33]⟩) (.slice none 0 0), row_put h1 _ _ _, by rw [put3_len]; exact h2, ?_, fun i j hij hj hjl => h4 i j hij (by omega) hjl, ?_⟩
  · intro i hi _
    rw [put_size]
    obtain ⟨q1, q2, q3, q4⟩ := h3 i hi (by omega)
    refine ⟨q1, q2, q3, ?_⟩
    rw [tri_put_other _ _ _ _ _ _ (by omega)]
    exact hand_frame _ _ _ _ _ (fun j hj1 hj2 => put_other (by omega) _ _ _) q4
  · intro i hi hik
    by_cases he : i = k
    · subst he
      rw [tri_put_same _ _ _ _ _ (by omega)]
      rfl
    · rw [tri_put_other _ _ _ _ _ _ he]
      exact h5 i hi (by omega)

theorem items_wt (t : Itm) : 10 * t.items.length + 10 ≤ Itm.wt t := by
  have : ∀ l : List Itm, 10 * l.length ≤ (l.map Itm.wt).sum := by
    intro l
    induction l with
    | nil => simp
    | cons x l ihl => simp only [List.length_cons, List.map_cons, List.sum_cons]; have := Itm.wt_eq x; omega
  have := this t.items
  rw [Itm.wt_eq]; omega

/-- The cells of a row that lay there before a call lie there behind it. -/
theorem fill_cells {E : TypeId} {n : Nat} {t : Itm} {g base k j : Nat} {wr w1 : World} {xs : List Value} {L H : Nat → Nat} (h : Fill E n t g base k wr xs L H) (hj : j < t.items.length + 8) (hb : w1.heap[g]? = wr.heap[g]?) :
    (∃ u, w1.cell? ⟨g, j * 3, none⟩ = some u) ∧ (∃ u, w1.cell? ⟨g, j * 3 + 1, none⟩ = some u) ∧ (∃ u, w1.cell? ⟨g, j * 3 + 2, none⟩ = some u) ∧
    w1.frozen? ⟨g, j * 3, none⟩ = false ∧ w1.frozen? ⟨g, j * 3 + 1, none⟩ = false ∧ w1.frozen? ⟨g, j * 3 + 2, none⟩ = false := by
  have h1 : w1.heap[g]? = some (.cells xs.toArray E (0, 0)) := by rw [hb]; exact h.1
  have h2 := h.2.1
  exact ⟨⟨_, row_cell h1 _ (by omega)⟩, ⟨_, row_cell h1 _ (by omega)⟩, ⟨_, row_cell h1 _ (by omega)⟩, row_frozen h1 _, row_frozen h1 _, row_frozen h1 _⟩

theorem hand_of_fill {E : TypeId} {n : Nat} {t : Itm} {j : Nat} {w wr : World} {xs : List Value} {L H : Nat → Nat} (h : Fill E n t (w.heap.size + 1 + 1) (w.heap.size + 1 + 1 + 1) j wr xs L H) (hj : j = t.items.length + 8) (hs : w.heap.size + 1 + 1 + 1 ≤ wr.heap.size) (x y z : Value) :
    Hand E (((wr.setCell ⟨w.heap.size + 1, 0, none⟩ x).setCell ⟨w.heap.size + 1, 1, none⟩ y).setCell ⟨w.heap.size + 1, 2, none⟩ z).drew (n + 1) w.heap.size (((wr.setCell ⟨w.heap.size + 1, 0, none⟩ x).setCell ⟨w.heap.size + 1, 1, none⟩ y).setCell ⟨w.heap.size + 1, 2, none⟩ z).drew.heap.size
      (.agg #[.bool t.list, .string ⟨t.bytes.toArray⟩, .slice (some ⟨w.heap.size + 1 + 1, 0, none⟩) t.items.length (t.items.length + 8)]) t := by
  subst hj
  obtain ⟨h1, h2, h3, h4, h5⟩ := h
  have hsz : (((wr.setCell ⟨w.heap.size + 1, 0, none⟩ x).setCell ⟨w.heap.size + 1, 1, none⟩ y).setCell ⟨w.heap.size + 1, 2, none⟩ z).drew.heap.size = wr.heap.size := box_size wr _ x y z
  have hfr : ∀ k, k ≠ w.heap.size + 1 → (((wr.setCell ⟨w.heap.size + 1, 0, none⟩ x).setCell ⟨w.heap.size + 1, 1, none⟩ y).setCell ⟨w.heap.size + 1, 2, none⟩ z).drew.heap[k]? = wr.heap[k]? := fun k hk => box_other hk x y z
  rw [hsz]
  refine ⟨w.heap.size + 1 + 1, xs, L, H, rfl, by omega, by omega, by rw [hfr _ (by omega)]; exact h1, h2, fun i hi => ?_, fun i j hij hj => h4 i j hij (by omega) hj, fun i hi hi2 => h5 i hi hi2⟩
  obtain ⟨q1, q2, q3, q4⟩ := h3 i hi (by omega)
  exact ⟨by omega, q2, .inl q3, hand_frame _ _ _ _ _ (fun k hk _ => hfr k (by omega)) q4⟩

set_option maxHeartbeats 1600000 in
theorem handed_any (n : Nat) : ∀ (v : Value) (t : Itm) (w : World), Rep w.heap.size w n v t → Itm.wt t ≤ 1000000000 →
    Calls Try.prog 12 #[v] w fun e w' => ∃ v', e = .returned v' ∧ Hand 24 w' n w.heap.size w'.heap.size v' t ∧ Below w.heap.size w w' := by
  induction n with
  | zero => intro v t w h; exact h.elim
  | succ n ih =>
    intro v t w hrep hwt
    obtain ⟨a, cap, rfl, hm, hkids⟩ := hrep
    obtain ⟨i0, hi, hz0, hz1, hz2⟩ := info_parts infoItem
    have hlen : t.items.length ≤ 100000000 := by have := items_wt t; omega
    have HK := hid hkids
    have IH := hid ih
    have HWT := hid hwt
    clear hkids ih hwt
    have hby : i0.bytes * (t.items.length + 8) ≤ 281474976710656 := by rw [hz2]; omega
    have hml : t.items.length + 8 ≤ maxLen := by unfold maxLen; omega
    have HN : Hid ((t.items.length : Int) + 8 = ((t.items.length + 8 : Nat) : Int)) := by show _ = _; omega
    have hbase : ((w.alloc (.cells #[.bool t.list, .string ⟨t.bytes.toArray⟩, .slice a t.items.length cap] 24)).alloc (.cells #[.bool false, .string ⟨#[]⟩, .slice none 0 0] 24)).heap.size ≤ ((w.alloc (.cells #[.bool t.list, .string ⟨t.bytes.toArray⟩, .slice a t.items.length cap] 24)).alloc (.cells #[.bool false, .string ⟨#[]⟩, .slice none 0 0] 24)).heap.size := Nat.le_refl _
    go_enter Try.func12, Try.ntmps12
    go_wp2_with (at_make; refine wpList_make_full _ rfl (.tmp 11) (.tmp 11) 22 rfl _ 24 i0 _ 3 Try.underlying22 hi hz0 hz1 .i64 .i64 _ _ (t.items.length + 8) rfl rfl HN.out HN.out hby hml hbase ?_; intro w1 hrow hgr)
    have HF : Hid (∃ xs L H, Fill 24 n t (w.heap.size + 1 + 1) (w.heap.size + 1 + 1 + 1) 0 w1 xs L H) := by
      rcases hrow.2 with ⟨h', _⟩ | ⟨g', cap', cur, h', _, hg, _, _, hcs, _⟩
      · simp at h'
      · simp only [Value.slice.injEq, Option.some.injEq, Addr.mk.injEq, and_true, true_and] at h'
        obtain ⟨rfl, rfl⟩ := h'
        refine ⟨cur.toList, fun _ => 0, fun _ => 0, by simpa using hg, by simpa using hcs, fun i _ h => by omega, fun i j _ h => by omega, fun i _ h => by omega⟩
    have HG : Hid (Below ((w.alloc (.cells #[.bool t.list, .string ⟨t.bytes.toArray⟩, .slice a t.items.length cap] 24)).alloc (.cells #[.bool false, .string ⟨#[]⟩, .slice none 0 0] 24)).heap.size ((w.alloc (.cells #[.bool t.list, .string ⟨t.bytes.toArray⟩, .slice a t.items.length cap] 24)).alloc (.cells #[.bool false, .string ⟨#[]⟩, .slice none 0 0] 24)) w1) := ⟨hgr.os, hgr.tape, hgr.output, hgr.size, fun k hk => hgr.block k hk (by simp)⟩
    have HS1 : Hid (w.heap.size + 1 + 1 + 1 ≤ w1.heap.size) := by
      have := (hrow.lt _ rfl).2
      simp at this
      exact this
    clear hrow hgr hbase hby hml
    go_loopw [5] (fun i wr => ∃ (k : Nat) (xs : List Value) (L H : Nat → Nat), i = .int .i64 k ∧ k ≤ t.items.length ∧ Hid (Fill 24 n t (w.heap.size + 1 + 1) (w.heap.size + 1 + 1 + 1) k wr xs L H ∧ w.heap.size + 1 + 1 + 1 ≤ wr.heap.size ∧ Below ((w.alloc (.cells #[.bool t.list, .string ⟨t.bytes.toArray⟩, .slice a t.items.length cap] 24)).alloc (.cells #[.bool false, .string ⟨#[]⟩, .slice none 0 0] 24)).heap.size ((w.alloc (.cells #[.bool t.list, .string ⟨t.bytes.toArray⟩, .slice a t.items.length cap] 24)).alloc (.cells #[.bool false, .string ⟨#[]⟩, .slice none 0 0] 24)) wr)) (fun i _ => t.items.length - (intOf i).toNat)
    case atStart =>
      obtain ⟨xs, L, H, hf⟩ := HF.out
      exact ⟨0, xs, L, H, rfl, Nat.zero_le _, hf, HS1.out, HG.out⟩
    case round =>
      obtain ⟨k, xs, L, H, rfl, hk, HH⟩ := hrel
      have x2 : wr.cell? ⟨w.heap.size, 2, none⟩ = some (.slice a t.items.length cap) := by
        rw [HH.out.2.2.cell (p := ⟨w.heap.size, 2, none⟩) (by simp; omega)]; simp
      have HB0 : Hid (Below w.heap.size w wr) := (((Below.refl _ _).alloc (Nat.le_refl _) _).alloc (by simp) _).trans (HH.out.2.2.mono (by simp; omega))
      by_cases hlt : k < t.items.length
      · obtain ⟨b, off, c0, c1, c2, rfl, hbl, e0, e1, e2, hr⟩ := HK.out k hlt
        obtain ⟨a2, cap2, rfl, rfl, rfl⟩ := rep_shape hr
        have f0 := (HB0.out.cell (p := ⟨b, off + k * 3, none⟩) hbl).trans e0
        have f1 := (HB0.out.cell (p := ⟨b, off + k * 3 + 1, none⟩) hbl).trans e1
        have f2 := (HB0.out.cell (p := ⟨b, off + k * 3 + 2, none⟩) hbl).trans e2
        have HR := hid hr
        have hkw : Itm.wt t.items[k] ≤ 1000000000 := by have := Itm.kid_wt t k hlt; have := HWT.out; omega
        clear e0 e1 e2 hr
        go_wp2_with fail
        refine (IH.out _ t.items[k] _ (rep_in HR.out HB0.out) hkw).mono ?_
        rintro e w2 ⟨v', rfl, hhand, hbel⟩
        obtain ⟨g3, rfl⟩ := hand_shape hhand
        have HHD := hid hhand
        have HB2 := hid hbel
        obtain ⟨⟨u0, r0⟩, ⟨u1, r1⟩, ⟨u2, r2⟩, z0, z1, z2⟩ := fill_cells (j := k) HH.out.1 (by omega) (hbel.block _ (by have := HH.out.2.1; omega))
        clear hhand hbel
        go_wp2_with fail
        obtain ⟨xs', L', H', hf'⟩ := fill_item HH.out.1 hlt (by have := HH.out.2.1; omega) HH.out.2.1 HB2.out HHD.out
        refine ⟨⟨k + 1, xs', L', H', by go_num, by omega, hf', ?_, ?_⟩, by simp [intOf]; omega⟩
        · rw [put_size]; exact Nat.le_trans HH.out.2.1 HB2.out.size
        · exact put_below (HH.out.2.2.trans (HB2.out.mono (by have := HH.out.2.1; simp; omega))) (by simp) _ _ _
      · have HKE := hid (show k = t.items.length by omega)
        go_wp2_with fail
        go_loopw [6] (fun i wi => ∃ (j : Nat) (xs : List Value), i = .int .i64 j ∧ j ≤ t.items.length + 8 ∧ Hid (t.items.length ≤ j ∧ Fill 24 n t (w.heap.size + 1 + 1) (w.heap.size + 1 + 1 + 1) j wi xs L H ∧ w.heap.size + 1 + 1 + 1 ≤ wi.heap.size ∧ Below ((w.alloc (.cells #[.bool t.list, .string ⟨t.bytes.toArray⟩, .slice a t.items.length cap] 24)).alloc (.cells #[.bool false, .string ⟨#[]⟩, .slice none 0 0] 24)).heap.size ((w.alloc (.cells #[.bool t.list, .string ⟨t.bytes.toArray⟩, .slice a t.items.length cap] 24)).alloc (.cells #[.bool false, .string ⟨#[]⟩, .slice none 0 0] 24)) wi)) (fun i _ => t.items.length + 8 - (intOf i).toNat)
        case atStart => exact ⟨t.items.length, xs, rfl, by omega, Nat.le_refl _, by have := HH.out.1; rw [HKE.out] at this; exact this, HH.out.2⟩
        case round =>
          obtain ⟨j, xs2, rfl, hj, HJ⟩ := hrel
          by_cases hlt2 : j < t.items.length + 8
          · have hlt2' : (j : Int) < (t.items.length : Int) + 8 := by omega
            obtain ⟨⟨u0, r0⟩, ⟨u1, r1⟩, ⟨u2, r2⟩, z0, z1, z2⟩ := fill_cells (j := j) HJ.out.2.1 hlt2 rfl
            go_wp2_with fail
            obtain ⟨xs', hf'⟩ := fill_bang HJ.out.2.1 HJ.out.1 hlt2
            refine ⟨⟨j + 1, xs', by go_num, by omega, by have := HJ.out.1; omega, hf', ?_, ?_⟩, by simp [intOf]; omega⟩
            · rw [put_size]; exact HJ.out.2.2.1
            · exact put_below HJ.out.2.2.2 (by simp) _ _ _
          · have hlt2' : ¬ (j : Int) < (t.items.length : Int) + 8 := by omega
            have HJE := hid (show j = t.items.length + 8 by omega)
            obtain ⟨hcc, hff⟩ := bcell HJ.out.2.2.2
            go_wp2_with fail
            go_region
            go_wp2_with fail
            have hblk : wr.heap[w.heap.size + 1]? = some (.cells #[.bool false, .string ⟨#[]⟩, .slice none 0 0] 24 (0, 0)) := by
              rw [HJ.out.2.2.2.block _ (by simp)]
              have := heap_alloc_new (w.alloc (.cells #[.bool t.list, .string ⟨t.bytes.toArray⟩, .slice a t.items.length cap] 24)) (.cells #[.bool false, .string ⟨#[]⟩, .slice none 0 0] 24)
              simpa using this
            obtain ⟨c0, c1, c2⟩ := set3 hblk (.bool t.list) (.string ⟨t.bytes.toArray⟩) (.slice (some ⟨w.heap.size + 1 + 1, 0, none⟩) t.items.length (t.items.length + 8))
            have hHand := hand_of_fill (w := w) (j := j) HJ.out.2.1 HJE.out HJ.out.2.2.1 (.bool t.list) (.string ⟨t.bytes.toArray⟩) (.slice (some ⟨w.heap.size + 1 + 1, 0, none⟩) t.items.length (t.items.length + 8))
            refine bodyPost_ret (v := .agg #[.bool t.list, .string ⟨t.bytes.toArray⟩, .slice (some ⟨w.heap.size + 1 + 1, 0, none⟩) t.items.length (t.items.length + 8)]) (by simp [results, Try.results12, go_sem, c0, c1, c2]) rfl ⟨_, rfl, hHand, ?_⟩
            have hb0 : Below w.heap.size w wr := (((Below.refl _ _).alloc (Nat.le_refl _) _).alloc (by simp) _).trans (HJ.out.2.2.2.mono (by simp; omega))
            exact (((hb0.setCell (p := ⟨w.heap.size + 1, 0, none⟩) (by simp) _).setCell (p := ⟨w.heap.size + 1, 1, none⟩) (by simp) _).setCell (p := ⟨w.heap.size + 1, 2, none⟩) (by simp) _).drew
end Go.Proofs.Ytbmohenjphmlgaa

/- The walk of untouchedItem (of the statements' own): what was handed in reads as it did; then its owner writes over it, and over nothing else. -/
namespace Go.Proofs.Ytbmohenjphmlgaa
open Go.RowKit
set_option maxRecDepth 100000

/-- Of what was there nothing has turned but blocks from lo on and below hi. -/
structure Only (lo hi : Nat) (w w' : World) : Prop where
  os : w'.os = w.os
  tape : w'.tape = w.tape
  output : w'.output = w.output
  size : w.heap.size ≤ w'.heap.size
  block : ∀ k, k < w.heap.size → (k < lo ∨ hi ≤ k) → w'.heap[k]? = w.heap[k]?

theorem Only.below {lo hi : Nat} {w w' : World} (h : Only lo hi w w') (hl : lo ≤ w.heap.size) : Below lo w w' := ⟨h.os, h.tape, h.output, h.size, fun k hk => h.block k (by omega) (.inl hk)⟩

theorem Only.refl (lo hi : Nat) (w : World) : Only lo hi w w := ⟨rfl, rfl, rfl, Nat.le_refl _, fun _ _ _ => rfl⟩

theorem Only.trans {lo hi : Nat} {a b c : World} (h : Only lo hi a b) (k : Only lo hi b c) : Only lo hi a c :=
  ⟨k.os.trans h.os, k.tape.trans h.tape, k.output.trans h.output, Nat.le_trans h.size k.size, fun i hi hj => (k.block i (Nat.lt_of_lt_of_le hi h.size) hj).trans (h.block i hi hj)⟩

theorem Only.wider {lo hi lo' hi' : Nat} {w w' : World} (h : Only lo hi w w') (h1 : lo' ≤ lo) (h2 : hi ≤ hi') : Only lo' hi' w w' :=
  ⟨h.os, h.tape, h.output, h.size, fun k hk hj => h.block k hk (by omega)⟩

theorem Only.of_below {lo hi : Nat} {w w' : World} (h : Below w.heap.size w w') : Only lo hi w w' := ⟨h.os, h.tape, h.output, h.size, fun k hk _ => h.block k hk⟩

theorem Only.put {lo hi : Nat} {w w1 : World} (h : Only lo hi w w1) {g j : Nat} (hg : lo ≤ g) (hg2 : g < hi) (a b c : Value) :
    Only lo hi w (((w1.setCell ⟨g, j * 3, none⟩ a).setCell ⟨g, j * 3 + 1, none⟩ b).setCell ⟨g, j * 3 + 2, none⟩ c) :=
  ⟨h.os, h.tape, h.output, by rw [put_size]; exact h.size, fun k hk hj => by rw [put_other (by omega)]; exact h.block k hk hj⟩

/-- What is still to be looked at from the k-th place on. -/
def Unt (E : TypeId) (n : Nat) (t : Itm) (g lo hi k : Nat) (L H : Nat → Nat) (wr : World) (xs : List Value) : Prop :=
  wr.heap[g]? = some (.cells xs.toArray E (0, 0)) ∧ xs.length = (t.items.length + 8) * 3 ∧
  (∀ i (h : i < t.items.length), k ≤ i → lo ≤ L i ∧ H i ≤ hi ∧ (g < L i ∨ H i ≤ g) ∧ Hand E wr n (L i) (H i) (tri xs i) t.items[i]) ∧
  (∀ i, t.items.length ≤ i → k ≤ i → i < t.items.length + 8 → tri xs i = bang)

theorem unt_step {E : TypeId} {n : Nat} {t : Itm} {g lo hi k : Nat} {L H : Nat → Nat} {wr w1 : World} {xs : List Value} (h : Unt E n t g lo hi k L H wr xs) (hk : k < t.items.length) (hg : g < wr.heap.size) (hhi : hi ≤ wr.heap.size)
    (hLH : ∀ i j, i < j → j < t.items.length → H i ≤ L j) (ho : Only (L k) (H k) wr w1) (a b c : Value) :
    ∃ xs', Unt E n t g lo hi (k + 1) L H (((w1.setCell ⟨g, k * 3, none⟩ a).setCell ⟨g, k * 3 + 1, none⟩ b).setCell ⟨g, k * 3 + 2, none⟩ c) xs' := by
  obtain ⟨h1, h2, h3, h4⟩ := h
  obtain ⟨p1, p2, p3, _⟩ := h3 k hk (Nat.le_refl _)
  refine ⟨put3 xs k a b c, row_put (by rw [ho.block g hg (by omega)]; exact h1) a b c, by rw [put3_len]; exact h2, ?_, ?_⟩
  · intro i hi' hik
    obtain ⟨q1, q2, q3, q4⟩ := h3 i hi' (by omega)
    refine ⟨q1, q2, q3, ?_⟩
    rw [tri_put_other _ _ _ _ _ _ (by omega)]
    refine hand_frame _ _ _ _ _ (fun j hj1 hj2 => ?_) q4
    rw [put_other (by omega)]
    have := hLH k i (by omega) hi'
    exact ho.block j (by omega) (by omega)
  · intro i hi1 hi2 hi3
    rw [tri_put_other _ _ _ _ _ _ (by omega)]
    exact h4 i hi1 (by omega) hi3

theorem unt_spare {E : TypeId} {n : Nat} {t : Itm} {g lo hi k : Nat} {L H : Nat → Nat} {wr : World} {xs : List Value} (h : Unt E n t g lo hi k L H wr xs) (hk : t.items.length ≤ k) (a b c : Value) :
    ∃ xs', Unt E n t g lo hi (k + 1) L H (((wr.setCell ⟨g, k * 3, none⟩ a).setCell ⟨g, k * 3 + 1, none⟩ b).setCell ⟨g, k * 3 + 2, none⟩ c) xs' := by
  obtain ⟨h1, h2, h3, h4⟩ := h
  refine ⟨put3 xs k a b c, row_put h1 a b c, by rw [put3_len]; exact h2, fun i hi' hik => by omega, ?_⟩
  intro i hi1 hi2 hi3
  rw [tri_put_other _ _ _ _ _ _ (by omega)]
  exact h4 i hi1 (by omega) hi3

/-- The three cells at a place of the row. -/
theorem unt_cells {E : TypeId} {n : Nat} {t : Itm} {g lo hi k : Nat} {L H : Nat → Nat} {wr w1 : World} {xs : List Value} (h : Unt E n t g lo hi k L H wr xs) (hb : w1.heap[g]? = wr.heap[g]?) (j : Nat) (hj : j < t.items.length + 8) {a b c : Value} (ht : tri xs j = .agg #[a, b, c]) :
    w1.cell? ⟨g, j * 3, none⟩ = some a ∧ w1.cell? ⟨g, j * 3 + 1, none⟩ = some b ∧ w1.cell? ⟨g, j * 3 + 2, none⟩ = some c ∧
    w1.frozen? ⟨g, j * 3, none⟩ = false ∧ w1.frozen? ⟨g, j * 3 + 1, none⟩ = false ∧ w1.frozen? ⟨g, j * 3 + 2, none⟩ = false := by
  have h1 : w1.heap[g]? = some (.cells xs.toArray E (0, 0)) := by rw [hb]; exact h.1
  have h2 := h.2.1
  unfold tri at ht
  simp at ht
  obtain ⟨e0, e1, e2⟩ := ht
  have e : 3 * j = j * 3 := Nat.mul_comm 3 j
  rw [e] at e0 e1 e2
  refine ⟨?_, ?_, ?_, row_frozen h1 _, row_frozen h1 _, row_frozen h1 _⟩
  · rw [row_cell h1 _ (by omega), ← e0]; simp
  · rw [row_cell h1 _ (by omega), ← e1]; simp
  · rw [row_cell h1 _ (by omega), ← e2]; simp

theorem hand_drawn {E : TypeId} {wr : World} {n lo hi : Nat} {v : Value} {t : Itm} (nq : Nat) (h : Hand E wr n lo hi v t) : Hand E (wr.drewN nq).drew n lo hi v t :=
  hand_frame (w := wr) (w' := (wr.drewN nq).drew) n lo hi v t (fun _ _ _ => rfl) h

theorem rep_drawn {B : Nat} {wr : World} {n : Nat} {v : Value} {t : Itm} (nq : Nat) (h : Rep B wr n v t) : Rep B (wr.drewN nq).drew n v t :=
  rep_frame (w := wr) (w' := (wr.drewN nq).drew) ⟨rfl, rfl, rfl, Nat.le_refl _, fun _ _ => rfl⟩ n v t h

theorem only_undrawn {lo hi : Nat} {wr w' : World} {nq : Nat} (h : Only lo hi (wr.drewN nq).drew w') : Only lo hi wr w' := ⟨h.os, h.tape, h.output, h.size, h.block⟩

set_option maxHeartbeats 1600000 in
theorem untouched_any (n : Nat) : ∀ (v v2 : Value) (t : Itm) (w : World) (lo hi m : Nat), Hand 24 w n lo hi v t → hi ≤ w.heap.size → Rep lo w m v2 t → Itm.wt t ≤ 1000000000 →
    Calls Try.prog 15 #[v, v2] w fun e w' => e = .returned (.bool true) ∧ Only lo hi w w' := by
  induction n with
  | zero => intro v v2 t w lo hi m h; exact h.elim
  | succ n ih =>
    intro v v2 t w lo hi m hhand hhi hrep hwt
    cases m with
    | zero => exact hrep.elim
    | succ m =>
    obtain ⟨g, xs0, L, H, rfl, hlo, hgh, hrow, hxl, hkid, hLH, hsp⟩ := hhand
    obtain ⟨a, cap, rfl, hm, hkids⟩ := hrep
    have hlen : t.items.length ≤ 100000000 := by have := items_wt t; omega
    have HK := hid hkids
    have IH := hid ih
    have HWT := hid hwt
    have HLH := hid hLH
    have HU0 : Hid (Unt 24 n t g lo hi 0 L H w xs0) := ⟨hrow, hxl, fun i h _ => hkid i h, fun i h1 _ h2 => hsp i h1 h2⟩
    clear hkids ih hwt hrow hxl hkid hLH hsp hm
    go_enter Try.func15, Try.ntmps15
    go_wp2_with fail
    go_loopw [7, 8] (fun ok i wr => ∃ (k : Nat) (xs : List Value), ok = .bool true ∧ i = .int .i64 k ∧ k ≤ t.items.length ∧ Hid (Unt 24 n t g lo hi k L H wr xs ∧ Only lo hi w wr ∧ w.heap.size + 2 ≤ wr.heap.size ∧ wr.cell? ⟨w.heap.size + 1, 2, none⟩ = some (.slice a t.items.length cap))) (fun _ i _ => t.items.length - (intOf i).toNat)
    case atStart =>
      have hb1 : Below w.heap.size w ((w.alloc (.cells #[.bool t.list, .string ⟨t.bytes.toArray⟩, .slice (some ⟨g, 0, none⟩) t.items.length (t.items.length + 8)] 24)).alloc (.cells #[.bool t.list, .string ⟨t.bytes.toArray⟩, .slice a t.items.length cap] 24)) := ((Below.refl _ _).alloc (Nat.le_refl _) _).alloc (by simp) _
      obtain ⟨u1, u2, u3, u4⟩ := HU0.out
      exact ⟨0, xs0, rfl, rfl, Nat.zero_le _, ⟨by rw [hb1.block g (by omega)]; exact u1, u2, fun i h h' => ⟨(u3 i h h').1, (u3 i h h').2.1, (u3 i h h').2.2.1, hand_frame _ _ _ _ _ (fun k _ hk => hb1.block k (by have := (u3 i h h').2.1; omega)) (u3 i h h').2.2.2⟩, u4⟩, Only.of_below hb1, by simp, by simp⟩
    case round =>
      obtain ⟨k, xs, rfl, rfl, hk, HH⟩ := hrel
      have x2 := HH.out.2.2.2
      by_cases hlt : k < t.items.length
      · obtain ⟨b, off, c0, c1, c2, rfl, hbl, e0, e1, e2, hr⟩ := HK.out k hlt
        obtain ⟨a2, cap2, rfl, rfl, rfl⟩ := rep_shape hr
        obtain ⟨p1, p2, p3, p4⟩ := HH.out.1.2.2.1 k hlt (Nat.le_refl _)
        obtain ⟨gk, hgk⟩ := hand_shape p4
        obtain ⟨r0, r1, r2, z0, z1, z2⟩ := unt_cells HH.out.1 rfl k (by omega) hgk
        have hbw : ∀ o, wr.cell? ⟨b, o, none⟩ = w.cell? ⟨b, o, none⟩ := fun o => World.cell?_of_block (HH.out.2.1.block b (by omega) (.inl hbl))
        have f0 := (hbw (off + k * 3)).trans e0
        have f1 := (hbw (off + k * 3 + 1)).trans e1
        have f2 := (hbw (off + k * 3 + 2)).trans e2
        have hkw : Itm.wt t.items[k] ≤ 1000000000 := by have := Itm.kid_wt t k hlt; have := HWT.out; omega
        have hkl : t.items[k].items.length ≤ 100000000 := by have := items_wt t.items[k]; omega
        have HRK : Hid (Rep lo wr m (.agg #[.bool t.items[k].list, .string ⟨t.items[k].bytes.toArray⟩, .slice a2 t.items[k].items.length cap2]) t.items[k]) := rep_frame (HH.out.2.1.below (by omega)) _ _ _ hr
        rw [hgk] at p4
        have hhw : H k ≤ wr.heap.size := by have := HH.out.2.2.1; omega
        have HC : Hid (∀ nq, Calls Try.prog 15 #[.agg #[.bool t.items[k].list, .string ⟨t.items[k].bytes.toArray⟩, .slice (some ⟨gk, 0, none⟩) t.items[k].items.length (t.items[k].items.length + 8)], .agg #[.bool t.items[k].list, .string ⟨t.items[k].bytes.toArray⟩, .slice a2 t.items[k].items.length cap2]] (wr.drewN nq).drew fun e w' => e = .returned (.bool true) ∧ Only (L k) (H k) wr w') := fun nq =>
          (IH.out _ _ t.items[k] (wr.drewN nq).drew (L k) (H k) m (hand_drawn nq p4) hhw (rep_drawn nq (rep_wider p1 _ _ _ HRK.out)) hkw).mono fun e w' h => ⟨h.1, only_undrawn h.2⟩
        have HP := hid (And.intro p1 (And.intro p2 p3))
        have hgw : g < wr.heap.size := by have := HH.out.2.2.1; omega
        have HS : Hid (∀ w2, Only (L k) (H k) wr w2 → (w2.cell? ⟨g, k * 3, none⟩ = some (.bool t.items[k].list) ∧ w2.cell? ⟨g, k * 3 + 1, none⟩ = some (.string ⟨t.items[k].bytes.toArray⟩) ∧ w2.cell? ⟨g, k * 3 + 2, none⟩ = some (.slice (some ⟨gk, 0, none⟩) t.items[k].items.length (t.items[k].items.length + 8)) ∧ w2.frozen? ⟨g, k * 3, none⟩ = false ∧ w2.frozen? ⟨g, k * 3 + 1, none⟩ = false ∧ w2.frozen? ⟨g, k * 3 + 2, none⟩ = false)) := fun w2 ho =>
          unt_cells HH.out.1 (ho.block g hgw (by omega)) k (by omega) hgk
        have hcap : ¬ ((t.items[k].items.length : Int) + 8 < (t.items[k].items.length : Int) + 8) := by omega
        clear e0 e1 e2 hr p1 p2 p3 p4 hbw hgk
        go_wp2_with fail
        go_quiet (fail)
        go_wp2_with fail
        go_region_with (go_at_call 15; refine (HC.out _).mono ?_; rintro e w2 ⟨rfl, honly⟩; obtain ⟨s0, s1, s2, y0, y1, y2⟩ := HS.out w2 honly)
        all_goals
          go_wp2_with fail
          obtain ⟨xs', hu⟩ := unt_step HH.out.1 hlt hgw (by have := HH.out.2.2.1; omega) HLH.out honly (.bool false) (.string ⟨#[98, 108, 111, 116]⟩) (.slice none 0 0)
          refine ⟨⟨k + 1, xs', rfl, by go_num, by omega, hu, (HH.out.2.1.trans (honly.wider HP.out.1 HP.out.2.1)).put hlo hgh _ _ _, ?_, ?_⟩, by simp [intOf]; omega⟩
          · rw [put_size]; exact Nat.le_trans HH.out.2.2.1 honly.size
          · have hq := HH.out.2.2.1
            rw [← HH.out.2.2.2]
            refine World.cell?_of_block ?_
            show _ = wr.heap[w.heap.size + 1]?
            have hne : w.heap.size + 1 ≠ g := by omega
            have hHk : H k ≤ w.heap.size + 1 := by have := HP.out.2.1; omega
            have hlw : w.heap.size + 1 < wr.heap.size := by omega
            rw [put_other hne]
            exact honly.block (w.heap.size + 1) hlw (.inr hHk)
      · have HKE := hid (show k = t.items.length by omega)
        go_wp2_with fail
        go_loopw [7, 10] (fun ok i wi => ∃ (j : Nat) (xs : List Value), ok = .bool true ∧ i = .int .i64 j ∧ j ≤ t.items.length + 8 ∧ Hid (t.items.length ≤ j ∧ Unt 24 n t g lo hi j L H wi xs ∧ Only lo hi w wi)) (fun _ i _ => t.items.length + 8 - (intOf i).toNat)
        case atStart => exact ⟨t.items.length, xs, rfl, rfl, by omega, Nat.le_refl _, by have := HH.out.1; rw [HKE.out] at this; exact this, HH.out.2.1⟩
        case round =>
          obtain ⟨j, xs2, rfl, rfl, hj, HJ⟩ := hrel
          by_cases hlt2 : j < t.items.length + 8
          · have hlt2' : (j : Int) < (t.items.length : Int) + 8 := by omega
            obtain ⟨r0, r1, r2, z0, z1, z2⟩ := unt_cells HJ.out.2.1 rfl j hlt2 (HJ.out.2.1.2.2.2 j HJ.out.1 (Nat.le_refl _) hlt2)
            go_wp2_with fail
            obtain ⟨xs', hu⟩ := unt_spare HJ.out.2.1 HJ.out.1 (.bool false) (.string ⟨#[98, 108, 111, 116]⟩) (.slice none 0 0)
            exact ⟨⟨j + 1, xs', rfl, by go_num, by omega, by have := HJ.out.1; omega, hu, HJ.out.2.2.put hlo hgh _ _ _⟩, by simp [intOf]; omega⟩
          · have hlt2' : ¬ (j : Int) < (t.items.length : Int) + 8 := by omega
            go_wp2_with fail
            go_ret
            exact ⟨rfl, HJ.out.2.2⟩
end Go.Proofs.Ytbmohenjphmlgaa
