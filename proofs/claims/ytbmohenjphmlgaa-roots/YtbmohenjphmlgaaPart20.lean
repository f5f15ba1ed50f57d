/- Part 20 of a proof: what the last text needs. -/
import Derived.Test.YtbmohenjphmlgaaPart18
import Derived.Test.YtbmohenjphmlgaaPart19
import Derived.Test.YtbmohenjphmlgaaPart9
/- The walk of node (of the document's own answer), where it is a leaf. -/
namespace Go.Proofs.Ytbmohenjphmlgaa
open Go.RowKit
set_option maxRecDepth 100000

theorem takeL {P : Program} {ops : Array Oper} {Q : Exit → Act → World → Prop} {S : World → Prop} {md : Region.Mode} {k i : Nat} {oi : Oper} {v : Value} {fuel : Nat} {listed : Array Bool} {a : Act} {w : World} (L : Array Bool) (d : Nat) (hi : ops[i]? = some oi)
    (hs : Region.noSelect ops = true) (hf : Region.free md ops listed i = true) (hr : (Region.ready md ops listed).contains i = true) (hw : waitsFor md ops k i = true) (hlk : listed.getD k true = false)
    (hQ : ∀ c a w, Q (.panic c) (a.put oi.dst v) w → Q (.panic c) a w) (hS : S w) (hy : YieldsIf P ops S oi v a) (hL : listed.setIfInBounds i true = L) (hd : oi.dst = some d)
    (h : wpAnyL P md ops Q S k fuel L (a.put (some d) v) w) : wpAnyL P md ops Q S k (fuel + 1) listed a w := by
  refine wpAnyL_take hi hs hf hr hw hlk hQ hS hy ?_
  rw [hL, hd]
  exact h

/-- What the making of a leaf reads. -/
def LfS (X R b o : Nat) (V : ByteArray) (w : World) : Prop := w.heap[X]? = some (.cells #[.bool true, .string ⟨#[]⟩, .slice none 0 0] 24 (0, 0)) ∧ w.heap[R]? = some (.cells #[.bool false, .string ⟨#[]⟩, .slice none 0 0] 24 (0, 0)) ∧ w.cell? ⟨b, o, none⟩ = some (.string V)

theorem lfS_later {X R b o : Nat} {V : ByteArray} {w w' : World} (h : LfS X R b o V w) (hb : Below w.heap.size w w') : LfS X R b o V w' :=
  ⟨kept_block hb h.1, kept_block hb h.2.1, (hb.cell (p := ⟨b, o, none⟩) (World.block_lt_of_cell? w _ h.2.2)).trans h.2.2⟩

set_option maxHeartbeats 6400000 in
theorem nodeR_leaf (a : Option Addr) (cap n : Nat) (e : Tr.Ent) (w : World) (hr : ERd w.heap.size w a [e]) (h16 : ∀ c ∈ e.dig, c.toNat < 16) (hl : e.dig.length ≤ 1000000) : Calls Try.prog 55 #[.slice a 1 cap] w (NodePost (n + 2) (Tr.itL [Tr.itB (Tr.path e.dig true), Tr.itB e.val]) w) := by
  obtain ⟨b, off, ad, cd, rfl, hb, e0, e1, hbr⟩ := hr 0 (by simp)
  simp only [List.getElem_cons_zero, Nat.zero_mul, Nat.add_zero] at e0 e1 hbr
  have HBI := hid (fun s w => bytesItemR_any s w)
  have HPA := hid (fun w' (bb : Below w.heap.size w w') => pathR_any ad cd e.dig true w' (hbr.later bb) h16 hl)
  obtain ⟨V, hV⟩ : ∃ V : ByteArray, V = ⟨e.val.toArray⟩ := ⟨_, rfl⟩
  have HV : Hid (V.data.toList = e.val) := by rw [Hid, hV]
  rw [← hV] at e1
  have hne : ¬ b = w.heap.size := by omega
  have hne1 : ¬ b = w.heap.size + 1 := by omega
  clear hr h16 hl hV hbr
  go_enter Try.func55, Try.ntmps55
  go_wp2_with fail
  have HB0 := hid (((Below.refl w.heap.size w).alloc (Nat.le_refl _) (.cells #[.bool false, .string ⟨#[]⟩, .slice none 0 0] 24)).alloc (by simp) (.cells #[.bool true, .string ⟨#[]⟩, .slice none 0 0] 24))
  refine (HPA.out _ HB0.out).mono ?_
  rintro e' w1 ⟨rfl, b1⟩
  have HB1 : Hid (Below w.heap.size w w1) := HB0.out.trans (b1.mono HB0.out.size)
  obtain ⟨P, hP⟩ : ∃ P : ByteArray, P = ⟨(Tr.path e.dig true).toArray⟩ := ⟨_, rfl⟩
  have HP : Hid (P.data.toList = Tr.path e.dig true) := by rw [Hid, hP]
  rw [← hP]
  clear hP
  have hS1 : LfS (w.heap.size + 1) w.heap.size b (off + 1) V w1 := ⟨old_block2 b1, kept_block b1 (block_alloc (heap_alloc_new w _)), (HB1.out.cell (p := ⟨b, off + 1, none⟩) hb).trans e1⟩
  have hsz1 : w.heap.size + 1 < w1.heap.size := (Array.getElem?_eq_some_iff.1 hS1.1).1
  clear b1 e0 e1 HB0
  go_upto_region 6 with fail
  have hS : LfS (w.heap.size + 1) w.heap.size b (off + 1) V w1.drew := hS1
  refine wp_region_L (LfS (w.heap.size + 1) w.heap.size b (off + 1) V) 12 (by kernel_rfl) ?_
  refine takeL (i := 0) (v := .pointer (some ⟨w.heap.size + 1, 2, none⟩)) #[true, false, false, false, false, false, false, false, false, false, false, false, false] 27 rfl (by kernel_rfl) (by kernel_rfl) (by kernel_rfl) (by kernel_rfl) (by kernel_rfl) (fun _ _ _ h => h) hS (Or.inl ⟨by kernel_rfl, ?_⟩) (by kernel_rfl) rfl ?_
  · (intro w' hSw; go_simp)
  try simp only [Act.put, List.setIfInBounds_toArray, List.set_cons_zero, List.set_cons_succ]
  refine takeL (i := 1) (v := .slice none 0 0) #[true, true, false, false, false, false, false, false, false, false, false, false, false] 28 rfl (by kernel_rfl) (by kernel_rfl) (by kernel_rfl) (by kernel_rfl) (by kernel_rfl) (fun _ _ _ h => h) hS (Or.inl ⟨by kernel_rfl, ?_⟩) (by kernel_rfl) rfl ?_
  · (intro w' hSw; have z0 := (cell_of_row w' _ 2 _ _ _ hSw.1).trans rfl; go_simp)
  try simp only [Act.put, List.setIfInBounds_toArray, List.set_cons_zero, List.set_cons_succ]
  refine takeL (i := 2) (v := .string P) #[true, true, true, false, false, false, false, false, false, false, false, false, false] 29 rfl (by kernel_rfl) (by kernel_rfl) (by kernel_rfl) (by kernel_rfl) (by kernel_rfl) (fun _ _ _ h => h) hS (Or.inl ⟨by kernel_rfl, ?_⟩) (by kernel_rfl) rfl ?_
  · (intro w' hSw; go_simp)
  try simp only [Act.put, List.setIfInBounds_toArray, List.set_cons_zero, List.set_cons_succ]
  refine takeL (i := 4) (v := .slice (some ⟨b, off, none⟩) 1 cap) #[true, true, true, false, true, false, false, false, false, false, false, false, false] 31 rfl (by kernel_rfl) (by kernel_rfl) (by kernel_rfl) (by kernel_rfl) (by kernel_rfl) (fun _ _ _ h => h) hS (Or.inl ⟨by kernel_rfl, ?_⟩) (by kernel_rfl) rfl ?_
  · (intro w' hSw; go_simp)
  try simp only [Act.put, List.setIfInBounds_toArray, List.set_cons_zero, List.set_cons_succ]
  refine takeL (i := 5) (v := .pointer (some ⟨b, off, none⟩)) #[true, true, true, false, true, true, false, false, false, false, false, false, false] 32 rfl (by kernel_rfl) (by kernel_rfl) (by kernel_rfl) (by kernel_rfl) (by kernel_rfl) (fun _ _ _ h => h) hS (Or.inl ⟨by kernel_rfl, ?_⟩) (by kernel_rfl) rfl ?_
  · (intro w' hSw; go_simp)
  try simp only [Act.put, List.setIfInBounds_toArray, List.set_cons_zero, List.set_cons_succ]
  refine takeL (i := 6) (v := .pointer (some ⟨b, off + 1, none⟩)) #[true, true, true, false, true, true, true, false, false, false, false, false, false] 33 rfl (by kernel_rfl) (by kernel_rfl) (by kernel_rfl) (by kernel_rfl) (by kernel_rfl) (fun _ _ _ h => h) hS (Or.inl ⟨by kernel_rfl, ?_⟩) (by kernel_rfl) rfl ?_
  · (intro w' hSw; go_simp)
  try simp only [Act.put, List.setIfInBounds_toArray, List.set_cons_zero, List.set_cons_succ]
  refine takeL (i := 7) (v := .string V) #[true, true, true, false, true, true, true, true, false, false, false, false, false] 34 rfl (by kernel_rfl) (by kernel_rfl) (by kernel_rfl) (by kernel_rfl) (by kernel_rfl) (fun _ _ _ h => h) hS (Or.inl ⟨by kernel_rfl, ?_⟩) (by kernel_rfl) rfl ?_
  · (intro w' hSw; have z0 := hSw.2.2; go_simp)
  try simp only [Act.put, List.setIfInBounds_toArray, List.set_cons_zero, List.set_cons_succ]
  refine wpAnyL_ready (rs := [3]) (by kernel_rfl) (by simp) ?_
  refine AllReadyL.cons rfl (fun K hK => ?_) AllReadyL.nil
  go_simp
  refine (HBI.out _ _).mono ?_
  rintro e' w2 ⟨rfl, b2⟩
  have hS2 := lfS_later hS b2
  have HB2 : Hid (Below w1.heap.size w1 w2) := below_undrew b2
  clear b2
  refine hK.out _ _ hS2 ?_
  clear hK K
  try simp only [List.setIfInBounds_toArray, List.set_cons_zero, List.set_cons_succ]
  refine wpAnyL_ready (rs := [8]) (by kernel_rfl) (by simp) ?_
  refine AllReadyL.cons rfl (fun K hK => ?_) AllReadyL.nil
  go_simp
  refine (HBI.out _ _).mono ?_
  rintro e' w3 ⟨rfl, b3⟩
  have hS3 := lfS_later hS2 b3
  have HB3 : Hid (Below w1.heap.size w1 w3) := HB2.out.trans (b3.mono HB2.out.size)
  clear b3
  refine hK.out _ _ hS3 ?_
  clear hK K
  try simp only [List.setIfInBounds_toArray, List.set_cons_zero, List.set_cons_succ]
  refine wpAnyL_ready (rs := [9]) (by kernel_rfl) (by simp) ?_
  refine AllReadyL.cons rfl (fun K hK => ?_) AllReadyL.nil
  go_simp
  refine hK.out _ _ (lfS_later hS3 ((Below.refl _ _).alloc (Nat.le_refl _) _)) ?_
  clear hK K
  try simp only [List.setIfInBounds_toArray, List.set_cons_zero, List.set_cons_succ]
  refine wpAnyL_ready (rs := [10]) (by kernel_rfl) (by simp) ?_
  refine AllReadyL.cons rfl (fun K hK => ?_) AllReadyL.nil
  have hsz3 : w.heap.size + 2 ≤ w3.heap.size := by have := HB3.out.size; omega
  refine step_two_items (n := n + 1) (base := w.heap.size + 2) (lo1 := w.heap.size + 2) (hi1 := w.heap.size + 2) (lo2 := w.heap.size + 2) (hi2 := w.heap.size + 2) rfl (.tmp 28) (.tmp 36) rfl (.bool false) (.string P) (.slice none 0 0) (.bool false) (.string V) (.slice none 0 0) (Tr.itB (Tr.path e.dig true)) (Tr.itB e.val) w3.heap.size rfl rfl rfl (ow_bytes _ _ _ _ _ _ HP.out) (ow_bytes _ _ _ _ _ _ HV.out) (Nat.le_refl _) (Nat.le_refl _) (Nat.le_refl _) (Nat.le_refl _) hsz3 (by intro u hu; simp at hu; rcases hu with rfl | rfl | rfl | rfl | rfl | rfl <;> rfl) ?_
  intro a5 c5 w5 o5 b5
  have hS5 := lfS_later hS3 b5
  have HO5 := hid o5
  have HB5 : Hid (Below w1.heap.size w1 w5) := HB3.out.trans (b5.mono HB3.out.size)
  clear o5 b5
  refine hK.out _ _ hS5 ?_
  clear hK K
  refine takeL (i := 11) (v := .pointer (some ⟨w.heap.size + 1, 2, none⟩)) #[true, true, true, true, true, true, true, true, true, true, true, true, false] 38 rfl (by kernel_rfl) (by kernel_rfl) (by kernel_rfl) (by kernel_rfl) (by kernel_rfl) (fun _ _ _ h => h) hS5 (Or.inl ⟨by kernel_rfl, ?_⟩) (by kernel_rfl) rfl ?_
  · (intro w' hSw; go_simp)
  try simp only [Act.put]
  have q2 := (cell_of_row _ _ 2 _ _ _ hS5.1).trans rfl
  have hf2 := frozen_of_row _ _ 2 _ _ hS5.1
  refine wpAnyL_ready (rs := [12]) (by kernel_rfl) (by simp) ?_
  refine AllReadyL.last rfl (fun K hK => ?_)
  go_simp
  refine hK.out _ _ ?_
  clear hK K
  try simp only [List.setIfInBounds_toArray, List.set_cons_zero, List.set_cons_succ]
  refine wpAny_done (by kernel_rfl) ?_ _
  have hX6 := heap_setCell_same w5 (w.heap.size + 1) 2 _ 24 (.slice a5 2 c5) hS5.1
  have hR6 := (Below.heap_setCell w5 ⟨w.heap.size + 1, 2, none⟩ (.slice a5 2 c5) w.heap.size (by simp)).trans hS5.2.1
  have HO6 : Hid (OwL (w5.setCell ⟨w.heap.size + 1, 2, none⟩ (.slice a5 2 c5)) (n + 1) (w.heap.size + 2) w5.heap.size (.slice a5 2 c5) [Tr.itB (Tr.path e.dig true), Tr.itB e.val]) := by
    have h := own_frame (E := 24) (w := w5) (w' := w5.setCell ⟨w.heap.size + 1, 2, none⟩ (.slice a5 2 c5)) _ _ _ _ _ (fun k hk _ => Below.heap_setCell _ _ _ _ (by simp; omega)) (ow_list HO5.out)
    obtain ⟨sl, hv, hl⟩ := h
    simp only [Value.agg.injEq] at hv
    have : sl = .slice a5 2 c5 := by
      have := congrArg (fun z : Array Value => z[2]?) hv
      simpa using this.symm
    subst this
    exact hl
  have HB6 : Hid (Below w.heap.size w (w5.setCell ⟨w.heap.size + 1, 2, none⟩ (.slice a5 2 c5))) := (HB1.out.trans (HB5.out.mono HB1.out.size)).setCell (p := ⟨w.heap.size + 1, 2, none⟩) (Nat.le_succ _) _
  have HZ6 : Hid ((w5.setCell ⟨w.heap.size + 1, 2, none⟩ (.slice a5 2 c5)).heap.size = w5.heap.size) := by simp [Hid, World.setCell]
  generalize w5.setCell ⟨w.heap.size + 1, 2, none⟩ (.slice a5 2 c5) = w6 at *
  have x0 := (cell_of_row _ _ 0 _ _ _ hX6).trans rfl
  have x1 := (cell_of_row _ _ 1 _ _ _ hX6).trans rfl
  have x2 := (cell_of_row _ _ 2 _ _ _ hX6).trans rfl
  have r0 := (cell_of_row _ _ 0 _ _ _ hR6).trans rfl
  have r1 := (cell_of_row _ _ 1 _ _ _ hR6).trans rfl
  have r2 := (cell_of_row _ _ 2 _ _ _ hR6).trans rfl
  have g0 := frozen_of_row _ _ 0 _ _ hR6
  have g1 := frozen_of_row _ _ 1 _ _ hR6
  have g2 := frozen_of_row _ _ 2 _ _ hR6
  clear q2 hf2 hS5 hS3 hS2 hS hS1
  go_wp2_with fail
  obtain ⟨z0, z1, z2⟩ := set3 hR6 (.bool true) (.string ⟨#[]⟩) (.slice a5 2 c5)
  refine bodyPost_ret (v := .agg #[.bool true, .string ⟨#[]⟩, .slice a5 2 c5]) (by simp [results, Try.results55, go_sem, z0, z1, z2]) rfl ⟨_, rfl, ?_, three_below HB6.out (Nat.le_refl _) _ _ _⟩
  have hsz : (((w6.setCell ⟨w.heap.size, 0, none⟩ (.bool true)).setCell ⟨w.heap.size, 1, none⟩ (.string ⟨#[]⟩)).setCell ⟨w.heap.size, 2, none⟩ (.slice a5 2 c5)).heap.size = w6.heap.size := by simp [World.setCell]
  rw [hsz]
  have ho := own_widen (ow_list HO6.out) (lo' := w.heap.size + 1) (hi' := w6.heap.size) (by omega) (Nat.le_of_eq HZ6.out.symm)
  exact own_widen (own_frame _ _ _ _ _ (fun k hk _ => by rw [setCell_block _ _ _ _ (by show k ≠ w.heap.size; omega), setCell_block _ _ _ _ (by show k ≠ w.heap.size; omega), setCell_block _ _ _ _ (by show k ≠ w.heap.size; omega)]) ho) (Nat.le_succ _) (Nat.le_refl _)
end Go.Proofs.Ytbmohenjphmlgaa

/- Plain mathematics of trees: the proof for a key in a table, that it is sound, and what it tells. Nothing of the program is in here. -/
namespace Go.Proofs.Ytbmohenjphmlgaa
set_option maxRecDepth 100000

namespace Tr

theorem digits_pack (l : List UInt8) : ∀ k, l.length = 2 * k → (∀ c ∈ l, c.toNat < 16) → digits (pack l) = l := by
  intro k
  induction k generalizing l with
  | zero => intro h _; have : l = [] := by simpa using h
            subst this; rfl
  | succ k ih =>
    intro h hd
    match l, h, hd with
    | a :: b :: r, h, hd =>
      have ha := hd a (by simp)
      have hb := hd b (by simp)
      rw [pack_two, digits_cons, ih r (by simp at h; omega) (fun c hc => hd c (by simp [hc]))]
      have e : (UInt8.ofNat (16 * a.toNat + b.toNat)).toNat = 16 * a.toNat + b.toNat := by rw [UInt8.toNat_ofNat']; omega
      rw [e, Itm.ofNat_toNat' a _ (by omega), Itm.ofNat_toNat' b _ (by omega)]

theorem unpath_path (d : List UInt8) (leaf : Bool) (hd : ∀ c ∈ d, c.toNat < 16) : unpath (itB (path d leaf)) = some (d, leaf) := by
  unfold path
  split
  · rename_i h
    match d, h, hd with
    | a :: r, h, hd =>
      have ha := hd a (by simp)
      have e : (UInt8.ofNat ((if leaf then 32 else 0) + 16 + ((a :: r).getD 0 0).toNat)).toNat = (if leaf then 32 else 0) + 16 + a.toNat := by
        rw [UInt8.toNat_ofNat']
        show ((if leaf then 32 else 0) + 16 + a.toNat) % 256 = _
        cases leaf <;> simp <;> omega
      have hp := digits_pack r ((r.length) / 2) (by simp at h; omega) (fun c hc => hd c (by simp [hc]))
      unfold unpath itB
      simp only [List.getD_cons_zero] at e
      simp only [List.drop_succ_cons, List.drop_zero, List.isEmpty_cons, List.getD_cons_zero, e, hp]
      cases leaf with
      | true =>
        have h1 : ¬ (64 ≤ 32 + 16 + a.toNat) := by omega
        have h2 : (32 + 16 + a.toNat) / 16 % 2 = 1 := by omega
        have h3 : 32 ≤ 32 + 16 + a.toNat := by omega
        have h4 : (32 + 16 + a.toNat) % 16 = a.toNat := by omega
        simp only [if_true, h1, h2, h3, h4]
        simp
      | false =>
        have h1 : ¬ (64 ≤ 0 + 16 + a.toNat) := by omega
        have h2 : (0 + 16 + a.toNat) / 16 % 2 = 1 := by omega
        have h3 : ¬ 32 ≤ 0 + 16 + a.toNat := by omega
        have h4 : (0 + 16 + a.toNat) % 16 = a.toNat := by omega
        simp only [Bool.false_eq_true, if_false, h1, h2, h3, h4]
        simp
    | [], h, _ => simp at h
  · rename_i h
    have hp := digits_pack d (d.length / 2) (by omega) hd
    unfold unpath itB
    cases leaf with
    | true => simp [hp]
    | false => simp [hp]

/-- What entries have for digits. -/
def look (l : List Ent) (k : List UInt8) : List UInt8 := match l.find? (fun e => e.dig = k) with | some e => e.val | none => []

theorem apart_eq {a b : Ent} : ∀ l : List Ent, Apart l → a ∈ l → b ∈ l → a.dig = b.dig → a = b
  | [], _, h, _, _ => by simp at h
  | x :: l, ha, h1, h2, hd => by
    have ha' := List.pairwise_cons.1 ha
    rcases List.mem_cons.1 h1 with e1 | m1
    · rcases List.mem_cons.1 h2 with e2 | m2
      · exact e1.trans e2.symm
      · exact absurd (e1 ▸ hd) (ha'.1 b m2)
    · rcases List.mem_cons.1 h2 with e2 | m2
      · exact absurd (e2 ▸ hd.symm) (ha'.1 a m1)
      · exact apart_eq l ha'.2 m1 m2 hd

theorem look_some {l : List Ent} (ha : Apart l) {e : Ent} (he : e ∈ l) : look l e.dig = e.val := by
  unfold look
  cases hf : l.find? (fun x => x.dig = e.dig) with
  | none => exact absurd (decide_eq_true rfl) (List.find?_eq_none.1 hf e he)
  | some x =>
    have hx := List.mem_of_find?_eq_some hf
    have hd : x.dig = e.dig := by have := List.find?_some hf; simpa using this
    rw [apart_eq l ha hx he hd]

theorem look_none {l : List Ent} {k : List UInt8} (h : ∀ e ∈ l, e.dig ≠ k) : look l k = [] := by
  unfold look
  rw [List.find?_eq_none.2 (fun e he => by simpa using h e he)]

theorem look_behind {l : List Ent} (ha : Apart l) (s k : List UInt8) : look (behind s l) k = look l (s ++ k) := by
  by_cases h : ∃ e ∈ l, e.dig = s ++ k
  · obtain ⟨e, he, hd⟩ := h
    have hm : (⟨k, e.val⟩ : Ent) ∈ behind s l := by
      unfold behind
      rw [List.mem_filterMap]
      refine ⟨e, he, ?_⟩
      rw [if_pos (List.isPrefixOf_iff_prefix.2 (by rw [hd]; exact List.prefix_append _ _)), hd, List.drop_left]
    rw [← hd, look_some ha he]
    exact look_some (ha.behind (s := s)) hm
  · rw [look_none (fun e he hd => h ⟨e, he, hd⟩), look_none]
    intro e he hd
    obtain ⟨x, hx, h1, _⟩ := behind_mem he
    exact h ⟨x, hx, by rw [h1, hd]⟩

theorem valOf_look {l : List Ent} (ha : Apart l) : valOf l = look l [] := by
  by_cases hx : ∃ e ∈ l, e.dig = []
  · obtain ⟨e, he, h0⟩ := hx
    rw [valOf_some ha he h0, ← h0, look_some ha he]
  · have h1 : ∀ e ∈ l, e.dig ≠ [] := fun e he h0 => hx ⟨e, he, h0⟩
    rw [valOf_none h1, look_none h1]

theorem look_table (ps : List (List UInt8 × List UInt8)) (k : List UInt8) : look (table ps) (digits k) = value ps k := by
  by_cases h : value ps k = []
  · rw [h]
    refine look_none fun e he hd => ?_
    obtain ⟨k', rfl, hk⟩ := (table_mem ps e).1 he
    rw [digits_inj hd] at hk
    exact hk h
  · exact look_some (table_apart ps) (e := ⟨digits k, value ps k⟩) ((table_mem ps _).2 ⟨k, rfl, h⟩)

/-- The elements of a proof below a node, on the way of the digits k. -/
def elems : Nat → List Ent → List UInt8 → List (List UInt8)
  | 0, _, _ => []
  | f + 1, l, k =>
    match l with
    | [] => []
    | [_] => []
    | _ => if shared l = [] then (match k with
             | [] => []
             | c :: r => (if (Itm.enc (node f (behind [c] l))).length < 8 then [] else [Itm.enc (node f (behind [c] l))]) ++ elems f (behind [c] l) r)
           else if (shared l).isPrefixOf k then Itm.enc (node f (behind (shared l) l)) :: elems f (behind (shared l) l) (k.drop (shared l).length) else []

/-- The proof for digits. -/
def proofOf (f : Nat) (l : List Ent) (k : List UInt8) : List (List UInt8) := Itm.enc (node f l) :: elems f l k

/-- Entries whose values are not empty. -/
def Full (l : List Ent) : Prop := ∀ e ∈ l, e.val ≠ []

theorem Full.behind {l : List Ent} {s : List UInt8} (h : Full l) : Full (behind s l) := fun e he => by
  obtain ⟨x, hx, _, h2⟩ := behind_mem he
  rw [← h2]; exact h x hx

/-- Several entries that begin with nothing alike. -/
def Forks (l : List Ent) : Prop := ∃ a b r, l = a :: b :: r ∧ shared l = []

theorem forks_behind {l : List Ent} {a b : Ent} {r : List Ent} (hl : l = a :: b :: r) : Forks (behind (shared l) l) := by
  have hall : ∀ e ∈ l, shared l <+: e.dig := fun e he => shared_pre l e he
  have hb := behind_all hall
  refine ⟨⟨a.dig.drop (shared l).length, a.val⟩, ⟨b.dig.drop (shared l).length, b.val⟩, r.map fun e => ⟨e.dig.drop (shared l).length, e.val⟩, by rw [hb]; subst hl; rfl, ?_⟩
  have hne : behind (shared l) l ≠ [] := by rw [hb]; subst hl; simp
  have h1 : shared l ++ shared (behind (shared l) l) <+: shared l := by
    rw [shared_iff _ _ (by subst hl; simp)]
    intro e he
    have h2 : (⟨e.dig.drop (shared l).length, e.val⟩ : Ent) ∈ behind (shared l) l := by rw [hb]; exact List.mem_map.2 ⟨e, he, rfl⟩
    have h3 := shared_pre _ _ h2
    obtain ⟨t, ht⟩ := hall e he
    rw [← ht]
    refine (List.prefix_append_right_inj _).2 ?_
    have h4 : shared (behind (shared l) l) <+: e.dig.drop (shared l).length := h3
    rw [← ht, List.drop_left] at h4
    exact h4
  have := h1.length_le
  rw [List.length_append] at this
  exact List.eq_nil_of_length_eq_zero (by omega)

theorem node_fork (f : Nat) {l : List Ent} (h : Forks l) : node (f + 1) l = itL ((List.range 16).map (fun d => ref (node f (behind [UInt8.ofNat d] l))) ++ [itB (valOf l)]) := by
  obtain ⟨a, b, r, rfl, hs⟩ := h
  rw [node]
  unfold nodeOf
  rw [if_pos hs]

theorem node_ext (f : Nat) {l : List Ent} {a b : Ent} {r : List Ent} (hl : l = a :: b :: r) (hs : shared l ≠ []) : node (f + 1) l = itL [itB (path (shared l) false), ref (node f (behind (shared l) l))] := by
  subst hl
  rw [node]
  unfold nodeOf
  rw [if_neg hs]

theorem encB_pos (s : List UInt8) : 1 ≤ (Itm.encB s).length := by
  have := Itm.enc_ne (itB s)
  rw [enc_itB] at this
  cases h : Itm.encB s with
  | nil => exact absurd h this
  | cons => simp

theorem flatMap_pos (l : List Itm) : l.length ≤ (l.flatMap Itm.enc).length := by
  induction l with
  | nil => simp
  | cons x l ih =>
    have := Itm.enc_ne x
    have : 1 ≤ (Itm.enc x).length := by
      cases h : Itm.enc x with
      | nil => exact absurd h this
      | cons => simp
    simp only [List.length_cons, List.flatMap_cons, List.length_append]; omega

/-- A branch has more than eight bytes. -/
theorem fork_long (f : Nat) {l : List Ent} (h : Forks l) : ¬ (Itm.enc (node (f + 1) l)).length < 8 := by
  rw [node_fork f h, enc_itL]
  have h1 := Itm.headed_len 192 (((List.range 16).map (fun d => ref (node f (behind [UInt8.ofNat d] l))) ++ [itB (valOf l)]).flatMap Itm.enc)
  have h2 := flatMap_pos ((List.range 16).map (fun d => ref (node f (behind [UInt8.ofNat d] l))) ++ [itB (valOf l)])
  simp only [List.length_append, List.length_map, List.length_range, List.length_cons, List.length_nil] at h2
  omega

theorem isBranch_fork (f : Nat) {l : List Ent} (h : Forks l) : isBranch (node (f + 1) l) = true := by
  rw [node_fork f h]
  unfold isBranch itL
  simp

theorem kid_fork (f : Nat) {l : List Ent} (h : Forks l) (i : Nat) (hi : i < 16) : kid (node (f + 1) l) i = ref (node f (behind [UInt8.ofNat i] l)) := by
  rw [node_fork f h]
  unfold kid itL
  simp only [List.getD_eq_getElem?_getD]
  rw [List.getElem?_append_left (by simpa using hi)]
  simp [hi]

theorem kid_fork16 (f : Nat) {l : List Ent} (h : Forks l) : kid (node (f + 1) l) 16 = itB (valOf l) := by
  rw [node_fork f h]
  unfold kid itL
  simp only [List.getD_eq_getElem?_getD]
  rw [List.getElem?_append_right (by simp)]
  simp

theorem ref_short {t : Itm} (h : (Itm.enc t).length < 8) : ref t = t := by unfold ref; rw [if_pos h]
theorem ref_long {t : Itm} (h : ¬ (Itm.enc t).length < 8) : ref t = itB (sum (Itm.enc t)) := by unfold ref; rw [if_neg h]

theorem isSum_itB (s : List UInt8) (h : s.length = 8) : isSum (itB s) = true := by unfold isSum itB; simp [h]

theorem isEmpty_itB_nil : isEmpty (itB []) = true := rfl

theorem isSum_short {t : Itm} (h : (Itm.enc t).length < 8) : isSum t = false := by
  by_cases ht : t.list = true
  · unfold isSum; rw [ht]; rfl
  · have : t.list = false := by simpa using ht
    unfold isSum
    rw [this]
    have h8 : ¬ t.bytes.length = 8 := by
      intro h8
      rw [Itm.enc_eq, if_neg ht] at h
      unfold Itm.encB at h
      split at h
      · omega
      · have := Itm.headed_len 128 t.bytes; omega
    simp [h8]

theorem refers_ref (t : Itm) (k : List UInt8) (br : Bool) : refers (ref t) k br = if (Itm.enc t).length < 8 then goes t k br else some ⟨k, br, [], false, sum (Itm.enc t)⟩ := by
  by_cases h : (Itm.enc t).length < 8
  · rw [ref_short h, if_pos h]
    unfold refers refersOf
    rw [isSum_short h]; rfl
  · rw [ref_long h, if_neg h]
    unfold refers refersOf
    rw [isSum_itB _ (sum_len _)]; rfl

end Tr
end Go.Proofs.Ytbmohenjphmlgaa
