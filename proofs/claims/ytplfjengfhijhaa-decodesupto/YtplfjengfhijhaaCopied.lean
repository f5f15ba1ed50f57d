/- The walks of copiedItem, text and sameItem (of the statements' own). -/
import Derived.Test.YtplfjengfhijhaaSame
namespace Go.Proofs.Ytplfjengfhijhaa
open Go.RowKit

theorem take_all_items (t : Itm) (k : Nat) (h : k = t.items.length) : t.items.take k = t.items := by subst h; simp

namespace Itm
theorem items_le_cnt (t : Itm) : t.items.length ≤ cnt t := by
  have := cntL_len t.items
  unfold cntL at this
  rw [cnt_eq]; omega

theorem kid_cnt (t : Itm) (k : Nat) (h : k < t.items.length) : cnt t.items[k] < cnt t := by
  have : ∀ (l : List Itm) (x : Itm), x ∈ l → cnt x ≤ (l.map cnt).sum := by
    intro l x hx
    induction l with
    | nil => simp at hx
    | cons y l ih =>
      simp only [List.map_cons, List.sum_cons]
      rcases List.mem_cons.1 hx with rfl | hx
      · omega
      · have := ih hx; omega
  have := this t.items _ (List.getElem_mem h)
  rw [cnt_eq t]; omega
end Itm

/-- Two boxes that were laid, one behind the other. -/
theorem two_boxes {w wr : World} {x0 x1 x2 y0 y1 y2 : Value} {E : TypeId} (hb : Below (w.heap.size + 2) ((w.alloc (.cells #[x0, x1, x2] E)).alloc (.cells #[y0, y1, y2] E)) wr) :
    wr.heap[w.heap.size]? = some (.cells #[x0, x1, x2] E) ∧ wr.heap[w.heap.size + 1]? = some (.cells #[y0, y1, y2] E) := by
  constructor
  · rw [hb.block _ (by omega), Below.heap_alloc _ _ _ (by simp), heap_alloc_new]
  · rw [hb.block _ (by omega)]
    have := heap_alloc_new (w.alloc (.cells #[x0, x1, x2] E)) (.cells #[y0, y1, y2] E)
    simpa using this

set_option maxRecDepth 100000 in
set_option maxHeartbeats 1600000 in
theorem copied_any (n : Nat) : ∀ (v : Value) (t : Itm) (w : World), Rep w.heap.size w n v t → Itm.cnt t ≤ 1000000 →
    Calls Try.prog 26 #[v] w fun e w' => ∃ v', e = .returned v' ∧ Ow w' n w.heap.size w'.heap.size v' t ∧ Below w.heap.size w w' := by
  induction n with
  | zero => intro v t w h; exact h.elim
  | succ n ih =>
    intro v t w hrep hcnt
    obtain ⟨a, cap, rfl, hm, hkids⟩ := hrep
    have HK := hid hkids
    have IH := hid ih
    have HCT := hid hcnt
    have hlen : t.items.length ≤ 1000000 := by have := Itm.items_le_cnt t; omega
    clear hkids ih hm hcnt
    go_enter Try.func26, Try.ntmps26
    go_wp2_with fail
    go_loopw [3, 4] (fun l i wr => ∃ k : Nat, k ≤ t.items.length ∧ i = .int .i64 k ∧ Hid (OwL wr n (w.heap.size + 2) wr.heap.size l (t.items.take k) ∧ Below (w.heap.size + 2) ((w.alloc (.cells #[.bool t.list, .string ⟨t.bytes.toArray⟩, .slice a t.items.length cap] 24)).alloc (.cells #[.bool false, .string ⟨#[]⟩, .slice none 0 0] 24)) wr)) (fun _ i _ => t.items.length - (intOf i).toNat)
    case atStart => exact ⟨0, Nat.zero_le _, rfl, ownL_nil _ _ _ _ _, Below.refl _ _⟩
    case round =>
      obtain ⟨k, hk, rfl, HH⟩ := hrel
      obtain ⟨bx, by1⟩ := two_boxes HH.out.2
      have x0 := cell_of_row _ _ 0 _ _ _ bx
      have x1 := cell_of_row _ _ 1 _ _ _ bx
      have x2 := cell_of_row _ _ 2 _ _ _ bx
      have HB0 : Hid (Below w.heap.size w wr) := (((Below.refl _ _).alloc (Nat.le_refl _) _).alloc (by simp) _).trans (HH.out.2.mono (by omega))
      have hwr : w.heap.size + 2 ≤ wr.heap.size := by have := HH.out.2.size; simpa using this
      obtain ⟨a4, cap4, hu⟩ := ownL_len HH.out.1
      rw [List.length_take, Nat.min_eq_left hk] at hu
      subst hu
      by_cases hlt : k < t.items.length
      · obtain ⟨b, off, c0, c1, c2, rfl, hbl, e0, e1, e2, hr⟩ := HK.out k hlt
        obtain ⟨a2, cap2, rfl, rfl, rfl⟩ := rep_shape hr
        have f0 := (HB0.out.cell (p := ⟨b, off + k * 3, none⟩) hbl).trans e0
        have f1 := (HB0.out.cell (p := ⟨b, off + k * 3 + 1, none⟩) hbl).trans e1
        have f2 := (HB0.out.cell (p := ⟨b, off + k * 3 + 2, none⟩) hbl).trans e2
        have HC := hid (IH.out _ t.items[k] wr (rep_in hr HB0.out) (by have := Itm.kid_cnt t k hlt; have := HCT.out; omega))
        have HT : Hid (t.items.take (k + 1) = t.items.take k ++ [t.items[k]]) := List.take_succ_eq_append_getElem hlt
        clear e0 e1 e2 hr bx by1
        go_wp2_with fail
        refine HC.out.mono ?_
        rintro e w1 ⟨v1, rfl, ho1, hb1⟩
        obtain ⟨a5, cap5, rfl⟩ := ow_shape ho1
        have HO1 := hid ho1
        have HB1 := hid hb1
        have H5 : Hid (w.heap.size + 2 ≤ w1.heap.size) := by have := hb1.size; rw [Hid]; omega
        clear ho1 hb1
        have HL := hid HH.out.1
        have hdl : (t.items.take k).length ≤ 1000000 := by rw [List.length_take]; omega
        go_wp2_with (at_builtin; refine wpList_append_one rfl (.tmp 12) (.tmp 19) rfl rfl rfl rfl HL.out HB1.out HO1.out (Nat.le_refl _) hwr (Nat.le_refl _) HB1.out.size H5.out ⟨rfl, rfl, rfl⟩ hdl ?_; intro v' w' hown2 hbel2)
        refine ⟨⟨k + 1, by omega, by go_num, ?_, ?_⟩, by simp [intOf]; omega⟩
        · rw [HT.out]; exact hown2
        · exact HH.out.2.trans ((HB1.out.mono hwr).trans hbel2)
      · have HKE := hid (show k = t.items.length by omega)
        have z0 := cell_of_row _ _ 0 _ _ _ by1
        have z1 := cell_of_row _ _ 1 _ _ _ by1
        have z2 := cell_of_row _ _ 2 _ _ _ by1
        have zf0 := frozen_of_row _ _ 0 _ _ by1
        have zf1 := frozen_of_row _ _ 1 _ _ by1
        have zf2 := frozen_of_row _ _ 2 _ _ by1
        have HBY := hid by1
        clear by1
        go_wp2_with fail
        obtain ⟨c0, c1, c2⟩ := set3 HBY.out (.bool t.list) (.string ⟨t.bytes.toArray⟩) (.slice a4 k cap4)
        refine bodyPost_ret (v := .agg #[.bool t.list, .string ⟨t.bytes.toArray⟩, .slice a4 k cap4]) (by simp [results, Try.results26, go_sem, c0, c1, c2]) rfl ⟨_, rfl, ?_, ?_⟩
        · rw [box_size]
          refine own_widen (lo := w.heap.size + 1 + 1) (ow_box _ _ _ ⟨_, rfl, ?_⟩) (by omega) (Nat.le_refl _)
          have := HH.out.1
          rw [HKE.out, List.take_length] at this
          rw [HKE.out]
          exact this
        · exact ((HB0.out.setCell (p := ⟨w.heap.size + 1, 0, none⟩) (by simp) _).setCell (p := ⟨w.heap.size + 1, 1, none⟩) (by simp) _).setCell (p := ⟨w.heap.size + 1, 2, none⟩) (by simp) _

/-- A mark's text. -/
def markText (q : Nat) : List UInt8 := [63, UInt8.ofNat (q % 256), UInt8.ofNat (q / 256 % 256)]

theorem run_mark (w : World) (q : Nat) : (convert 59 9 (.slice (some ⟨w.heap.size, 0, none⟩) 3 3)).run Try.prog (w.alloc (.cells #[.int .u8 63, .int .u8 ((q : Int) % 256), .int .u8 ((q : Int) / 256 % 256)] 5)) = .ok (.string ⟨(markText q).toArray⟩) (w.alloc (.cells #[.int .u8 63, .int .u8 ((q : Int) % 256), .int .u8 ((q : Int) / 256 % 256)] 5)) := by
  have h := World.ownsRow_lit (base := w.heap.size) (e := 5) (size := 1) w #[.int .u8 63, .int .u8 ((q : Int) % 256), .int .u8 ((q : Int) / 256 % 256)] 3 (Nat.le_refl _) (by unfold maxLen; omega) rfl
  have hb : Bown (w.alloc (.cells #[.int .u8 63, .int .u8 ((q : Int) % 256), .int .u8 ((q : Int) / 256 % 256)] 5)) w.heap.size (.slice (some ⟨w.heap.size, 0, none⟩) 3 3) (markText q) := by
    have e : Lib.byteCells (markText q) = [.int .u8 63, .int .u8 ((q : Int) % 256), .int .u8 ((q : Int) / 256 % 256)] := by
      simp [Lib.byteCells, markText]
    unfold Bown
    rw [e]
    simpa [markText] using h
  exact run_bytes_string (brd_of_bown hb)

set_option maxRecDepth 100000 in
set_option maxHeartbeats 400000 in
theorem text_any (q : Nat) (w : World) (hq : q ≤ 1000000000000) : Calls Try.prog 40 #[.int .i64 q] w fun e w' => e = .returned (.string ⟨(markText q).toArray⟩) ∧ Below w.heap.size w w' := by
  have hcv := fun w => run_mark w q
  go_enter Try.func40, Try.ntmps40
  go_wp2_with fail
  go_ret
  exact ⟨rfl, (Below.refl _ _).alloc (Nat.le_refl _) _⟩
set_option maxRecDepth 100000 in
set_option maxHeartbeats 1600000 in
theorem sameL_any (n : Nat) : ∀ (v v2 : Value) (t : Itm) (w : World), Rep w.heap.size w n v t → Rep w.heap.size w n v2 t →
    Calls Try.prog 13 #[v, v2] w fun e w' => e = .returned (.bool true) ∧ Below w.heap.size w w' := by
  induction n with
  | zero => intro v v2 t w h; exact h.elim
  | succ n ih =>
    intro v v2 t w hrep hrep2
    obtain ⟨a, cap, rfl, hm, hk1⟩ := hrep
    obtain ⟨a', cap', rfl, _, hk2⟩ := hrep2
    have H1 := hid hk1
    have H2 := hid hk2
    have IH := hid ih
    clear hk1 hk2 ih
    unfold maxLen at hm
    go_enter Try.func13, Try.ntmps13
    go_wp2_with fail
    go_loopw [5] (fun i wr => ∃ k : Nat, k ≤ t.items.length ∧ i = .int .i64 k ∧ Hid (Below (w.heap.size + 2) ((w.alloc (.cells #[.bool t.list, .string ⟨t.bytes.toArray⟩, .slice a t.items.length cap] 24)).alloc (.cells #[.bool t.list, .string ⟨t.bytes.toArray⟩, .slice a' t.items.length cap'] 24)) wr)) (fun i _ => t.items.length - (intOf i).toNat)
    case atStart => exact ⟨0, Nat.zero_le _, rfl, Below.refl _ _⟩
    case round =>
      obtain ⟨k, hk, rfl, HB⟩ := hrel
      have x2 : wr.cell? ⟨w.heap.size, 2, none⟩ = some (.slice a t.items.length cap) := by
        rw [HB.out.cell (p := ⟨w.heap.size, 2, none⟩) (by simp)]; simp
      have y2 : wr.cell? ⟨w.heap.size + 1, 2, none⟩ = some (.slice a' t.items.length cap') := by
        rw [HB.out.cell (p := ⟨w.heap.size + 1, 2, none⟩) (by simp)]; simp
      by_cases hlt : k < t.items.length
      · obtain ⟨b, off, c0, c1, c2, rfl, hbl, e0, e1, e2, hr⟩ := H1.out k hlt
        obtain ⟨b', off', d0, d1, d2, rfl, hbl', g0, g1, g2, hr'⟩ := H2.out k hlt
        obtain ⟨a2, cap2, rfl, rfl, rfl⟩ := rep_shape hr
        obtain ⟨a3, cap3, rfl, rfl, rfl⟩ := rep_shape hr'
        have hB0 : Below w.heap.size w wr := (((Below.refl _ _).alloc (Nat.le_refl _) _).alloc (by simp) _).trans (HB.out.mono (by omega))
        have f0 := (hB0.cell (p := ⟨b, off + k * 3, none⟩) hbl).trans e0
        have f1 := (hB0.cell (p := ⟨b, off + k * 3 + 1, none⟩) hbl).trans e1
        have f2 := (hB0.cell (p := ⟨b, off + k * 3 + 2, none⟩) hbl).trans e2
        have f0' := (hB0.cell (p := ⟨b', off' + k * 3, none⟩) hbl').trans g0
        have f1' := (hB0.cell (p := ⟨b', off' + k * 3 + 1, none⟩) hbl').trans g1
        have f2' := (hB0.cell (p := ⟨b', off' + k * 3 + 2, none⟩) hbl').trans g2
        have HR := hid hr
        have HR' := hid hr'
        have HB0 := hid hB0
        clear e0 e1 e2 g0 g1 g2 hr hr' hB0
        have HC : Hid (Calls Try.prog 13 #[.agg #[.bool t.items[k].list, .string ⟨t.items[k].bytes.toArray⟩, .slice a2 t.items[k].items.length cap2], .agg #[.bool t.items[k].list, .string ⟨t.items[k].bytes.toArray⟩, .slice a3 t.items[k].items.length cap3]] wr.drew fun e w' => e = .returned (.bool true) ∧ Below wr.heap.size wr w') :=
          (IH.out _ _ t.items[k] wr.drew (rep_in HR.out HB0.out.drew) (rep_in HR'.out HB0.out.drew)).mono fun e w' h => ⟨h.1, below_undrew h.2⟩
        go_wp2_with fail
        go_region_with (go_at_call 13; refine HC.out.mono ?_; rintro e w2 ⟨rfl, hbel⟩)
        all_goals (go_wp2_with fail; refine ⟨⟨k + 1, by omega, by go_num, HB.out.trans (hbel.mono (by have := HB.out.size; simp at this; omega))⟩, by simp [intOf]; omega⟩)
      · go_wp2_with fail
        go_ret
        exact ⟨rfl, (((Below.refl _ _).alloc (Nat.le_refl _) _).alloc (by simp) _).trans (HB.out.mono (by omega))⟩

/-- Two items that are the same, whatever levels each was read at. -/
theorem sameL_two (n m : Nat) (v v2 : Value) (t : Itm) (w : World) (h1 : Rep w.heap.size w n v t) (h2 : Rep w.heap.size w m v2 t) :
    Calls Try.prog 13 #[v, v2] w fun e w' => e = .returned (.bool true) ∧ Below w.heap.size w w' := by
  have k1 := rep_lift m h1
  have k2 := rep_lift n h2
  rw [Nat.add_comm] at k2
  exact sameL_any (n + m) v v2 t w k1 k2

end Go.Proofs.Ytplfjengfhijhaa
