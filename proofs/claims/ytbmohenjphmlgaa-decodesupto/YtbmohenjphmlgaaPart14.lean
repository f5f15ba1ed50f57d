/- Part 14 of a proof: what the last text needs. -/
import Derived.Test.YtbmohenjphmlgaaPart13
import Derived.Test.YtbmohenjphmlgaaPart11
import Derived.Deep.RegionHeld3
import Derived.Test.YtbmohenjphmlgaaPart12
/- The walk of keepItem of Book (of the statements own): an item is laid to those that wait, and a copy of it to what they were. -/
namespace Go.Proofs.Ytbmohenjphmlgaa
open Go.RowKit
set_option maxRecDepth 100000

set_option maxHeartbeats 3200000 in
theorem keep_any (w : World) (c : Nat → Nat) (B : Nat) (it wi we : Value) (Q : Nat) (l : List Itm) (v : Value) (t : Itm) (lo hi : Nat) (hB : BookSt w c B it wi we Q) (h3 : WaitRow w c 3 wi l) (h4 : WaitRow w c 4 we l)
    (hown : Own 24 w 1001 lo hi v t) (hhi : hi ≤ w.heap.size) (hcw : ∀ k, lo ≤ k → k < hi → c k = 3 + 10 * (l.length + 1)) (hl : l.length ≤ 1000) (hcnt : Itm.cnt t ≤ 100000) :
    Calls Try.prog 20 #[.pointer (some ⟨B, 0, none⟩), v] w (KeepPost c B it Q l t w) := by
  obtain ⟨a3, cap3, rfl⟩ := h3.shape
  obtain ⟨a4, cap4, rfl⟩ := h4.shape
  obtain ⟨a0, cap0, rfl⟩ := own_shape hown
  obtain ⟨b2, b7, b8, _⟩ := hB.cells
  have bf := hB.nils.2.2.2.2.2.2
  have bf7 := bf 7
  have hBlt := hB.lt
  obtain ⟨xs, hx⟩ := h3
  have HX : Hid (WRx w c 3 (.slice a3 l.length cap3) l xs) := hx
  have HB := hid hB
  have H4 := hid h4
  have HO := hid hown
  have HHI := hid hhi
  have HCW := hid hcw
  have HL := hid hl
  have HCT := hid hcnt
  have i1 : (0 : Int) ≤ (l.length : Int) := by omega
  have i2 : (l.length : Int) < (l.length : Int) + 1 := by omega
  have i3 : (l.length : Int) ≤ 9223372036854775807 := by omega
  have hBX : ¬ B = w.heap.size := by omega
  clear hB b2 b8 bf hx h4 hown hhi hcw hl hcnt
  go_enter Try.func20, Try.ntmps20
  go_upto_region 1 with fail
  go_cut [] from 4 (fun wx => Hid (∃ c1 wi1, KeepMid c w B it (.slice a4 l.length cap4) Q l t (.bool t.list) (.string ⟨t.bytes.toArray⟩) (.slice a0 t.items.length cap0) lo hi wx c1 wi1))
  case first =>
    have HW : Hid (Below w.heap.size w ((w.alloc (.cells #[.bool t.list, .string ⟨t.bytes.toArray⟩, .slice a0 t.items.length cap0] 24)).drew.alloc (.cells #[.bool false, .string ⟨#[]⟩, .slice none 0 0] 24))) := (((Below.refl _ _).alloc (Nat.le_refl _) _).drew).alloc (by simp) _
    have HWX : Hid (((w.alloc (.cells #[.bool t.list, .string ⟨t.bytes.toArray⟩, .slice a0 t.items.length cap0] 24)).drew.alloc (.cells #[.bool false, .string ⟨#[]⟩, .slice none 0 0] 24)).heap[w.heap.size]? = some (.cells #[.bool t.list, .string ⟨t.bytes.toArray⟩, .slice a0 t.items.length cap0] 24 (0, 0))) := by
      rw [Hid, Below.heap_alloc _ _ _ (by simp)]; exact heap_alloc_new _ _
    have HWL : Hid (((w.alloc (.cells #[.bool t.list, .string ⟨t.bytes.toArray⟩, .slice a0 t.items.length cap0] 24)).drew.alloc (.cells #[.bool false, .string ⟨#[]⟩, .slice none 0 0] 24)).heap[w.heap.size + 1]? = some (.cells #[.bool false, .string ⟨#[]⟩, .slice none 0 0] 24 (0, 0))) := by
      have := heap_alloc_new ((w.alloc (.cells #[.bool t.list, .string ⟨t.bytes.toArray⟩, .slice a0 t.items.length cap0] 24)).drew) (.cells #[.bool false, .string ⟨#[]⟩, .slice none 0 0] 24)
      rw [Hid]; simpa using this
    have HR : Hid (WRx ((w.alloc (.cells #[.bool t.list, .string ⟨t.bytes.toArray⟩, .slice a0 t.items.length cap0] 24)).drew.alloc (.cells #[.bool false, .string ⟨#[]⟩, .slice none 0 0] 24)) (paint c w.heap.size) 3 (.slice a3 l.length cap3) l xs) := wrx_later HX.out HW.out (fun k hk => paint_old _ hk)
    have HP : Hid (paint c w.heap.size B = 1) := by rw [Hid, paint_old _ hBlt]; exact HB.out.cb
    have HPX : Hid (paint c w.heap.size w.heap.size = 0) := paint_new _ (Nat.le_refl _)
    refine wp_region_L (fun w' => w'.cell? ⟨B, 7, none⟩ = some (.slice a3 l.length cap3) ∧ w'.cell? ⟨w.heap.size, 0, none⟩ = some (.bool t.list) ∧ w'.cell? ⟨w.heap.size, 1, none⟩ = some (.string ⟨t.bytes.toArray⟩) ∧ w'.cell? ⟨w.heap.size, 2, none⟩ = some (.slice a0 t.items.length cap0)) 7 (by kernel_rfl) ?_
    have hS : (fun w' : World => w'.cell? ⟨B, 7, none⟩ = some (.slice a3 l.length cap3) ∧ w'.cell? ⟨w.heap.size, 0, none⟩ = some (.bool t.list) ∧ w'.cell? ⟨w.heap.size, 1, none⟩ = some (.string ⟨t.bytes.toArray⟩) ∧ w'.cell? ⟨w.heap.size, 2, none⟩ = some (.slice a0 t.items.length cap0)) (w.alloc (.cells #[.bool t.list, .string ⟨t.bytes.toArray⟩, .slice a0 t.items.length cap0] 24)).drew := by dsimp only; go_keep
    refine wpAnyL_take (i := 0) (v := .pointer (some ⟨B, 0, none⟩)) rfl (by kernel_rfl) (by kernel_rfl) (by kernel_rfl) (by kernel_rfl) (by kernel_rfl) (fun _ _ _ h => h) hS (Or.inl ⟨by rfl, ?_⟩) ?_
    · (intro w' hSw; (try dsimp only at hSw); go_simp)
    try simp only [Act.put]
    refine wpAnyL_take (i := 1) (v := .pointer (some ⟨B, 0, none⟩)) rfl (by kernel_rfl) (by kernel_rfl) (by kernel_rfl) (by kernel_rfl) (by kernel_rfl) (fun _ _ _ h => h) hS (Or.inl ⟨by rfl, ?_⟩) ?_
    · (intro w' hSw; (try dsimp only at hSw); go_simp)
    try simp only [Act.put]
    refine wpAnyL_take (i := 2) (v := .pointer (some ⟨B, 7, none⟩)) rfl (by kernel_rfl) (by kernel_rfl) (by kernel_rfl) (by kernel_rfl) (by kernel_rfl) (fun _ _ _ h => h) hS (Or.inl ⟨by rfl, ?_⟩) ?_
    · (intro w' hSw; (try dsimp only at hSw); go_simp)
    try simp only [Act.put]
    refine wpAnyL_take (i := 3) (v := .slice a3 l.length cap3) rfl (by kernel_rfl) (by kernel_rfl) (by kernel_rfl) (by kernel_rfl) (by kernel_rfl) (fun _ _ _ h => h) hS (Or.inl ⟨by rfl, ?_⟩) ?_
    · (intro w' hSw; (try dsimp only at hSw); go_simp)
    try simp only [Act.put]
    refine wpAnyL_take (i := 4) (v := .agg #[.bool t.list, .string ⟨t.bytes.toArray⟩, .slice a0 t.items.length cap0]) rfl (by kernel_rfl) (by kernel_rfl) (by kernel_rfl) (by kernel_rfl) (by kernel_rfl) (fun _ _ _ h => h) hS (Or.inl ⟨by rfl, ?_⟩) ?_
    · (intro w' hSw; (try dsimp only at hSw); go_simp)
    try simp only [Act.put]
    refine wpAnyL_take (i := 5) (v := .int .i64 l.length) rfl (by kernel_rfl) (by kernel_rfl) (by kernel_rfl) (by kernel_rfl) (by kernel_rfl) (fun _ _ _ h => h) hS (Or.inl ⟨by rfl, ?_⟩) ?_
    · (intro w' hSw; (try dsimp only at hSw); go_simp)
    try simp only [Act.put]
    refine wpAnyL_ready (rs := [6]) (by kernel_rfl) (by simp) ?_
    refine AllReadyL.cons rfl (fun K hK => ?_) AllReadyL.nil
    go_simp
    refine hK.out _ _ (by dsimp only at hS ⊢; go_keep) ?_
    clear hK K hS
    try simp only [Act.put]
    refine wpAnyL_ready (rs := [7]) (by kernel_rfl) (by simp) ?_
    refine AllReadyL.last rfl (fun K hK => ?_)
    refine step_push rfl (.tmp 7) (.tmp 10) rfl (w.heap.size + 1) rfl rfl HR.out.1 HWL.out HL.out ?_
    intro g cap w1 hown1 hgrow hat hlt
    obtain ⟨⟨r0, r1, r2⟩, ⟨q0, q1, q2⟩, ⟨cB1, fB1⟩, ⟨x0, x1, x2⟩, n1, n2, n3, n4, n5, n6⟩ := keep_app (.inl rfl) HR.out HP.out HPX.out ((HW.out.block B hBlt).trans HB.out.bk) (f := 7) rfl HWX.out hown1 hgrow hat
    have HM : Hid (∀ wF, Stored w1 wF g l.length B 7 (.slice (some ⟨g, 0, none⟩) (l.length + 1) cap) (.bool t.list) (.string ⟨t.bytes.toArray⟩) (.slice a0 t.items.length cap0) → ∃ c1 wi1, KeepMid c w B it (.slice a4 l.length cap4) Q l t (.bool t.list) (.string ⟨t.bytes.toArray⟩) (.slice a0 t.items.length cap0) lo hi wF c1 wi1) := (fun wF hst => keep_mid HB.out HX.out H4.out HO.out HHI.out HCW.out HW.out HWX.out hown1 hgrow hat hst)
    clear hown1 hgrow hat
    refine hK.out _ _ ?_
    clear hK K HB HX H4 HO HHI HCW HW HWX HWL HR HP HPX HCT HL b7 bf7 x0 x1 x2
    try simp only [Act.put]
    refine wpAny_take (i := 8) (v := .pointer (some ⟨g, l.length * 3, none⟩)) rfl (by kernel_rfl) (by kernel_rfl) (by kernel_rfl) (fun _ _ _ h => h) (Or.inl ⟨by rfl, ?_⟩) ?_
    · (intro w' ;  go_simp)
    try simp only [Act.put]
    refine wpAny_take (i := 10) (v := .pointer (some ⟨B, 0, none⟩)) rfl (by kernel_rfl) (by kernel_rfl) (by kernel_rfl) (fun _ _ _ h => h) (Or.inl ⟨by rfl, ?_⟩) ?_
    · (intro w' ;  go_simp)
    try simp only [Act.put]
    refine wpAny_take (i := 11) (v := .pointer (some ⟨B, 7, none⟩)) rfl (by kernel_rfl) (by kernel_rfl) (by kernel_rfl) (fun _ _ _ h => h) (Or.inl ⟨by rfl, ?_⟩) ?_
    · (intro w' ;  go_simp)
    try simp only [Act.put]
    refine wpAny_ready (rs := [9, 12]) (by kernel_rfl) (by simp) ?_
    refine AllReady.cons rfl (fun K hK => ?_) (AllReady.cons rfl (fun K hK => ?_) AllReady.nil)
    · go_simp
      refine hK _ _ ?_
      clear hK K
      try simp only [Act.put]
      refine wpAny_ready (rs := [12]) (by kernel_rfl) (by simp) ?_
      refine AllReady.cons rfl (fun K hK => ?_) AllReady.nil
      go_simp
      refine hK _ _ ?_
      clear hK K
      refine wpAny_done (by kernel_rfl) ?_ _
      go_wp2_with fail
      go_meet
      exact HM.out _ (stored_first w1 n1 _ _ _ _)
    · go_simp
      refine hK _ _ ?_
      clear hK K
      try simp only [Act.put]
      refine wpAny_ready (rs := [9]) (by kernel_rfl) (by simp) ?_
      refine AllReady.cons rfl (fun K hK => ?_) AllReady.nil
      go_simp
      refine hK _ _ ?_
      clear hK K
      refine wpAny_done (by kernel_rfl) ?_ _
      go_wp2_with fail
      go_meet
      exact HM.out _ (stored_last w1 n1 _ _ _ _)
  case rest =>
    obtain ⟨c1, wi1, km⟩ := hcut.out
    obtain ⟨_, _, y8, _⟩ := km.book.cells
    have yf8 := km.book.nils.2.2.2.2.2.2 8
    have hBc : B < wc.heap.size := km.book.lt
    have hXc : w.heap.size < wc.heap.size := (Array.getElem?_eq_some_iff.1 km.box).1
    have x0 : wc.cell? ⟨w.heap.size, 0, none⟩ = some (.bool t.list) := by rw [cell_of_row _ _ 0 _ _ _ km.box]; rfl
    have x1 : wc.cell? ⟨w.heap.size, 1, none⟩ = some (.string ⟨t.bytes.toArray⟩) := by rw [cell_of_row _ _ 1 _ _ _ km.box]; rfl
    have x2 : wc.cell? ⟨w.heap.size, 2, none⟩ = some (.slice a0 t.items.length cap0) := by rw [cell_of_row _ _ 2 _ _ _ km.box]; rfl
    obtain ⟨xs4, hx4⟩ := km.row4
    have HX4 : Hid (WRx wc c1 4 (.slice a4 l.length cap4) l xs4) := hx4
    have KM := hid km
    have HIC : Hid (hi ≤ wc.heap.size) := by rw [Hid]; have := HHI.out; omega
    have HC : Hid (∀ W', (∀ k, lo ≤ k → k < hi → W'.heap[k]? = wc.heap[k]?) → wc.heap.size ≤ W'.heap.size → Calls Try.prog 47 #[.agg #[.bool t.list, .string ⟨t.bytes.toArray⟩, .slice a0 t.items.length cap0]] W' fun e w' => ∃ a5 cap5, e = .returned (.agg #[.bool t.list, .string ⟨t.bytes.toArray⟩, .slice a5 t.items.length cap5]) ∧ Own 24 w' 1001 W'.heap.size w'.heap.size (.agg #[.bool t.list, .string ⟨t.bytes.toArray⟩, .slice a5 t.items.length cap5]) t ∧ Below W'.heap.size W' w') := fun W' h hs => keep_copied KM.out.own (Nat.le_trans HIC.out hs) h HCT.out
    have HW0 : Hid (Below wc.heap.size wc (wc.drew.alloc (.cells #[.bool false, .string ⟨#[]⟩, .slice none 0 0] 24))) := ((Below.refl _ _).drew).alloc (Nat.le_refl _) _
    have HL0 : Hid ((wc.drew.alloc (.cells #[.bool false, .string ⟨#[]⟩, .slice none 0 0] 24)).heap[wc.heap.size]? = some (.cells #[.bool false, .string ⟨#[]⟩, .slice none 0 0] 24 (0, 0))) := heap_alloc_new wc.drew (.cells #[.bool false, .string ⟨#[]⟩, .slice none 0 0] 24)
    have HLT0 : Hid (wc.heap.size < (wc.drew.alloc (.cells #[.bool false, .string ⟨#[]⟩, .slice none 0 0] 24)).heap.size) := (Array.getElem?_eq_some_iff.1 HL0.out).1
    have HR0 : Hid (WRx (wc.drew.alloc (.cells #[.bool false, .string ⟨#[]⟩, .slice none 0 0] 24)) (paint c1 wc.heap.size) 4 (.slice a4 l.length cap4) l xs4) := wrx_later HX4.out HW0.out (fun k hk => paint_old _ hk)
    have HP : Hid (paint c1 wc.heap.size B = 1) := by rw [Hid, paint_old _ hBc]; exact KM.out.book.cb
    have HPX : Hid (paint c1 wc.heap.size w.heap.size = 0) := by rw [Hid, paint_old _ hXc]; exact KM.out.cbox
    clear km hx4 hcut b7 bf7 HX HB H4 HO
    go_upto_region 2 with fail
    refine wp_region_L (fun w' => w'.cell? ⟨B, 8, none⟩ = some (.slice a4 l.length cap4) ∧ w'.cell? ⟨w.heap.size, 0, none⟩ = some (.bool t.list) ∧ w'.cell? ⟨w.heap.size, 1, none⟩ = some (.string ⟨t.bytes.toArray⟩) ∧ w'.cell? ⟨w.heap.size, 2, none⟩ = some (.slice a0 t.items.length cap0)) 8 (by kernel_rfl) ?_
    have hS : (fun w' : World => w'.cell? ⟨B, 8, none⟩ = some (.slice a4 l.length cap4) ∧ w'.cell? ⟨w.heap.size, 0, none⟩ = some (.bool t.list) ∧ w'.cell? ⟨w.heap.size, 1, none⟩ = some (.string ⟨t.bytes.toArray⟩) ∧ w'.cell? ⟨w.heap.size, 2, none⟩ = some (.slice a0 t.items.length cap0)) wc.drew := by dsimp only; go_keep
    refine wpAnyL_take (i := 0) (v := .pointer (some ⟨B, 0, none⟩)) rfl (by kernel_rfl) (by kernel_rfl) (by kernel_rfl) (by kernel_rfl) (by kernel_rfl) (fun _ _ _ h => h) hS (Or.inl ⟨by rfl, ?_⟩) ?_
    · (intro w' hSw; (try dsimp only at hSw); go_simp)
    try simp only [Act.put]
    refine wpAnyL_take (i := 1) (v := .pointer (some ⟨B, 0, none⟩)) rfl (by kernel_rfl) (by kernel_rfl) (by kernel_rfl) (by kernel_rfl) (by kernel_rfl) (fun _ _ _ h => h) hS (Or.inl ⟨by rfl, ?_⟩) ?_
    · (intro w' hSw; (try dsimp only at hSw); go_simp)
    try simp only [Act.put]
    refine wpAnyL_take (i := 2) (v := .pointer (some ⟨B, 8, none⟩)) rfl (by kernel_rfl) (by kernel_rfl) (by kernel_rfl) (by kernel_rfl) (by kernel_rfl) (fun _ _ _ h => h) hS (Or.inl ⟨by rfl, ?_⟩) ?_
    · (intro w' hSw; (try dsimp only at hSw); go_simp)
    try simp only [Act.put]
    refine wpAnyL_take (i := 3) (v := .slice a4 l.length cap4) rfl (by kernel_rfl) (by kernel_rfl) (by kernel_rfl) (by kernel_rfl) (by kernel_rfl) (fun _ _ _ h => h) hS (Or.inl ⟨by rfl, ?_⟩) ?_
    · (intro w' hSw; (try dsimp only at hSw); go_simp)
    try simp only [Act.put]
    refine wpAnyL_take (i := 4) (v := .agg #[.bool t.list, .string ⟨t.bytes.toArray⟩, .slice a0 t.items.length cap0]) rfl (by kernel_rfl) (by kernel_rfl) (by kernel_rfl) (by kernel_rfl) (by kernel_rfl) (fun _ _ _ h => h) hS (Or.inl ⟨by rfl, ?_⟩) ?_
    · (intro w' hSw; (try dsimp only at hSw); go_simp)
    try simp only [Act.put]
    refine wpAnyL_take (i := 6) (v := .int .i64 l.length) rfl (by kernel_rfl) (by kernel_rfl) (by kernel_rfl) (by kernel_rfl) (by kernel_rfl) (fun _ _ _ h => h) hS (Or.inl ⟨by rfl, ?_⟩) ?_
    · (intro w' hSw; (try dsimp only at hSw); go_simp)
    try simp only [Act.put]
    refine wpAnyL_ready (rs := [5, 7]) (by kernel_rfl) (by simp) ?_
    refine AllReadyL.cons rfl (fun K hK => ?_) (AllReadyL.cons rfl (fun K hK => ?_) AllReadyL.nil)
    · go_simp
      refine (HC.out wc.drew (fun k _ _ => rfl) (Nat.le_refl _)).mono ?_
      rintro e w2 ⟨a5, cap5, rfl, hit, hbel⟩
      have HB2 : Hid (Below wc.heap.size wc w2) := below_undrew hbel
      obtain ⟨hcc, hff⟩ := bcell HB2.out
      have c8 := (hcc B 8 hBc).trans y8
      have f8 := (hff B 8 hBc).trans yf8
      have z0 := (hcc w.heap.size 0 hXc).trans x0
      have z1 := (hcc w.heap.size 1 hXc).trans x1
      have z2 := (hcc w.heap.size 2 hXc).trans x2
      have HI2 : Hid (Own 24 w2 1001 wc.heap.size w2.heap.size (.agg #[.bool t.list, .string ⟨t.bytes.toArray⟩, .slice a5 t.items.length cap5]) t) := hit
      clear hbel hit
      try go_wp2_with fail
      refine hK.out _ _ ⟨c8, z0, z1, z2⟩ ?_
      clear hK K
      try simp only [Act.put]
      refine wpAnyL_ready (rs := [7]) (by kernel_rfl) (by simp) ?_
      refine AllReadyL.cons rfl (fun K hK => ?_) AllReadyL.nil
      go_simp
      refine hK.out _ _ (by go_keep) ?_
      clear hK K
      try simp only [Act.put]
      refine wpAnyL_ready (rs := [8]) (by kernel_rfl) (by simp) ?_
      refine AllReadyL.last rfl (fun K hK => ?_)
      have HWa : Hid (Below wc.heap.size wc (w2.alloc (.cells #[.bool false, .string ⟨#[]⟩, .slice none 0 0] 24))) := HB2.out.alloc HB2.out.size _
      refine step_push rfl (.tmp 18) (.tmp 22) rfl w2.heap.size rfl rfl (owns_below (owns_below HX4.out.1 HB2.out) ((Below.refl _ _).alloc (Nat.le_refl _) _)) (heap_alloc_new w2 (.cells #[.bool false, .string ⟨#[]⟩, .slice none 0 0] 24)) HL.out ?_
      intro g cap w1 hown1 hgrow hat hlt
      obtain ⟨⟨r0, r1, r2⟩, ⟨q0, q1, q2⟩, ⟨cB1, fB1⟩, ⟨u0, u1, u2⟩, n1, n2, n3, n4, n5, n6⟩ := keep_app (.inr rfl) (wrx_later HX4.out HWa.out (fun k hk => paint_old _ hk)) HP.out HPX.out ((HWa.out.block B hBc).trans KM.out.book.bk) (f := 8) rfl ((HWa.out.block _ hXc).trans KM.out.box) hown1 hgrow hat
      have HE : Hid (∀ wF, Stored w1 wF g l.length B 8 (.slice (some ⟨g, 0, none⟩) (l.length + 1) cap) (.bool t.list) (.string ⟨t.bytes.toArray⟩) (.slice a5 t.items.length cap5) → KeepPost c B it Q l t w (.returned (.tuple #[])) wF) := (fun wF hst => keep_end_ca KM.out HX4.out HWa.out (Nat.le_refl _) (keep_le w2 _) (own_frame _ _ _ _ _ (fun k _ h2 => Below.heap_alloc _ _ _ h2) HI2.out) hown1 hgrow hat hst)
      clear HWa
      clear hown1 hgrow hat
      refine hK.out _ _ ?_
      clear hK K hS HX4 KM HIC HC HW0 HL0 HLT0 HR0 HP HPX HHI HCW HL HCT y8 yf8 x0 x1 x2 c8 f8 z0 z1 z2 u0 u1 u2 hBc hXc HB2 HI2 hcc hff
      try simp only [Act.put]
      refine wpAny_take (i := 9) (v := .pointer (some ⟨g, l.length * 3, none⟩)) rfl (by kernel_rfl) (by kernel_rfl) (by kernel_rfl) (fun _ _ _ h => h) (Or.inl ⟨by rfl, ?_⟩) ?_
      · (intro w' ;  go_simp)
      try simp only [Act.put]
      refine wpAny_take (i := 11) (v := .pointer (some ⟨B, 0, none⟩)) rfl (by kernel_rfl) (by kernel_rfl) (by kernel_rfl) (fun _ _ _ h => h) (Or.inl ⟨by rfl, ?_⟩) ?_
      · (intro w' ;  go_simp)
      try simp only [Act.put]
      refine wpAny_take (i := 12) (v := .pointer (some ⟨B, 8, none⟩)) rfl (by kernel_rfl) (by kernel_rfl) (by kernel_rfl) (fun _ _ _ h => h) (Or.inl ⟨by rfl, ?_⟩) ?_
      · (intro w' ;  go_simp)
      try simp only [Act.put]
      refine wpAny_ready (rs := [10, 13]) (by kernel_rfl) (by simp) ?_
      refine AllReady.cons rfl (fun K hK => ?_) (AllReady.cons rfl (fun K hK => ?_) AllReady.nil)
      · go_simp
        refine hK _ _ ?_
        clear hK K
        try simp only [Act.put]
        refine wpAny_ready (rs := [13]) (by kernel_rfl) (by simp) ?_
        refine AllReady.cons rfl (fun K hK => ?_) AllReady.nil
        go_simp
        refine hK _ _ ?_
        clear hK K
        refine wpAny_done (by kernel_rfl) ?_ _
        go_wp2_with fail
        refine bodyPost_ret (v := .tuple #[]) (by simp [results, Try.results20, go_sem]) rfl ?_
        exact HE.out _ (stored_first _ n1 _ _ _ _)
      · go_simp
        refine hK _ _ ?_
        clear hK K
        try simp only [Act.put]
        refine wpAny_ready (rs := [10]) (by kernel_rfl) (by simp) ?_
        refine AllReady.cons rfl (fun K hK => ?_) AllReady.nil
        go_simp
        refine hK _ _ ?_
        clear hK K
        refine wpAny_done (by kernel_rfl) ?_ _
        go_wp2_with fail
        refine bodyPost_ret (v := .tuple #[]) (by simp [results, Try.results20, go_sem]) rfl ?_
        exact HE.out _ (stored_last _ n1 _ _ _ _)
    · go_simp
      refine hK.out _ _ (by go_keep) ?_
      clear hK K
      try simp only [Act.put]
      refine wpAnyL_ready (rs := [5]) (by kernel_rfl) (by simp) ?_
      refine AllReadyL.cons rfl (fun K hK => ?_) AllReadyL.nil
      go_simp
      refine (HC.out (wc.drew.alloc (.cells #[.bool false, .string ⟨#[]⟩, .slice none 0 0] 24)) (fun k _ h2 => HW0.out.block k (Nat.lt_of_lt_of_le h2 HIC.out)) HW0.out.size).mono ?_
      rintro e w2 ⟨a5, cap5, rfl, hit, hbel⟩
      have HB2 : Hid (Below wc.heap.size wc w2) := HW0.out.trans (hbel.mono HW0.out.size)
      obtain ⟨hcc, hff⟩ := bcell HB2.out
      have c8 := (hcc B 8 hBc).trans y8
      have f8 := (hff B 8 hBc).trans yf8
      have z0 := (hcc w.heap.size 0 hXc).trans x0
      have z1 := (hcc w.heap.size 1 hXc).trans x1
      have z2 := (hcc w.heap.size 2 hXc).trans x2
      have HL2 : Hid (w2.heap[wc.heap.size]? = some (.cells #[.bool false, .string ⟨#[]⟩, .slice none 0 0] 24 (0, 0))) := (hbel.block _ HLT0.out).trans HL0.out
      have HI2 : Hid (Own 24 w2 1001 (wc.drew.alloc (.cells #[.bool false, .string ⟨#[]⟩, .slice none 0 0] 24)).heap.size w2.heap.size (.agg #[.bool t.list, .string ⟨t.bytes.toArray⟩, .slice a5 t.items.length cap5]) t) := hit
      clear hbel hit
      try go_wp2_with fail
      refine hK.out _ _ ⟨c8, z0, z1, z2⟩ ?_
      clear hK K
      try simp only [Act.put]
      refine wpAnyL_ready (rs := [8]) (by kernel_rfl) (by simp) ?_
      refine AllReadyL.last rfl (fun K hK => ?_)
      refine step_push rfl (.tmp 18) (.tmp 22) rfl wc.heap.size rfl rfl (owns_below HX4.out.1 HB2.out) HL2.out HL.out ?_
      intro g cap w1 hown1 hgrow hat hlt
      obtain ⟨⟨r0, r1, r2⟩, ⟨q0, q1, q2⟩, ⟨cB1, fB1⟩, ⟨u0, u1, u2⟩, n1, n2, n3, n4, n5, n6⟩ := keep_app (.inr rfl) (wrx_later HX4.out HB2.out (fun k hk => paint_old _ hk)) HP.out HPX.out ((HB2.out.block B hBc).trans KM.out.book.bk) (f := 8) rfl ((HB2.out.block _ hXc).trans KM.out.box) hown1 hgrow hat
      have HE : Hid (∀ wF, Stored w1 wF g l.length B 8 (.slice (some ⟨g, 0, none⟩) (l.length + 1) cap) (.bool t.list) (.string ⟨t.bytes.toArray⟩) (.slice a5 t.items.length cap5) → KeepPost c B it Q l t w (.returned (.tuple #[])) wF) := (fun wF hst => keep_end_ca KM.out HX4.out HB2.out HW0.out.size (Nat.le_refl _) HI2.out hown1 hgrow hat hst)
      clear HL2
      clear hown1 hgrow hat
      refine hK.out _ _ ?_
      clear hK K hS HX4 KM HIC HC HW0 HL0 HLT0 HR0 HP HPX HHI HCW HL HCT y8 yf8 x0 x1 x2 c8 f8 z0 z1 z2 u0 u1 u2 hBc hXc HB2 HI2 hcc hff
      try simp only [Act.put]
      refine wpAny_take (i := 9) (v := .pointer (some ⟨g, l.length * 3, none⟩)) rfl (by kernel_rfl) (by kernel_rfl) (by kernel_rfl) (fun _ _ _ h => h) (Or.inl ⟨by rfl, ?_⟩) ?_
      · (intro w' ;  go_simp)
      try simp only [Act.put]
      refine wpAny_take (i := 11) (v := .pointer (some ⟨B, 0, none⟩)) rfl (by kernel_rfl) (by kernel_rfl) (by kernel_rfl) (fun _ _ _ h => h) (Or.inl ⟨by rfl, ?_⟩) ?_
      · (intro w' ;  go_simp)
      try simp only [Act.put]
      refine wpAny_take (i := 12) (v := .pointer (some ⟨B, 8, none⟩)) rfl (by kernel_rfl) (by kernel_rfl) (by kernel_rfl) (fun _ _ _ h => h) (Or.inl ⟨by rfl, ?_⟩) ?_
      · (intro w' ;  go_simp)
      try simp only [Act.put]
      refine wpAny_ready (rs := [10, 13]) (by kernel_rfl) (by simp) ?_
      refine AllReady.cons rfl (fun K hK => ?_) (AllReady.cons rfl (fun K hK => ?_) AllReady.nil)
      · go_simp
        refine hK _ _ ?_
        clear hK K
        try simp only [Act.put]
        refine wpAny_ready (rs := [13]) (by kernel_rfl) (by simp) ?_
        refine AllReady.cons rfl (fun K hK => ?_) AllReady.nil
        go_simp
        refine hK _ _ ?_
        clear hK K
        refine wpAny_done (by kernel_rfl) ?_ _
        go_wp2_with fail
        refine bodyPost_ret (v := .tuple #[]) (by simp [results, Try.results20, go_sem]) rfl ?_
        exact HE.out _ (stored_first _ n1 _ _ _ _)
      · go_simp
        refine hK _ _ ?_
        clear hK K
        try simp only [Act.put]
        refine wpAny_ready (rs := [10]) (by kernel_rfl) (by simp) ?_
        refine AllReady.cons rfl (fun K hK => ?_) AllReady.nil
        go_simp
        refine hK _ _ ?_
        clear hK K
        refine wpAny_done (by kernel_rfl) ?_ _
        go_wp2_with fail
        refine bodyPost_ret (v := .tuple #[]) (by simp [results, Try.results20, go_sem]) rfl ?_
        exact HE.out _ (stored_last _ n1 _ _ _ _)
end Go.Proofs.Ytbmohenjphmlgaa

/- The walk of Book's 'reads' (of the statements' own): all lists that were marked read as marked. -/
namespace Go.Proofs.Ytbmohenjphmlgaa
open Go.RowKit
set_option maxRecDepth 100000

/-- The k-th of the marked lists, as it can be read. -/
theorem BookSt.at {w : World} {c : Nat → Nat} {B : Nat} {wi we : Value} {Q : Nat} {a : Option Addr} {cap : Nat} (h : BookSt w c B (.slice a (4 * Q) cap) wi we Q) (k : Nat) (hk : k < 4 * Q) :
    ∃ r p n cp, a = some ⟨r, 0, none⟩ ∧ r < w.heap.size ∧ w.cell? ⟨r, k, none⟩ = some (.slice p n cp) ∧ Mk w (k / 4) (.slice p n cp) := by
  obtain ⟨ls, ho, hl, hm⟩ := h.row
  rw [hl] at ho
  rcases id ho.2 with ⟨_, h0⟩ | ⟨g, cap', cur, hv, _⟩
  · omega
  · simp only [Value.slice.injEq, true_and] at hv
    obtain ⟨rfl, rfl⟩ := hv
    have hmk := (hm k (by omega)).1
    obtain ⟨p, n, cp, he⟩ := mk_shape hmk
    refine ⟨g, p, n, cp, rfl, (ho.lt g rfl).2, ?_, by rw [← he]; exact hmk⟩
    rw [ho.cellAt k (by omega), List.getElem?_eq_getElem (by omega), he]

theorem mk_at {w : World} {q : Nat} {p : Option Addr} {n cp : Nat} (h : Mk w q (.slice p n cp)) (j : Nat) (hj : j < n) : ∃ g, p = some ⟨g, 0, none⟩ ∧ g < w.heap.size ∧ n ≤ maxLen ∧
    w.cell? ⟨g, j * 3, none⟩ = some (.bool false) ∧ w.cell? ⟨g, j * 3 + 1, none⟩ = some (.string ⟨(markText q).toArray⟩) ∧ w.cell? ⟨g, j * 3 + 2, none⟩ = some (.slice none 0 0) := by
  rcases h with h | ⟨g, n', cap', h, hn, hlt, hm⟩
  · simp at h; omega
  · simp only [Value.slice.injEq] at h
    obtain ⟨rfl, rfl, rfl⟩ := h
    exact ⟨g, rfl, hlt, hn, hm j hj⟩

theorem mk_len {w : World} {q : Nat} {p : Option Addr} {n cp : Nat} (h : Mk w q (.slice p n cp)) : n ≤ maxLen := by
  rcases h with h | ⟨g, n', cap', h, hn, hlt, hm⟩
  · simp at h; unfold maxLen; omega
  · simp only [Value.slice.injEq] at h
    omega

set_option maxHeartbeats 1600000 in
theorem reads_any (w : World) (c : Nat → Nat) (B : Nat) (it wi we : Value) (Q : Nat) (hB : BookSt w c B it wi we Q) (hQ : Q ≤ 100000000000) :
    Calls Try.prog 49 #[.pointer (some ⟨B, 0, none⟩)] w fun e w' => e = .returned (.bool true) ∧ Below w.heap.size w w' := by
  obtain ⟨b2, b7, b8, a, cap, rfl⟩ := hB.cells
  obtain ⟨b0, b1, b3, b4, b5, b6, bf⟩ := hB.nils
  have HB := hid hB
  have hBlt := hB.lt
  clear hB b7 b8 b3 b4 b5 b6 bf
  have HT : Hid (∀ (j : Nat), j ≤ 400000000000 → ∀ w, Calls Try.prog 71 #[.int .i64 (IntKind.i64.wrap ((j : Int) / 4))] w fun e w' => e = .returned (.string ⟨(markText (j / 4)).toArray⟩) ∧ Below w.heap.size w w') := fun j hj w => by
    have := text_any (j / 4) w (by omega)
    rwa [show ((j / 4 : Nat) : Int) = IntKind.i64.wrap ((j : Int) / 4) by rw [show IntKind.i64.wrap ((j : Int) / 4) = (j : Int) / 4 from wrap_small _ (by omega) (by omega)]; omega] at this
  go_enter Try.func49, Try.ntmps49
  go_wp2_with fail
  refine wp_loop_rounds 1 ?_
  rw [rounds_succ]
  go_wp2_with fail
  refine wp_loop_rounds 1 ?_
  rw [rounds_succ]
  go_wp2_with fail
  go_loopw [3, 8] (fun ok k wr => ∃ j : Nat, ok = .bool true ∧ k = .int .i64 j ∧ j ≤ 4 * Q ∧ Hid (Below w.heap.size w wr)) (fun _ k _ => 4 * Q - (intOf k).toNat)
  case atStart => exact ⟨0, rfl, rfl, Nat.zero_le _, Below.refl _ _⟩
  case round =>
    obtain ⟨j, rfl, rfl, hj, HBl⟩ := hrel
    have x2 := (HBl.out.cell (p := ⟨B, 2, none⟩) hBlt).trans b2
    by_cases hlt : j < 4 * Q
    · obtain ⟨r, p, n, cp, rfl, hr, hcr, hmk⟩ := HB.out.at j hlt
      have x3 := (HBl.out.cell (p := ⟨r, j, none⟩) hr).trans hcr
      have HM := hid hmk
      have hnl := mk_len hmk
      unfold maxLen at hnl
      have hlt' : (j : Int) < 4 * (Q : Int) := by omega
      clear hcr hmk
      go_wp2_with fail
      go_loopw [3, 9] (fun ok i wi2 => ∃ i' : Nat, ok = .bool true ∧ i = .int .i64 i' ∧ i' ≤ n ∧ Hid (Below w.heap.size w wi2)) (fun _ i _ => n - (intOf i).toNat)
      case atStart => exact ⟨0, rfl, rfl, Nat.zero_le _, HBl.out⟩
      case round =>
        obtain ⟨i', rfl, rfl, hi', HBi⟩ := hrel
        have y2 := (HBi.out.cell (p := ⟨B, 2, none⟩) hBlt).trans b2
        have y3 := (HBi.out.cell (p := ⟨r, j, none⟩) hr).trans ((HBl.out.cell (p := ⟨r, j, none⟩) hr).symm.trans x3)
        by_cases hlt2 : i' < n
        · obtain ⟨g, rfl, hg, _, m0, m1, m2⟩ := mk_at HM.out i' hlt2
          have z0 := (HBi.out.cell (p := ⟨g, i' * 3, none⟩) hg).trans m0
          have z1 := (HBi.out.cell (p := ⟨g, i' * 3 + 1, none⟩) hg).trans m1
          have z2 := (HBi.out.cell (p := ⟨g, i' * 3 + 2, none⟩) hg).trans m2
          clear m0 m1 m2
          go_wp2_with fail
          have HC := hid (HT.out j (by omega))
          go_region_held3 (fun w' => w'.cell? ⟨wr.heap.size, 0, none⟩ = some (.bool false) ∧ w'.cell? ⟨wr.heap.size, 1, none⟩ = some (.string ⟨(markText (j / 4)).toArray⟩) ∧ w'.cell? ⟨wr.heap.size, 2, none⟩ = some (.slice none 0 0)) (go_keep)
            ((go_at_call 71; refine (HC.out _).mono ?_; rintro e w2 ⟨rfl, hbel⟩; obtain ⟨hcc, hff⟩ := bcell hbel))
          all_goals
            go_wp2_with fail
            refine ⟨⟨i' + 1, rfl, by go_num, by omega, ?_⟩, by simp [intOf]; omega⟩
            have hb3 : Below wr.heap.size wr w2 := ((Below.refl _ _).alloc (Nat.le_refl _) _).trans ((below_undrew hbel).mono (by simp))
            exact HBi.out.trans (hb3.mono HBi.out.size)
        · have hlt2' : ¬ (i' : Int) < (n : Int) := by omega
          go_wp2_with fail
          exact ⟨⟨j + 1, rfl, by go_num, by omega, HBi.out⟩, by simp [intOf]; omega⟩
    · have hlt' : ¬ (j : Int) < 4 * (Q : Int) := by omega
      go_wp2_with fail
      go_ret
      exact ⟨rfl, HBl.out⟩
end Go.Proofs.Ytbmohenjphmlgaa

/- The walk of Book's 'settles' (of the statements' own): what waits is marked, all reads as it should. -/
namespace Go.Proofs.Ytbmohenjphmlgaa
open Go.RowKit
set_option maxRecDepth 100000

/-- What has no colour is as it was. -/
structure Calm (c c' : Nat → Nat) (w w' : World) : Prop where
  os : w'.os = w.os
  tape : w'.tape = w.tape
  output : w'.output = w.output
  size : w.heap.size ≤ w'.heap.size
  keep : ∀ k, k < w.heap.size → c k = 0 → w'.heap[k]? = w.heap[k]? ∧ c' k = 0

theorem Calm.refl (c : Nat → Nat) (w : World) : Calm c c w w := ⟨rfl, rfl, rfl, Nat.le_refl _, fun _ _ h => ⟨rfl, h⟩⟩

theorem Calm.trans {c c' c'' : Nat → Nat} {w w' w'' : World} (h : Calm c c' w w') (k : Calm c' c'' w' w'') : Calm c c'' w w'' :=
  ⟨k.os.trans h.os, k.tape.trans h.tape, k.output.trans h.output, Nat.le_trans h.size k.size, fun j hj hc => by
    obtain ⟨a, b⟩ := h.keep j hj hc
    obtain ⟨a', b'⟩ := k.keep j (Nat.lt_of_lt_of_le hj h.size) b
    exact ⟨a'.trans a, b'⟩⟩

theorem Calm.of_below {c : Nat → Nat} {w w' : World} (h : Below w.heap.size w w') : Calm c c w w' := ⟨h.os, h.tape, h.output, h.size, fun k hk hc => ⟨h.block k hk, hc⟩⟩

theorem Calm.of_turn {c c' : Nat → Nat} {lo hi m : Nat} {w w' : World} (h : Turn c c' lo hi w w') (hm : 10 ≤ m) (hc : ∀ k, lo ≤ k → k < hi → c k = m) : Calm c c' w w' :=
  ⟨h.os, h.tape, h.output, h.size, fun k hk h0 => by
    have hw : k < lo ∨ hi ≤ k := by
      by_cases h1 : lo ≤ k
      · by_cases h2 : k < hi
        · have := hc k h1 h2; omega
        · omega
      · omega
    exact ⟨h.block k hk hw (by omega) (by omega), by rw [h.color k hk hw]; exact h0⟩⟩

/-- The items that wait from the j-th on. -/
def WaitFrom (j : Nat) (w : World) (c : Nat → Nat) (sl : Value) (l : List Itm) (xs : List Value) : Prop :=
  w.ownsRow 0 24 3 sl l.length xs ∧ (∀ g, sl.ownBlock = some g → c g = 3) ∧
    ∀ i (h : i < l.length), j ≤ i → ∃ lo hi, hi ≤ w.heap.size ∧ (∀ k, lo ≤ k → k < hi → c k = 3 + 10 * (i + 1)) ∧ Own 24 w 1001 lo hi (tri xs i) l[i]

theorem waitFrom_step {j : Nat} {w w' : World} {c c' : Nat → Nat} {sl : Value} {l : List Itm} {xs : List Value} {lo hi : Nat} (h : WaitFrom j w c sl l xs) (hc : ∀ k, lo ≤ k → k < hi → c k = 3 + 10 * (j + 1)) (ht : Turn c c' lo hi w w') :
    WaitFrom (j + 1) w' c' sl l xs := by
  obtain ⟨ho, hs, hk⟩ := h
  have key : ∀ k, k < w.heap.size → c k % 10 = 3 → c k ≠ 3 + 10 * (j + 1) → w'.heap[k]? = w.heap[k]? ∧ c' k = c k := by
    intro k hk h1 h2
    have hw : k < lo ∨ hi ≤ k := by
      by_cases a : lo ≤ k
      · by_cases b : k < hi
        · exact absurd (hc k a b) h2
        · omega
      · omega
    exact ⟨ht.block k hk hw (by omega) (by omega), ht.color k hk hw⟩
  refine ⟨owns_frame ho (fun g hg => (key g (ho.lt g hg).2 (by rw [hs g hg]) (by rw [hs g hg]; omega)).1), fun g hg => ?_, fun i hi' hij => ?_⟩
  · rw [(key g (ho.lt g hg).2 (by rw [hs g hg]) (by rw [hs g hg]; omega)).2]; exact hs g hg
  · obtain ⟨lo', hi2, q1, q2, q3⟩ := hk i hi' (by omega)
    have := ht.size
    refine ⟨lo', hi2, by omega, fun k h1 h2 => ?_, own_frame _ _ _ _ _ (fun k h1 h2 => (key k (by omega) (by rw [q2 k h1 h2]; omega) (by rw [q2 k h1 h2]; omega)).1) q3⟩
    rw [(key k (by omega) (by rw [q2 k h1 h2]; omega) (by rw [q2 k h1 h2]; omega)).2]; exact q2 k h1 h2

theorem WaitFrom.later {j : Nat} {w w' : World} {c : Nat → Nat} {sl : Value} {l : List Itm} {xs : List Value} (h : WaitFrom j w c sl l xs) (hb : Below w.heap.size w w') : WaitFrom j w' c sl l xs := by
  obtain ⟨ho, hs, hk⟩ := h
  refine ⟨owns_frame ho (fun g hg => hb.block g (ho.lt g hg).2), hs, fun i hi' hij => ?_⟩
  obtain ⟨lo', hi2, q1, q2, q3⟩ := hk i hi' hij
  exact ⟨lo', hi2, Nat.le_trans q1 hb.size, q2, own_frame _ _ _ _ _ (fun k _ h2 => hb.block k (by omega)) q3⟩

theorem BookSt.below {w w' : World} {c : Nat → Nat} {B : Nat} {it wi we : Value} {Q : Nat} (h : BookSt w c B it wi we Q) (hb : Below w.heap.size w w') : BookSt w' c B it wi we Q :=
  h.frame hb.size (fun k hk _ => ⟨hb.block k hk, rfl⟩)

/-- The book's lists of what waits are laid down. -/
def laidDown (w : World) (B : Nat) : World :=
  (((((w.setCell ⟨B, 3, none⟩ (.slice none 0 0)).setCell ⟨B, 4, none⟩ (.slice none 0 0)).setCell ⟨B, 5, none⟩ (.slice none 0 0)).setCell ⟨B, 6, none⟩ (.slice none 0 0)).setCell ⟨B, 7, none⟩ (.slice none 0 0)).setCell ⟨B, 8, none⟩ (.slice none 0 0)

theorem BookSt.laid {w : World} {c : Nat → Nat} {B : Nat} {it wi we : Value} {Q : Nat} (h : BookSt w c B it wi we Q) : BookSt (laidDown w B) c B it (.slice none 0 0) (.slice none 0 0) Q ∧ Calm c c w (laidDown w B) := by
  have h1 : (w.setCell ⟨B, 3, none⟩ (.slice none 0 0)).heap[B]? = some (.cells #[.slice none 0 0, .slice none 0 0, it, .slice none 0 0, .slice none 0 0, .slice none 0 0, .slice none 0 0, wi, we] 39 (0, 0)) := by rw [heap_setCell_same _ B 3 _ 39 _ h.bk]; rfl
  have h2 : ((w.setCell ⟨B, 3, none⟩ (.slice none 0 0)).setCell ⟨B, 4, none⟩ (.slice none 0 0)).heap[B]? = some (.cells #[.slice none 0 0, .slice none 0 0, it, .slice none 0 0, .slice none 0 0, .slice none 0 0, .slice none 0 0, wi, we] 39 (0, 0)) := by rw [heap_setCell_same _ B 4 _ 39 _ h1]; rfl
  have h3 : (((w.setCell ⟨B, 3, none⟩ (.slice none 0 0)).setCell ⟨B, 4, none⟩ (.slice none 0 0)).setCell ⟨B, 5, none⟩ (.slice none 0 0)).heap[B]? = some (.cells #[.slice none 0 0, .slice none 0 0, it, .slice none 0 0, .slice none 0 0, .slice none 0 0, .slice none 0 0, wi, we] 39 (0, 0)) := by rw [heap_setCell_same _ B 5 _ 39 _ h2]; rfl
  have h4 : ((((w.setCell ⟨B, 3, none⟩ (.slice none 0 0)).setCell ⟨B, 4, none⟩ (.slice none 0 0)).setCell ⟨B, 5, none⟩ (.slice none 0 0)).setCell ⟨B, 6, none⟩ (.slice none 0 0)).heap[B]? = some (.cells #[.slice none 0 0, .slice none 0 0, it, .slice none 0 0, .slice none 0 0, .slice none 0 0, .slice none 0 0, wi, we] 39 (0, 0)) := by rw [heap_setCell_same _ B 6 _ 39 _ h3]; rfl
  have h5 : (((((w.setCell ⟨B, 3, none⟩ (.slice none 0 0)).setCell ⟨B, 4, none⟩ (.slice none 0 0)).setCell ⟨B, 5, none⟩ (.slice none 0 0)).setCell ⟨B, 6, none⟩ (.slice none 0 0)).setCell ⟨B, 7, none⟩ (.slice none 0 0)).heap[B]? = some (.cells #[.slice none 0 0, .slice none 0 0, it, .slice none 0 0, .slice none 0 0, .slice none 0 0, .slice none 0 0, (.slice none 0 0), we] 39 (0, 0)) := by rw [heap_setCell_same _ B 7 _ 39 _ h4]; rfl
  have h6 : ((((((w.setCell ⟨B, 3, none⟩ (.slice none 0 0)).setCell ⟨B, 4, none⟩ (.slice none 0 0)).setCell ⟨B, 5, none⟩ (.slice none 0 0)).setCell ⟨B, 6, none⟩ (.slice none 0 0)).setCell ⟨B, 7, none⟩ (.slice none 0 0)).setCell ⟨B, 8, none⟩ (.slice none 0 0)).heap[B]? = some (.cells #[.slice none 0 0, .slice none 0 0, it, .slice none 0 0, .slice none 0 0, .slice none 0 0, .slice none 0 0, (.slice none 0 0), (.slice none 0 0)] 39 (0, 0)) := by rw [heap_setCell_same _ B 8 _ 39 _ h5]; rfl
  have hother : ∀ k, k ≠ B → (laidDown w B).heap[k]? = w.heap[k]? := by
    intro k hk
    unfold laidDown
    rw [setCell_block _ _ _ _ hk, setCell_block _ _ _ _ hk, setCell_block _ _ _ _ hk, setCell_block _ _ _ _ hk, setCell_block _ _ _ _ hk, setCell_block _ _ _ _ hk]
  have hsz : (laidDown w B).heap.size = w.heap.size := by simp [laidDown, World.setCell]
  obtain ⟨ls, ho, hl, hm⟩ := h.row
  have hcB := h.cb
  have hos : (laidDown w B).os = w.os ∧ (laidDown w B).tape = w.tape ∧ (laidDown w B).output = w.output := by simp [laidDown, World.setCell]
  refine ⟨⟨?_, h.cb, h.crow, ls, owns_frame ho (fun g hg => hother g (fun e => by have := h.crow g hg; rw [e] at this; omega)), hl, fun k hk => (hm k hk).frame (by omega) (fun j _ hc => ⟨hother j (fun e => by rw [e] at hc; omega), hc⟩)⟩, ?_⟩
  · exact h6
  · exact ⟨hos.1, hos.2.1, hos.2.2, by omega, fun k _ h0 => ⟨hother k (fun e => by rw [e] at h0; omega), h0⟩⟩

/-- What 'settles' does. -/
def SettlesPost (c : Nat → Nat) (B Q : Nat) (l : List Itm) (w : World) (e : Ending) (w' : World) : Prop :=
  e = .returned (.bool true) ∧ ∃ c' it', BookSt w' c' B it' (.slice none 0 0) (.slice none 0 0) (Q + Itm.cntL l) ∧ Calm c c' w w'

theorem cntL_take (l : List Itm) (j : Nat) (h : j < l.length) : Itm.cntL (l.take (j + 1)) = Itm.cntL (l.take j) + Itm.cnt l[j] := cntL_snoc ⟨false, [], l⟩ j h

theorem cntL_part (l : List Itm) (j : Nat) : Itm.cntL (l.take j) ≤ Itm.cntL l := cntL_take_le ⟨false, [], l⟩ j

set_option maxHeartbeats 1600000 in
theorem settles_any (w : World) (c : Nat → Nat) (B : Nat) (it wi we : Value) (Q : Nat) (l : List Itm) (hB : BookSt w c B it wi we Q) (h3 : WaitRow w c 3 wi l) (h4 : WaitRow w c 4 we l) (hl : l.length ≤ 1000) (hQ : Q + Itm.cntL l ≤ 100000000000) (hcnt : ∀ x ∈ l, Itm.cnt x ≤ 100000) :
    Calls Try.prog 22 #[.pointer (some ⟨B, 0, none⟩)] w (SettlesPost c B Q l w) := by
  obtain ⟨a3, cap3, rfl⟩ := h3.shape
  obtain ⟨a4, cap4, rfl⟩ := h4.shape
  have HW := hid (waits_any w c B it _ _ Q l hB h3 h4 hl)
  obtain ⟨xs, hx1, hx2, hx3⟩ := h3
  have HF : Hid (WaitFrom 0 w c (.slice a3 l.length cap3) l xs) := ⟨hx1, hx2, fun i h _ => hx3 i h⟩
  have HB := hid hB
  have HQ := hid hQ
  have HC := hid hcnt
  clear hB h4 hx1 hx2 hx3 hQ hcnt
  go_enter Try.func22, Try.ntmps22
  go_wp2_with fail
  refine HW.out.mono ?_
  rintro e w1 ⟨rfl, hb1⟩
  have HB1 := hid (HB.out.below hb1)
  have HF1 := hid (HF.out.later hb1)
  have HCa := hid (Calm.of_below (c := c) hb1)
  obtain ⟨b0, b1, b3, b4, b5, b6, bf⟩ := HB1.out.nils
  clear hb1 b0 b1 b4 b6 bf
  go_wp2_with fail
  refine wp_loop_rounds 1 ?_
  rw [rounds_succ]
  go_wp2_with fail
  refine wp_loop_rounds 1 ?_
  rw [rounds_succ]
  go_wp2_with fail
  go_loopw [6] (fun k wr => ∃ (j : Nat) (c1 : Nat → Nat) (it1 : Value), k = .int .i64 j ∧ j ≤ l.length ∧ Hid (BookSt wr c1 B it1 (.slice a3 l.length cap3) (.slice a4 l.length cap4) (Q + Itm.cntL (l.take j)) ∧ WaitFrom j wr c1 (.slice a3 l.length cap3) l xs ∧ Calm c c1 w wr)) (fun k _ => l.length - (intOf k).toNat)
  case atStart => exact ⟨0, c, it, rfl, Nat.zero_le _, by simpa [Itm.cntL] using HB1.out, HF1.out, HCa.out⟩
  case round =>
    obtain ⟨j, c1, it1, rfl, hj, HH⟩ := hrel
    obtain ⟨x2, x7, x8, _⟩ := HH.out.1.cells
    by_cases hlt : j < l.length
    · obtain ⟨lo, hi, q1, q2, q3⟩ := HH.out.2.1.2.2 j hlt (Nat.le_refl _)
      have hshape : ∃ r, a3 = some ⟨r, 0, none⟩ := by
        rcases HH.out.2.1.1.2 with ⟨_, h0⟩ | ⟨g, cap', cur, hv, _⟩
        · omega
        · simp at hv; exact ⟨g, hv.1⟩
      obtain ⟨r, rfl⟩ := hshape
      obtain ⟨t0, t1, t2⟩ := tri_cells HH.out.2.1.1 j hlt
      rw [Nat.zero_add] at t0 t1 t2
      have hcn : Q + Itm.cntL (l.take j) + Itm.cnt l[j] ≤ 100000000000 := by
        have h1 := cntL_part l (j + 1)
        rw [cntL_take l j hlt] at h1
        have h2 := HQ.out
        omega
      have HM := hid (mark_any 1001 _ l[j] wr c1 B it1 _ _ _ lo hi (3 + 10 * (j + 1)) HH.out.1 q3 q1 q2 (by omega) hcn (HC.out _ (List.getElem_mem hlt)))
      have HQ2 := hid q2
      have htri : tri xs j = .agg #[xs.getD (3 * j) default, xs.getD (3 * j + 1) default, xs.getD (3 * j + 2) default] := rfl
      rw [htri] at HM
      generalize xs.getD (3 * j) default = d0 at t0 HM
      generalize xs.getD (3 * j + 1) default = d1 at t1 HM
      generalize xs.getD (3 * j + 2) default = d2 at t2 HM
      clear q1 q2 q3 hcn htri
      go_wp2_with fail
      refine HM.out.mono ?_
      rintro e w2 ⟨rfl, c2, it2, hb2, ht2⟩
      have HN : Hid (BookSt w2 c2 B it2 (.slice (some ⟨r, 0, none⟩) l.length cap3) (.slice a4 l.length cap4) (Q + Itm.cntL (l.take (j + 1))) ∧ WaitFrom (j + 1) w2 c2 (.slice (some ⟨r, 0, none⟩) l.length cap3) l xs ∧ Calm c c2 w w2) := by
        refine ⟨by rw [cntL_take l j hlt, ← Nat.add_assoc]; exact hb2, waitFrom_step HH.out.2.1 HQ2.out ht2, HH.out.2.2.trans (Calm.of_turn ht2 (by omega) HQ2.out)⟩
      clear hb2 ht2
      go_wp2_with fail
      exact ⟨⟨j + 1, c2, it2, by go_num, by omega, HN.out⟩, by simp [intOf]; omega⟩
    · have HJE := hid (show j = l.length by omega)
      obtain ⟨y0, y1, y3, y4, y5, y6, yf⟩ := HH.out.1.nils
      obtain ⟨L1, L2⟩ := HH.out.1.laid
      have HL1 := hid L1
      have HL2 := hid L2
      have HRd := hid (reads_any _ c1 B it1 _ _ _ L1 (by have := cntL_part l j; have := HQ.out; omega))
      clear L1 L2
      unfold laidDown at HRd
      go_wp2_with fail
      refine HRd.out.mono ?_
      rintro e w3 ⟨rfl, hb3⟩
      have HN : Hid (∃ c' it', BookSt w3 c' B it' (.slice none 0 0) (.slice none 0 0) (Q + Itm.cntL l) ∧ Calm c c' w w3) := by
        refine ⟨c1, it1, ?_, ?_⟩
        · have := HL1.out.below hb3
          rw [HJE.out, List.take_length] at this
          exact this
        · exact (HH.out.2.2.trans HL2.out).trans (Calm.of_below hb3)
      clear hb3
      go_wp2_with fail
      go_ret
      exact ⟨rfl, HN.out⟩
end Go.Proofs.Ytbmohenjphmlgaa
